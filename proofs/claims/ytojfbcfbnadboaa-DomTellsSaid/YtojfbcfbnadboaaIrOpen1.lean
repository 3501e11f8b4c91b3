
/- How what a law is handed comes in: functions, targets, allocations, units. -/
import Derived.Test.YtojfbcfbnadboaaParMem
import Derived.Deep.Slices
import Derived.OpenShut
namespace Go.Proofs.Ytojfbcfbnadboaa
open Go.ChangeShapes Go.WideShapes Go.RowKit
set_option linter.unusedVariables false
set_option maxRecDepth 20000

section
variable {H : Type} {enc : TypeId × Value → H} {W : World}
theorem rows_open {t e : TypeId} {sz : Nat} {α : Type} [Inhabited α] (R : α → List Value → Prop) (ht : Try.prog.underlying t = some (.slice e)) (hc : Try.prog.cellsOf e = sz) (h0 : 0 < sz)
    (hel : ∀ {fuel : Nat} {cs : List Value} {x : DataW H × List MemPlace}, DataW.trod enc Try.prog W 0 (fun _ => true) true fuel e cs = some x → ∃ d : α, R d cs)
    {fuel : Nat} {cs : List Value} {x : DataW H × List MemPlace} (h : DataW.trod enc Try.prog W 0 (fun _ => true) true fuel t cs = some x) :
    ∃ (A : Option Addr) (c n : Nat) (F : Nat → α), cs = [.slice A n c] ∧ n ≤ 9223372036854775807 ∧ (∀ k, k < n → ∃ cs', R (F k) cs') ∧ (n = 0 ∨ ∃ b o, A = some ⟨b, o, none⟩ ∧ b < W.heap.size ∧
      ∀ k, k < n → ∃ cs', R (F k) cs' ∧ ∀ j u, j < sz → cs'[j]? = some u → W.cell? ⟨b, o + k * sz + j, none⟩ = some u) := by
  rcases Deep.open_slice ht h with ⟨hcs, _⟩ | ⟨x, l, c, m, n, D, Pl, hcs, _, hl, hm, hmm, _, hel2⟩
  · exact ⟨none, 0, 0, fun _ => default, hcs, by omega, fun k hk => by omega, .inl rfl⟩
  · simp only [if_true] at hmm
    subst hmm
    rw [hc] at hel2
    obtain ⟨F, hF⟩ := Deep.choose_lt (α := α) (n := l) (p := fun i d => ∃ cs', W.cells? 0 (x.add (i * sz)) sz = some cs' ∧ R d cs') (fun i hi => by
      obtain ⟨cs', h1, h2⟩ := hel2 i (by omega)
      obtain ⟨d, h3⟩ := hel h2
      exact ⟨d, cs', h1, h3⟩)
    refine ⟨some x, m, l, F, hcs, by have : maxLen = 9223372036854775807 := rfl; omega, fun k hk => (hF k hk).imp fun _ h => h.2, ?_⟩
    by_cases hl0 : l = 0
    · exact .inl hl0
    · obtain ⟨b, o, spot⟩ := x
      have hspot : spot = none ∧ b < W.heap.size := by
        obtain ⟨cs', h1, _⟩ := hF 0 (by omega)
        obtain ⟨_, hlen, hcell⟩ := World.cells?_some h1
        have hc0 := hcell 0 (by omega)
        rw [List.getElem?_eq_getElem (by omega)] at hc0
        constructor
        · simpa [Addr.add] using World.cell?_spot hc0
        · simpa [Addr.add] using spot_lt hc0
      obtain ⟨rfl, hb⟩ := hspot
      refine .inr ⟨b, o, rfl, hb, fun k hk => ?_⟩
      obtain ⟨cs', h1, h2⟩ := hF k hk
      obtain ⟨_, hlen, hcell⟩ := World.cells?_some h1
      refine ⟨cs', h2, fun j u hj hu => ?_⟩
      have := hcell j (by omega)
      rw [add_at, add_at] at this
      rw [this]
      exact hu
theorem range_map_get {α : Type} (F : Nat → α) (n k : Nat) (hk : k < ((List.range n).map F).length) : ((List.range n).map F)[k] = F k := by simp
theorem list_n2 {α : Type} {l : List α} (h : l.length = 2) : ∃ c0 c1, l = [c0, c1] := by
  match l, h with
  | [c0, c1], _ => exact ⟨c0, c1, rfl⟩
theorem list_n4 {α : Type} {l : List α} (h : l.length = 4) : ∃ c0 c1 c2 c3, l = [c0, c1, c2, c3] := by
  match l, h with
  | [c0, c1, c2, c3], _ => exact ⟨c0, c1, c2, c3, rfl⟩
theorem list_n5 {α : Type} {l : List α} (h : l.length = 5) : ∃ c0 c1 c2 c3 c4, l = [c0, c1, c2, c3, c4] := by
  match l, h with
  | [c0, c1, c2, c3, c4], _ => exact ⟨c0, c1, c2, c3, c4, rfl⟩
theorem list_n7 {α : Type} {l : List α} (h : l.length = 7) : ∃ c0 c1 c2 c3 c4 c5 c6, l = [c0, c1, c2, c3, c4, c5, c6] := by
  match l, h with
  | [c0, c1, c2, c3, c4, c5, c6], _ => exact ⟨c0, c1, c2, c3, c4, c5, c6, rfl⟩
theorem list_n10 {α : Type} {l : List α} (h : l.length = 10) : ∃ c0 c1 c2 c3 c4 c5 c6 c7 c8 c9, l = [c0, c1, c2, c3, c4, c5, c6, c7, c8, c9] := by
  match l, h with
  | [c0, c1, c2, c3, c4, c5, c6, c7, c8, c9], _ => exact ⟨c0, c1, c2, c3, c4, c5, c6, c7, c8, c9, rfl⟩
theorem cs3 : Try.prog.cellsOf 3 = 1 := by kernel_rfl
theorem cs4 : Try.prog.cellsOf 4 = 1 := by kernel_rfl
theorem cs9 : Try.prog.cellsOf 9 = 1 := by kernel_rfl
theorem csTOperand : Try.prog.cellsOf 63 = 4 := by kernel_rfl
theorem csTReg : Try.prog.cellsOf 138 = 2 := by kernel_rfl
theorem csTLint : Try.prog.cellsOf 37 = 1 := by kernel_rfl
theorem csTLstring : Try.prog.cellsOf 64 = 1 := by kernel_rfl
theorem csTLOperand : Try.prog.cellsOf 23 = 1 := by kernel_rfl
theorem csTLReg : Try.prog.cellsOf 22 = 1 := by kernel_rfl
theorem csTLInstr : Try.prog.cellsOf 59 = 1 := by kernel_rfl
theorem csTLBlock : Try.prog.cellsOf 24 = 1 := by kernel_rfl
theorem csTInstr : Try.prog.cellsOf 66 = 10 := by kernel_rfl
theorem csTBlock : Try.prog.cellsOf 61 = 4 := by kernel_rfl
theorem csTFunc : Try.prog.cellsOf 26 = 5 := by kernel_rfl
theorem opn_of {fuel : Nat} {cs : List Value} {x : DataW H × List MemPlace} (h : DataW.trod enc Try.prog W 0 (fun _ => true) true fuel 63 cs = some x) :
    ∃ d : Opn, cs = d.cs := by
  obtain ⟨xs, n, _, _, hl, hlen, hf⟩ := DataW.trod_struct Try.underlying63 h
  rw [csTOperand] at hl
  obtain ⟨c0, c1, c2, c3, rfl⟩ := list_n4 hl
  obtain ⟨x0, x1, x2, x3, rfl⟩ := list_n4 (show xs.length = 4 from hlen)
  have g0 : DataW.trod enc Try.prog W 0 (fun _ => true) true n 3 (List.take (Try.prog.cellsOf 3) (List.drop 0 [c0, c1, c2, c3])) = some x0 := hf 0 _ rfl
  rw [cs3] at g0
  replace g0 : DataW.trod enc Try.prog W 0 (fun _ => true) true n 3 [c0] = some x0 := g0
  have g1 : DataW.trod enc Try.prog W 0 (fun _ => true) true n 3 (List.take (Try.prog.cellsOf 3) (List.drop 1 [c0, c1, c2, c3])) = some x1 := hf 1 _ rfl
  rw [cs3] at g1
  replace g1 : DataW.trod enc Try.prog W 0 (fun _ => true) true n 3 [c1] = some x1 := g1
  have g2 : DataW.trod enc Try.prog W 0 (fun _ => true) true n 3 (List.take (Try.prog.cellsOf 3) (List.drop 2 [c0, c1, c2, c3])) = some x2 := hf 2 _ rfl
  rw [cs3] at g2
  replace g2 : DataW.trod enc Try.prog W 0 (fun _ => true) true n 3 [c2] = some x2 := g2
  have g3 : DataW.trod enc Try.prog W 0 (fun _ => true) true n 3 (List.take (Try.prog.cellsOf 3) (List.drop 3 [c0, c1, c2, c3])) = some x3 := hf 3 _ rfl
  rw [cs3] at g3
  replace g3 : DataW.trod enc Try.prog W 0 (fun _ => true) true n 3 [c3] = some x3 := g3
  obtain ⟨z0, e0, _, _⟩ := DataW.trod_int Try.underlying3 g0
  injection e0 with e0
  subst e0
  obtain ⟨z1, e1, _, _⟩ := DataW.trod_int Try.underlying3 g1
  injection e1 with e1
  subst e1
  obtain ⟨z2, e2, _, _⟩ := DataW.trod_int Try.underlying3 g2
  injection e2 with e2
  subst e2
  obtain ⟨z3, e3, _, _⟩ := DataW.trod_int Try.underlying3 g3
  injection e3 with e3
  subst e3
  exact ⟨⟨z0, z1, z2, z3⟩, rfl⟩
theorem reg_of {fuel : Nat} {cs : List Value} {x : DataW H × List MemPlace} (h : DataW.trod enc Try.prog W 0 (fun _ => true) true fuel 138 cs = some x) :
    ∃ d : Rg, cs = d.cs := by
  obtain ⟨xs, n, _, _, hl, hlen, hf⟩ := DataW.trod_struct Try.underlying138 h
  rw [csTReg] at hl
  obtain ⟨c0, c1, rfl⟩ := list_n2 hl
  obtain ⟨x0, x1, rfl⟩ := list_n2 (show xs.length = 2 from hlen)
  have g0 : DataW.trod enc Try.prog W 0 (fun _ => true) true n 3 (List.take (Try.prog.cellsOf 3) (List.drop 0 [c0, c1])) = some x0 := hf 0 _ rfl
  rw [cs3] at g0
  replace g0 : DataW.trod enc Try.prog W 0 (fun _ => true) true n 3 [c0] = some x0 := g0
  have g1 : DataW.trod enc Try.prog W 0 (fun _ => true) true n 3 (List.take (Try.prog.cellsOf 3) (List.drop 1 [c0, c1])) = some x1 := hf 1 _ rfl
  rw [cs3] at g1
  replace g1 : DataW.trod enc Try.prog W 0 (fun _ => true) true n 3 [c1] = some x1 := g1
  obtain ⟨z0, e0, _, _⟩ := DataW.trod_int Try.underlying3 g0
  injection e0 with e0
  subst e0
  obtain ⟨z1, e1, _, _⟩ := DataW.trod_int Try.underlying3 g1
  injection e1 with e1
  subst e1
  exact ⟨⟨z0, z1⟩, rfl⟩
theorem int_of {fuel : Nat} {cs : List Value} {x : DataW H × List MemPlace} (h : DataW.trod enc Try.prog W 0 (fun _ => true) true fuel 3 cs = some x) : ∃ z : Int, cs = [.int .i64 z] := by
  obtain ⟨z, e, _⟩ := DataW.trod_int Try.underlying3 h
  exact ⟨z, e⟩
theorem str_of {fuel : Nat} {cs : List Value} {x : DataW H × List MemPlace} (h : DataW.trod enc Try.prog W 0 (fun _ => true) true fuel 9 cs = some x) : ∃ z : ByteArray, cs = [.string z] := by
  obtain ⟨z, e, _⟩ := DataW.trod_string Try.underlying9 h
  exact ⟨z, e⟩
theorem ops_of {fuel : Nat} {cs : List Value} {x : DataW H × List MemPlace} (h : DataW.trod enc Try.prog W 0 (fun _ => true) true fuel 23 cs = some x) : ∃ A n c l, cs = [.slice A n c] ∧ IsOps W A n l := by
  obtain ⟨A, c, n, F, rfl, hn, _, hF⟩ := rows_open (α := Opn) (fun d cs => cs = d.cs) Try.underlying23 csTOperand (by omega) (fun h => opn_of h) h
  refine ⟨A, n, c, (List.range n).map F, rfl, by simp, hn, ?_⟩
  rcases hF with rfl | ⟨b, o, rfl, hb, hF⟩
  · exact .inl rfl
  · refine .inr ⟨b, o, rfl, hb, fun k hk => ?_⟩
    have hk2 : k < n := by simpa using hk
    obtain ⟨cs', rfl, hc⟩ := hF k hk2
    rw [range_map_get]
    exact ⟨hc 0 _ (by omega) rfl, hc 1 _ (by omega) rfl, hc 2 _ (by omega) rfl, hc 3 _ (by omega) rfl⟩
theorem regs_of {fuel : Nat} {cs : List Value} {x : DataW H × List MemPlace} (h : DataW.trod enc Try.prog W 0 (fun _ => true) true fuel 22 cs = some x) : ∃ A n c l, cs = [.slice A n c] ∧ IsRegs W A n l := by
  obtain ⟨A, c, n, F, rfl, hn, _, hF⟩ := rows_open (α := Rg) (fun d cs => cs = d.cs) Try.underlying22 csTReg (by omega) (fun h => reg_of h) h
  refine ⟨A, n, c, (List.range n).map F, rfl, by simp, hn, ?_⟩
  rcases hF with rfl | ⟨b, o, rfl, hb, hF⟩
  · exact .inl rfl
  · refine .inr ⟨b, o, rfl, hb, fun k hk => ?_⟩
    have hk2 : k < n := by simpa using hk
    obtain ⟨cs', rfl, hc⟩ := hF k hk2
    rw [range_map_get]
    exact ⟨hc 0 _ (by omega) rfl, hc 1 _ (by omega) rfl⟩
theorem ints_of {fuel : Nat} {cs : List Value} {x : DataW H × List MemPlace} (h : DataW.trod enc Try.prog W 0 (fun _ => true) true fuel 37 cs = some x) : ∃ A n c l, cs = [.slice A n c] ∧ IsInts W A n l := by
  obtain ⟨A, c, n, F, rfl, hn, _, hF⟩ := rows_open (α := Int) (fun d cs => cs = [.int .i64 d]) Try.underlying37 cs3 (by omega) (fun h => int_of h) h
  refine ⟨A, n, c, (List.range n).map F, rfl, by simp, hn, ?_⟩
  rcases hF with rfl | ⟨b, o, rfl, hb, hF⟩
  · exact .inl rfl
  · refine .inr ⟨b, o, rfl, hb, fun k hk => ?_⟩
    have hk2 : k < n := by simpa using hk
    obtain ⟨cs', rfl, hc⟩ := hF k hk2
    rw [range_map_get]
    have := hc 0 _ (by omega) rfl
    rw [Nat.mul_one, Nat.add_zero] at this; exact this
theorem strs_of {fuel : Nat} {cs : List Value} {x : DataW H × List MemPlace} (h : DataW.trod enc Try.prog W 0 (fun _ => true) true fuel 64 cs = some x) : ∃ A n c l, cs = [.slice A n c] ∧ IsStrs W A n l := by
  obtain ⟨A, c, n, F, rfl, hn, _, hF⟩ := rows_open (α := ByteArray) (fun d cs => cs = [.string d]) Try.underlying64 cs9 (by omega) (fun h => str_of h) h
  refine ⟨A, n, c, (List.range n).map F, rfl, by simp, hn, ?_⟩
  rcases hF with rfl | ⟨b, o, rfl, hb, hF⟩
  · exact .inl rfl
  · refine .inr ⟨b, o, rfl, hb, fun k hk => ?_⟩
    have hk2 : k < n := by simpa using hk
    obtain ⟨cs', rfl, hc⟩ := hF k hk2
    rw [range_map_get]
    have := hc 0 _ (by omega) rfl
    rw [Nat.mul_one, Nat.add_zero] at this; exact this
theorem ins_of {fuel : Nat} {cs : List Value} {x : DataW H × List MemPlace} (h : DataW.trod enc Try.prog W 0 (fun _ => true) true fuel 66 cs = some x) :
    ∃ d : Ins × InsV, cs = (insR d.1 d.2).toList ∧ IsIns W d.1 d.2 := by
  obtain ⟨xs, n, _, _, hl, hlen, hf⟩ := DataW.trod_struct Try.underlying66 h
  rw [csTInstr] at hl
  obtain ⟨c0, c1, c2, c3, c4, c5, c6, c7, c8, c9, rfl⟩ := list_n10 hl
  obtain ⟨x0, x1, x2, x3, x4, x5, x6, rfl⟩ := list_n7 (show xs.length = 7 from hlen)
  have g0 : DataW.trod enc Try.prog W 0 (fun _ => true) true n 3 (List.take (Try.prog.cellsOf 3) (List.drop 0 [c0, c1, c2, c3, c4, c5, c6, c7, c8, c9])) = some x0 := hf 0 _ rfl
  rw [cs3] at g0
  replace g0 : DataW.trod enc Try.prog W 0 (fun _ => true) true n 3 [c0] = some x0 := g0
  have g1 : DataW.trod enc Try.prog W 0 (fun _ => true) true n 63 (List.take (Try.prog.cellsOf 63) (List.drop 1 [c0, c1, c2, c3, c4, c5, c6, c7, c8, c9])) = some x1 := hf 1 _ rfl
  rw [csTOperand] at g1
  replace g1 : DataW.trod enc Try.prog W 0 (fun _ => true) true n 63 [c1, c2, c3, c4] = some x1 := g1
  have g2 : DataW.trod enc Try.prog W 0 (fun _ => true) true n 23 (List.take (Try.prog.cellsOf 23) (List.drop 5 [c0, c1, c2, c3, c4, c5, c6, c7, c8, c9])) = some x2 := hf 2 _ rfl
  rw [csTLOperand] at g2
  replace g2 : DataW.trod enc Try.prog W 0 (fun _ => true) true n 23 [c5] = some x2 := g2
  have g3 : DataW.trod enc Try.prog W 0 (fun _ => true) true n 9 (List.take (Try.prog.cellsOf 9) (List.drop 6 [c0, c1, c2, c3, c4, c5, c6, c7, c8, c9])) = some x3 := hf 3 _ rfl
  rw [cs9] at g3
  replace g3 : DataW.trod enc Try.prog W 0 (fun _ => true) true n 9 [c6] = some x3 := g3
  have g4 : DataW.trod enc Try.prog W 0 (fun _ => true) true n 3 (List.take (Try.prog.cellsOf 3) (List.drop 7 [c0, c1, c2, c3, c4, c5, c6, c7, c8, c9])) = some x4 := hf 4 _ rfl
  rw [cs3] at g4
  replace g4 : DataW.trod enc Try.prog W 0 (fun _ => true) true n 3 [c7] = some x4 := g4
  have g5 : DataW.trod enc Try.prog W 0 (fun _ => true) true n 64 (List.take (Try.prog.cellsOf 64) (List.drop 8 [c0, c1, c2, c3, c4, c5, c6, c7, c8, c9])) = some x5 := hf 5 _ rfl
  rw [csTLstring] at g5
  replace g5 : DataW.trod enc Try.prog W 0 (fun _ => true) true n 64 [c8] = some x5 := g5
  have g6 : DataW.trod enc Try.prog W 0 (fun _ => true) true n 37 (List.take (Try.prog.cellsOf 37) (List.drop 9 [c0, c1, c2, c3, c4, c5, c6, c7, c8, c9])) = some x6 := hf 6 _ rfl
  rw [csTLint] at g6
  replace g6 : DataW.trod enc Try.prog W 0 (fun _ => true) true n 37 [c9] = some x6 := g6
  obtain ⟨z0, e0, _, _⟩ := DataW.trod_int Try.underlying3 g0
  injection e0 with e0
  subst e0
  obtain ⟨d, e1⟩ := opn_of g1
  unfold Opn.cs at e1
  injection e1 with e1 f1
  injection f1 with f1 f2
  injection f2 with f2 f3
  injection f3 with f3
  subst e1 f1 f2 f3
  obtain ⟨pa, pn, pc, pl, e2, ph⟩ := ops_of g2
  injection e2 with e2
  subst e2
  obtain ⟨nm, e3, _⟩ := DataW.trod_string Try.underlying9 g3
  injection e3 with e3
  subst e3
  obtain ⟨z4, e4, _, _⟩ := DataW.trod_int Try.underlying3 g4
  injection e4 with e4
  subst e4
  obtain ⟨qa, qn, qc, ql, e5, qh⟩ := strs_of g5
  injection e5 with e5
  subst e5
  obtain ⟨ra, rn, rc, rl, e6, rh⟩ := ints_of g6
  injection e6 with e6
  subst e6
  exact ⟨(⟨z0, d, pl, nm, z4, ql, rl⟩, ⟨pa, pn, pc, qa, qn, qc, ra, rn, rc⟩), rfl, ⟨ph, qh, rh⟩⟩
instance : Inhabited (Ins × InsV) := ⟨(default, ⟨none, 0, 0, none, 0, 0, none, 0, 0⟩)⟩
theorem code_of {fuel : Nat} {cs : List Value} {x : DataW H × List MemPlace} (h : DataW.trod enc Try.prog W 0 (fun _ => true) true fuel 59 cs = some x) : ∃ A n c R l, cs = [.slice A n c] ∧ IsCode W A n R l := by
  obtain ⟨A, c, n, F, rfl, hn, hI, hF⟩ := rows_open (α := Ins × InsV) (fun d cs => cs = (insR d.1 d.2).toList ∧ IsIns W d.1 d.2) Try.underlying59 csTInstr (by omega) (fun h => ins_of h) h
  refine ⟨A, n, c, fun k => (F k).2, (List.range n).map fun k => (F k).1, rfl, by simp, hn, ?_, fun k hk => ?_⟩
  · rcases hF with rfl | ⟨b, o, rfl, hb, hF⟩
    · exact .inl rfl
    · refine .inr ⟨b, o, rfl, hb, fun k hk => ?_⟩
      have hk2 : k < n := by simpa using hk
      obtain ⟨cs', ⟨rfl, _⟩, hc⟩ := hF k hk2
      rw [range_map_get]
      exact ⟨hc 0 _ (by omega) rfl, hc 1 _ (by omega) rfl, hc 2 _ (by omega) rfl, hc 3 _ (by omega) rfl, hc 4 _ (by omega) rfl, hc 5 _ (by omega) rfl, hc 6 _ (by omega) rfl, hc 7 _ (by omega) rfl, hc 8 _ (by omega) rfl, hc 9 _ (by omega) rfl⟩
  · have hk2 : k < n := by simpa using hk
    obtain ⟨_, _, h2⟩ := hI k hk2
    rw [range_map_get]
    exact h2
theorem blk_of {fuel : Nat} {cs : List Value} {x : DataW H × List MemPlace} (h : DataW.trod enc Try.prog W 0 (fun _ => true) true fuel 61 cs = some x) :
    ∃ d : Blk × BlkV, cs = (blkR d.1 d.2).toList ∧ IsBlk W d.1 d.2 := by
  obtain ⟨xs, n, _, _, hl, hlen, hf⟩ := DataW.trod_struct Try.underlying61 h
  rw [csTBlock] at hl
  obtain ⟨c0, c1, c2, c3, rfl⟩ := list_n4 hl
  obtain ⟨x0, x1, x2, x3, rfl⟩ := list_n4 (show xs.length = 4 from hlen)
  have g0 : DataW.trod enc Try.prog W 0 (fun _ => true) true n 9 (List.take (Try.prog.cellsOf 9) (List.drop 0 [c0, c1, c2, c3])) = some x0 := hf 0 _ rfl
  rw [cs9] at g0
  replace g0 : DataW.trod enc Try.prog W 0 (fun _ => true) true n 9 [c0] = some x0 := g0
  have g1 : DataW.trod enc Try.prog W 0 (fun _ => true) true n 4 (List.take (Try.prog.cellsOf 4) (List.drop 1 [c0, c1, c2, c3])) = some x1 := hf 1 _ rfl
  rw [cs4] at g1
  replace g1 : DataW.trod enc Try.prog W 0 (fun _ => true) true n 4 [c1] = some x1 := g1
  have g2 : DataW.trod enc Try.prog W 0 (fun _ => true) true n 23 (List.take (Try.prog.cellsOf 23) (List.drop 2 [c0, c1, c2, c3])) = some x2 := hf 2 _ rfl
  rw [csTLOperand] at g2
  replace g2 : DataW.trod enc Try.prog W 0 (fun _ => true) true n 23 [c2] = some x2 := g2
  have g3 : DataW.trod enc Try.prog W 0 (fun _ => true) true n 59 (List.take (Try.prog.cellsOf 59) (List.drop 3 [c0, c1, c2, c3])) = some x3 := hf 3 _ rfl
  rw [csTLInstr] at g3
  replace g3 : DataW.trod enc Try.prog W 0 (fun _ => true) true n 59 [c3] = some x3 := g3
  obtain ⟨lab, e0, _⟩ := DataW.trod_string Try.underlying9 g0
  injection e0 with e0
  subst e0
  obtain ⟨edge, e1, _⟩ := DataW.trod_bool Try.underlying4 g1
  injection e1 with e1
  subst e1
  obtain ⟨pa, pn, pc, pl, e2, ph⟩ := ops_of g2
  injection e2 with e2
  subst e2
  obtain ⟨qa, qn, qc, qR, ql, e3, qh⟩ := code_of g3
  injection e3 with e3
  subst e3
  exact ⟨(⟨lab, edge, pl, ql⟩, ⟨pa, pn, pc, qa, qn, qc, qR⟩), rfl, ⟨ph, qh⟩⟩
instance : Inhabited (Blk × BlkV) := ⟨(default, ⟨none, 0, 0, none, 0, 0, fun _ => ⟨none, 0, 0, none, 0, 0, none, 0, 0⟩⟩)⟩
theorem blks_of {fuel : Nat} {cs : List Value} {x : DataW H × List MemPlace} (h : DataW.trod enc Try.prog W 0 (fun _ => true) true fuel 24 cs = some x) : ∃ A n c R l, cs = [.slice A n c] ∧ IsBlks W A n R l := by
  obtain ⟨A, c, n, F, rfl, hn, hI, hF⟩ := rows_open (α := Blk × BlkV) (fun d cs => cs = (blkR d.1 d.2).toList ∧ IsBlk W d.1 d.2) Try.underlying24 csTBlock (by omega) (fun h => blk_of h) h
  refine ⟨A, n, c, fun k => (F k).2, (List.range n).map fun k => (F k).1, rfl, by simp, hn, ?_, fun k hk => ?_⟩
  · rcases hF with rfl | ⟨b, o, rfl, hb, hF⟩
    · exact .inl rfl
    · refine .inr ⟨b, o, rfl, hb, fun k hk => ?_⟩
      have hk2 : k < n := by simpa using hk
      obtain ⟨cs', ⟨rfl, _⟩, hc⟩ := hF k hk2
      rw [range_map_get]
      exact ⟨hc 0 _ (by omega) rfl, hc 1 _ (by omega) rfl, hc 2 _ (by omega) rfl, hc 3 _ (by omega) rfl⟩
  · have hk2 : k < n := by simpa using hk
    obtain ⟨_, _, h2⟩ := hI k hk2
    rw [range_map_get]
    exact h2
theorem fun_of {fuel : Nat} {cs : List Value} {x : DataW H × List MemPlace} (h : DataW.trod enc Try.prog W 0 (fun _ => true) true fuel 26 cs = some x) :
    ∃ d : Fun × FunV, cs = (funR d.1 d.2).toList ∧ IsFun W d.1 d.2 := by
  obtain ⟨xs, n, _, _, hl, hlen, hf⟩ := DataW.trod_struct Try.underlying26 h
  rw [csTFunc] at hl
  obtain ⟨c0, c1, c2, c3, c4, rfl⟩ := list_n5 hl
  obtain ⟨x0, x1, x2, x3, x4, rfl⟩ := list_n5 (show xs.length = 5 from hlen)
  have g0 : DataW.trod enc Try.prog W 0 (fun _ => true) true n 4 (List.take (Try.prog.cellsOf 4) (List.drop 0 [c0, c1, c2, c3, c4])) = some x0 := hf 0 _ rfl
  rw [cs4] at g0
  replace g0 : DataW.trod enc Try.prog W 0 (fun _ => true) true n 4 [c0] = some x0 := g0
  have g1 : DataW.trod enc Try.prog W 0 (fun _ => true) true n 9 (List.take (Try.prog.cellsOf 9) (List.drop 1 [c0, c1, c2, c3, c4])) = some x1 := hf 1 _ rfl
  rw [cs9] at g1
  replace g1 : DataW.trod enc Try.prog W 0 (fun _ => true) true n 9 [c1] = some x1 := g1
  have g2 : DataW.trod enc Try.prog W 0 (fun _ => true) true n 22 (List.take (Try.prog.cellsOf 22) (List.drop 2 [c0, c1, c2, c3, c4])) = some x2 := hf 2 _ rfl
  rw [csTLReg] at g2
  replace g2 : DataW.trod enc Try.prog W 0 (fun _ => true) true n 22 [c2] = some x2 := g2
  have g3 : DataW.trod enc Try.prog W 0 (fun _ => true) true n 23 (List.take (Try.prog.cellsOf 23) (List.drop 3 [c0, c1, c2, c3, c4])) = some x3 := hf 3 _ rfl
  rw [csTLOperand] at g3
  replace g3 : DataW.trod enc Try.prog W 0 (fun _ => true) true n 23 [c3] = some x3 := g3
  have g4 : DataW.trod enc Try.prog W 0 (fun _ => true) true n 24 (List.take (Try.prog.cellsOf 24) (List.drop 4 [c0, c1, c2, c3, c4])) = some x4 := hf 4 _ rfl
  rw [csTLBlock] at g4
  replace g4 : DataW.trod enc Try.prog W 0 (fun _ => true) true n 24 [c4] = some x4 := g4
  obtain ⟨mac, e0, _⟩ := DataW.trod_bool Try.underlying4 g0
  injection e0 with e0
  subst e0
  obtain ⟨nm, e1, _⟩ := DataW.trod_string Try.underlying9 g1
  injection e1 with e1
  subst e1
  obtain ⟨pa, pn, pc, pl, e2, ph⟩ := regs_of g2
  injection e2 with e2
  subst e2
  obtain ⟨qa, qn, qc, ql, e3, qh⟩ := ops_of g3
  injection e3 with e3
  subst e3
  obtain ⟨ra, rn, rc, rR, rl, e4, rh⟩ := blks_of g4
  injection e4 with e4
  subst e4
  exact ⟨(⟨mac, nm, pl, ql, rl⟩, ⟨pa, pn, pc, qa, qn, qc, ra, rn, rc, rR⟩), rfl, ⟨ph, qh, rh⟩⟩
theorem open_fun {base : Nat} {v : Value} {d : DataW H} {p : List MemPlace} (hv : Value.okWide Try.prog W .any base 26 v) (h : DataW.Trod enc Try.prog W 0 (fun _ => true) true 26 v d p) : ∃ (i : Fun) (r : FunV), v = .agg (funR i r) ∧ IsFun W i r := by
  obtain ⟨cs, rfl, hsz, _⟩ : ∃ cs, v = .agg cs ∧ cs.size = Try.prog.cellsOf 26 ∧ Row.okWide Try.prog W .any base 26 cs := by
    simpa [Value.okWide, Try.underlying26] using hv
  obtain ⟨fuel, hf⟩ := h
  obtain ⟨d, hd, hu⟩ := fun_of hf
  have hd' : cs.toList = (funR d.1 d.2).toList := by simpa [Value.cells] using hd
  refine ⟨d.1, d.2, ?_, hu⟩
  congr 1
  exact Array.ext' hd'
end
end Go.Proofs.Ytojfbcfbnadboaa
