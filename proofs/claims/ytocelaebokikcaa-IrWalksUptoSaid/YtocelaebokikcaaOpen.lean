/- How what a law is handed comes in: functions, targets, allocations, units. -/
import Derived.Test.YtocelaebokikcaaUnit
import Derived.Deep.Slices
import Derived.OpenShut
namespace Go.Proofs.Ytocelaebokikcaa
open Go.ChangeShapes Go.WideShapes Go.RowKit
set_option linter.unusedVariables false
set_option maxRecDepth 20000

section
variable {H : Type} {enc : TypeId × Value → H} {W : World}
theorem rows_open {t e : TypeId} {sz : Nat} {α : Type} [Inhabited α] (R : α → List Value → Prop) (ht : Try.prog.underlying t = some (.slice e)) (hc : Try.prog.cellsOf e = sz) (h0 : 0 < sz)
    (hel : ∀ {fuel : Nat} {cs : List Value} {x : DataW H × List MemPlace}, DataW.trod enc Try.prog W 0 (fun _ => true) true fuel e cs = some x → ∃ d : α, R d cs)
    {fuel : Nat} {cs : List Value} {x : DataW H × List MemPlace} (h : DataW.trod enc Try.prog W 0 (fun _ => true) true fuel t cs = some x) :
    ∃ (A : Option Addr) (c n : Nat) (F : Nat → α), cs = [.slice A n c] ∧ n ≤ 9223372036854775807 ∧ (∀ k, k < n → ∃ cs', R (F k) cs') ∧ (n = 0 ∨ ∃ b o, A = some ⟨b, o, none⟩ ∧ b < W.heap.size ∧
      ∀ k, k < n → ∃ cs', R (F k) cs' ∧ ∀ j u, j < sz → cs'[j]? = some u → W.cell? ⟨b, o + k * sz + j, none⟩ = some u) := by
  rcases Deep.open_slice ht h with ⟨hcs, _⟩ | ⟨x, l, c, m, n, D, Pl, hcs, _, hl, hm, hmm, _, hel2⟩
  · exact ⟨none, 0, 0, fun _ => default, hcs, by omega, fun k hk => by omega, .inl rfl⟩
  · simp only [if_true] at hmm
    subst hmm
    rw [hc] at hel2
    obtain ⟨F, hF⟩ := Deep.choose_lt (α := α) (n := l) (p := fun i d => ∃ cs', W.cells? 0 (x.add (i * sz)) sz = some cs' ∧ R d cs') (fun i hi => by
      obtain ⟨cs', h1, h2⟩ := hel2 i (by omega)
      obtain ⟨d, h3⟩ := hel h2
      exact ⟨d, cs', h1, h3⟩)
    refine ⟨some x, m, l, F, hcs, by have : maxLen = 9223372036854775807 := rfl; omega, fun k hk => (hF k hk).imp fun _ h => h.2, ?_⟩
    by_cases hl0 : l = 0
    · exact .inl hl0
    · obtain ⟨b, o, spot⟩ := x
      have hspot : spot = none ∧ b < W.heap.size := by
        obtain ⟨cs', h1, _⟩ := hF 0 (by omega)
        obtain ⟨_, hlen, hcell⟩ := World.cells?_some h1
        have hc0 := hcell 0 (by omega)
        rw [List.getElem?_eq_getElem (by omega)] at hc0
        constructor
        · simpa [Addr.add] using World.cell?_spot hc0
        · simpa [Addr.add] using spot_lt hc0
      obtain ⟨rfl, hb⟩ := hspot
      refine .inr ⟨b, o, rfl, hb, fun k hk => ?_⟩
      obtain ⟨cs', h1, h2⟩ := hF k hk
      obtain ⟨_, hlen, hcell⟩ := World.cells?_some h1
      refine ⟨cs', h2, fun j u hj hu => ?_⟩
      have := hcell j (by omega)
      rw [add_at, add_at] at this
      rw [this]
      exact hu
theorem range_map_get {α : Type} (F : Nat → α) (n k : Nat) (hk : k < ((List.range n).map F).length) : ((List.range n).map F)[k] = F k := by simp
theorem list_n2 {α : Type} {l : List α} (h : l.length = 2) : ∃ c0 c1, l = [c0, c1] := by
  match l, h with
  | [c0, c1], _ => exact ⟨c0, c1, rfl⟩
theorem list_n3 {α : Type} {l : List α} (h : l.length = 3) : ∃ c0 c1 c2, l = [c0, c1, c2] := by
  match l, h with
  | [c0, c1, c2], _ => exact ⟨c0, c1, c2, rfl⟩
theorem list_n4 {α : Type} {l : List α} (h : l.length = 4) : ∃ c0 c1 c2 c3, l = [c0, c1, c2, c3] := by
  match l, h with
  | [c0, c1, c2, c3], _ => exact ⟨c0, c1, c2, c3, rfl⟩
theorem list_n5 {α : Type} {l : List α} (h : l.length = 5) : ∃ c0 c1 c2 c3 c4, l = [c0, c1, c2, c3, c4] := by
  match l, h with
  | [c0, c1, c2, c3, c4], _ => exact ⟨c0, c1, c2, c3, c4, rfl⟩
theorem list_n6 {α : Type} {l : List α} (h : l.length = 6) : ∃ c0 c1 c2 c3 c4 c5, l = [c0, c1, c2, c3, c4, c5] := by
  match l, h with
  | [c0, c1, c2, c3, c4, c5], _ => exact ⟨c0, c1, c2, c3, c4, c5, rfl⟩
theorem list_n7 {α : Type} {l : List α} (h : l.length = 7) : ∃ c0 c1 c2 c3 c4 c5 c6, l = [c0, c1, c2, c3, c4, c5, c6] := by
  match l, h with
  | [c0, c1, c2, c3, c4, c5, c6], _ => exact ⟨c0, c1, c2, c3, c4, c5, c6, rfl⟩
theorem list_n10 {α : Type} {l : List α} (h : l.length = 10) : ∃ c0 c1 c2 c3 c4 c5 c6 c7 c8 c9, l = [c0, c1, c2, c3, c4, c5, c6, c7, c8, c9] := by
  match l, h with
  | [c0, c1, c2, c3, c4, c5, c6, c7, c8, c9], _ => exact ⟨c0, c1, c2, c3, c4, c5, c6, c7, c8, c9, rfl⟩
theorem list_n13 {α : Type} {l : List α} (h : l.length = 13) : ∃ c0 c1 c2 c3 c4 c5 c6 c7 c8 c9 c10 c11 c12, l = [c0, c1, c2, c3, c4, c5, c6, c7, c8, c9, c10, c11, c12] := by
  match l, h with
  | [c0, c1, c2, c3, c4, c5, c6, c7, c8, c9, c10, c11, c12], _ => exact ⟨c0, c1, c2, c3, c4, c5, c6, c7, c8, c9, c10, c11, c12, rfl⟩
theorem cs3 : Try.prog.cellsOf 3 = 1 := by kernel_rfl
theorem cs4 : Try.prog.cellsOf 4 = 1 := by kernel_rfl
theorem cs9 : Try.prog.cellsOf 9 = 1 := by kernel_rfl
theorem cs44 : Try.prog.cellsOf 44 = 4 := by kernel_rfl
theorem cs71 : Try.prog.cellsOf 71 = 2 := by kernel_rfl
theorem cs77 : Try.prog.cellsOf 77 = 3 := by kernel_rfl
theorem cs89 : Try.prog.cellsOf 89 = 6 := by kernel_rfl
theorem cs22 : Try.prog.cellsOf 22 = 2 := by kernel_rfl
theorem cs24 : Try.prog.cellsOf 24 = 2 := by kernel_rfl
theorem cs23 : Try.prog.cellsOf 23 = 1 := by kernel_rfl
theorem cs49 : Try.prog.cellsOf 49 = 1 := by kernel_rfl
theorem cs28 : Try.prog.cellsOf 28 = 1 := by kernel_rfl
theorem cs27 : Try.prog.cellsOf 27 = 1 := by kernel_rfl
theorem cs32 : Try.prog.cellsOf 32 = 1 := by kernel_rfl
theorem cs46 : Try.prog.cellsOf 46 = 1 := by kernel_rfl
theorem cs29 : Try.prog.cellsOf 29 = 1 := by kernel_rfl
theorem cs51 : Try.prog.cellsOf 51 = 10 := by kernel_rfl
theorem cs48 : Try.prog.cellsOf 48 = 4 := by kernel_rfl
theorem cs31 : Try.prog.cellsOf 31 = 5 := by kernel_rfl
theorem cs34 : Try.prog.cellsOf 34 = 2 := by kernel_rfl
theorem cs26 : Try.prog.cellsOf 26 = 5 := by kernel_rfl
theorem cs36 : Try.prog.cellsOf 36 = 13 := by kernel_rfl
theorem opn_of {fuel : Nat} {cs : List Value} {x : DataW H × List MemPlace} (h : DataW.trod enc Try.prog W 0 (fun _ => true) true fuel 44 cs = some x) :
    ∃ d : Opn, cs = d.cs := by
  obtain ⟨xs, n, _, _, hl, hlen, hf⟩ := DataW.trod_struct Try.underlying44 h
  rw [cs44] at hl
  obtain ⟨c0, c1, c2, c3, rfl⟩ := list_n4 hl
  obtain ⟨x0, x1, x2, x3, rfl⟩ := list_n4 (show xs.length = 4 from hlen)
  have g0 : DataW.trod enc Try.prog W 0 (fun _ => true) true n 3 (List.take (Try.prog.cellsOf 3) (List.drop 0 [c0, c1, c2, c3])) = some x0 := hf 0 _ rfl
  rw [cs3] at g0
  replace g0 : DataW.trod enc Try.prog W 0 (fun _ => true) true n 3 [c0] = some x0 := g0
  have g1 : DataW.trod enc Try.prog W 0 (fun _ => true) true n 3 (List.take (Try.prog.cellsOf 3) (List.drop 1 [c0, c1, c2, c3])) = some x1 := hf 1 _ rfl
  rw [cs3] at g1
  replace g1 : DataW.trod enc Try.prog W 0 (fun _ => true) true n 3 [c1] = some x1 := g1
  have g2 : DataW.trod enc Try.prog W 0 (fun _ => true) true n 3 (List.take (Try.prog.cellsOf 3) (List.drop 2 [c0, c1, c2, c3])) = some x2 := hf 2 _ rfl
  rw [cs3] at g2
  replace g2 : DataW.trod enc Try.prog W 0 (fun _ => true) true n 3 [c2] = some x2 := g2
  have g3 : DataW.trod enc Try.prog W 0 (fun _ => true) true n 3 (List.take (Try.prog.cellsOf 3) (List.drop 3 [c0, c1, c2, c3])) = some x3 := hf 3 _ rfl
  rw [cs3] at g3
  replace g3 : DataW.trod enc Try.prog W 0 (fun _ => true) true n 3 [c3] = some x3 := g3
  obtain ⟨z0, e0, _, _⟩ := DataW.trod_int Try.underlying3 g0
  injection e0 with e0
  subst e0
  obtain ⟨z1, e1, _, _⟩ := DataW.trod_int Try.underlying3 g1
  injection e1 with e1
  subst e1
  obtain ⟨z2, e2, _, _⟩ := DataW.trod_int Try.underlying3 g2
  injection e2 with e2
  subst e2
  obtain ⟨z3, e3, _, _⟩ := DataW.trod_int Try.underlying3 g3
  injection e3 with e3
  subst e3
  exact ⟨⟨z0, z1, z2, z3⟩, rfl⟩
theorem reg_of {fuel : Nat} {cs : List Value} {x : DataW H × List MemPlace} (h : DataW.trod enc Try.prog W 0 (fun _ => true) true fuel 71 cs = some x) :
    ∃ d : Rg, cs = d.cs := by
  obtain ⟨xs, n, _, _, hl, hlen, hf⟩ := DataW.trod_struct Try.underlying71 h
  rw [cs71] at hl
  obtain ⟨c0, c1, rfl⟩ := list_n2 hl
  obtain ⟨x0, x1, rfl⟩ := list_n2 (show xs.length = 2 from hlen)
  have g0 : DataW.trod enc Try.prog W 0 (fun _ => true) true n 3 (List.take (Try.prog.cellsOf 3) (List.drop 0 [c0, c1])) = some x0 := hf 0 _ rfl
  rw [cs3] at g0
  replace g0 : DataW.trod enc Try.prog W 0 (fun _ => true) true n 3 [c0] = some x0 := g0
  have g1 : DataW.trod enc Try.prog W 0 (fun _ => true) true n 3 (List.take (Try.prog.cellsOf 3) (List.drop 1 [c0, c1])) = some x1 := hf 1 _ rfl
  rw [cs3] at g1
  replace g1 : DataW.trod enc Try.prog W 0 (fun _ => true) true n 3 [c1] = some x1 := g1
  obtain ⟨z0, e0, _, _⟩ := DataW.trod_int Try.underlying3 g0
  injection e0 with e0
  subst e0
  obtain ⟨z1, e1, _, _⟩ := DataW.trod_int Try.underlying3 g1
  injection e1 with e1
  subst e1
  exact ⟨⟨z0, z1⟩, rfl⟩
theorem loc_of {fuel : Nat} {cs : List Value} {x : DataW H × List MemPlace} (h : DataW.trod enc Try.prog W 0 (fun _ => true) true fuel 77 cs = some x) :
    ∃ k c n : Int, cs = [.int .i64 k, .int .i64 c, .int .i64 n] := by
  obtain ⟨xs, n, _, _, hl, hlen, hf⟩ := DataW.trod_struct Try.underlying77 h
  rw [cs77] at hl
  obtain ⟨c0, c1, c2, rfl⟩ := list_n3 hl
  obtain ⟨x0, x1, x2, rfl⟩ := list_n3 (show xs.length = 3 from hlen)
  have g0 : DataW.trod enc Try.prog W 0 (fun _ => true) true n 3 (List.take (Try.prog.cellsOf 3) (List.drop 0 [c0, c1, c2])) = some x0 := hf 0 _ rfl
  rw [cs3] at g0
  replace g0 : DataW.trod enc Try.prog W 0 (fun _ => true) true n 3 [c0] = some x0 := g0
  have g1 : DataW.trod enc Try.prog W 0 (fun _ => true) true n 3 (List.take (Try.prog.cellsOf 3) (List.drop 1 [c0, c1, c2])) = some x1 := hf 1 _ rfl
  rw [cs3] at g1
  replace g1 : DataW.trod enc Try.prog W 0 (fun _ => true) true n 3 [c1] = some x1 := g1
  have g2 : DataW.trod enc Try.prog W 0 (fun _ => true) true n 3 (List.take (Try.prog.cellsOf 3) (List.drop 2 [c0, c1, c2])) = some x2 := hf 2 _ rfl
  rw [cs3] at g2
  replace g2 : DataW.trod enc Try.prog W 0 (fun _ => true) true n 3 [c2] = some x2 := g2
  obtain ⟨z0, e0, _, _⟩ := DataW.trod_int Try.underlying3 g0
  injection e0 with e0
  subst e0
  obtain ⟨z1, e1, _, _⟩ := DataW.trod_int Try.underlying3 g1
  injection e1 with e1
  subst e1
  obtain ⟨z2, e2, _, _⟩ := DataW.trod_int Try.underlying3 g2
  injection e2 with e2
  subst e2
  exact ⟨z0, z1, z2, rfl⟩
theorem seg_of {fuel : Nat} {cs : List Value} {x : DataW H × List MemPlace} (h : DataW.trod enc Try.prog W 0 (fun _ => true) true fuel 89 cs = some x) :
    ∃ d : Sg, cs = d.cs := by
  obtain ⟨xs, n, _, _, hl, hlen, hf⟩ := DataW.trod_struct Try.underlying89 h
  rw [cs89] at hl
  obtain ⟨c0, c1, c2, c3, c4, c5, rfl⟩ := list_n6 hl
  obtain ⟨x0, x1, x2, x3, rfl⟩ := list_n4 (show xs.length = 4 from hlen)
  have g0 : DataW.trod enc Try.prog W 0 (fun _ => true) true n 3 (List.take (Try.prog.cellsOf 3) (List.drop 0 [c0, c1, c2, c3, c4, c5])) = some x0 := hf 0 _ rfl
  rw [cs3] at g0
  replace g0 : DataW.trod enc Try.prog W 0 (fun _ => true) true n 3 [c0] = some x0 := g0
  have g1 : DataW.trod enc Try.prog W 0 (fun _ => true) true n 3 (List.take (Try.prog.cellsOf 3) (List.drop 1 [c0, c1, c2, c3, c4, c5])) = some x1 := hf 1 _ rfl
  rw [cs3] at g1
  replace g1 : DataW.trod enc Try.prog W 0 (fun _ => true) true n 3 [c1] = some x1 := g1
  have g2 : DataW.trod enc Try.prog W 0 (fun _ => true) true n 3 (List.take (Try.prog.cellsOf 3) (List.drop 2 [c0, c1, c2, c3, c4, c5])) = some x2 := hf 2 _ rfl
  rw [cs3] at g2
  replace g2 : DataW.trod enc Try.prog W 0 (fun _ => true) true n 3 [c2] = some x2 := g2
  have g3 : DataW.trod enc Try.prog W 0 (fun _ => true) true n 77 (List.take (Try.prog.cellsOf 77) (List.drop 3 [c0, c1, c2, c3, c4, c5])) = some x3 := hf 3 _ rfl
  rw [cs77] at g3
  replace g3 : DataW.trod enc Try.prog W 0 (fun _ => true) true n 77 [c3, c4, c5] = some x3 := g3
  obtain ⟨z0, e0, _, _⟩ := DataW.trod_int Try.underlying3 g0
  injection e0 with e0
  subst e0
  obtain ⟨z1, e1, _, _⟩ := DataW.trod_int Try.underlying3 g1
  injection e1 with e1
  subst e1
  obtain ⟨z2, e2, _, _⟩ := DataW.trod_int Try.underlying3 g2
  injection e2 with e2
  subst e2
  obtain ⟨k, c, n, e3⟩ := loc_of g3
  injection e3 with e3 e4
  injection e4 with e4 e5
  injection e5 with e5
  subst e3 e4 e5
  exact ⟨⟨z0, z1, z2, k, c, n⟩, rfl⟩
theorem int_of {fuel : Nat} {cs : List Value} {x : DataW H × List MemPlace} (h : DataW.trod enc Try.prog W 0 (fun _ => true) true fuel 3 cs = some x) : ∃ z : Int, cs = [.int .i64 z] := by
  obtain ⟨z, e, _⟩ := DataW.trod_int Try.underlying3 h
  exact ⟨z, e⟩
theorem str_of {fuel : Nat} {cs : List Value} {x : DataW H × List MemPlace} (h : DataW.trod enc Try.prog W 0 (fun _ => true) true fuel 9 cs = some x) : ∃ z : ByteArray, cs = [.string z] := by
  obtain ⟨z, e, _⟩ := DataW.trod_string Try.underlying9 h
  exact ⟨z, e⟩
theorem ops_of {fuel : Nat} {cs : List Value} {x : DataW H × List MemPlace} (h : DataW.trod enc Try.prog W 0 (fun _ => true) true fuel 28 cs = some x) : ∃ A n c l, cs = [.slice A n c] ∧ IsOps W A n l := by
  obtain ⟨A, c, n, F, rfl, hn, _, hF⟩ := rows_open (α := Opn) (fun d cs => cs = d.cs) Try.underlying28 cs44 (by omega) (fun h => opn_of h) h
  refine ⟨A, n, c, (List.range n).map F, rfl, by simp, hn, ?_⟩
  rcases hF with rfl | ⟨b, o, rfl, hb, hF⟩
  · exact .inl rfl
  · refine .inr ⟨b, o, rfl, hb, fun k hk => ?_⟩
    have hk2 : k < n := by simpa using hk
    obtain ⟨cs', rfl, hc⟩ := hF k hk2
    rw [range_map_get]
    exact ⟨hc 0 _ (by omega) rfl, hc 1 _ (by omega) rfl, hc 2 _ (by omega) rfl, hc 3 _ (by omega) rfl⟩
theorem regs_of {fuel : Nat} {cs : List Value} {x : DataW H × List MemPlace} (h : DataW.trod enc Try.prog W 0 (fun _ => true) true fuel 27 cs = some x) : ∃ A n c l, cs = [.slice A n c] ∧ IsRegs W A n l := by
  obtain ⟨A, c, n, F, rfl, hn, _, hF⟩ := rows_open (α := Rg) (fun d cs => cs = d.cs) Try.underlying27 cs71 (by omega) (fun h => reg_of h) h
  refine ⟨A, n, c, (List.range n).map F, rfl, by simp, hn, ?_⟩
  rcases hF with rfl | ⟨b, o, rfl, hb, hF⟩
  · exact .inl rfl
  · refine .inr ⟨b, o, rfl, hb, fun k hk => ?_⟩
    have hk2 : k < n := by simpa using hk
    obtain ⟨cs', rfl, hc⟩ := hF k hk2
    rw [range_map_get]
    exact ⟨hc 0 _ (by omega) rfl, hc 1 _ (by omega) rfl⟩
theorem segs_of {fuel : Nat} {cs : List Value} {x : DataW H × List MemPlace} (h : DataW.trod enc Try.prog W 0 (fun _ => true) true fuel 32 cs = some x) : ∃ A n c l, cs = [.slice A n c] ∧ IsSegs W A n l := by
  obtain ⟨A, c, n, F, rfl, hn, _, hF⟩ := rows_open (α := Sg) (fun d cs => cs = d.cs) Try.underlying32 cs89 (by omega) (fun h => seg_of h) h
  refine ⟨A, n, c, (List.range n).map F, rfl, by simp, hn, ?_⟩
  rcases hF with rfl | ⟨b, o, rfl, hb, hF⟩
  · exact .inl rfl
  · refine .inr ⟨b, o, rfl, hb, fun k hk => ?_⟩
    have hk2 : k < n := by simpa using hk
    obtain ⟨cs', rfl, hc⟩ := hF k hk2
    rw [range_map_get]
    exact ⟨hc 0 _ (by omega) rfl, hc 1 _ (by omega) rfl, hc 2 _ (by omega) rfl, hc 3 _ (by omega) rfl, hc 4 _ (by omega) rfl, hc 5 _ (by omega) rfl⟩
theorem ints_of {fuel : Nat} {cs : List Value} {x : DataW H × List MemPlace} (h : DataW.trod enc Try.prog W 0 (fun _ => true) true fuel 23 cs = some x) : ∃ A n c l, cs = [.slice A n c] ∧ IsInts W A n l := by
  obtain ⟨A, c, n, F, rfl, hn, _, hF⟩ := rows_open (α := Int) (fun d cs => cs = [.int .i64 d]) Try.underlying23 cs3 (by omega) (fun h => int_of h) h
  refine ⟨A, n, c, (List.range n).map F, rfl, by simp, hn, ?_⟩
  rcases hF with rfl | ⟨b, o, rfl, hb, hF⟩
  · exact .inl rfl
  · refine .inr ⟨b, o, rfl, hb, fun k hk => ?_⟩
    have hk2 : k < n := by simpa using hk
    obtain ⟨cs', rfl, hc⟩ := hF k hk2
    rw [range_map_get]
    have := hc 0 _ (by omega) rfl
    rw [Nat.mul_one, Nat.add_zero] at this; exact this
theorem strs_of {fuel : Nat} {cs : List Value} {x : DataW H × List MemPlace} (h : DataW.trod enc Try.prog W 0 (fun _ => true) true fuel 49 cs = some x) : ∃ A n c l, cs = [.slice A n c] ∧ IsStrs W A n l := by
  obtain ⟨A, c, n, F, rfl, hn, _, hF⟩ := rows_open (α := ByteArray) (fun d cs => cs = [.string d]) Try.underlying49 cs9 (by omega) (fun h => str_of h) h
  refine ⟨A, n, c, (List.range n).map F, rfl, by simp, hn, ?_⟩
  rcases hF with rfl | ⟨b, o, rfl, hb, hF⟩
  · exact .inl rfl
  · refine .inr ⟨b, o, rfl, hb, fun k hk => ?_⟩
    have hk2 : k < n := by simpa using hk
    obtain ⟨cs', rfl, hc⟩ := hF k hk2
    rw [range_map_get]
    have := hc 0 _ (by omega) rfl
    rw [Nat.mul_one, Nat.add_zero] at this; exact this
theorem ins_of {fuel : Nat} {cs : List Value} {x : DataW H × List MemPlace} (h : DataW.trod enc Try.prog W 0 (fun _ => true) true fuel 51 cs = some x) :
    ∃ d : Ins × InsV, cs = (insR d.1 d.2).toList ∧ IsIns W d.1 d.2 := by
  obtain ⟨xs, n, _, _, hl, hlen, hf⟩ := DataW.trod_struct Try.underlying51 h
  rw [cs51] at hl
  obtain ⟨c0, c1, c2, c3, c4, c5, c6, c7, c8, c9, rfl⟩ := list_n10 hl
  obtain ⟨x0, x1, x2, x3, x4, x5, x6, rfl⟩ := list_n7 (show xs.length = 7 from hlen)
  have g0 : DataW.trod enc Try.prog W 0 (fun _ => true) true n 3 (List.take (Try.prog.cellsOf 3) (List.drop 0 [c0, c1, c2, c3, c4, c5, c6, c7, c8, c9])) = some x0 := hf 0 _ rfl
  rw [cs3] at g0
  replace g0 : DataW.trod enc Try.prog W 0 (fun _ => true) true n 3 [c0] = some x0 := g0
  have g1 : DataW.trod enc Try.prog W 0 (fun _ => true) true n 44 (List.take (Try.prog.cellsOf 44) (List.drop 1 [c0, c1, c2, c3, c4, c5, c6, c7, c8, c9])) = some x1 := hf 1 _ rfl
  rw [cs44] at g1
  replace g1 : DataW.trod enc Try.prog W 0 (fun _ => true) true n 44 [c1, c2, c3, c4] = some x1 := g1
  have g2 : DataW.trod enc Try.prog W 0 (fun _ => true) true n 28 (List.take (Try.prog.cellsOf 28) (List.drop 5 [c0, c1, c2, c3, c4, c5, c6, c7, c8, c9])) = some x2 := hf 2 _ rfl
  rw [cs28] at g2
  replace g2 : DataW.trod enc Try.prog W 0 (fun _ => true) true n 28 [c5] = some x2 := g2
  have g3 : DataW.trod enc Try.prog W 0 (fun _ => true) true n 9 (List.take (Try.prog.cellsOf 9) (List.drop 6 [c0, c1, c2, c3, c4, c5, c6, c7, c8, c9])) = some x3 := hf 3 _ rfl
  rw [cs9] at g3
  replace g3 : DataW.trod enc Try.prog W 0 (fun _ => true) true n 9 [c6] = some x3 := g3
  have g4 : DataW.trod enc Try.prog W 0 (fun _ => true) true n 3 (List.take (Try.prog.cellsOf 3) (List.drop 7 [c0, c1, c2, c3, c4, c5, c6, c7, c8, c9])) = some x4 := hf 4 _ rfl
  rw [cs3] at g4
  replace g4 : DataW.trod enc Try.prog W 0 (fun _ => true) true n 3 [c7] = some x4 := g4
  have g5 : DataW.trod enc Try.prog W 0 (fun _ => true) true n 49 (List.take (Try.prog.cellsOf 49) (List.drop 8 [c0, c1, c2, c3, c4, c5, c6, c7, c8, c9])) = some x5 := hf 5 _ rfl
  rw [cs49] at g5
  replace g5 : DataW.trod enc Try.prog W 0 (fun _ => true) true n 49 [c8] = some x5 := g5
  have g6 : DataW.trod enc Try.prog W 0 (fun _ => true) true n 23 (List.take (Try.prog.cellsOf 23) (List.drop 9 [c0, c1, c2, c3, c4, c5, c6, c7, c8, c9])) = some x6 := hf 6 _ rfl
  rw [cs23] at g6
  replace g6 : DataW.trod enc Try.prog W 0 (fun _ => true) true n 23 [c9] = some x6 := g6
  obtain ⟨z0, e0, _, _⟩ := DataW.trod_int Try.underlying3 g0
  injection e0 with e0
  subst e0
  obtain ⟨d, e1⟩ := opn_of g1
  unfold Opn.cs at e1
  injection e1 with e1 f1
  injection f1 with f1 f2
  injection f2 with f2 f3
  injection f3 with f3
  subst e1 f1 f2 f3
  obtain ⟨pa, pn, pc, pl, e2, ph⟩ := ops_of g2
  injection e2 with e2
  subst e2
  obtain ⟨nm, e3, _⟩ := DataW.trod_string Try.underlying9 g3
  injection e3 with e3
  subst e3
  obtain ⟨z4, e4, _, _⟩ := DataW.trod_int Try.underlying3 g4
  injection e4 with e4
  subst e4
  obtain ⟨qa, qn, qc, ql, e5, qh⟩ := strs_of g5
  injection e5 with e5
  subst e5
  obtain ⟨ra, rn, rc, rl, e6, rh⟩ := ints_of g6
  injection e6 with e6
  subst e6
  exact ⟨(⟨z0, d, pl, nm, z4, ql, rl⟩, ⟨pa, pn, pc, qa, qn, qc, ra, rn, rc⟩), rfl, ⟨ph, qh, rh⟩⟩
instance : Inhabited (Ins × InsV) := ⟨(default, ⟨none, 0, 0, none, 0, 0, none, 0, 0⟩)⟩
theorem code_of {fuel : Nat} {cs : List Value} {x : DataW H × List MemPlace} (h : DataW.trod enc Try.prog W 0 (fun _ => true) true fuel 46 cs = some x) : ∃ A n c R l, cs = [.slice A n c] ∧ IsCode W A n R l := by
  obtain ⟨A, c, n, F, rfl, hn, hI, hF⟩ := rows_open (α := Ins × InsV) (fun d cs => cs = (insR d.1 d.2).toList ∧ IsIns W d.1 d.2) Try.underlying46 cs51 (by omega) (fun h => ins_of h) h
  refine ⟨A, n, c, fun k => (F k).2, (List.range n).map fun k => (F k).1, rfl, by simp, hn, ?_, fun k hk => ?_⟩
  · rcases hF with rfl | ⟨b, o, rfl, hb, hF⟩
    · exact .inl rfl
    · refine .inr ⟨b, o, rfl, hb, fun k hk => ?_⟩
      have hk2 : k < n := by simpa using hk
      obtain ⟨cs', ⟨rfl, _⟩, hc⟩ := hF k hk2
      rw [range_map_get]
      exact ⟨hc 0 _ (by omega) rfl, hc 1 _ (by omega) rfl, hc 2 _ (by omega) rfl, hc 3 _ (by omega) rfl, hc 4 _ (by omega) rfl, hc 5 _ (by omega) rfl, hc 6 _ (by omega) rfl, hc 7 _ (by omega) rfl, hc 8 _ (by omega) rfl, hc 9 _ (by omega) rfl⟩
  · have hk2 : k < n := by simpa using hk
    obtain ⟨_, _, h2⟩ := hI k hk2
    rw [range_map_get]
    exact h2
theorem blk_of {fuel : Nat} {cs : List Value} {x : DataW H × List MemPlace} (h : DataW.trod enc Try.prog W 0 (fun _ => true) true fuel 48 cs = some x) :
    ∃ d : Blk × BlkV, cs = (blkR d.1 d.2).toList ∧ IsBlk W d.1 d.2 := by
  obtain ⟨xs, n, _, _, hl, hlen, hf⟩ := DataW.trod_struct Try.underlying48 h
  rw [cs48] at hl
  obtain ⟨c0, c1, c2, c3, rfl⟩ := list_n4 hl
  obtain ⟨x0, x1, x2, x3, rfl⟩ := list_n4 (show xs.length = 4 from hlen)
  have g0 : DataW.trod enc Try.prog W 0 (fun _ => true) true n 9 (List.take (Try.prog.cellsOf 9) (List.drop 0 [c0, c1, c2, c3])) = some x0 := hf 0 _ rfl
  rw [cs9] at g0
  replace g0 : DataW.trod enc Try.prog W 0 (fun _ => true) true n 9 [c0] = some x0 := g0
  have g1 : DataW.trod enc Try.prog W 0 (fun _ => true) true n 4 (List.take (Try.prog.cellsOf 4) (List.drop 1 [c0, c1, c2, c3])) = some x1 := hf 1 _ rfl
  rw [cs4] at g1
  replace g1 : DataW.trod enc Try.prog W 0 (fun _ => true) true n 4 [c1] = some x1 := g1
  have g2 : DataW.trod enc Try.prog W 0 (fun _ => true) true n 28 (List.take (Try.prog.cellsOf 28) (List.drop 2 [c0, c1, c2, c3])) = some x2 := hf 2 _ rfl
  rw [cs28] at g2
  replace g2 : DataW.trod enc Try.prog W 0 (fun _ => true) true n 28 [c2] = some x2 := g2
  have g3 : DataW.trod enc Try.prog W 0 (fun _ => true) true n 46 (List.take (Try.prog.cellsOf 46) (List.drop 3 [c0, c1, c2, c3])) = some x3 := hf 3 _ rfl
  rw [cs46] at g3
  replace g3 : DataW.trod enc Try.prog W 0 (fun _ => true) true n 46 [c3] = some x3 := g3
  obtain ⟨lab, e0, _⟩ := DataW.trod_string Try.underlying9 g0
  injection e0 with e0
  subst e0
  obtain ⟨edge, e1, _⟩ := DataW.trod_bool Try.underlying4 g1
  injection e1 with e1
  subst e1
  obtain ⟨pa, pn, pc, pl, e2, ph⟩ := ops_of g2
  injection e2 with e2
  subst e2
  obtain ⟨qa, qn, qc, qR, ql, e3, qh⟩ := code_of g3
  injection e3 with e3
  subst e3
  exact ⟨(⟨lab, edge, pl, ql⟩, ⟨pa, pn, pc, qa, qn, qc, qR⟩), rfl, ⟨ph, qh⟩⟩
instance : Inhabited (Blk × BlkV) := ⟨(default, ⟨none, 0, 0, none, 0, 0, fun _ => ⟨none, 0, 0, none, 0, 0, none, 0, 0⟩⟩)⟩
theorem blks_of {fuel : Nat} {cs : List Value} {x : DataW H × List MemPlace} (h : DataW.trod enc Try.prog W 0 (fun _ => true) true fuel 29 cs = some x) : ∃ A n c R l, cs = [.slice A n c] ∧ IsBlks W A n R l := by
  obtain ⟨A, c, n, F, rfl, hn, hI, hF⟩ := rows_open (α := Blk × BlkV) (fun d cs => cs = (blkR d.1 d.2).toList ∧ IsBlk W d.1 d.2) Try.underlying29 cs48 (by omega) (fun h => blk_of h) h
  refine ⟨A, n, c, fun k => (F k).2, (List.range n).map fun k => (F k).1, rfl, by simp, hn, ?_, fun k hk => ?_⟩
  · rcases hF with rfl | ⟨b, o, rfl, hb, hF⟩
    · exact .inl rfl
    · refine .inr ⟨b, o, rfl, hb, fun k hk => ?_⟩
      have hk2 : k < n := by simpa using hk
      obtain ⟨cs', ⟨rfl, _⟩, hc⟩ := hF k hk2
      rw [range_map_get]
      exact ⟨hc 0 _ (by omega) rfl, hc 1 _ (by omega) rfl, hc 2 _ (by omega) rfl, hc 3 _ (by omega) rfl⟩
  · have hk2 : k < n := by simpa using hk
    obtain ⟨_, _, h2⟩ := hI k hk2
    rw [range_map_get]
    exact h2
theorem fun_of {fuel : Nat} {cs : List Value} {x : DataW H × List MemPlace} (h : DataW.trod enc Try.prog W 0 (fun _ => true) true fuel 31 cs = some x) :
    ∃ d : Fun × FunV, cs = (funR d.1 d.2).toList ∧ IsFun W d.1 d.2 := by
  obtain ⟨xs, n, _, _, hl, hlen, hf⟩ := DataW.trod_struct Try.underlying31 h
  rw [cs31] at hl
  obtain ⟨c0, c1, c2, c3, c4, rfl⟩ := list_n5 hl
  obtain ⟨x0, x1, x2, x3, x4, rfl⟩ := list_n5 (show xs.length = 5 from hlen)
  have g0 : DataW.trod enc Try.prog W 0 (fun _ => true) true n 4 (List.take (Try.prog.cellsOf 4) (List.drop 0 [c0, c1, c2, c3, c4])) = some x0 := hf 0 _ rfl
  rw [cs4] at g0
  replace g0 : DataW.trod enc Try.prog W 0 (fun _ => true) true n 4 [c0] = some x0 := g0
  have g1 : DataW.trod enc Try.prog W 0 (fun _ => true) true n 9 (List.take (Try.prog.cellsOf 9) (List.drop 1 [c0, c1, c2, c3, c4])) = some x1 := hf 1 _ rfl
  rw [cs9] at g1
  replace g1 : DataW.trod enc Try.prog W 0 (fun _ => true) true n 9 [c1] = some x1 := g1
  have g2 : DataW.trod enc Try.prog W 0 (fun _ => true) true n 27 (List.take (Try.prog.cellsOf 27) (List.drop 2 [c0, c1, c2, c3, c4])) = some x2 := hf 2 _ rfl
  rw [cs27] at g2
  replace g2 : DataW.trod enc Try.prog W 0 (fun _ => true) true n 27 [c2] = some x2 := g2
  have g3 : DataW.trod enc Try.prog W 0 (fun _ => true) true n 28 (List.take (Try.prog.cellsOf 28) (List.drop 3 [c0, c1, c2, c3, c4])) = some x3 := hf 3 _ rfl
  rw [cs28] at g3
  replace g3 : DataW.trod enc Try.prog W 0 (fun _ => true) true n 28 [c3] = some x3 := g3
  have g4 : DataW.trod enc Try.prog W 0 (fun _ => true) true n 29 (List.take (Try.prog.cellsOf 29) (List.drop 4 [c0, c1, c2, c3, c4])) = some x4 := hf 4 _ rfl
  rw [cs29] at g4
  replace g4 : DataW.trod enc Try.prog W 0 (fun _ => true) true n 29 [c4] = some x4 := g4
  obtain ⟨mac, e0, _⟩ := DataW.trod_bool Try.underlying4 g0
  injection e0 with e0
  subst e0
  obtain ⟨nm, e1, _⟩ := DataW.trod_string Try.underlying9 g1
  injection e1 with e1
  subst e1
  obtain ⟨pa, pn, pc, pl, e2, ph⟩ := regs_of g2
  injection e2 with e2
  subst e2
  obtain ⟨qa, qn, qc, ql, e3, qh⟩ := ops_of g3
  injection e3 with e3
  subst e3
  obtain ⟨ra, rn, rc, rR, rl, e4, rh⟩ := blks_of g4
  injection e4 with e4
  subst e4
  exact ⟨(⟨mac, nm, pl, ql, rl⟩, ⟨pa, pn, pc, qa, qn, qc, ra, rn, rc, rR⟩), rfl, ⟨ph, qh, rh⟩⟩
theorem alo_of {fuel : Nat} {cs : List Value} {x : DataW H × List MemPlace} (h : DataW.trod enc Try.prog W 0 (fun _ => true) true fuel 34 cs = some x) :
    ∃ d : Alo × AloV, cs = (aloR d.1 d.2).toList ∧ IsAlo W d.1 d.2 := by
  obtain ⟨xs, n, _, _, hl, hlen, hf⟩ := DataW.trod_struct Try.underlying34 h
  rw [cs34] at hl
  obtain ⟨c0, c1, rfl⟩ := list_n2 hl
  obtain ⟨x0, x1, rfl⟩ := list_n2 (show xs.length = 2 from hlen)
  have g0 : DataW.trod enc Try.prog W 0 (fun _ => true) true n 3 (List.take (Try.prog.cellsOf 3) (List.drop 0 [c0, c1])) = some x0 := hf 0 _ rfl
  rw [cs3] at g0
  replace g0 : DataW.trod enc Try.prog W 0 (fun _ => true) true n 3 [c0] = some x0 := g0
  have g1 : DataW.trod enc Try.prog W 0 (fun _ => true) true n 32 (List.take (Try.prog.cellsOf 32) (List.drop 1 [c0, c1])) = some x1 := hf 1 _ rfl
  rw [cs32] at g1
  replace g1 : DataW.trod enc Try.prog W 0 (fun _ => true) true n 32 [c1] = some x1 := g1
  obtain ⟨z0, e0, _, _⟩ := DataW.trod_int Try.underlying3 g0
  injection e0 with e0
  subst e0
  obtain ⟨pa, pn, pc, pl, e1, ph⟩ := segs_of g1
  injection e1 with e1
  subst e1
  exact ⟨(⟨z0, pl⟩, ⟨pa, pn, pc⟩), rfl, ⟨ph⟩⟩
theorem arr2_of {fuel : Nat} {a b : Value} {x : DataW H × List MemPlace} (h : DataW.trod enc Try.prog W 0 (fun _ => true) true fuel 22 [a, b] = some x) : ∃ y z : Int, a = .int .i64 y ∧ b = .int .i64 z := by
  obtain ⟨xs, m, _, _, _, hlen, hf⟩ := DataW.trod_array (n := 2) (e := 3) Try.underlying22 h
  obtain ⟨x0, x1, rfl⟩ := list_n2 hlen
  have g0 := hf 0 (by omega)
  have g1 := hf 1 (by omega)
  rw [cs3] at g0 g1
  replace g0 : DataW.trod enc Try.prog W 0 (fun _ => true) true m 3 [a] = some x0 := g0
  replace g1 : DataW.trod enc Try.prog W 0 (fun _ => true) true m 3 [b] = some x1 := g1
  obtain ⟨y, e0, _⟩ := DataW.trod_int Try.underlying3 g0
  obtain ⟨z, e1, _⟩ := DataW.trod_int Try.underlying3 g1
  injection e0 with e0
  injection e1 with e1
  exact ⟨y, z, e0, e1⟩
theorem arr2s_of {fuel : Nat} {a b : Value} {x : DataW H × List MemPlace} (h : DataW.trod enc Try.prog W 0 (fun _ => true) true fuel 24 [a, b] = some x) : ∃ A n c l A' n' c' l', a = .slice A n c ∧ b = .slice A' n' c' ∧ IsInts W A n l ∧ IsInts W A' n' l' := by
  obtain ⟨xs, m, _, _, _, hlen, hf⟩ := DataW.trod_array (n := 2) (e := 23) Try.underlying24 h
  obtain ⟨x0, x1, rfl⟩ := list_n2 hlen
  have g0 := hf 0 (by omega)
  have g1 := hf 1 (by omega)
  rw [cs23] at g0 g1
  replace g0 : DataW.trod enc Try.prog W 0 (fun _ => true) true m 23 [a] = some x0 := g0
  replace g1 : DataW.trod enc Try.prog W 0 (fun _ => true) true m 23 [b] = some x1 := g1
  obtain ⟨A, n, c, l, e0, h0⟩ := ints_of g0
  obtain ⟨A', n', c', l', e1, h1⟩ := ints_of g1
  injection e0 with e0
  injection e1 with e1
  exact ⟨A, n, c, l, A', n', c', l', e0, e1, h0, h1⟩
theorem tgt_of {fuel : Nat} {cs : List Value} {x : DataW H × List MemPlace} (h : DataW.trod enc Try.prog W 0 (fun _ => true) true fuel 26 cs = some x) :
    ∃ d : Tgt × TgtV, cs = (tgtR d.1 d.2).toList ∧ IsTgt W d.1 d.2 := by
  obtain ⟨xs, n, _, _, hl, hlen, hf⟩ := DataW.trod_struct Try.underlying26 h
  rw [cs26] at hl
  obtain ⟨c0, c1, c2, c3, c4, rfl⟩ := list_n5 hl
  obtain ⟨x0, x1, x2, rfl⟩ := list_n3 (show xs.length = 3 from hlen)
  have g0 : DataW.trod enc Try.prog W 0 (fun _ => true) true n 22 (List.take (Try.prog.cellsOf 22) (List.drop 0 [c0, c1, c2, c3, c4])) = some x0 := hf 0 _ rfl
  rw [cs22] at g0
  replace g0 : DataW.trod enc Try.prog W 0 (fun _ => true) true n 22 [c0, c1] = some x0 := g0
  have g1 : DataW.trod enc Try.prog W 0 (fun _ => true) true n 24 (List.take (Try.prog.cellsOf 24) (List.drop 2 [c0, c1, c2, c3, c4])) = some x1 := hf 1 _ rfl
  rw [cs24] at g1
  replace g1 : DataW.trod enc Try.prog W 0 (fun _ => true) true n 24 [c2, c3] = some x1 := g1
  have g2 : DataW.trod enc Try.prog W 0 (fun _ => true) true n 3 (List.take (Try.prog.cellsOf 3) (List.drop 4 [c0, c1, c2, c3, c4])) = some x2 := hf 2 _ rfl
  rw [cs3] at g2
  replace g2 : DataW.trod enc Try.prog W 0 (fun _ => true) true n 3 [c4] = some x2 := g2
  obtain ⟨y0, y1, e0, f0⟩ := arr2_of g0
  subst e0 f0
  obtain ⟨pa, pn, pc, pl, qa, qn, qc, ql, e1, f1, ph, qh⟩ := arr2s_of g1
  subst e1 f1
  obtain ⟨z2, e2, _, _⟩ := DataW.trod_int Try.underlying3 g2
  injection e2 with e2
  subst e2
  exact ⟨(⟨y0, y1, pl, ql, z2⟩, ⟨pa, pn, pc, qa, qn, qc⟩), rfl, ⟨ph, qh⟩⟩
theorem unt_of {fuel : Nat} {cs : List Value} {x : DataW H × List MemPlace} (h : DataW.trod enc Try.prog W 0 (fun _ => true) true fuel 36 cs = some x) :
    ∃ d : Unt × UntV, cs = (untR d.1 d.2).toList ∧ IsUnt W d.1 d.2 := by
  obtain ⟨xs, n, _, _, hl, hlen, hf⟩ := DataW.trod_struct Try.underlying36 h
  rw [cs36] at hl
  obtain ⟨c0, c1, c2, c3, c4, c5, c6, c7, c8, c9, c10, c11, c12, rfl⟩ := list_n13 hl
  obtain ⟨x0, x1, x2, x3, rfl⟩ := list_n4 (show xs.length = 4 from hlen)
  have g0 : DataW.trod enc Try.prog W 0 (fun _ => true) true n 26 (List.take (Try.prog.cellsOf 26) (List.drop 0 [c0, c1, c2, c3, c4, c5, c6, c7, c8, c9, c10, c11, c12])) = some x0 := hf 0 _ rfl
  rw [cs26] at g0
  replace g0 : DataW.trod enc Try.prog W 0 (fun _ => true) true n 26 [c0, c1, c2, c3, c4] = some x0 := g0
  have g1 : DataW.trod enc Try.prog W 0 (fun _ => true) true n 31 (List.take (Try.prog.cellsOf 31) (List.drop 5 [c0, c1, c2, c3, c4, c5, c6, c7, c8, c9, c10, c11, c12])) = some x1 := hf 1 _ rfl
  rw [cs31] at g1
  replace g1 : DataW.trod enc Try.prog W 0 (fun _ => true) true n 31 [c5, c6, c7, c8, c9] = some x1 := g1
  have g2 : DataW.trod enc Try.prog W 0 (fun _ => true) true n 4 (List.take (Try.prog.cellsOf 4) (List.drop 10 [c0, c1, c2, c3, c4, c5, c6, c7, c8, c9, c10, c11, c12])) = some x2 := hf 2 _ rfl
  rw [cs4] at g2
  replace g2 : DataW.trod enc Try.prog W 0 (fun _ => true) true n 4 [c10] = some x2 := g2
  have g3 : DataW.trod enc Try.prog W 0 (fun _ => true) true n 34 (List.take (Try.prog.cellsOf 34) (List.drop 11 [c0, c1, c2, c3, c4, c5, c6, c7, c8, c9, c10, c11, c12])) = some x3 := hf 3 _ rfl
  rw [cs34] at g3
  replace g3 : DataW.trod enc Try.prog W 0 (fun _ => true) true n 34 [c11, c12] = some x3 := g3
  obtain ⟨t, e0, th⟩ := tgt_of g0
  unfold tgtR at e0
  simp only [List.cons.injEq, and_true] at e0
  obtain ⟨rfl, rfl, rfl, rfl, rfl⟩ := e0
  obtain ⟨f, e1, fh⟩ := fun_of g1
  unfold funR at e1
  simp only [List.cons.injEq, and_true] at e1
  obtain ⟨rfl, rfl, rfl, rfl, rfl⟩ := e1
  obtain ⟨has, e2, _⟩ := DataW.trod_bool Try.underlying4 g2
  injection e2 with e2
  subst e2
  obtain ⟨al, e3, ah⟩ := alo_of g3
  unfold aloR at e3
  simp only [List.cons.injEq, and_true] at e3
  obtain ⟨rfl, rfl⟩ := e3
  exact ⟨(⟨t.1, f.1, has, al.1⟩, ⟨t.2, f.2, al.2⟩), rfl, ⟨th, fh, ah⟩⟩
theorem agg_open {t : TypeId} {α : Type} (R : α → List Value → Prop) (ha : ∀ v, Value.okWide Try.prog W .any 0 t v → ∃ cs, v = .agg cs) (hel : ∀ {fuel : Nat} {cs : List Value} {x : DataW H × List MemPlace}, DataW.trod enc Try.prog W 0 (fun _ => true) true fuel t cs = some x → ∃ d : α, R d cs)
    {v : Value} {d : DataW H} {p : List MemPlace} (hv : Value.okWide Try.prog W .any 0 t v) (h : DataW.Trod enc Try.prog W 0 (fun _ => true) true t v d p) : ∃ (cs : Array Value) (d : α), v = .agg cs ∧ R d cs.toList := by
  obtain ⟨cs, rfl⟩ := ha v hv
  obtain ⟨fuel, hf⟩ := h
  obtain ⟨d, hd⟩ := hel hf
  exact ⟨cs, d, rfl, by simpa [Value.cells] using hd⟩
theorem open_unt {base : Nat} {v : Value} {d : DataW H} {p : List MemPlace} (hv : Value.okWide Try.prog W .any base 36 v) (h : DataW.Trod enc Try.prog W 0 (fun _ => true) true 36 v d p) : ∃ (i : Unt) (r : UntV), v = .agg (untR i r) ∧ IsUnt W i r := by
  obtain ⟨cs, rfl, hsz, _⟩ : ∃ cs, v = .agg cs ∧ cs.size = Try.prog.cellsOf 36 ∧ Row.okWide Try.prog W .any base 36 cs := by
    simpa [Value.okWide, Try.underlying36] using hv
  obtain ⟨fuel, hf⟩ := h
  obtain ⟨d, hd, hu⟩ := unt_of hf
  have hd' : cs.toList = (untR d.1 d.2).toList := by simpa [Value.cells] using hd
  refine ⟨d.1, d.2, ?_, hu⟩
  congr 1
  exact Array.ext' hd'
theorem open_fun {base : Nat} {v : Value} {d : DataW H} {p : List MemPlace} (hv : Value.okWide Try.prog W .any base 31 v) (h : DataW.Trod enc Try.prog W 0 (fun _ => true) true 31 v d p) : ∃ (i : Fun) (r : FunV), v = .agg (funR i r) ∧ IsFun W i r := by
  obtain ⟨cs, rfl, hsz, _⟩ : ∃ cs, v = .agg cs ∧ cs.size = Try.prog.cellsOf 31 ∧ Row.okWide Try.prog W .any base 31 cs := by
    simpa [Value.okWide, Try.underlying31] using hv
  obtain ⟨fuel, hf⟩ := h
  obtain ⟨d, hd, hu⟩ := fun_of hf
  have hd' : cs.toList = (funR d.1 d.2).toList := by simpa [Value.cells] using hd
  refine ⟨d.1, d.2, ?_, hu⟩
  congr 1
  exact Array.ext' hd'
end
end Go.Proofs.Ytocelaebokikcaa
