/- How what a law is handed comes in: targets, places. -/
import Derived.Test.YtmfodjdgekafoaaWorks
import Derived.OpenShut
namespace Go.Proofs.Ytmfodjdgekafoaa
open Go.ChangeShapes Go.WideShapes Go.RowKit
set_option linter.unusedVariables false
set_option maxRecDepth 20000

section
variable {H : Type} {enc : TypeId × Value → H} {W : World}
theorem rows_open {t e : TypeId} {sz : Nat} {α : Type} [Inhabited α] (R : α → List Value → Prop) (ht : Try.prog.underlying t = some (.slice e)) (hc : Try.prog.cellsOf e = sz) (h0 : 0 < sz)
    (hel : ∀ {fuel : Nat} {cs : List Value} {x : DataW H × List MemPlace}, DataW.trod enc Try.prog W 0 (fun _ => true) true fuel e cs = some x → ∃ d : α, R d cs)
    {fuel : Nat} {cs : List Value} {x : DataW H × List MemPlace} (h : DataW.trod enc Try.prog W 0 (fun _ => true) true fuel t cs = some x) :
    ∃ (A : Option Addr) (c n : Nat) (F : Nat → α), cs = [.slice A n c] ∧ n ≤ 9223372036854775807 ∧ (∀ k, k < n → ∃ cs', R (F k) cs') ∧ (n = 0 ∨ ∃ b o, A = some ⟨b, o, none⟩ ∧ b < W.heap.size ∧
      ∀ k, k < n → ∃ cs', R (F k) cs' ∧ ∀ j u, j < sz → cs'[j]? = some u → W.cell? ⟨b, o + k * sz + j, none⟩ = some u) := by
  rcases Deep.open_slice ht h with ⟨hcs, _⟩ | ⟨x, l, c, m, n, D, Pl, hcs, _, hl, hm, hmm, _, hel2⟩
  · exact ⟨none, 0, 0, fun _ => default, hcs, by omega, fun k hk => by omega, .inl rfl⟩
  · simp only [if_true] at hmm
    subst hmm
    rw [hc] at hel2
    obtain ⟨F, hF⟩ := Deep.choose_lt (α := α) (n := l) (p := fun i d => ∃ cs', W.cells? 0 (x.add (i * sz)) sz = some cs' ∧ R d cs') (fun i hi => by
      obtain ⟨cs', h1, h2⟩ := hel2 i (by omega)
      obtain ⟨d, h3⟩ := hel h2
      exact ⟨d, cs', h1, h3⟩)
    refine ⟨some x, m, l, F, hcs, by have : maxLen = 9223372036854775807 := rfl; omega, fun k hk => (hF k hk).imp fun _ h => h.2, ?_⟩
    by_cases hl0 : l = 0
    · exact .inl hl0
    · obtain ⟨b, o, spot⟩ := x
      have hspot : spot = none ∧ b < W.heap.size := by
        obtain ⟨cs', h1, _⟩ := hF 0 (by omega)
        obtain ⟨_, hlen, hcell⟩ := World.cells?_some h1
        have hc0 := hcell 0 (by omega)
        rw [List.getElem?_eq_getElem (by omega)] at hc0
        constructor
        · simpa [Addr.add] using World.cell?_spot hc0
        · simpa [Addr.add] using spot_lt hc0
      obtain ⟨rfl, hb⟩ := hspot
      refine .inr ⟨b, o, rfl, hb, fun k hk => ?_⟩
      obtain ⟨cs', h1, h2⟩ := hF k hk
      obtain ⟨_, hlen, hcell⟩ := World.cells?_some h1
      refine ⟨cs', h2, fun j u hj hu => ?_⟩
      have := hcell j (by omega)
      rw [add_at, add_at] at this
      rw [this]
      exact hu
theorem range_map_get {α : Type} (F : Nat → α) (n k : Nat) (hk : k < ((List.range n).map F).length) : ((List.range n).map F)[k] = F k := by simp
theorem list_n2 {α : Type} {l : List α} (h : l.length = 2) : ∃ c0 c1, l = [c0, c1] := by
  match l, h with
  | [c0, c1], _ => exact ⟨c0, c1, rfl⟩
theorem list_n3 {α : Type} {l : List α} (h : l.length = 3) : ∃ c0 c1 c2, l = [c0, c1, c2] := by
  match l, h with
  | [c0, c1, c2], _ => exact ⟨c0, c1, c2, rfl⟩
theorem list_n5 {α : Type} {l : List α} (h : l.length = 5) : ∃ c0 c1 c2 c3 c4, l = [c0, c1, c2, c3, c4] := by
  match l, h with
  | [c0, c1, c2, c3, c4], _ => exact ⟨c0, c1, c2, c3, c4, rfl⟩
theorem cs3 : Try.prog.cellsOf 3 = 1 := by kernel_rfl
theorem cs22 : Try.prog.cellsOf 22 = 2 := by kernel_rfl
theorem cs24 : Try.prog.cellsOf 24 = 2 := by kernel_rfl
theorem cs23 : Try.prog.cellsOf 23 = 1 := by kernel_rfl
theorem cs26 : Try.prog.cellsOf 26 = 5 := by kernel_rfl
theorem int_of {fuel : Nat} {cs : List Value} {x : DataW H × List MemPlace} (h : DataW.trod enc Try.prog W 0 (fun _ => true) true fuel 3 cs = some x) : ∃ z : Int, cs = [.int .i64 z] := by
  obtain ⟨z, e, _⟩ := DataW.trod_int Try.underlying3 h
  exact ⟨z, e⟩
theorem ints_of {fuel : Nat} {cs : List Value} {x : DataW H × List MemPlace} (h : DataW.trod enc Try.prog W 0 (fun _ => true) true fuel 23 cs = some x) : ∃ A n c l, cs = [.slice A n c] ∧ IsInts W A n l := by
  obtain ⟨A, c, n, F, rfl, hn, _, hF⟩ := rows_open (α := Int) (fun d cs => cs = [.int .i64 d]) Try.underlying23 cs3 (by omega) (fun h => int_of h) h
  refine ⟨A, n, c, (List.range n).map F, rfl, by simp, hn, ?_⟩
  rcases hF with rfl | ⟨b, o, rfl, hb, hF⟩
  · exact .inl rfl
  · refine .inr ⟨b, o, rfl, hb, fun k hk => ?_⟩
    have hk2 : k < n := by simpa using hk
    obtain ⟨cs', rfl, hc⟩ := hF k hk2
    rw [range_map_get]
    have := hc 0 _ (by omega) rfl
    rw [Nat.mul_one, Nat.add_zero] at this; exact this
theorem arr2_of {fuel : Nat} {a b : Value} {x : DataW H × List MemPlace} (h : DataW.trod enc Try.prog W 0 (fun _ => true) true fuel 22 [a, b] = some x) : ∃ y z : Int, a = .int .i64 y ∧ b = .int .i64 z := by
  obtain ⟨xs, m, _, _, _, hlen, hf⟩ := DataW.trod_array (n := 2) (e := 3) Try.underlying22 h
  obtain ⟨x0, x1, rfl⟩ := list_n2 hlen
  have g0 := hf 0 (by omega)
  have g1 := hf 1 (by omega)
  rw [cs3] at g0 g1
  replace g0 : DataW.trod enc Try.prog W 0 (fun _ => true) true m 3 [a] = some x0 := g0
  replace g1 : DataW.trod enc Try.prog W 0 (fun _ => true) true m 3 [b] = some x1 := g1
  obtain ⟨y, e0, _⟩ := DataW.trod_int Try.underlying3 g0
  obtain ⟨z, e1, _⟩ := DataW.trod_int Try.underlying3 g1
  injection e0 with e0
  injection e1 with e1
  exact ⟨y, z, e0, e1⟩
theorem arr2s_of {fuel : Nat} {a b : Value} {x : DataW H × List MemPlace} (h : DataW.trod enc Try.prog W 0 (fun _ => true) true fuel 24 [a, b] = some x) : ∃ A n c l A' n' c' l', a = .slice A n c ∧ b = .slice A' n' c' ∧ IsInts W A n l ∧ IsInts W A' n' l' := by
  obtain ⟨xs, m, _, _, _, hlen, hf⟩ := DataW.trod_array (n := 2) (e := 23) Try.underlying24 h
  obtain ⟨x0, x1, rfl⟩ := list_n2 hlen
  have g0 := hf 0 (by omega)
  have g1 := hf 1 (by omega)
  rw [cs23] at g0 g1
  replace g0 : DataW.trod enc Try.prog W 0 (fun _ => true) true m 23 [a] = some x0 := g0
  replace g1 : DataW.trod enc Try.prog W 0 (fun _ => true) true m 23 [b] = some x1 := g1
  obtain ⟨A, n, c, l, e0, h0⟩ := ints_of g0
  obtain ⟨A', n', c', l', e1, h1⟩ := ints_of g1
  injection e0 with e0
  injection e1 with e1
  exact ⟨A, n, c, l, A', n', c', l', e0, e1, h0, h1⟩
theorem tgt_of {fuel : Nat} {cs : List Value} {x : DataW H × List MemPlace} (h : DataW.trod enc Try.prog W 0 (fun _ => true) true fuel 26 cs = some x) :
    ∃ d : Tgt × TgtV, cs = (tgtR d.1 d.2).toList ∧ IsTgt W d.1 d.2 := by
  obtain ⟨xs, n, _, _, hl, hlen, hf⟩ := DataW.trod_struct Try.underlying26 h
  rw [cs26] at hl
  obtain ⟨c0, c1, c2, c3, c4, rfl⟩ := list_n5 hl
  obtain ⟨x0, x1, x2, rfl⟩ := list_n3 (show xs.length = 3 from hlen)
  have g0 : DataW.trod enc Try.prog W 0 (fun _ => true) true n 22 (List.take (Try.prog.cellsOf 22) (List.drop 0 [c0, c1, c2, c3, c4])) = some x0 := hf 0 _ rfl
  rw [cs22] at g0
  replace g0 : DataW.trod enc Try.prog W 0 (fun _ => true) true n 22 [c0, c1] = some x0 := g0
  have g1 : DataW.trod enc Try.prog W 0 (fun _ => true) true n 24 (List.take (Try.prog.cellsOf 24) (List.drop 2 [c0, c1, c2, c3, c4])) = some x1 := hf 1 _ rfl
  rw [cs24] at g1
  replace g1 : DataW.trod enc Try.prog W 0 (fun _ => true) true n 24 [c2, c3] = some x1 := g1
  have g2 : DataW.trod enc Try.prog W 0 (fun _ => true) true n 3 (List.take (Try.prog.cellsOf 3) (List.drop 4 [c0, c1, c2, c3, c4])) = some x2 := hf 2 _ rfl
  rw [cs3] at g2
  replace g2 : DataW.trod enc Try.prog W 0 (fun _ => true) true n 3 [c4] = some x2 := g2
  obtain ⟨y0, y1, e0, f0⟩ := arr2_of g0
  subst e0 f0
  obtain ⟨pa, pn, pc, pl, qa, qn, qc, ql, e1, f1, ph, qh⟩ := arr2s_of g1
  subst e1 f1
  obtain ⟨z2, e2, _, _⟩ := DataW.trod_int Try.underlying3 g2
  injection e2 with e2
  subst e2
  exact ⟨(⟨y0, y1, pl, ql, z2⟩, ⟨pa, pn, pc, qa, qn, qc⟩), rfl, ⟨ph, qh⟩⟩
theorem cs28 : Try.prog.cellsOf 28 = 3 := by kernel_rfl
theorem loc_of {fuel : Nat} {cs : List Value} {x : DataW H × List MemPlace} (h : DataW.trod enc Try.prog W 0 (fun _ => true) true fuel 28 cs = some x) :
    ∃ k c n : Int, cs = [.int .i64 k, .int .i64 c, .int .i64 n] ∧ (Lit.int .i64 n).wf = true := by
  obtain ⟨xs, n, _, _, hl, hlen, hf⟩ := DataW.trod_struct Try.underlying28 h
  rw [cs28] at hl
  obtain ⟨c0, c1, c2, rfl⟩ := list_n3 hl
  obtain ⟨x0, x1, x2, rfl⟩ := list_n3 (show xs.length = 3 from hlen)
  have g0 : DataW.trod enc Try.prog W 0 (fun _ => true) true n 3 (List.take (Try.prog.cellsOf 3) (List.drop 0 [c0, c1, c2])) = some x0 := hf 0 _ rfl
  rw [cs3] at g0
  replace g0 : DataW.trod enc Try.prog W 0 (fun _ => true) true n 3 [c0] = some x0 := g0
  have g1 : DataW.trod enc Try.prog W 0 (fun _ => true) true n 3 (List.take (Try.prog.cellsOf 3) (List.drop 1 [c0, c1, c2])) = some x1 := hf 1 _ rfl
  rw [cs3] at g1
  replace g1 : DataW.trod enc Try.prog W 0 (fun _ => true) true n 3 [c1] = some x1 := g1
  have g2 : DataW.trod enc Try.prog W 0 (fun _ => true) true n 3 (List.take (Try.prog.cellsOf 3) (List.drop 2 [c0, c1, c2])) = some x2 := hf 2 _ rfl
  rw [cs3] at g2
  replace g2 : DataW.trod enc Try.prog W 0 (fun _ => true) true n 3 [c2] = some x2 := g2
  obtain ⟨z0, e0, _, _⟩ := DataW.trod_int Try.underlying3 g0
  injection e0 with e0
  subst e0
  obtain ⟨z1, e1, _, _⟩ := DataW.trod_int Try.underlying3 g1
  injection e1 with e1
  subst e1
  obtain ⟨z2, e2, _, wz⟩ := DataW.trod_int Try.underlying3 g2
  injection e2 with e2
  subst e2
  exact ⟨z0, z1, z2, rfl, wz⟩
structure Lc where
  k : Int
  c : Int
  n : Int
theorem wf_fit {n : Int} (h : (Lit.int .i64 n).wf = true) : Deci.fit n := by
  have : -9223372036854775808 ≤ n ∧ n ≤ 9223372036854775807 := by simpa [Lit.wf, IntKind.min, IntKind.max, IntKind.signed, IntKind.bits] using h
  exact this
theorem open_tgt {base : Nat} {v : Value} {d : DataW H} {p : List MemPlace} (hv : Value.okWide Try.prog W .any base 26 v) (h : DataW.Trod enc Try.prog W 0 (fun _ => true) true 26 v d p) : ∃ (i : Tgt) (r : TgtV), v = .agg (tgtR i r) ∧ IsTgt W i r := by
  obtain ⟨cs, rfl, hsz, _⟩ : ∃ cs, v = .agg cs ∧ cs.size = Try.prog.cellsOf 26 ∧ Row.okWide Try.prog W .any base 26 cs := by
    simpa [Value.okWide, Try.underlying26] using hv
  obtain ⟨fuel, hf⟩ := h
  obtain ⟨d, hd, hu⟩ := tgt_of hf
  have hd' : cs.toList = (tgtR d.1 d.2).toList := by simpa [Value.cells] using hd
  refine ⟨d.1, d.2, ?_, hu⟩
  congr 1
  exact Array.ext' hd'
theorem open_loc {base : Nat} {v : Value} {d : DataW H} {p : List MemPlace} (hv : Value.okWide Try.prog W .any base 28 v) (h : DataW.Trod enc Try.prog W 0 (fun _ => true) true 28 v d p) : ∃ (i : Lc) (_ : Unit), v = .agg #[.int .i64 i.k, .int .i64 i.c, .int .i64 i.n] ∧ Deci.fit i.n := by
  obtain ⟨cs, rfl, hsz, _⟩ : ∃ cs, v = .agg cs ∧ cs.size = Try.prog.cellsOf 28 ∧ Row.okWide Try.prog W .any base 28 cs := by
    simpa [Value.okWide, Try.underlying28] using hv
  obtain ⟨fuel, hf⟩ := h
  obtain ⟨k, c, n, hd, hu⟩ := loc_of hf
  have hd' : cs.toList = #[Value.int .i64 k, .int .i64 c, .int .i64 n].toList := by simpa [Value.cells] using hd
  refine ⟨⟨k, c, n⟩, (), ?_, wf_fit hu⟩
  congr 1
  exact Array.ext' hd'
end
end Go.Proofs.Ytmfodjdgekafoaa
