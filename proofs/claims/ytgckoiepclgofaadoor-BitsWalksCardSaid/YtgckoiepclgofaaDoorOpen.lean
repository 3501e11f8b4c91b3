/- How what a law is handed comes in: a slice of numbers, a slice of deeds, and the table of the library's that the walks read. -/
import Derived.Test.YtgckoiepclgofaaDoorFew
import Derived.Test.YtgckoiepclgofaaDoorNext
import Derived.Test.YtgckoiepclgofaaDoorRows
import Derived.Deep.Slices
import Derived.Lib.LaidTab
import Derived.LaidLaws
import Derived.OpenShut
namespace Go.Proofs.YtgckoiepclgofaaDoor
open Go.ChangeShapes Go.WideShapes Go.RowKit
set_option linter.unusedVariables false

theorem spot_lt {w : World} {a : Addr} {v : Value} (h : w.cell? a = some v) : a.block < w.heap.size := by
  unfold World.cell? at h
  cases hb : w.heap[a.block]? with
  | none => simp [hb] at h
  | some c => exact (Array.getElem?_eq_some_iff.1 hb).1

set_option maxRecDepth 100000 in
/-- The table of the library's, as the row lists it. -/
theorem glob_of_laid {W : World} (hL : laidMet Tryd.prog [("math/bits.deBruijn64tab", Rows.laid_math_bits_deBruijn64tab)] W) : Glob W := by
  have e : (Rows.laid_math_bits_deBruijn64tab : DataW Unit) = Lib.tabData .u8 (Lib.deBruijn64tab.map fun z : Nat => (z : Int)) := by rfl
  rw [e] at hL
  have hg : Tryd.prog.globalNamed "math/bits.deBruijn64tab" = some 0 := by kernel_rfl
  have hT := Lib.tabIs_of_head (rest := []) hg (by kernel_rfl) Tryd.underlying66 Tryd.underlying5 (by kernel_rfl) (by kernel_rfl) hL
  have hl : (Lib.deBruijn64tab.map fun z : Nat => (z : Int)).length = 64 := by rfl
  have hc := fun j (hj : j < 64) => hT.cell hg j (by rw [hl]; exact hj)
  refine ⟨spot_lt (hc 0 (by omega)), fun j hj => ?_⟩
  rw [hc j hj]
  have hj' : j < Lib.deBruijn64tab.length := by rw [List.length_map] at hl; omega
  simp [List.getD, hj']

section
variable {H : Type} {enc : TypeId × Value → H} {W : World}
theorem cells3 : Tryd.prog.cellsOf 3 = 1 := by kernel_rfl
theorem cells5 : Tryd.prog.cellsOf 5 = 1 := by kernel_rfl
theorem cells33 : Tryd.prog.cellsOf 33 = 1 := by kernel_rfl
theorem cells35 : Tryd.prog.cellsOf 35 = 3 := by kernel_rfl

/-- A slice of numbers that came in. -/
theorem ints_of_trod {fuel : Nat} {cs : List Value} {x : DataW H × List MemPlace} (h : DataW.trod enc Tryd.prog W 0 (fun _ => true) true fuel 33 cs = some x) :
    ∃ a c l, cs = [.slice a l.length c] ∧ Ints W a l := by
  rcases open_ints Tryd.underlying33 Tryd.underlying3 cells3 h with ⟨hcs, _⟩ | ⟨x, l, c, zs, hcs, _, hl, hm, hz, _, hcell, hwz⟩
  · exact ⟨none, 0, [], hcs, .inl rfl⟩
  · simp only [if_true] at hz
    refine ⟨some x, c, zs.take l, by rw [hcs, List.length_take]; congr 2; omega, ?_⟩
    by_cases h0 : l = 0
    · subst h0; exact .inl rfl
    · obtain ⟨b, o, spot⟩ := x
      have hspot : spot = none := by simpa [Addr.add] using World.cell?_spot (hcell 0 (by omega))
      subst hspot
      have hb : b < W.heap.size := by simpa [Addr.add] using spot_lt (hcell 0 (by omega))
      refine .inr ⟨b, o, rfl, hb, fun k hk => ?_⟩
      have hk' : k < zs.length := by rw [List.length_take] at hk; omega
      rw [← add_plain, hcell k hk', List.getElem_take]
      simp [List.getD, hk']

theorem list_three {α : Type} {l : List α} (h : l.length = 3) : ∃ a b c, l = [a, b, c] := by
  match l, h with
  | [a, b, c], _ => exact ⟨a, b, c, rfl⟩

/-- One deed. -/
theorem deed_of_trod {fuel : Nat} {cs : List Value} {x : DataW H × List MemPlace} (h : DataW.trod enc Tryd.prog W 0 (fun _ => true) true fuel 35 cs = some x) :
    ∃ d : Dd, cs = [.int .u8 (d.kind : Int), .int .i64 d.n, .slice d.a d.l.length d.c] ∧ Ints W d.a d.l ∧ d.kind ≤ 255 := by
  obtain ⟨xs, n, _, _, hl, hlen, hf⟩ := DataW.trod_struct Tryd.underlying35 h
  rw [cells35] at hl
  obtain ⟨c0, c1, c2, rfl⟩ := list_three hl
  obtain ⟨x0, x1, x2, rfl⟩ := list_three (show xs.length = 3 from hlen)
  have g0 : DataW.trod enc Tryd.prog W 0 (fun _ => true) true n 5 (List.take (Tryd.prog.cellsOf 5) (List.drop 0 [c0, c1, c2])) = some x0 := hf 0 _ rfl
  rw [cells5] at g0
  have g1 : DataW.trod enc Tryd.prog W 0 (fun _ => true) true n 3 (List.take (Tryd.prog.cellsOf 3) (List.drop 1 [c0, c1, c2])) = some x1 := hf 1 _ rfl
  rw [cells3] at g1
  have g2 : DataW.trod enc Tryd.prog W 0 (fun _ => true) true n 33 (List.take (Tryd.prog.cellsOf 33) (List.drop 2 [c0, c1, c2])) = some x2 := hf 2 _ rfl
  rw [cells33] at g2
  have g0' : DataW.trod enc Tryd.prog W 0 (fun _ => true) true n 5 [c0] = some x0 := g0
  have g1' : DataW.trod enc Tryd.prog W 0 (fun _ => true) true n 3 [c1] = some x1 := g1
  have g2' : DataW.trod enc Tryd.prog W 0 (fun _ => true) true n 33 [c2] = some x2 := g2
  obtain ⟨z, e0, _, wz⟩ := DataW.trod_int Tryd.underlying5 g0'
  obtain ⟨y, e1, _, _⟩ := DataW.trod_int Tryd.underlying3 g1'
  obtain ⟨a, c, l, e2, hi⟩ := ints_of_trod g2'
  injection e0 with e0
  injection e1 with e1
  injection e2 with e2
  subst e0 e1 e2
  have hz : 0 ≤ z ∧ z ≤ 255 := by simpa [Lit.wf, IntKind.min, IntKind.max, IntKind.signed, IntKind.bits] using wz
  refine ⟨⟨z.toNat, y, a, c, l⟩, ?_, hi, ?_⟩
  · simp only [List.cons.injEq, Value.int.injEq, and_true, true_and]
    omega
  · show z.toNat ≤ 255
    omega

instance : Inhabited Dd := ⟨⟨0, 0, none, 0, []⟩⟩

/-- A slice of deeds that came in. -/
theorem deeds_of_trod {fuel : Nat} {cs : List Value} {x : DataW H × List MemPlace} (h : DataW.trod enc Tryd.prog W 0 (fun _ => true) true fuel 22 cs = some x) :
    ∃ a c ds, cs = [.slice a ds.length c] ∧ Deeds W a ds ∧ ds.length ≤ 9223372036854775807 := by
  rcases Deep.open_slice Tryd.underlying22 h with ⟨hcs, _⟩ | ⟨x, l, c, m, n, D, Pl, hcs, _, hl, hm, hmm, _, hel⟩
  · exact ⟨none, 0, [], hcs, .inl rfl, by simp⟩
  · simp only [if_true] at hmm
    subst hmm
    rw [cells35] at hel
    obtain ⟨F, hF⟩ := Deep.choose_lt (α := Dd) (n := l) (p := fun i d => ∃ cs', W.cells? 0 (x.add (i * 3)) 3 = some cs' ∧ cs' = [.int .u8 (d.kind : Int), .int .i64 d.n, .slice d.a d.l.length d.c] ∧ Ints W d.a d.l ∧ d.kind ≤ 255) (fun i hi => by
      obtain ⟨cs', h1, h2⟩ := hel i (by omega)
      obtain ⟨d, h3⟩ := deed_of_trod h2
      exact ⟨d, cs', h1, h3⟩)
    have hlen : ((List.range l).map F).length = l := by simp
    refine ⟨some x, m, (List.range l).map F, by rw [hcs, hlen], ?_, by rw [hlen]; have : maxLen = 9223372036854775807 := rfl; omega⟩
    by_cases h0 : l = 0
    · subst h0; exact .inl rfl
    · obtain ⟨b, o, spot⟩ := x
      have cell : ∀ k, k < l → W.cell? ((Addr.add ⟨b, o, spot⟩ (k * 3)).add 0) = some (.int .u8 ((F k).kind : Int)) ∧ W.cell? ((Addr.add ⟨b, o, spot⟩ (k * 3)).add 1) = some (.int .i64 (F k).n) ∧ W.cell? ((Addr.add ⟨b, o, spot⟩ (k * 3)).add 2) = some (.slice (F k).a (F k).l.length (F k).c) ∧ Ints W (F k).a (F k).l ∧ (F k).kind ≤ 255 := fun k hk => by
        obtain ⟨cs', h1, h2, h3, h4⟩ := hF k hk
        subst h2
        obtain ⟨_, _, hc⟩ := World.cells?_some h1
        exact And.intro (hc 0 (by omega)) (And.intro (hc 1 (by omega)) (And.intro (hc 2 (by omega)) (And.intro h3 h4)))
      have hspot : spot = none := by
        have := (cell 0 (by omega)).1
        simpa [Addr.add] using World.cell?_spot this
      subst hspot
      have hb : b < W.heap.size := by
        have := (cell 0 (by omega)).1
        simpa [Addr.add] using spot_lt this
      refine .inr ⟨b, o, rfl, hb, fun k hk => ?_⟩
      rw [hlen] at hk
      have he : ((List.range l).map F)[k]'(by rw [hlen]; exact hk) = F k := by simp
      rw [he]
      obtain ⟨h1, h2, h3, h4, h5⟩ := cell k hk
      simp only [add_plain] at h1 h2 h3
      exact ⟨h1, h2, h3, h4, h5⟩
end
end Go.Proofs.YtgckoiepclgofaaDoor
