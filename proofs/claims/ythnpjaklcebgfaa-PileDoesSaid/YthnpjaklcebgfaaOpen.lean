/- How what a law is handed comes in: an item, a slice of items, a slice of deeds. -/
import Derived.Test.YthnpjaklcebgfaaNew
import Derived.Deep.Slices
import Derived.OpenShut
namespace Go.Proofs.Ythnpjaklcebgfaa
open Go.ChangeShapes Go.WideShapes Go.RowKit
set_option linter.unusedVariables false

theorem spot_lt {w : World} {a : Addr} {v : Value} (h : w.cell? a = some v) : a.block < w.heap.size := by
  unfold World.cell? at h
  cases hb : w.heap[a.block]? with
  | none => simp [hb] at h
  | some c => exact (Array.getElem?_eq_some_iff.1 hb).1
/-- A deed: what is done, with which item, and how many. -/
structure Dd where
  kind : Nat
  x : It
  n : Int
instance : Inhabited Dd := ⟨⟨0, (0, 0), 0⟩⟩
/-- The deeds ds are those of a slice. -/
def Deeds (w : World) (A : Option Addr) (ds : List Dd) : Prop :=
  ds = [] ∨ ∃ b o, A = some ⟨b, o, none⟩ ∧ b < w.heap.size ∧ ∀ k (h : k < ds.length), w.cell? ⟨b, o + k * 4, none⟩ = some (.int .u8 (ds[k].kind : Nat)) ∧ w.cell? ⟨b, o + k * 4 + 1, none⟩ = some (.int .i64 ds[k].x.1) ∧
    w.cell? ⟨b, o + k * 4 + 2, none⟩ = some (.int .i64 ds[k].x.2) ∧ w.cell? ⟨b, o + k * 4 + 3, none⟩ = some (.int .i64 ds[k].n)
theorem Deeds.grow {w w' : World} {A : Option Addr} {ds : List Dd} (h : Deeds w A ds) (hg : w.grownBy w' none) : Deeds w' A ds := by
  rcases h with h | ⟨b, o, rfl, hb, hc⟩
  · exact .inl h
  · refine .inr ⟨b, o, rfl, Nat.lt_of_lt_of_le hb hg.size, fun k hk => ?_⟩
    obtain ⟨c1, c2, c3, c4⟩ := hc k hk
    exact ⟨(hg.cell_far _ hb (by simp)).trans c1, (hg.cell_far _ hb (by simp)).trans c2, (hg.cell_far _ hb (by simp)).trans c3, (hg.cell_far _ hb (by simp)).trans c4⟩

section
variable {H : Type} {enc : TypeId × Value → H} {W : World}
theorem cells3 : Try.prog.cellsOf 3 = 1 := by kernel_rfl
theorem cells5 : Try.prog.cellsOf 5 = 1 := by kernel_rfl
theorem cells28 : Try.prog.cellsOf 28 = 2 := by kernel_rfl
theorem cells30 : Try.prog.cellsOf 30 = 4 := by kernel_rfl
theorem list_two {α : Type} {l : List α} (h : l.length = 2) : ∃ a b, l = [a, b] := by
  match l, h with
  | [a, b], _ => exact ⟨a, b, rfl⟩
theorem list_three {α : Type} {l : List α} (h : l.length = 3) : ∃ a b c, l = [a, b, c] := by
  match l, h with
  | [a, b, c], _ => exact ⟨a, b, c, rfl⟩
theorem list_four {α : Type} {l : List α} (h : l.length = 4) : ∃ a b c d, l = [a, b, c, d] := by
  match l, h with
  | [a, b, c, d], _ => exact ⟨a, b, c, d, rfl⟩

/-- One item. -/
theorem item_of_trod {fuel : Nat} {cs : List Value} {x : DataW H × List MemPlace} (h : DataW.trod enc Try.prog W 0 (fun _ => true) true fuel 28 cs = some x) :
    ∃ d : It, cs = [.int .i64 d.1, .int .i64 d.2] := by
  obtain ⟨xs, n, _, _, hl, hlen, hf⟩ := DataW.trod_struct Try.underlying28 h
  rw [cells28] at hl
  obtain ⟨c0, c1, rfl⟩ := list_two hl
  obtain ⟨x0, x1, rfl⟩ := list_two (show xs.length = 2 from hlen)
  have g0 : DataW.trod enc Try.prog W 0 (fun _ => true) true n 3 (List.take (Try.prog.cellsOf 3) (List.drop 0 [c0, c1])) = some x0 := hf 0 _ rfl
  have g1 : DataW.trod enc Try.prog W 0 (fun _ => true) true n 3 (List.take (Try.prog.cellsOf 3) (List.drop 1 [c0, c1])) = some x1 := hf 1 _ rfl
  rw [cells3] at g0 g1
  have g0' : DataW.trod enc Try.prog W 0 (fun _ => true) true n 3 [c0] = some x0 := g0
  have g1' : DataW.trod enc Try.prog W 0 (fun _ => true) true n 3 [c1] = some x1 := g1
  obtain ⟨z, e0, _, _⟩ := DataW.trod_int Try.underlying3 g0'
  obtain ⟨y, e1, _, _⟩ := DataW.trod_int Try.underlying3 g1'
  injection e0 with e0
  injection e1 with e1
  subst e0 e1
  exact ⟨(z, y), rfl⟩
/-- An item that came in by itself. -/
theorem open_item {base : Nat} {v : Value} {d : DataW H} {p : List MemPlace} (hv : Value.okWide Try.prog W .any base 28 v) (h : DataW.Trod enc Try.prog W 0 (fun _ => true) true 28 v d p) :
    ∃ x y : Int, v = .agg #[.int .i64 x, .int .i64 y] := by
  obtain ⟨cs, rfl, hsz, _⟩ : ∃ cs, v = .agg cs ∧ cs.size = Try.prog.cellsOf 28 ∧ Row.okWide Try.prog W .any base 28 cs := by
    simpa [Value.okWide, Try.underlying28] using hv
  obtain ⟨fuel, hf⟩ := h
  obtain ⟨d, hd⟩ := item_of_trod hf
  have hd' : cs.toList = [.int .i64 d.1, .int .i64 d.2] := by simpa [Value.cells] using hd
  obtain ⟨l⟩ := cs
  have hl : l = [.int .i64 d.1, .int .i64 d.2] := hd'
  subst hl
  exact ⟨d.1, d.2, rfl⟩
/-- A slice of items that came in. -/
theorem items_of_trod {fuel : Nat} {cs : List Value} {x : DataW H × List MemPlace} (h : DataW.trod enc Try.prog W 0 (fun _ => true) true fuel 22 cs = some x) :
    ∃ a c l, cs = [.slice a l.length c] ∧ Its W a l ∧ l.length ≤ 9223372036854775807 ∧ (a = none → c = 0) := by
  rcases Deep.open_slice Try.underlying22 h with ⟨hcs, _⟩ | ⟨x, l, c, m, n, D, Pl, hcs, _, hl, hm, hmm, _, hel⟩
  · exact ⟨none, 0, [], hcs, .inl rfl, by simp, fun _ => rfl⟩
  · simp only [if_true] at hmm
    subst hmm
    rw [cells28] at hel
    obtain ⟨F, hF⟩ := Deep.choose_lt (α := It) (n := l) (p := fun i d => ∃ cs', W.cells? 0 (x.add (i * 2)) 2 = some cs' ∧ cs' = [.int .i64 d.1, .int .i64 d.2]) (fun i hi => by
      obtain ⟨cs', h1, h2⟩ := hel i (by omega)
      obtain ⟨d, h3⟩ := item_of_trod h2
      exact ⟨d, cs', h1, h3⟩)
    have hlen : ((List.range l).map F).length = l := by simp
    refine ⟨some x, m, (List.range l).map F, by rw [hcs, hlen], ?_, by rw [hlen]; have : maxLen = 9223372036854775807 := rfl; omega, fun e => by cases e⟩
    by_cases h0 : l = 0
    · subst h0; exact .inl rfl
    · obtain ⟨b, o, spot⟩ := x
      have cell : ∀ k, k < l → W.cell? ((Addr.add ⟨b, o, spot⟩ (k * 2)).add 0) = some (.int .i64 (F k).1) ∧ W.cell? ((Addr.add ⟨b, o, spot⟩ (k * 2)).add 1) = some (.int .i64 (F k).2) := fun k hk => by
        obtain ⟨cs', h1, h2⟩ := hF k hk
        subst h2
        obtain ⟨_, _, hc⟩ := World.cells?_some h1
        exact And.intro (hc 0 (by omega)) (hc 1 (by omega))
      have hspot : spot = none := by
        have := (cell 0 (by omega)).1
        simpa [Addr.add] using World.cell?_spot this
      subst hspot
      have hb : b < W.heap.size := by
        have := (cell 0 (by omega)).1
        simpa [Addr.add] using spot_lt this
      refine .inr ⟨b, o, rfl, hb, fun k hk => ?_⟩
      have hk2 := hk
      rw [hlen] at hk
      have he : ia ((List.range l).map F) k = F k := by rw [ia_eq hk2]; simp
      rw [he]
      obtain ⟨h1, h2⟩ := cell k hk
      simp only [add_plain] at h1 h2
      exact ⟨h1, h2⟩
/-- One deed. -/
theorem deed_of_trod {fuel : Nat} {cs : List Value} {x : DataW H × List MemPlace} (h : DataW.trod enc Try.prog W 0 (fun _ => true) true fuel 30 cs = some x) :
    ∃ d : Dd, cs = [.int .u8 (d.kind : Nat), .int .i64 d.x.1, .int .i64 d.x.2, .int .i64 d.n] := by
  obtain ⟨xs, n, _, _, hl, hlen, hf⟩ := DataW.trod_struct Try.underlying30 h
  rw [cells30] at hl
  obtain ⟨c0, c1, c2, c3, rfl⟩ := list_four hl
  obtain ⟨x0, x1, x2, rfl⟩ := list_three (show xs.length = 3 from hlen)
  have g0 : DataW.trod enc Try.prog W 0 (fun _ => true) true n 5 (List.take (Try.prog.cellsOf 5) (List.drop 0 [c0, c1, c2, c3])) = some x0 := hf 0 _ rfl
  have g1 : DataW.trod enc Try.prog W 0 (fun _ => true) true n 28 (List.take (Try.prog.cellsOf 28) (List.drop 1 [c0, c1, c2, c3])) = some x1 := hf 1 _ rfl
  have g2 : DataW.trod enc Try.prog W 0 (fun _ => true) true n 3 (List.take (Try.prog.cellsOf 3) (List.drop 3 [c0, c1, c2, c3])) = some x2 := hf 2 _ rfl
  rw [cells5] at g0
  rw [cells28] at g1
  rw [cells3] at g2
  have g0' : DataW.trod enc Try.prog W 0 (fun _ => true) true n 5 [c0] = some x0 := g0
  have g1' : DataW.trod enc Try.prog W 0 (fun _ => true) true n 28 [c1, c2] = some x1 := g1
  have g2' : DataW.trod enc Try.prog W 0 (fun _ => true) true n 3 [c3] = some x2 := g2
  obtain ⟨z, e0, _, wz⟩ := DataW.trod_int Try.underlying5 g0'
  obtain ⟨d, e1⟩ := item_of_trod g1'
  obtain ⟨y, e2, _, _⟩ := DataW.trod_int Try.underlying3 g2'
  injection e0 with e0
  injection e1 with e1 e1'
  injection e1' with e1'
  injection e2 with e2
  subst e0 e1 e1' e2
  have hz : 0 ≤ z ∧ z ≤ 255 := by simpa [Lit.wf, IntKind.min, IntKind.max, IntKind.signed, IntKind.bits] using wz
  refine ⟨⟨z.toNat, d, y⟩, ?_⟩
  simp only [List.cons.injEq, Value.int.injEq, and_true, true_and]
  omega
/-- A slice of deeds that came in. -/
theorem deeds_of_trod {fuel : Nat} {cs : List Value} {x : DataW H × List MemPlace} (h : DataW.trod enc Try.prog W 0 (fun _ => true) true fuel 23 cs = some x) :
    ∃ a c ds, cs = [.slice a ds.length c] ∧ Deeds W a ds ∧ ds.length ≤ 9223372036854775807 := by
  rcases Deep.open_slice Try.underlying23 h with ⟨hcs, _⟩ | ⟨x, l, c, m, n, D, Pl, hcs, _, hl, hm, hmm, _, hel⟩
  · exact ⟨none, 0, [], hcs, .inl rfl, by simp⟩
  · simp only [if_true] at hmm
    subst hmm
    rw [cells30] at hel
    obtain ⟨F, hF⟩ := Deep.choose_lt (α := Dd) (n := l) (p := fun i d => ∃ cs', W.cells? 0 (x.add (i * 4)) 4 = some cs' ∧ cs' = [.int .u8 (d.kind : Nat), .int .i64 d.x.1, .int .i64 d.x.2, .int .i64 d.n]) (fun i hi => by
      obtain ⟨cs', h1, h2⟩ := hel i (by omega)
      obtain ⟨d, h3⟩ := deed_of_trod h2
      exact ⟨d, cs', h1, h3⟩)
    have hlen : ((List.range l).map F).length = l := by simp
    refine ⟨some x, m, (List.range l).map F, by rw [hcs, hlen], ?_, by rw [hlen]; have : maxLen = 9223372036854775807 := rfl; omega⟩
    by_cases h0 : l = 0
    · subst h0; exact .inl rfl
    · obtain ⟨b, o, spot⟩ := x
      have cell : ∀ k, k < l → W.cell? ((Addr.add ⟨b, o, spot⟩ (k * 4)).add 0) = some (.int .u8 ((F k).kind : Nat)) ∧ W.cell? ((Addr.add ⟨b, o, spot⟩ (k * 4)).add 1) = some (.int .i64 (F k).x.1) ∧ W.cell? ((Addr.add ⟨b, o, spot⟩ (k * 4)).add 2) = some (.int .i64 (F k).x.2) ∧ W.cell? ((Addr.add ⟨b, o, spot⟩ (k * 4)).add 3) = some (.int .i64 (F k).n) := fun k hk => by
        obtain ⟨cs', h1, h2⟩ := hF k hk
        subst h2
        obtain ⟨_, _, hc⟩ := World.cells?_some h1
        exact And.intro (hc 0 (by omega)) (And.intro (hc 1 (by omega)) (And.intro (hc 2 (by omega)) (hc 3 (by omega))))
      have hspot : spot = none := by
        have := (cell 0 (by omega)).1
        simpa [Addr.add] using World.cell?_spot this
      subst hspot
      have hb : b < W.heap.size := by
        have := (cell 0 (by omega)).1
        simpa [Addr.add] using spot_lt this
      refine .inr ⟨b, o, rfl, hb, fun k hk => ?_⟩
      rw [hlen] at hk
      have he : ((List.range l).map F)[k]'(by rw [hlen]; exact hk) = F k := by simp
      rw [he]
      obtain ⟨h1, h2, h3, h4⟩ := cell k hk
      simp only [add_plain] at h1 h2 h3 h4
      exact ⟨h1, h2, h3, h4⟩
end
end Go.Proofs.Ythnpjaklcebgfaa
