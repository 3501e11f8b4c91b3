/- Packed texts of one proof. Conditions: none. -/
import Derived.Test.YtbpichjmkllfaaaGreatDoorPq12
namespace Go.Proofs.YtbpichjmkllfaaaGreatDoor.Par
open Go.ChangeShapes Go.WideShapes Go.RowKit
open Lex (Tok tcl tkv tk tc)
set_option linter.unusedVariables false
set_option maxRecDepth 20000
theorem neg_sub (a : Int) : negV a = subV 0 a := by
 rw [sub_B]
 unfold negV
 have : B 0 = 0 := rfl
 rw [this]
 show _ = ((0#64) - B a).toInt
 rw [BitVec.zero_sub]
theorem rneg_v (a v : Int) (h : subV 0 a = v) (w : World) : Calls Tryz.prog 170 #[.int .i64 a] w fun e w' => e = .returned (.int .i64 v) ∧ Below w.heap.size w w' := by
 rw [← h, ← neg_sub]
 exact neg_is a w
def OutP (n : Nat) (R : Fol.Res) (e : Ending) : Prop :=
 match R with
 | .val v b => b < n ∧ e = .returned (.agg (outA v b 0 0))
 | .bad c q => c ≠ 0 ∧ ∃ x y : Int, e = .returned (.agg (outA x y c q))
structure Fx (w W : World) (H1 H2 : Nat) (t : Tok) (o : Array Value) : Prop where
 below : Below w.heap.size w W
 lo : w.heap.size < H1 ∧ H1 < H2
 z : W.heap[w.heap.size]? = some (.cells (outA 0 0 0 0) 213 (0, 0))
 tb : W.heap[H1]? = some (.cells (tcl t) 72 (0, 0))
 ob : W.heap[H2]? = some (.cells o 213 (0, 0))
theorem Fx.next {w W W' : World} {H1 H2 : Nat} {t : Tok} {o : Array Value} (h : Fx w W H1 H2 t o) (k : Below W.heap.size W W') : Fx w W' H1 H2 t o :=
 ⟨h.below.trans (k.mono h.below.size), h.lo, kept_box h.z k, kept_box h.tb k, kept_box h.ob k⟩
theorem Fx.cells {w W : World} {H1 H2 : Nat} {t : Tok} {n a c p : Int} (h : Fx w W H1 H2 t (outA n a c p)) :
  (W.cell? ⟨H1, 0, none⟩ = some (.int .i64 t.kind) ∧ W.cell? ⟨H1, 1, none⟩ = some (.string ⟨t.text.toArray⟩) ∧ W.cell? ⟨H1, 2, none⟩ = some (.int .i64 t.n) ∧ W.cell? ⟨H1, 3, none⟩ = some (.int .i64 t.cls) ∧ W.cell? ⟨H1, 4, none⟩ = some (.int .i64 t.at_)) ∧
  (W.cell? ⟨H2, 0, none⟩ = some (.int .i64 n) ∧ W.cell? ⟨H2, 1, none⟩ = some (.int .i64 a) ∧ W.cell? ⟨H2, 2, none⟩ = some (.int .i64 c) ∧ W.cell? ⟨H2, 3, none⟩ = some (.int .i64 p)) ∧
  (W.cell? ⟨w.heap.size, 0, none⟩ = some (.int .i64 0) ∧ W.cell? ⟨w.heap.size, 1, none⟩ = some (.int .i64 0) ∧ W.cell? ⟨w.heap.size, 2, none⟩ = some (.int .i64 0) ∧ W.cell? ⟨w.heap.size, 3, none⟩ = some (.int .i64 0)) :=
 ⟨⟨cell_in h.tb 0, cell_in h.tb 1, cell_in h.tb 2, cell_in h.tb 3, cell_in h.tb 4⟩, ⟨cell_in h.ob 0, cell_in h.ob 1, cell_in h.ob 2, cell_in h.ob 3⟩, cell_in h.z 0, cell_in h.z 1, cell_in h.z 2, cell_in h.z 3⟩
theorem Fx.frozen {w W : World} {H1 H2 : Nat} {t : Tok} {o : Array Value} (h : Fx w W H1 H2 t o) :
  (W.frozen? ⟨H2, 0, none⟩ = false ∧ W.frozen? ⟨H2, 1, none⟩ = false ∧ W.frozen? ⟨H2, 2, none⟩ = false ∧ W.frozen? ⟨H2, 3, none⟩ = false) ∧
  (W.frozen? ⟨w.heap.size, 0, none⟩ = false ∧ W.frozen? ⟨w.heap.size, 1, none⟩ = false ∧ W.frozen? ⟨w.heap.size, 2, none⟩ = false ∧ W.frozen? ⟨w.heap.size, 3, none⟩ = false) :=
 ⟨⟨frozen_of_row _ _ _ _ _ h.ob, frozen_of_row _ _ _ _ _ h.ob, frozen_of_row _ _ _ _ _ h.ob, frozen_of_row _ _ _ _ _ h.ob⟩, frozen_of_row _ _ _ _ _ h.z, frozen_of_row _ _ _ _ _ h.z, frozen_of_row _ _ _ _ _ h.z, frozen_of_row _ _ _ _ _ h.z⟩
theorem Fx.set {w W : World} {H1 H2 : Nat} {t : Tok} {n a c p : Int} (h : Fx w W H1 H2 t (outA n a c p)) (n' a' c' p' : Int) : Fx w (four W H2 (.int .i64 n') (.int .i64 a') (.int .i64 c') (.int .i64 p')) H1 H2 t (outA n' a' c' p') :=
 ⟨four_below h.below (by have := h.lo; omega), h.lo, by rw [four_far (by have := h.lo; omega)]; exact h.z, by rw [four_far (by have := h.lo; omega)]; exact h.tb, four_heap h.ob⟩
theorem Fx.setN {w W : World} {H1 H2 : Nat} {t : Tok} {n a c p : Int} (h : Fx w W H1 H2 t (outA n a c p)) (n' : Int) : Fx w (W.setCell ⟨H2, 0, none⟩ (.int .i64 n')) H1 H2 t (outA n' a c p) := by
 refine ⟨h.below.setCell (p := ⟨H2, 0, none⟩) (by have := h.lo; show w.heap.size ≤ H2; omega) _, h.lo, ?_, ?_, ?_⟩
 ·rw [Below.heap_setCell _ _ _ _ (by have := h.lo; show w.heap.size ≠ H2; omega)]; exact h.z
 ·rw [Below.heap_setCell _ _ _ _ (by have := h.lo; show H1 ≠ H2; omega)]; exact h.tb
 ·simp [World.setCell, Array.getElem?_modify, h.ob, outA]
theorem Fx.end {w W : World} {H1 H2 : Nat} {t : Tok} {o : Array Value} (h : Fx w W H1 H2 t o) (x0 x1 x2 x3 : Value) :
  (four W w.heap.size x0 x1 x2 x3).heap[w.heap.size]? = some (.cells #[x0, x1, x2, x3] 213 (0, 0)) ∧ Below w.heap.size w (four W w.heap.size x0 x1 x2 x3) := ⟨four_heap h.z, four_below h.below (Nat.le_refl _)⟩
theorem fx_start {w w1 w2 : World} {t : Tok} {n a : Int} (hb1 : Below (w.alloc (.cells (outA 0 0 0 0) 213)).heap.size (w.alloc (.cells (outA 0 0 0 0) 213)) w1)
  (hb2 : Below ((w1.alloc (.cells (tcl t) 72)).alloc (.cells (outA n a 0 0) 213)).heap.size ((w1.alloc (.cells (tcl t) 72)).alloc (.cells (outA n a 0 0) 213)) w2) :
  Fx w w2 w1.heap.size (w1.heap.size + 1) t (outA n a 0 0) := by
 have hs := hb1.size
 rw [World.size_alloc] at hs
 have z : w1.heap[w.heap.size]? = some (.cells (outA 0 0 0 0) 213 (0, 0)) := by
  rw [hb1.block w.heap.size (by simp)]
  exact heap_alloc_new w _
 have b := box_two w1 (.cells (tcl t) 72 (0, 0)) (.cells (outA n a 0 0) 213 (0, 0))
 refine ⟨?_, ⟨by omega, by omega⟩, ?_, ?_, ?_⟩
 ·refine Below.trans (((Below.refl _ w).alloc (Nat.le_refl _) _).trans (hb1.mono (by simp))) ?_
  exact Below.trans (((Below.refl _ w1).alloc (by omega) _).alloc (by simp; omega) _) (hb2.mono (by simp; omega))
 ·rw [hb2.block _ (by simp; omega), Below.heap_alloc _ _ _ (by simp; omega), Below.heap_alloc _ _ _ (by omega)]
  exact z
 ·rw [hb2.block _ (by simp; omega)]; exact b.1
 ·rw [hb2.block _ (by simp)]; exact b.2
section
variable {w : World} {A : Option Addr} {n cp : Nat} {ts : List Tok}
theorem fac_deep_p {p : Nat} {t : Tok} (D : Int) (ht : ts[p]? = some t) (hm : Fol.isT t [45] = false) (hT : IsToks w A n ts) (hW : ∀ t ∈ ts, Wf t) (h1 : Fol.isT t [40] = true) (hD1 : (0 : Int) < D) (hD2 : (32 : Int) ≤ D) : Calls Tryz.prog 162 #[.slice A n cp, .int .i64 (p : Int), .int .i64 D] w fun e w' => e = .returned (.agg (outA 0 0 21 t.at_)) ∧ Below w.heap.size w w' := by
 have hw0 := hW _ (List.mem_of_getElem? ht)
 have hw := hW _ (List.mem_of_getElem? ht)
 have hf := hT.2.1
 have hl0 := (List.getElem?_eq_some_iff.1 ht).1
 have hl := (List.getElem?_eq_some_iff.1 ht).1
 rw [hT.1] at hl hl0
 obtain ⟨b, o, rfl, hlt, d0, d1, d2, d3, d4⟩ := hT.at ht
 have l1 : (0 : Int) ≤ (p : Int) := Int.natCast_nonneg _
 have l2 : (p : Int) < (n : Int) := by omega
 have HT := Hh hT
 have HH := Hh (Ai ht (Ai hw (Ai hw0 hm)))
 have HQ := Hh (Ai h1 trivial)
 obtain ⟨p1, hp1⟩ : ∃ p1, p + 1 = p1 := ⟨_, rfl⟩
 have q3 : (p : Int) + 1 = (p1 : Int) := by omega
 have q4 : wrap64 ((p : Int) + 1) = (p1 : Int) := by rw [q3]; unfold wrap64; omega
 have HP := Hh hp1
 clear hT hW ht hw hw0 hm hp1 h1
 go_enter Tryz.func162, Tryz.ntmps162
 go_wp2_with fail
 refine (sg_v HH.out.2.2.1 45 (by decide) false HH.out.2.2.2 _).mono ?_
 rintro e w1 ⟨rfl, hb1⟩
 have T1 := HT.out.below (((Below.refl _ w).alloc (Nat.le_refl _) (.cells (outA 0 0 0 0) 213)).trans (hb1.mono (by simp)))
 clear hlt d0 d1 d2 d3 d4
 obtain ⟨b', o', eA, hlt, d0, d1, d2, d3, d4⟩ := T1.at HH.out.1
 injection eA with eA
 injection eA with e1 e2
 subst e1; subst e2
 have HB1 := Hh hb1
 have HT1 := Hh T1
 clear hb1 T1
 go_wp2_with fail
 refine (sg_v HH.out.2.1 40 (by decide) true HQ.out.1 _).mono ?_
 rintro e w2 ⟨rfl, hb2⟩
 have F := Hh (fx_start HB1.out hb2)
 obtain ⟨⟨t0', t1', t2', t3', t4'⟩, ⟨y0, y1, y2, y3⟩, x0, x1, x2, x3⟩ := F.out.cells
 obtain ⟨⟨g0, g1, g2, g3⟩, f0, f1, f2, f3⟩ := F.out.frozen
 clear hb2
 go_wp2_with fail
 refine (rbad_v 21 t _).mono ?_
 rintro e w3 ⟨rfl, hb3⟩
 have F3 := Hh (F.out.next hb3)
 clear x0 x1 x2 x3 f0 f1 f2 f3 hb3
 obtain ⟨_, _, x0, x1, x2, x3⟩ := F3.out.cells
 obtain ⟨_, f0, f1, f2, f3⟩ := F3.out.frozen
 unfold outA
 go_wp2_with fail
 refine fin_out (fn := Tryz.f162) rfl rfl (F3.out.end _ _ _ _).1 rfl ?_
 exact ⟨rfl, (F3.out.end _ _ _ _).2⟩
theorem fac_deep_m {a p : Nat} {t0 t : Tok} (D : Int) (hp : a + 1 = p) (h0 : ts[a]? = some t0) (hm : Fol.isT t0 [45] = true) (ht : ts[p]? = some t) (hT : IsToks w A n ts) (hW : ∀ t ∈ ts, Wf t) (h1 : Fol.isT t [40] = true) (hD1 : (0 : Int) < D) (hD2 : (32 : Int) ≤ D) : Calls Tryz.prog 162 #[.slice A n cp, .int .i64 (a : Int), .int .i64 D] w fun e w' => e = .returned (.agg (outA 0 0 21 t.at_)) ∧ Below w.heap.size w w' := by
 have hw0 := hW _ (List.mem_of_getElem? h0)
 have hw := hW _ (List.mem_of_getElem? ht)
 have hf := hT.2.1
 have hl0 := (List.getElem?_eq_some_iff.1 h0).1
 have hl := (List.getElem?_eq_some_iff.1 ht).1
 rw [hT.1] at hl hl0
 obtain ⟨b, o, rfl, hlt, d0, d1, d2, d3, d4⟩ := hT.at h0
 have l1 : (0 : Int) ≤ (a : Int) := Int.natCast_nonneg _
 have l2 : (a : Int) < (n : Int) := by omega
 have HT := Hh hT
 have HH := Hh (Ai ht (Ai hw (Ai hw0 hm)))
 have HQ := Hh (Ai h1 trivial)
 have q1 : (a : Int) + 1 = (p : Int) := by omega
 have q2 : wrap64 ((a : Int) + 1) = (p : Int) := by rw [q1]; unfold wrap64; omega
 obtain ⟨p1, hp1⟩ : ∃ p1, p + 1 = p1 := ⟨_, rfl⟩
 have q3 : (p : Int) + 1 = (p1 : Int) := by omega
 have q4 : wrap64 ((p : Int) + 1) = (p1 : Int) := by rw [q3]; unfold wrap64; omega
 have HP := Hh hp1
 clear hT hW ht hw hw0 hm hp1 h1 h0 hp
 go_enter Tryz.func162, Tryz.ntmps162
 go_wp2_with fail
 refine (sg_v HH.out.2.2.1 45 (by decide) true HH.out.2.2.2 _).mono ?_
 rintro e w1 ⟨rfl, hb1⟩
 have T1 := HT.out.below (((Below.refl _ w).alloc (Nat.le_refl _) (.cells (outA 0 0 0 0) 213)).trans (hb1.mono (by simp)))
 clear hlt d0 d1 d2 d3 d4
 obtain ⟨b', o', eA, hlt, d0, d1, d2, d3, d4⟩ := T1.at HH.out.1
 injection eA with eA
 injection eA with e1 e2
 subst e1; subst e2
 clear l1 l2
 have l1 : (0 : Int) ≤ (p : Int) := Int.natCast_nonneg _
 have l2 : (p : Int) < (n : Int) := by clear q2 q4; omega
 have HB1 := Hh hb1
 have HT1 := Hh T1
 clear hb1 T1
 go_wp2_with fail
 refine (sg_v HH.out.2.1 40 (by decide) true HQ.out.1 _).mono ?_
 rintro e w2 ⟨rfl, hb2⟩
 have F := Hh (fx_start HB1.out hb2)
 obtain ⟨⟨t0', t1', t2', t3', t4'⟩, ⟨y0, y1, y2, y3⟩, x0, x1, x2, x3⟩ := F.out.cells
 obtain ⟨⟨g0, g1, g2, g3⟩, f0, f1, f2, f3⟩ := F.out.frozen
 clear hb2
 go_wp2_with fail
 refine (rbad_v 21 t _).mono ?_
 rintro e w3 ⟨rfl, hb3⟩
 have F3 := Hh (F.out.next hb3)
 clear x0 x1 x2 x3 f0 f1 f2 f3 hb3
 obtain ⟨_, _, x0, x1, x2, x3⟩ := F3.out.cells
 obtain ⟨_, f0, f1, f2, f3⟩ := F3.out.frozen
 unfold outA
 go_wp2_with fail
 refine fin_out (fn := Tryz.f162) rfl rfl (F3.out.end _ _ _ _).1 rfl ?_
 exact ⟨rfl, (F3.out.end _ _ _ _).2⟩
theorem fac_none_p {p : Nat} {t : Tok} (D : Int) (ht : ts[p]? = some t) (hm : Fol.isT t [45] = false) (hT : IsToks w A n ts) (hW : ∀ t ∈ ts, Wf t) (h1 : Fol.isT t [40] = false) (hk : ((t.kind : Int) != 2) = true) : Calls Tryz.prog 162 #[.slice A n cp, .int .i64 (p : Int), .int .i64 D] w fun e w' => e = .returned (.agg (outA 0 0 20 t.at_)) ∧ Below w.heap.size w w' := by
 have hw0 := hW _ (List.mem_of_getElem? ht)
 have hw := hW _ (List.mem_of_getElem? ht)
 have hf := hT.2.1
 have hl0 := (List.getElem?_eq_some_iff.1 ht).1
 have hl := (List.getElem?_eq_some_iff.1 ht).1
 rw [hT.1] at hl hl0
 obtain ⟨b, o, rfl, hlt, d0, d1, d2, d3, d4⟩ := hT.at ht
 have l1 : (0 : Int) ≤ (p : Int) := Int.natCast_nonneg _
 have l2 : (p : Int) < (n : Int) := by omega
 have HT := Hh hT
 have HH := Hh (Ai ht (Ai hw (Ai hw0 hm)))
 have HQ := Hh (Ai h1 trivial)
 obtain ⟨p1, hp1⟩ : ∃ p1, p + 1 = p1 := ⟨_, rfl⟩
 have q3 : (p : Int) + 1 = (p1 : Int) := by omega
 have q4 : wrap64 ((p : Int) + 1) = (p1 : Int) := by rw [q3]; unfold wrap64; omega
 have HP := Hh hp1
 clear hT hW ht hw hw0 hm hp1 h1
 go_enter Tryz.func162, Tryz.ntmps162
 go_wp2_with fail
 refine (sg_v HH.out.2.2.1 45 (by decide) false HH.out.2.2.2 _).mono ?_
 rintro e w1 ⟨rfl, hb1⟩
 have T1 := HT.out.below (((Below.refl _ w).alloc (Nat.le_refl _) (.cells (outA 0 0 0 0) 213)).trans (hb1.mono (by simp)))
 clear hlt d0 d1 d2 d3 d4
 obtain ⟨b', o', eA, hlt, d0, d1, d2, d3, d4⟩ := T1.at HH.out.1
 injection eA with eA
 injection eA with e1 e2
 subst e1; subst e2
 have HB1 := Hh hb1
 have HT1 := Hh T1
 clear hb1 T1
 go_wp2_with fail
 refine (sg_v HH.out.2.1 40 (by decide) false HQ.out.1 _).mono ?_
 rintro e w2 ⟨rfl, hb2⟩
 have F := Hh (fx_start HB1.out hb2)
 obtain ⟨⟨t0', t1', t2', t3', t4'⟩, ⟨y0, y1, y2, y3⟩, x0, x1, x2, x3⟩ := F.out.cells
 obtain ⟨⟨g0, g1, g2, g3⟩, f0, f1, f2, f3⟩ := F.out.frozen
 clear hb2
 go_wp2_with fail
 refine (rbad_v 20 t _).mono ?_
 rintro e w3 ⟨rfl, hb3⟩
 have F3 := Hh (F.out.next hb3)
 clear x0 x1 x2 x3 f0 f1 f2 f3 hb3
 obtain ⟨_, _, x0, x1, x2, x3⟩ := F3.out.cells
 obtain ⟨_, f0, f1, f2, f3⟩ := F3.out.frozen
 unfold outA
 go_wp2_with fail
 refine fin_out (fn := Tryz.f162) rfl rfl (F3.out.end _ _ _ _).1 rfl ?_
 exact ⟨rfl, (F3.out.end _ _ _ _).2⟩
theorem fac_none_m {a p : Nat} {t0 t : Tok} (D : Int) (hp : a + 1 = p) (h0 : ts[a]? = some t0) (hm : Fol.isT t0 [45] = true) (ht : ts[p]? = some t) (hT : IsToks w A n ts) (hW : ∀ t ∈ ts, Wf t) (h1 : Fol.isT t [40] = false) (hk : ((t.kind : Int) != 2) = true) : Calls Tryz.prog 162 #[.slice A n cp, .int .i64 (a : Int), .int .i64 D] w fun e w' => e = .returned (.agg (outA 0 0 20 t.at_)) ∧ Below w.heap.size w w' := by
 have hw0 := hW _ (List.mem_of_getElem? h0)
 have hw := hW _ (List.mem_of_getElem? ht)
 have hf := hT.2.1
 have hl0 := (List.getElem?_eq_some_iff.1 h0).1
 have hl := (List.getElem?_eq_some_iff.1 ht).1
 rw [hT.1] at hl hl0
 obtain ⟨b, o, rfl, hlt, d0, d1, d2, d3, d4⟩ := hT.at h0
 have l1 : (0 : Int) ≤ (a : Int) := Int.natCast_nonneg _
 have l2 : (a : Int) < (n : Int) := by omega
 have HT := Hh hT
 have HH := Hh (Ai ht (Ai hw (Ai hw0 hm)))
 have HQ := Hh (Ai h1 trivial)
 have q1 : (a : Int) + 1 = (p : Int) := by omega
 have q2 : wrap64 ((a : Int) + 1) = (p : Int) := by rw [q1]; unfold wrap64; omega
 obtain ⟨p1, hp1⟩ : ∃ p1, p + 1 = p1 := ⟨_, rfl⟩
 have q3 : (p : Int) + 1 = (p1 : Int) := by omega
 have q4 : wrap64 ((p : Int) + 1) = (p1 : Int) := by rw [q3]; unfold wrap64; omega
 have HP := Hh hp1
 clear hT hW ht hw hw0 hm hp1 h1 h0 hp
 go_enter Tryz.func162, Tryz.ntmps162
 go_wp2_with fail
 refine (sg_v HH.out.2.2.1 45 (by decide) true HH.out.2.2.2 _).mono ?_
 rintro e w1 ⟨rfl, hb1⟩
 have T1 := HT.out.below (((Below.refl _ w).alloc (Nat.le_refl _) (.cells (outA 0 0 0 0) 213)).trans (hb1.mono (by simp)))
 clear hlt d0 d1 d2 d3 d4
 obtain ⟨b', o', eA, hlt, d0, d1, d2, d3, d4⟩ := T1.at HH.out.1
 injection eA with eA
 injection eA with e1 e2
 subst e1; subst e2
 clear l1 l2
 have l1 : (0 : Int) ≤ (p : Int) := Int.natCast_nonneg _
 have l2 : (p : Int) < (n : Int) := by clear q2 q4; omega
 have HB1 := Hh hb1
 have HT1 := Hh T1
 clear hb1 T1
 go_wp2_with fail
 refine (sg_v HH.out.2.1 40 (by decide) false HQ.out.1 _).mono ?_
 rintro e w2 ⟨rfl, hb2⟩
 have F := Hh (fx_start HB1.out hb2)
 obtain ⟨⟨t0', t1', t2', t3', t4'⟩, ⟨y0, y1, y2, y3⟩, x0, x1, x2, x3⟩ := F.out.cells
 obtain ⟨⟨g0, g1, g2, g3⟩, f0, f1, f2, f3⟩ := F.out.frozen
 clear hb2
 go_wp2_with fail
 refine (rbad_v 20 t _).mono ?_
 rintro e w3 ⟨rfl, hb3⟩
 have F3 := Hh (F.out.next hb3)
 clear x0 x1 x2 x3 f0 f1 f2 f3 hb3
 obtain ⟨_, _, x0, x1, x2, x3⟩ := F3.out.cells
 obtain ⟨_, f0, f1, f2, f3⟩ := F3.out.frozen
 unfold outA
 go_wp2_with fail
 refine fin_out (fn := Tryz.f162) rfl rfl (F3.out.end _ _ _ _).1 rfl ?_
 exact ⟨rfl, (F3.out.end _ _ _ _).2⟩
theorem fac_nonz_m {a p : Nat} {t0 t : Tok} (D : Int) (hp : a + 1 = p) (h0 : ts[a]? = some t0) (hm : Fol.isT t0 [45] = true) (ht : ts[p]? = some t) (hT : IsToks w A n ts) (hW : ∀ t ∈ ts, Wf t) (h1 : Fol.isT t [40] = true) (hD : ¬ (0 : Int) < D) (hk : ((t.kind : Int) != 2) = true) : Calls Tryz.prog 162 #[.slice A n cp, .int .i64 (a : Int), .int .i64 D] w fun e w' => e = .returned (.agg (outA 0 0 20 t.at_)) ∧ Below w.heap.size w w' := by
 have hw0 := hW _ (List.mem_of_getElem? h0)
 have hw := hW _ (List.mem_of_getElem? ht)
 have hf := hT.2.1
 have hl0 := (List.getElem?_eq_some_iff.1 h0).1
 have hl := (List.getElem?_eq_some_iff.1 ht).1
 rw [hT.1] at hl hl0
 obtain ⟨b, o, rfl, hlt, d0, d1, d2, d3, d4⟩ := hT.at h0
 have l1 : (0 : Int) ≤ (a : Int) := Int.natCast_nonneg _
 have l2 : (a : Int) < (n : Int) := by omega
 have HT := Hh hT
 have HH := Hh (Ai ht (Ai hw (Ai hw0 hm)))
 have HQ := Hh (Ai h1 trivial)
 have q1 : (a : Int) + 1 = (p : Int) := by omega
 have q2 : wrap64 ((a : Int) + 1) = (p : Int) := by rw [q1]; unfold wrap64; omega
 obtain ⟨p1, hp1⟩ : ∃ p1, p + 1 = p1 := ⟨_, rfl⟩
 have q3 : (p : Int) + 1 = (p1 : Int) := by omega
 have q4 : wrap64 ((p : Int) + 1) = (p1 : Int) := by rw [q3]; unfold wrap64; omega
 have HP := Hh hp1
 clear hT hW ht hw hw0 hm hp1 h1 h0 hp
 go_enter Tryz.func162, Tryz.ntmps162
 go_wp2_with fail
 refine (sg_v HH.out.2.2.1 45 (by decide) true HH.out.2.2.2 _).mono ?_
 rintro e w1 ⟨rfl, hb1⟩
 have T1 := HT.out.below (((Below.refl _ w).alloc (Nat.le_refl _) (.cells (outA 0 0 0 0) 213)).trans (hb1.mono (by simp)))
 clear hlt d0 d1 d2 d3 d4
 obtain ⟨b', o', eA, hlt, d0, d1, d2, d3, d4⟩ := T1.at HH.out.1
 injection eA with eA
 injection eA with e1 e2
 subst e1; subst e2
 clear l1 l2
 have l1 : (0 : Int) ≤ (p : Int) := Int.natCast_nonneg _
 have l2 : (p : Int) < (n : Int) := by clear q2 q4; omega
 have HB1 := Hh hb1
 have HT1 := Hh T1
 clear hb1 T1
 go_wp2_with fail
 refine (sg_v HH.out.2.1 40 (by decide) true HQ.out.1 _).mono ?_
 rintro e w2 ⟨rfl, hb2⟩
 have F := Hh (fx_start HB1.out hb2)
 obtain ⟨⟨t0', t1', t2', t3', t4'⟩, ⟨y0, y1, y2, y3⟩, x0, x1, x2, x3⟩ := F.out.cells
 obtain ⟨⟨g0, g1, g2, g3⟩, f0, f1, f2, f3⟩ := F.out.frozen
 clear hb2
 go_wp2_with fail
 refine (rbad_v 20 t _).mono ?_
 rintro e w3 ⟨rfl, hb3⟩
 have F3 := Hh (F.out.next hb3)
 clear x0 x1 x2 x3 f0 f1 f2 f3 hb3
 obtain ⟨_, _, x0, x1, x2, x3⟩ := F3.out.cells
 obtain ⟨_, f0, f1, f2, f3⟩ := F3.out.frozen
 unfold outA
 go_wp2_with fail
 refine fin_out (fn := Tryz.f162) rfl rfl (F3.out.end _ _ _ _).1 rfl ?_
 exact ⟨rfl, (F3.out.end _ _ _ _).2⟩
theorem fac_range_p {p : Nat} {t : Tok} (D : Int) (ht : ts[p]? = some t) (hm : Fol.isT t [45] = false) (hT : IsToks w A n ts) (hW : ∀ t ∈ ts, Wf t) (h1 : Fol.isT t [40] = false) (hk : ((t.kind : Int) != 2) = false) (hn : t.n < 0) : Calls Tryz.prog 162 #[.slice A n cp, .int .i64 (p : Int), .int .i64 D] w fun e w' => e = .returned (.agg (outA 0 0 2 t.at_)) ∧ Below w.heap.size w w' := by
 have hw0 := hW _ (List.mem_of_getElem? ht)
 have hw := hW _ (List.mem_of_getElem? ht)
 have hf := hT.2.1
 have hl0 := (List.getElem?_eq_some_iff.1 ht).1
 have hl := (List.getElem?_eq_some_iff.1 ht).1
 rw [hT.1] at hl hl0
 obtain ⟨b, o, rfl, hlt, d0, d1, d2, d3, d4⟩ := hT.at ht
 have l1 : (0 : Int) ≤ (p : Int) := Int.natCast_nonneg _
 have l2 : (p : Int) < (n : Int) := by omega
 have HT := Hh hT
 have HH := Hh (Ai ht (Ai hw (Ai hw0 hm)))
 have HQ := Hh (Ai h1 trivial)
 obtain ⟨p1, hp1⟩ : ∃ p1, p + 1 = p1 := ⟨_, rfl⟩
 have q3 : (p : Int) + 1 = (p1 : Int) := by omega
 have q4 : wrap64 ((p : Int) + 1) = (p1 : Int) := by rw [q3]; unfold wrap64; omega
 have HP := Hh hp1
 clear hT hW ht hw hw0 hm hp1 h1
 go_enter Tryz.func162, Tryz.ntmps162
 go_wp2_with fail
 refine (sg_v HH.out.2.2.1 45 (by decide) false HH.out.2.2.2 _).mono ?_
 rintro e w1 ⟨rfl, hb1⟩
 have T1 := HT.out.below (((Below.refl _ w).alloc (Nat.le_refl _) (.cells (outA 0 0 0 0) 213)).trans (hb1.mono (by simp)))
 clear hlt d0 d1 d2 d3 d4
 obtain ⟨b', o', eA, hlt, d0, d1, d2, d3, d4⟩ := T1.at HH.out.1
 injection eA with eA
 injection eA with e1 e2
 subst e1; subst e2
 have HB1 := Hh hb1
 have HT1 := Hh T1
 clear hb1 T1
 go_wp2_with fail
 refine (sg_v HH.out.2.1 40 (by decide) false HQ.out.1 _).mono ?_
 rintro e w2 ⟨rfl, hb2⟩
 have F := Hh (fx_start HB1.out hb2)
 obtain ⟨⟨t0', t1', t2', t3', t4'⟩, ⟨y0, y1, y2, y3⟩, x0, x1, x2, x3⟩ := F.out.cells
 obtain ⟨⟨g0, g1, g2, g3⟩, f0, f1, f2, f3⟩ := F.out.frozen
 clear hb2
 go_wp2_with fail
 refine (rbad_v 2 t _).mono ?_
 rintro e w3 ⟨rfl, hb3⟩
 have F3 := Hh (F.out.next hb3)
 clear x0 x1 x2 x3 f0 f1 f2 f3 hb3
 obtain ⟨_, _, x0, x1, x2, x3⟩ := F3.out.cells
 obtain ⟨_, f0, f1, f2, f3⟩ := F3.out.frozen
 unfold outA
 go_wp2_with fail
 refine fin_out (fn := Tryz.f162) rfl rfl (F3.out.end _ _ _ _).1 rfl ?_
 exact ⟨rfl, (F3.out.end _ _ _ _).2⟩
theorem fac_num_p {p : Nat} {t : Tok} (D : Int) (ht : ts[p]? = some t) (hm : Fol.isT t [45] = false) (hT : IsToks w A n ts) (hW : ∀ t ∈ ts, Wf t) (h1 : Fol.isT t [40] = false) (hk : ((t.kind : Int) != 2) = false) (hn : ¬ t.n < 0) : Calls Tryz.prog 162 #[.slice A n cp, .int .i64 (p : Int), .int .i64 D] w fun e w' => e = .returned (.agg (outA t.n ((p + 1 : Nat) : Int) 0 0)) ∧ Below w.heap.size w w' := by
 have hw0 := hW _ (List.mem_of_getElem? ht)
 have hw := hW _ (List.mem_of_getElem? ht)
 have hf := hT.2.1
 have hl0 := (List.getElem?_eq_some_iff.1 ht).1
 have hl := (List.getElem?_eq_some_iff.1 ht).1
 rw [hT.1] at hl hl0
 obtain ⟨b, o, rfl, hlt, d0, d1, d2, d3, d4⟩ := hT.at ht
 have l1 : (0 : Int) ≤ (p : Int) := Int.natCast_nonneg _
 have l2 : (p : Int) < (n : Int) := by omega
 have HT := Hh hT
 have HH := Hh (Ai ht (Ai hw (Ai hw0 hm)))
 have HQ := Hh (Ai h1 trivial)
 obtain ⟨p1, hp1⟩ : ∃ p1, p + 1 = p1 := ⟨_, rfl⟩
 have q3 : (p : Int) + 1 = (p1 : Int) := by omega
 have q4 : wrap64 ((p : Int) + 1) = (p1 : Int) := by rw [q3]; unfold wrap64; omega
 have HP := Hh hp1
 clear hT hW ht hw hw0 hm hp1 h1
 go_enter Tryz.func162, Tryz.ntmps162
 go_wp2_with fail
 refine (sg_v HH.out.2.2.1 45 (by decide) false HH.out.2.2.2 _).mono ?_
 rintro e w1 ⟨rfl, hb1⟩
 have T1 := HT.out.below (((Below.refl _ w).alloc (Nat.le_refl _) (.cells (outA 0 0 0 0) 213)).trans (hb1.mono (by simp)))
 clear hlt d0 d1 d2 d3 d4
 obtain ⟨b', o', eA, hlt, d0, d1, d2, d3, d4⟩ := T1.at HH.out.1
 injection eA with eA
 injection eA with e1 e2
 subst e1; subst e2
 have HB1 := Hh hb1
 have HT1 := Hh T1
 clear hb1 T1
 go_wp2_with fail
 refine (sg_v HH.out.2.1 40 (by decide) false HQ.out.1 _).mono ?_
 rintro e w2 ⟨rfl, hb2⟩
 have F := Hh (fx_start HB1.out hb2)
 obtain ⟨⟨t0', t1', t2', t3', t4'⟩, ⟨y0, y1, y2, y3⟩, x0, x1, x2, x3⟩ := F.out.cells
 obtain ⟨⟨g0, g1, g2, g3⟩, f0, f1, f2, f3⟩ := F.out.frozen
 clear hb2
 go_wp2_with fail
 refine fin_out (fn := Tryz.f162) rfl rfl (F.out.end _ _ _ _).1 rfl ?_
 refine ⟨?_, (F.out.end _ _ _ _).2⟩
 first | rfl | (rw [HP.out]; rfl)
theorem fac_num_m {a p : Nat} {t0 t : Tok} (D : Int) (hp : a + 1 = p) (h0 : ts[a]? = some t0) (hm : Fol.isT t0 [45] = true) (ht : ts[p]? = some t) (hT : IsToks w A n ts) (hW : ∀ t ∈ ts, Wf t) (h1 : Fol.isT t [40] = false) (hk : ((t.kind : Int) != 2) = false) (v : Int) (hv : subV 0 t.n = v) (hn : ¬ t.n < 0) : Calls Tryz.prog 162 #[.slice A n cp, .int .i64 (a : Int), .int .i64 D] w fun e w' => e = .returned (.agg (outA v ((p + 1 : Nat) : Int) 0 0)) ∧ Below w.heap.size w w' := by
 have hw0 := hW _ (List.mem_of_getElem? h0)
 have hw := hW _ (List.mem_of_getElem? ht)
 have hf := hT.2.1
 have hl0 := (List.getElem?_eq_some_iff.1 h0).1
 have hl := (List.getElem?_eq_some_iff.1 ht).1
 rw [hT.1] at hl hl0
 obtain ⟨b, o, rfl, hlt, d0, d1, d2, d3, d4⟩ := hT.at h0
 have l1 : (0 : Int) ≤ (a : Int) := Int.natCast_nonneg _
 have l2 : (a : Int) < (n : Int) := by omega
 have HT := Hh hT
 have HH := Hh (Ai ht (Ai hw (Ai hw0 hm)))
 have HQ := Hh (Ai h1 hv)
 have q1 : (a : Int) + 1 = (p : Int) := by omega
 have q2 : wrap64 ((a : Int) + 1) = (p : Int) := by rw [q1]; unfold wrap64; omega
 obtain ⟨p1, hp1⟩ : ∃ p1, p + 1 = p1 := ⟨_, rfl⟩
 have q3 : (p : Int) + 1 = (p1 : Int) := by omega
 have q4 : wrap64 ((p : Int) + 1) = (p1 : Int) := by rw [q3]; unfold wrap64; omega
 have HP := Hh hp1
 clear hT hW ht hw hw0 hm hp1 h1 hv h0 hp
 go_enter Tryz.func162, Tryz.ntmps162
 go_wp2_with fail
 refine (sg_v HH.out.2.2.1 45 (by decide) true HH.out.2.2.2 _).mono ?_
 rintro e w1 ⟨rfl, hb1⟩
 have T1 := HT.out.below (((Below.refl _ w).alloc (Nat.le_refl _) (.cells (outA 0 0 0 0) 213)).trans (hb1.mono (by simp)))
 clear hlt d0 d1 d2 d3 d4
 obtain ⟨b', o', eA, hlt, d0, d1, d2, d3, d4⟩ := T1.at HH.out.1
 injection eA with eA
 injection eA with e1 e2
 subst e1; subst e2
 clear l1 l2
 have l1 : (0 : Int) ≤ (p : Int) := Int.natCast_nonneg _
 have l2 : (p : Int) < (n : Int) := by clear q2 q4; omega
 have HB1 := Hh hb1
 have HT1 := Hh T1
 clear hb1 T1
 go_wp2_with fail
 refine (sg_v HH.out.2.1 40 (by decide) false HQ.out.1 _).mono ?_
 rintro e w2 ⟨rfl, hb2⟩
 have F := Hh (fx_start HB1.out hb2)
 obtain ⟨⟨t0', t1', t2', t3', t4'⟩, ⟨y0, y1, y2, y3⟩, x0, x1, x2, x3⟩ := F.out.cells
 obtain ⟨⟨g0, g1, g2, g3⟩, f0, f1, f2, f3⟩ := F.out.frozen
 clear hb2
 have F3 := Hh F.out
 clear x0 x1 x2 x3 f0 f1 f2 f3
 go_wp2_with fail
 refine (rneg_v t.n v HQ.out.2 _).mono ?_
 rintro e w4 ⟨rfl, hb4⟩
 have F4 := F3.out.next hb4
 clear y0 y1 y2 y3 g0 g1 g2 g3 t0' t1' t2' t3' t4'
 obtain ⟨_, ⟨y0, y1, y2, y3⟩, _⟩ := F4.cells
 obtain ⟨⟨g0, g1, g2, g3⟩, _⟩ := F4.frozen
 obtain ⟨w5, hw5⟩ : ∃ w5, w4.setCell ⟨w1.heap.size + 1, 0, none⟩ (.int .i64 v) = w5 := ⟨_, rfl⟩
 have F5 := F4.setN v
 rw [hw5] at F5
 obtain ⟨_, ⟨y0', y1', y2', y3'⟩, x0, x1, x2, x3⟩ := F5.cells
 obtain ⟨_, f0, f1, f2, f3⟩ := F5.frozen
 have F6 := Hh F5
 clear F4 F5 hb4
 go_wp2_with fail
 refine fin_out (fn := Tryz.f162) rfl rfl (F6.out.end _ _ _ _).1 rfl ?_
 refine ⟨?_, (F6.out.end _ _ _ _).2⟩
 first | rfl | (rw [HP.out]; rfl)
theorem fac_numl_m {a p : Nat} {t0 t : Tok} (D : Int) (hp : a + 1 = p) (h0 : ts[a]? = some t0) (hm : Fol.isT t0 [45] = true) (ht : ts[p]? = some t) (hT : IsToks w A n ts) (hW : ∀ t ∈ ts, Wf t) (h1 : Fol.isT t [40] = false) (hk : ((t.kind : Int) != 2) = false) (v : Int) (hv : subV 0 t.n = v) (hn : t.n < 0) : Calls Tryz.prog 162 #[.slice A n cp, .int .i64 (a : Int), .int .i64 D] w fun e w' => e = .returned (.agg (outA v ((p + 1 : Nat) : Int) 0 0)) ∧ Below w.heap.size w w' := by
 have hw0 := hW _ (List.mem_of_getElem? h0)
 have hw := hW _ (List.mem_of_getElem? ht)
 have hf := hT.2.1
 have hl0 := (List.getElem?_eq_some_iff.1 h0).1
 have hl := (List.getElem?_eq_some_iff.1 ht).1
 rw [hT.1] at hl hl0
 obtain ⟨b, o, rfl, hlt, d0, d1, d2, d3, d4⟩ := hT.at h0
 have l1 : (0 : Int) ≤ (a : Int) := Int.natCast_nonneg _
 have l2 : (a : Int) < (n : Int) := by omega
 have HT := Hh hT
 have HH := Hh (Ai ht (Ai hw (Ai hw0 hm)))
 have HQ := Hh (Ai h1 hv)
 have q1 : (a : Int) + 1 = (p : Int) := by omega
 have q2 : wrap64 ((a : Int) + 1) = (p : Int) := by rw [q1]; unfold wrap64; omega
 obtain ⟨p1, hp1⟩ : ∃ p1, p + 1 = p1 := ⟨_, rfl⟩
 have q3 : (p : Int) + 1 = (p1 : Int) := by omega
 have q4 : wrap64 ((p : Int) + 1) = (p1 : Int) := by rw [q3]; unfold wrap64; omega
 have HP := Hh hp1
 clear hT hW ht hw hw0 hm hp1 h1 hv h0 hp
 go_enter Tryz.func162, Tryz.ntmps162
 go_wp2_with fail
 refine (sg_v HH.out.2.2.1 45 (by decide) true HH.out.2.2.2 _).mono ?_
 rintro e w1 ⟨rfl, hb1⟩
 have T1 := HT.out.below (((Below.refl _ w).alloc (Nat.le_refl _) (.cells (outA 0 0 0 0) 213)).trans (hb1.mono (by simp)))
 clear hlt d0 d1 d2 d3 d4
 obtain ⟨b', o', eA, hlt, d0, d1, d2, d3, d4⟩ := T1.at HH.out.1
 injection eA with eA
 injection eA with e1 e2
 subst e1; subst e2
 clear l1 l2
 have l1 : (0 : Int) ≤ (p : Int) := Int.natCast_nonneg _
 have l2 : (p : Int) < (n : Int) := by clear q2 q4; omega
 have HB1 := Hh hb1
 have HT1 := Hh T1
 clear hb1 T1
 go_wp2_with fail
 refine (sg_v HH.out.2.1 40 (by decide) false HQ.out.1 _).mono ?_
 rintro e w2 ⟨rfl, hb2⟩
 have F := Hh (fx_start HB1.out hb2)
 obtain ⟨⟨t0', t1', t2', t3', t4'⟩, ⟨y0, y1, y2, y3⟩, x0, x1, x2, x3⟩ := F.out.cells
 obtain ⟨⟨g0, g1, g2, g3⟩, f0, f1, f2, f3⟩ := F.out.frozen
 clear hb2
 have F3 := Hh F.out
 clear x0 x1 x2 x3 f0 f1 f2 f3
 go_wp2_with fail
 refine (rneg_v t.n v HQ.out.2 _).mono ?_
 rintro e w4 ⟨rfl, hb4⟩
 have F4 := F3.out.next hb4
 clear y0 y1 y2 y3 g0 g1 g2 g3 t0' t1' t2' t3' t4'
 obtain ⟨_, ⟨y0, y1, y2, y3⟩, _⟩ := F4.cells
 obtain ⟨⟨g0, g1, g2, g3⟩, _⟩ := F4.frozen
 obtain ⟨w5, hw5⟩ : ∃ w5, w4.setCell ⟨w1.heap.size + 1, 0, none⟩ (.int .i64 v) = w5 := ⟨_, rfl⟩
 have F5 := F4.setN v
 rw [hw5] at F5
 obtain ⟨_, ⟨y0', y1', y2', y3'⟩, x0, x1, x2, x3⟩ := F5.cells
 obtain ⟨_, f0, f1, f2, f3⟩ := F5.frozen
 have F6 := Hh F5
 clear F4 F5 hb4
 go_wp2_with fail
 refine fin_out (fn := Tryz.f162) rfl rfl (F6.out.end _ _ _ _).1 rfl ?_
 refine ⟨?_, (F6.out.end _ _ _ _).2⟩
 first | rfl | (rw [HP.out]; rfl)
theorem fac_paren_p {p : Nat} {t : Tok} (D : Int) (ht : ts[p]? = some t) (hm : Fol.isT t [45] = false) (hT : IsToks w A n ts) (hW : ∀ t ∈ ts, Wf t) (h1 : Fol.isT t [40] = true) (hD1 : (0 : Int) < D) (hD2 : ¬ (32 : Int) ≤ D) (hD3 : D ≤ 100) (D1 : Int) (hD4 : D + 1 = D1) (RR : Fol.Res → Prop) (hS : ∀ W, IsToks W A n ts → Calls Tryz.prog 161 #[.slice A n cp, .int .i64 ((p + 1 : Nat) : Int), .int .i64 D1] W fun e w' => ∃ R, RR R ∧ OutP n R e ∧ Below W.heap.size W w') : Calls Tryz.prog 162 #[.slice A n cp, .int .i64 (p : Int), .int .i64 D] w fun e w' => ∃ R, RR R ∧ OutP n (negR false R) e ∧ Below w.heap.size w w' := by
 have hw0 := hW _ (List.mem_of_getElem? ht)
 have hw := hW _ (List.mem_of_getElem? ht)
 have hf := hT.2.1
 have hl0 := (List.getElem?_eq_some_iff.1 ht).1
 have hl := (List.getElem?_eq_some_iff.1 ht).1
 rw [hT.1] at hl hl0
 obtain ⟨b, o, rfl, hlt, d0, d1, d2, d3, d4⟩ := hT.at ht
 have l1 : (0 : Int) ≤ (p : Int) := Int.natCast_nonneg _
 have l2 : (p : Int) < (n : Int) := by omega
 have HT := Hh hT
 have HH := Hh (Ai ht (Ai hw (Ai hw0 hm)))
 have HQ := Hh (Ai h1 hS)
 have q5 : wrap64 (D + 1) = D1 := by unfold wrap64; omega
 obtain ⟨p1, hp1⟩ : ∃ p1, p + 1 = p1 := ⟨_, rfl⟩
 have q3 : (p : Int) + 1 = (p1 : Int) := by omega
 have q4 : wrap64 ((p : Int) + 1) = (p1 : Int) := by rw [q3]; unfold wrap64; omega
 have HP := Hh hp1
 clear hT hW ht hw hw0 hm hp1 h1 hS hD3
 go_enter Tryz.func162, Tryz.ntmps162
 go_wp2_with fail
 refine (sg_v HH.out.2.2.1 45 (by decide) false HH.out.2.2.2 _).mono ?_
 rintro e w1 ⟨rfl, hb1⟩
 have T1 := HT.out.below (((Below.refl _ w).alloc (Nat.le_refl _) (.cells (outA 0 0 0 0) 213)).trans (hb1.mono (by simp)))
 clear hlt d0 d1 d2 d3 d4
 obtain ⟨b', o', eA, hlt, d0, d1, d2, d3, d4⟩ := T1.at HH.out.1
 injection eA with eA
 injection eA with e1 e2
 subst e1; subst e2
 have HB1 := Hh hb1
 have HT1 := Hh T1
 clear hb1 T1
 go_wp2_with fail
 refine (sg_v HH.out.2.1 40 (by decide) true HQ.out.1 _).mono ?_
 rintro e w2 ⟨rfl, hb2⟩
 have F := Hh (fx_start HB1.out hb2)
 obtain ⟨⟨t0', t1', t2', t3', t4'⟩, ⟨y0, y1, y2, y3⟩, x0, x1, x2, x3⟩ := F.out.cells
 obtain ⟨⟨g0, g1, g2, g3⟩, f0, f1, f2, f3⟩ := F.out.frozen
 clear hb2
 have T2 := Hh (HT.out.below F.out.below)
 clear x0 x1 x2 x3 f0 f1 f2 f3
 go_wp2_with fail
 have hcall := HQ.out.2 w2 T2.out
 rw [HP.out] at hcall
 refine hcall.mono ?_
 rintro e w3 ⟨R, hR, hO, hb3⟩
 have F3 := F.out.next hb3
 clear y0 y1 y2 y3 g0 g1 g2 g3 t0' t1' t2' t3' t4' hcall
 obtain ⟨_, ⟨y0, y1, y2, y3⟩, _⟩ := F3.cells
 obtain ⟨⟨g0, g1, g2, g3⟩, _⟩ := F3.frozen
 have HR := Hh hR
 cases R with
 | bad c q =>
  obtain ⟨hc, x, y, rfl⟩ := hO
  have hc' : (c != 0) = true := by simpa using hc
  have F4 := F3.set x y c q
  have HC := Hh hc
  obtain ⟨w5, hw5⟩ : ∃ w5, four w3 (w1.heap.size + 1) (.int .i64 x) (.int .i64 y) (.int .i64 c) (.int .i64 (q : Int)) = w5 := ⟨_, rfl⟩
  rw [hw5] at F4
  obtain ⟨_, ⟨y0', y1', y2', y3'⟩, x0, x1, x2, x3⟩ := F4.cells
  obtain ⟨_, f0, f1, f2, f3⟩ := F4.frozen
  have F5 := Hh F4
  unfold four at hw5
  clear F4 F3 hb3 hc hR
  unfold outA
  go_wp2_with fail
  refine fin_out (fn := Tryz.f162) rfl rfl (F5.out.end _ _ _ _).1 rfl ?_
  exact ⟨_, HR.out, ⟨HC.out, x, y, rfl⟩, (F5.out.end _ _ _ _).2⟩
 | val v0 b0 =>
  obtain ⟨hb0, rfl⟩ := hO
  have F4 := F3.set v0 b0 0 0
  have HB0 := Hh hb0
  obtain ⟨w5, hw5⟩ : ∃ w5, four w3 (w1.heap.size + 1) (.int .i64 v0) (.int .i64 (b0 : Int)) (.int .i64 0) (.int .i64 0) = w5 := ⟨_, rfl⟩
  rw [hw5] at F4
  obtain ⟨_, ⟨y0', y1', y2', y3'⟩, x0, x1, x2, x3⟩ := F4.cells
  obtain ⟨_, f0, f1, f2, f3⟩ := F4.frozen
  have F5 := Hh F4
  unfold four at hw5
  clear F4 F3 hb3 hb0 hR
  unfold outA
  go_wp2_with fail
  refine fin_out (fn := Tryz.f162) rfl rfl (F5.out.end _ _ _ _).1 rfl ?_
  exact ⟨_, HR.out, ⟨HB0.out, rfl⟩, (F5.out.end _ _ _ _).2⟩
theorem fac_paren_m {a p : Nat} {t0 t : Tok} (D : Int) (hp : a + 1 = p) (h0 : ts[a]? = some t0) (hm : Fol.isT t0 [45] = true) (ht : ts[p]? = some t) (hT : IsToks w A n ts) (hW : ∀ t ∈ ts, Wf t) (h1 : Fol.isT t [40] = true) (hD1 : (0 : Int) < D) (hD2 : ¬ (32 : Int) ≤ D) (hD3 : D ≤ 100) (D1 : Int) (hD4 : D + 1 = D1) (RR : Fol.Res → Prop) (hS : ∀ W, IsToks W A n ts → Calls Tryz.prog 161 #[.slice A n cp, .int .i64 ((p + 1 : Nat) : Int), .int .i64 D1] W fun e w' => ∃ R, RR R ∧ OutP n R e ∧ Below W.heap.size W w') : Calls Tryz.prog 162 #[.slice A n cp, .int .i64 (a : Int), .int .i64 D] w fun e w' => ∃ R, RR R ∧ OutP n (negR true R) e ∧ Below w.heap.size w w' := by
 have hw0 := hW _ (List.mem_of_getElem? h0)
 have hw := hW _ (List.mem_of_getElem? ht)
 have hf := hT.2.1
 have hl0 := (List.getElem?_eq_some_iff.1 h0).1
 have hl := (List.getElem?_eq_some_iff.1 ht).1
 rw [hT.1] at hl hl0
 obtain ⟨b, o, rfl, hlt, d0, d1, d2, d3, d4⟩ := hT.at h0
 have l1 : (0 : Int) ≤ (a : Int) := Int.natCast_nonneg _
 have l2 : (a : Int) < (n : Int) := by omega
 have HT := Hh hT
 have HH := Hh (Ai ht (Ai hw (Ai hw0 hm)))
 have HQ := Hh (Ai h1 hS)
 have q5 : wrap64 (D + 1) = D1 := by unfold wrap64; omega
 have q1 : (a : Int) + 1 = (p : Int) := by omega
 have q2 : wrap64 ((a : Int) + 1) = (p : Int) := by rw [q1]; unfold wrap64; omega
 obtain ⟨p1, hp1⟩ : ∃ p1, p + 1 = p1 := ⟨_, rfl⟩
 have q3 : (p : Int) + 1 = (p1 : Int) := by omega
 have q4 : wrap64 ((p : Int) + 1) = (p1 : Int) := by rw [q3]; unfold wrap64; omega
 have HP := Hh hp1
 clear hT hW ht hw hw0 hm hp1 h1 hS hD3 h0 hp
 go_enter Tryz.func162, Tryz.ntmps162
 go_wp2_with fail
 refine (sg_v HH.out.2.2.1 45 (by decide) true HH.out.2.2.2 _).mono ?_
 rintro e w1 ⟨rfl, hb1⟩
 have T1 := HT.out.below (((Below.refl _ w).alloc (Nat.le_refl _) (.cells (outA 0 0 0 0) 213)).trans (hb1.mono (by simp)))
 clear hlt d0 d1 d2 d3 d4
 obtain ⟨b', o', eA, hlt, d0, d1, d2, d3, d4⟩ := T1.at HH.out.1
 injection eA with eA
 injection eA with e1 e2
 subst e1; subst e2
 clear l1 l2
 have l1 : (0 : Int) ≤ (p : Int) := Int.natCast_nonneg _
 have l2 : (p : Int) < (n : Int) := by clear q2 q4; omega
 have HB1 := Hh hb1
 have HT1 := Hh T1
 clear hb1 T1
 go_wp2_with fail
 refine (sg_v HH.out.2.1 40 (by decide) true HQ.out.1 _).mono ?_
 rintro e w2 ⟨rfl, hb2⟩
 have F := Hh (fx_start HB1.out hb2)
 obtain ⟨⟨t0', t1', t2', t3', t4'⟩, ⟨y0, y1, y2, y3⟩, x0, x1, x2, x3⟩ := F.out.cells
 obtain ⟨⟨g0, g1, g2, g3⟩, f0, f1, f2, f3⟩ := F.out.frozen
 clear hb2
 have T2 := Hh (HT.out.below F.out.below)
 clear x0 x1 x2 x3 f0 f1 f2 f3
 go_wp2_with fail
 have hcall := HQ.out.2 w2 T2.out
 rw [HP.out] at hcall
 refine hcall.mono ?_
 rintro e w3 ⟨R, hR, hO, hb3⟩
 have F3 := F.out.next hb3
 clear y0 y1 y2 y3 g0 g1 g2 g3 t0' t1' t2' t3' t4' hcall
 obtain ⟨_, ⟨y0, y1, y2, y3⟩, _⟩ := F3.cells
 obtain ⟨⟨g0, g1, g2, g3⟩, _⟩ := F3.frozen
 have HR := Hh hR
 cases R with
 | bad c q =>
  obtain ⟨hc, x, y, rfl⟩ := hO
  have hc' : (c != 0) = true := by simpa using hc
  have F4 := F3.set x y c q
  have HC := Hh hc
  obtain ⟨w5, hw5⟩ : ∃ w5, four w3 (w1.heap.size + 1) (.int .i64 x) (.int .i64 y) (.int .i64 c) (.int .i64 (q : Int)) = w5 := ⟨_, rfl⟩
  rw [hw5] at F4
  obtain ⟨_, ⟨y0', y1', y2', y3'⟩, x0, x1, x2, x3⟩ := F4.cells
  obtain ⟨_, f0, f1, f2, f3⟩ := F4.frozen
  have F5 := Hh F4
  unfold four at hw5
  clear F4 F3 hb3 hc hR
  unfold outA
  go_wp2_with fail
  refine fin_out (fn := Tryz.f162) rfl rfl (F5.out.end _ _ _ _).1 rfl ?_
  exact ⟨_, HR.out, ⟨HC.out, x, y, rfl⟩, (F5.out.end _ _ _ _).2⟩
 | val v0 b0 =>
  obtain ⟨hb0, rfl⟩ := hO
  have F4 := F3.set v0 b0 0 0
  have HB0 := Hh hb0
  obtain ⟨w5, hw5⟩ : ∃ w5, four w3 (w1.heap.size + 1) (.int .i64 v0) (.int .i64 (b0 : Int)) (.int .i64 0) (.int .i64 0) = w5 := ⟨_, rfl⟩
  rw [hw5] at F4
  obtain ⟨_, ⟨y0', y1', y2', y3'⟩, x0, x1, x2, x3⟩ := F4.cells
  obtain ⟨_, f0, f1, f2, f3⟩ := F4.frozen
  have F5 := Hh F4
  unfold four at hw5
  clear F4 F3 hb3 hb0 hR
  unfold outA
  clear x0 x1 x2 x3 f0 f1 f2 f3
  go_wp2_with fail
  refine (rneg_v v0 _ rfl _).mono ?_
  rintro e w6 ⟨rfl, hb6⟩
  have F6 := F5.out.next hb6
  clear y0 y1 y2 y3 g0 g1 g2 g3 y0' y1' y2' y3'
  obtain ⟨_, ⟨y0, y1, y2, y3⟩, _⟩ := F6.cells
  obtain ⟨⟨g0, g1, g2, g3⟩, _⟩ := F6.frozen
  obtain ⟨v, hv⟩ : ∃ v, subV 0 v0 = v := ⟨_, rfl⟩
  have HV := Hh hv
  rw [hv]
  clear hv
  obtain ⟨w7, hw7⟩ : ∃ w7, w6.setCell ⟨w1.heap.size + 1, 0, none⟩ (.int .i64 v) = w7 := ⟨_, rfl⟩
  have F7 := F6.setN v
  rw [hw7] at F7
  obtain ⟨_, ⟨y0', y1', y2', y3'⟩, x0, x1, x2, x3⟩ := F7.cells
  obtain ⟨_, f0, f1, f2, f3⟩ := F7.frozen
  have F8 := Hh F7
  clear F6 F7 hb6
  go_wp2_with fail
  refine fin_out (fn := Tryz.f162) rfl rfl (F8.out.end _ _ _ _).1 rfl ?_
  refine ⟨_, HR.out, ⟨HB0.out, ?_⟩, (F8.out.end _ _ _ _).2⟩
  unfold negIf
  rw [if_pos rfl, HV.out]; rfl
end
end Go.Proofs.YtbpichjmkllfaaaGreatDoor.Par
