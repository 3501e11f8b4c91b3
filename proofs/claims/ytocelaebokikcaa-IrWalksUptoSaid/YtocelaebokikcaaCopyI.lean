/- What CopyInstr makes. -/
import Derived.Test.YtocelaebokikcaaOwn
namespace Go.Proofs.Ytocelaebokikcaa
open Go.ChangeShapes Go.WideShapes Go.RowKit
set_option linter.unusedVariables false
set_option maxRecDepth 20000

theorem froz_in {w : World} {g : Nat} {cs : Array Value} {t : TypeId} (h : w.heap[g]? = some (.cells cs t (0, 0))) (j : Nat) : w.frozen? ⟨g, j, none⟩ = false := by
  simp [World.frozen?, h]
theorem set_at {w : World} {g : Nat} {cs : Array Value} {t : TypeId} {fr : Nat × Nat} (h : w.heap[g]? = some (.cells cs t fr)) (i : Nat) (v : Value) : (w.setCell ⟨g, i, none⟩ v).heap[g]? = some (.cells (cs.setIfInBounds i v) t fr) := by
  simp [World.setCell, Array.getElem?_modify, h]
theorem set_far {w : World} {g g' : Nat} (hne : g ≠ g') (i : Nat) (v : Value) : (w.setCell ⟨g', i, none⟩ v).heap[g]? = w.heap[g]? := Below.heap_setCell w _ v g hne
/-- Where the lists of a copied instruction are. -/
def ownI (i : Ins) (r : InsV) (g1 g2 g3 : Nat) : InsV := ⟨some ⟨g1, 0, none⟩, r.an, r.an, some ⟨g2, 0, none⟩, r.ln, r.ln, some ⟨g3, 0, none⟩, r.cn, r.cn⟩
structure CopyI (i : Ins) (r : InsV) (w : World) (e : Ending) (w' : World) : Prop where
  out : ∃ g1 g2 g3, e = .returned (.agg (insR i (ownI i r g1 g2 g3))) ∧ w.heap.size ≤ g1 ∧ g1 < g2 ∧ g2 < g3 ∧ g3 < w'.heap.size ∧
    w'.heap[g1]? = some (.cells (i.args.flatMap Opn.cs).toArray 44 (0, 0)) ∧ w'.heap[g2]? = some (.cells (i.labels.flatMap strC).toArray 9 (0, 0)) ∧ w'.heap[g3]? = some (.cells (i.cases.flatMap intC).toArray 3 (0, 0)) ∧ Below w.heap.size w w'
/-- So many cells laid in. -/
def lay4 (w : World) (b : Nat) (x0 x1 x2 x3 : Value) : World := ((((w.setCell ⟨b, 0, none⟩ x0).setCell ⟨b, 1, none⟩ x1).setCell ⟨b, 2, none⟩ x2).setCell ⟨b, 3, none⟩ x3)
theorem lay4_at {w : World} {b : Nat} {x0 x1 x2 x3 y0 y1 y2 y3 : Value} {T : TypeId} (h : w.heap[b]? = some (.cells #[y0, y1, y2, y3] T (0, 0))) : (lay4 w b x0 x1 x2 x3).heap[b]? = some (.cells #[x0, x1, x2, x3] T (0, 0)) := by
  unfold lay4
  simp [World.setCell, Array.getElem?_modify, h]
theorem lay4_far {w : World} {b g : Nat} (hne : g ≠ b) (x0 x1 x2 x3 : Value) : (lay4 w b x0 x1 x2 x3).heap[g]? = w.heap[g]? := by
  unfold lay4
  simp only [set_far hne]
theorem lay4_below {B : Nat} {w w1 : World} {b : Nat} (x0 x1 x2 x3 : Value) (h : Below B w w1) (hb : B ≤ b) : Below B w (lay4 w1 b x0 x1 x2 x3) := ((((h.setCell (p := ⟨b, 0, none⟩) hb _).setCell (p := ⟨b, 1, none⟩) hb _).setCell (p := ⟨b, 2, none⟩) hb _).setCell (p := ⟨b, 3, none⟩) hb _)
theorem lay4_size (w : World) (b : Nat) (x0 x1 x2 x3 : Value) : (lay4 w b x0 x1 x2 x3).heap.size = w.heap.size := by unfold lay4; simp [World.setCell]
/-- So many cells laid in. -/
def lay5 (w : World) (b : Nat) (x0 x1 x2 x3 x4 : Value) : World := (((((w.setCell ⟨b, 0, none⟩ x0).setCell ⟨b, 1, none⟩ x1).setCell ⟨b, 2, none⟩ x2).setCell ⟨b, 3, none⟩ x3).setCell ⟨b, 4, none⟩ x4)
theorem lay5_at {w : World} {b : Nat} {x0 x1 x2 x3 x4 y0 y1 y2 y3 y4 : Value} {T : TypeId} (h : w.heap[b]? = some (.cells #[y0, y1, y2, y3, y4] T (0, 0))) : (lay5 w b x0 x1 x2 x3 x4).heap[b]? = some (.cells #[x0, x1, x2, x3, x4] T (0, 0)) := by
  unfold lay5
  simp [World.setCell, Array.getElem?_modify, h]
theorem lay5_far {w : World} {b g : Nat} (hne : g ≠ b) (x0 x1 x2 x3 x4 : Value) : (lay5 w b x0 x1 x2 x3 x4).heap[g]? = w.heap[g]? := by
  unfold lay5
  simp only [set_far hne]
theorem lay5_below {B : Nat} {w w1 : World} {b : Nat} (x0 x1 x2 x3 x4 : Value) (h : Below B w w1) (hb : B ≤ b) : Below B w (lay5 w1 b x0 x1 x2 x3 x4) := (((((h.setCell (p := ⟨b, 0, none⟩) hb _).setCell (p := ⟨b, 1, none⟩) hb _).setCell (p := ⟨b, 2, none⟩) hb _).setCell (p := ⟨b, 3, none⟩) hb _).setCell (p := ⟨b, 4, none⟩) hb _)
theorem lay5_size (w : World) (b : Nat) (x0 x1 x2 x3 x4 : Value) : (lay5 w b x0 x1 x2 x3 x4).heap.size = w.heap.size := by unfold lay5; simp [World.setCell]
/-- So many cells laid in. -/
def lay10 (w : World) (b : Nat) (x0 x1 x2 x3 x4 x5 x6 x7 x8 x9 : Value) : World := ((((((((((w.setCell ⟨b, 0, none⟩ x0).setCell ⟨b, 1, none⟩ x1).setCell ⟨b, 2, none⟩ x2).setCell ⟨b, 3, none⟩ x3).setCell ⟨b, 4, none⟩ x4).setCell ⟨b, 5, none⟩ x5).setCell ⟨b, 6, none⟩ x6).setCell ⟨b, 7, none⟩ x7).setCell ⟨b, 8, none⟩ x8).setCell ⟨b, 9, none⟩ x9)
theorem lay10_at {w : World} {b : Nat} {x0 x1 x2 x3 x4 x5 x6 x7 x8 x9 y0 y1 y2 y3 y4 y5 y6 y7 y8 y9 : Value} {T : TypeId} (h : w.heap[b]? = some (.cells #[y0, y1, y2, y3, y4, y5, y6, y7, y8, y9] T (0, 0))) : (lay10 w b x0 x1 x2 x3 x4 x5 x6 x7 x8 x9).heap[b]? = some (.cells #[x0, x1, x2, x3, x4, x5, x6, x7, x8, x9] T (0, 0)) := by
  unfold lay10
  simp [World.setCell, Array.getElem?_modify, h]
theorem lay10_far {w : World} {b g : Nat} (hne : g ≠ b) (x0 x1 x2 x3 x4 x5 x6 x7 x8 x9 : Value) : (lay10 w b x0 x1 x2 x3 x4 x5 x6 x7 x8 x9).heap[g]? = w.heap[g]? := by
  unfold lay10
  simp only [set_far hne]
theorem lay10_below {B : Nat} {w w1 : World} {b : Nat} (x0 x1 x2 x3 x4 x5 x6 x7 x8 x9 : Value) (h : Below B w w1) (hb : B ≤ b) : Below B w (lay10 w1 b x0 x1 x2 x3 x4 x5 x6 x7 x8 x9) := ((((((((((h.setCell (p := ⟨b, 0, none⟩) hb _).setCell (p := ⟨b, 1, none⟩) hb _).setCell (p := ⟨b, 2, none⟩) hb _).setCell (p := ⟨b, 3, none⟩) hb _).setCell (p := ⟨b, 4, none⟩) hb _).setCell (p := ⟨b, 5, none⟩) hb _).setCell (p := ⟨b, 6, none⟩) hb _).setCell (p := ⟨b, 7, none⟩) hb _).setCell (p := ⟨b, 8, none⟩) hb _).setCell (p := ⟨b, 9, none⟩) hb _)
theorem lay10_size (w : World) (b : Nat) (x0 x1 x2 x3 x4 x5 x6 x7 x8 x9 : Value) : (lay10 w b x0 x1 x2 x3 x4 x5 x6 x7 x8 x9).heap.size = w.heap.size := by unfold lay10; simp [World.setCell]
set_option maxHeartbeats 2000000 in
theorem copyI_v (i : Ins) (r : InsV) (w : World) (h : IsIns w i r) (h1 : r.an ≤ 1048576) (h2 : r.ln ≤ 1048576) (h3 : r.cn ≤ 1048576) : Calls Try.prog 43 #[.agg (insR i r)] w (CopyI i r w) := by
  have B0 : Below w.heap.size w ((w.alloc (.cells (insR i r) 51)).alloc (.cells #[.int .i64 0, .int .i64 0, .int .i64 0, .int .i64 0, .int .i64 0, .slice none 0 0, .string ⟨#[]⟩, .int .i64 0, .slice none 0 0, .slice none 0 0] 51)) := ((Below.refl _ w).alloc (Nat.le_refl _) _).alloc (by simp) _
  have D := Lib.hid (And.intro h (And.intro (show ((w.alloc (.cells (insR i r) 51)).alloc (.cells #[.int .i64 0, .int .i64 0, .int .i64 0, .int .i64 0, .int .i64 0, .slice none 0 0, .string ⟨#[]⟩, .int .i64 0, .slice none 0 0, .slice none 0 0] 51)).heap.size = w.heap.size + 2 by simp) (And.intro B0 (box_two w (.cells (insR i r) 51) (.cells #[.int .i64 0, .int .i64 0, .int .i64 0, .int .i64 0, .int .i64 0, .slice none 0 0, .string ⟨#[]⟩, .int .i64 0, .slice none 0 0, .slice none 0 0] 51)))))
  clear h B0
  obtain ⟨op, ⟨k, c, n, t⟩, args, name, off, labels, cas⟩ := i
  obtain ⟨aa, an, ac, la, ln, lc, ca, cn, cc⟩ := r
  unfold insR at D ⊢
  dsimp only at D h1 h2 h3 ⊢
  go_enter Try.func43, Try.ntmps43
  go_wp2_with fail
  obtain ⟨wA, hwA⟩ : ∃ wA, (w.alloc (.cells #[.int .i64 op, .int .i64 k, .int .i64 c, .int .i64 n, .int .i64 t, .slice aa an ac, .string name, .int .i64 off, .slice la ln lc, .slice ca cn cc] 51)).alloc (.cells #[.int .i64 0, .int .i64 0, .int .i64 0, .int .i64 0, .int .i64 0, .slice none 0 0, .string ⟨#[]⟩, .int .i64 0, .slice none 0 0, .slice none 0 0] 51) = wA := ⟨_, rfl⟩
  rw [hwA] at D ⊢
  clear hwA
  obtain ⟨P, hP⟩ : ∃ P, w.heap.size = P := ⟨_, rfl⟩
  have E0 := Lib.hid (show P = w.heap.size ∧ P + 2 ≤ wA.heap.size ∧ Below P w wA ∧ wA.heap[P]? = some (.cells #[.int .i64 op, .int .i64 k, .int .i64 c, .int .i64 n, .int .i64 t, .slice aa an ac, .string name, .int .i64 off, .slice la ln lc, .slice ca cn cc] 51 (0, 0)) ∧ wA.heap[P + 1]? = some (.cells #[.int .i64 0, .int .i64 0, .int .i64 0, .int .i64 0, .int .i64 0, .slice none 0 0, .string ⟨#[]⟩, .int .i64 0, .slice none 0 0, .slice none 0 0] 51 (0, 0)) from by
    rw [← hP]; exact ⟨rfl, by rw [D.out.2.1]; omega, D.out.2.2.1, D.out.2.2.2.1, D.out.2.2.2.2⟩)
  rw [hP]
  clear hP
  refine (own53_v _ _ _ _ _ (D.out.1.args.below (show Below w.heap.size w wA from E0.out.1 ▸ E0.out.2.2.1)) h1).mono ?_
  rintro e w1 ⟨rfl, hg, hb⟩
  obtain ⟨g1, hg1⟩ : ∃ g, wA.heap.size = g := ⟨_, rfl⟩
  have hsz := E0.out.2.1
  have m1 := kept_box E0.out.2.2.2.1 hb
  have m2 := kept_box E0.out.2.2.2.2 hb
  rw [hg1] at hg hb hsz ⊢
  have hgl := (Array.getElem?_eq_some_iff.1 hg).1
  have z1 : w1.cell? ⟨P, 5, none⟩ = some (.slice aa an ac) := cell_in m1 5
  have f1 : w1.frozen? ⟨P, 5, none⟩ = false := froz_in m1 5
  have z2 : w1.cell? ⟨P, 8, none⟩ = some (.slice la ln lc) := cell_in m1 8
  have E1 := Lib.hid (show P = w.heap.size ∧ P + 2 ≤ (w1.setCell ⟨P, 5, none⟩ (.slice (some ⟨g1, 0, none⟩) an an)).heap.size ∧ Below P w (w1.setCell ⟨P, 5, none⟩ (.slice (some ⟨g1, 0, none⟩) an an)) ∧ (w1.setCell ⟨P, 5, none⟩ (.slice (some ⟨g1, 0, none⟩) an an)).heap[P]? = some (.cells #[.int .i64 op, .int .i64 k, .int .i64 c, .int .i64 n, .int .i64 t, .slice (some ⟨g1, 0, none⟩) an an, .string name, .int .i64 off, .slice la ln lc, .slice ca cn cc] 51 (0, 0)) ∧ (w1.setCell ⟨P, 5, none⟩ (.slice (some ⟨g1, 0, none⟩) an an)).heap[P + 1]? = some (.cells #[.int .i64 0, .int .i64 0, .int .i64 0, .int .i64 0, .int .i64 0, .slice none 0 0, .string ⟨#[]⟩, .int .i64 0, .slice none 0 0, .slice none 0 0] 51 (0, 0)) ∧ (w1.setCell ⟨P, 5, none⟩ (.slice (some ⟨g1, 0, none⟩) an an)).heap[g1]? = some (.cells (args.flatMap Opn.cs).toArray 44 (0, 0)) ∧ P + 2 ≤ g1 ∧ g1 < (w1.setCell ⟨P, 5, none⟩ (.slice (some ⟨g1, 0, none⟩) an an)).heap.size from by
    
    
    refine ⟨E0.out.1, by simp; omega, (E0.out.2.2.1.trans (hb.mono (by omega))).setCell (p := ⟨P, 5, none⟩) (Nat.le_refl _) _, set_at m1 5 _, (set_far (by omega) _ _).trans m2, (set_far (by omega) _ _).trans hg, ?_⟩
    simp only [World.setCell, Array.size_modify]
    omega)
  clear m1 m2 hg hb hsz hg1 hgl 
  go_wp2_with fail
  obtain ⟨wN1, hwN⟩ : ∃ wN, (w1.setCell ⟨P, 5, none⟩ (.slice (some ⟨g1, 0, none⟩) an an)) = wN := ⟨_, rfl⟩
  rw [hwN] at E1 ⊢
  clear hwN z1 z2 f1
  refine (own66_v _ _ _ _ _ (D.out.1.labels.below (show Below w.heap.size w wN1 from E1.out.1 ▸ E1.out.2.2.1)) h2).mono ?_
  rintro e w2 ⟨rfl, hg, hb⟩
  obtain ⟨g2, hg2⟩ : ∃ g, wN1.heap.size = g := ⟨_, rfl⟩
  have hsz := E1.out.2.1
  have m1 := kept_box E1.out.2.2.2.1 hb
  have m2 := kept_box E1.out.2.2.2.2.1 hb
  rw [hg2] at hg hb hsz ⊢
  have hgl := (Array.getElem?_eq_some_iff.1 hg).1
  have z1 : w2.cell? ⟨P, 8, none⟩ = some (.slice la ln lc) := cell_in m1 8
  have f1 : w2.frozen? ⟨P, 8, none⟩ = false := froz_in m1 8
  have z2 : w2.cell? ⟨P, 9, none⟩ = some (.slice ca cn cc) := cell_in m1 9
  have k1 := kept_box E1.out.2.2.2.2.2.1 (show Below wN1.heap.size wN1 w2 from hg2.symm ▸ hb)
  have E2 := Lib.hid (show P = w.heap.size ∧ P + 2 ≤ (w2.setCell ⟨P, 8, none⟩ (.slice (some ⟨g2, 0, none⟩) ln ln)).heap.size ∧ Below P w (w2.setCell ⟨P, 8, none⟩ (.slice (some ⟨g2, 0, none⟩) ln ln)) ∧ (w2.setCell ⟨P, 8, none⟩ (.slice (some ⟨g2, 0, none⟩) ln ln)).heap[P]? = some (.cells #[.int .i64 op, .int .i64 k, .int .i64 c, .int .i64 n, .int .i64 t, .slice (some ⟨g1, 0, none⟩) an an, .string name, .int .i64 off, .slice (some ⟨g2, 0, none⟩) ln ln, .slice ca cn cc] 51 (0, 0)) ∧ (w2.setCell ⟨P, 8, none⟩ (.slice (some ⟨g2, 0, none⟩) ln ln)).heap[P + 1]? = some (.cells #[.int .i64 0, .int .i64 0, .int .i64 0, .int .i64 0, .int .i64 0, .slice none 0 0, .string ⟨#[]⟩, .int .i64 0, .slice none 0 0, .slice none 0 0] 51 (0, 0)) ∧ (w2.setCell ⟨P, 8, none⟩ (.slice (some ⟨g2, 0, none⟩) ln ln)).heap[g1]? = some (.cells (args.flatMap Opn.cs).toArray 44 (0, 0)) ∧ (w2.setCell ⟨P, 8, none⟩ (.slice (some ⟨g2, 0, none⟩) ln ln)).heap[g2]? = some (.cells (labels.flatMap strC).toArray 9 (0, 0)) ∧ P + 2 ≤ g1 ∧ g1 < g2 ∧ g2 < (w2.setCell ⟨P, 8, none⟩ (.slice (some ⟨g2, 0, none⟩) ln ln)).heap.size from by
    have ho := E1.out.2.2.2.2.2.2
    rw [hg2] at ho
    refine ⟨E1.out.1, by simp; omega, (E1.out.2.2.1.trans (hb.mono (by omega))).setCell (p := ⟨P, 8, none⟩) (Nat.le_refl _) _, set_at m1 8 _, (set_far (by omega) _ _).trans m2, (set_far (by omega) _ _).trans k1, (set_far (by omega) _ _).trans hg, ?_⟩
    simp only [World.setCell, Array.size_modify]
    omega)
  clear m1 m2 hg hb hsz hg2 hgl k1
  go_wp2_with fail
  obtain ⟨wN2, hwN⟩ : ∃ wN, (w2.setCell ⟨P, 8, none⟩ (.slice (some ⟨g2, 0, none⟩) ln ln)) = wN := ⟨_, rfl⟩
  rw [hwN] at E2 ⊢
  clear hwN z1 z2 f1
  refine (own67_v _ _ _ _ _ (D.out.1.cases.below (show Below w.heap.size w wN2 from E2.out.1 ▸ E2.out.2.2.1)) h3).mono ?_
  rintro e w3 ⟨rfl, hg, hb⟩
  obtain ⟨g3, hg3⟩ : ∃ g, wN2.heap.size = g := ⟨_, rfl⟩
  have hsz := E2.out.2.1
  have m1 := kept_box E2.out.2.2.2.1 hb
  have m2 := kept_box E2.out.2.2.2.2.1 hb
  rw [hg3] at hg hb hsz ⊢
  have hgl := (Array.getElem?_eq_some_iff.1 hg).1
  have z1 : w3.cell? ⟨P, 9, none⟩ = some (.slice ca cn cc) := cell_in m1 9
  have f1 : w3.frozen? ⟨P, 9, none⟩ = false := froz_in m1 9
  have y0 : w3.cell? ⟨P, 0, none⟩ = some (.int .i64 op) := cell_in m1 0
  have y1 : w3.cell? ⟨P, 1, none⟩ = some (.int .i64 k) := cell_in m1 1
  have y2 : w3.cell? ⟨P, 2, none⟩ = some (.int .i64 c) := cell_in m1 2
  have y3 : w3.cell? ⟨P, 3, none⟩ = some (.int .i64 n) := cell_in m1 3
  have y4 : w3.cell? ⟨P, 4, none⟩ = some (.int .i64 t) := cell_in m1 4
  have y5 : w3.cell? ⟨P, 5, none⟩ = some (.slice (some ⟨g1, 0, none⟩) an an) := cell_in m1 5
  have y6 : w3.cell? ⟨P, 6, none⟩ = some (.string name) := cell_in m1 6
  have y7 : w3.cell? ⟨P, 7, none⟩ = some (.int .i64 off) := cell_in m1 7
  have y8 : w3.cell? ⟨P, 8, none⟩ = some (.slice (some ⟨g2, 0, none⟩) ln ln) := cell_in m1 8
  have x0 : w3.cell? ⟨P + 1, 0, none⟩ = some (.int .i64 0) := cell_in m2 0
  have v0 : w3.frozen? ⟨P + 1, 0, none⟩ = false := froz_in m2 0
  have x1 : w3.cell? ⟨P + 1, 1, none⟩ = some (.int .i64 0) := cell_in m2 1
  have v1 : w3.frozen? ⟨P + 1, 1, none⟩ = false := froz_in m2 1
  have x2 : w3.cell? ⟨P + 1, 2, none⟩ = some (.int .i64 0) := cell_in m2 2
  have v2 : w3.frozen? ⟨P + 1, 2, none⟩ = false := froz_in m2 2
  have x3 : w3.cell? ⟨P + 1, 3, none⟩ = some (.int .i64 0) := cell_in m2 3
  have v3 : w3.frozen? ⟨P + 1, 3, none⟩ = false := froz_in m2 3
  have x4 : w3.cell? ⟨P + 1, 4, none⟩ = some (.int .i64 0) := cell_in m2 4
  have v4 : w3.frozen? ⟨P + 1, 4, none⟩ = false := froz_in m2 4
  have x5 : w3.cell? ⟨P + 1, 5, none⟩ = some (.slice none 0 0) := cell_in m2 5
  have v5 : w3.frozen? ⟨P + 1, 5, none⟩ = false := froz_in m2 5
  have x6 : w3.cell? ⟨P + 1, 6, none⟩ = some (.string ⟨#[]⟩) := cell_in m2 6
  have v6 : w3.frozen? ⟨P + 1, 6, none⟩ = false := froz_in m2 6
  have x7 : w3.cell? ⟨P + 1, 7, none⟩ = some (.int .i64 0) := cell_in m2 7
  have v7 : w3.frozen? ⟨P + 1, 7, none⟩ = false := froz_in m2 7
  have x8 : w3.cell? ⟨P + 1, 8, none⟩ = some (.slice none 0 0) := cell_in m2 8
  have v8 : w3.frozen? ⟨P + 1, 8, none⟩ = false := froz_in m2 8
  have x9 : w3.cell? ⟨P + 1, 9, none⟩ = some (.slice none 0 0) := cell_in m2 9
  have v9 : w3.frozen? ⟨P + 1, 9, none⟩ = false := froz_in m2 9
  have k1 := kept_box E2.out.2.2.2.2.2.1 (show Below wN2.heap.size wN2 w3 from hg3.symm ▸ hb)
  have k2 := kept_box E2.out.2.2.2.2.2.2.1 (show Below wN2.heap.size wN2 w3 from hg3.symm ▸ hb)
  have E3 := Lib.hid (show P = w.heap.size ∧ P + 2 ≤ (w3.setCell ⟨P, 9, none⟩ (.slice (some ⟨g3, 0, none⟩) cn cn)).heap.size ∧ Below P w (w3.setCell ⟨P, 9, none⟩ (.slice (some ⟨g3, 0, none⟩) cn cn)) ∧ (w3.setCell ⟨P, 9, none⟩ (.slice (some ⟨g3, 0, none⟩) cn cn)).heap[P]? = some (.cells #[.int .i64 op, .int .i64 k, .int .i64 c, .int .i64 n, .int .i64 t, .slice (some ⟨g1, 0, none⟩) an an, .string name, .int .i64 off, .slice (some ⟨g2, 0, none⟩) ln ln, .slice (some ⟨g3, 0, none⟩) cn cn] 51 (0, 0)) ∧ (w3.setCell ⟨P, 9, none⟩ (.slice (some ⟨g3, 0, none⟩) cn cn)).heap[P + 1]? = some (.cells #[.int .i64 0, .int .i64 0, .int .i64 0, .int .i64 0, .int .i64 0, .slice none 0 0, .string ⟨#[]⟩, .int .i64 0, .slice none 0 0, .slice none 0 0] 51 (0, 0)) ∧ (w3.setCell ⟨P, 9, none⟩ (.slice (some ⟨g3, 0, none⟩) cn cn)).heap[g1]? = some (.cells (args.flatMap Opn.cs).toArray 44 (0, 0)) ∧ (w3.setCell ⟨P, 9, none⟩ (.slice (some ⟨g3, 0, none⟩) cn cn)).heap[g2]? = some (.cells (labels.flatMap strC).toArray 9 (0, 0)) ∧ (w3.setCell ⟨P, 9, none⟩ (.slice (some ⟨g3, 0, none⟩) cn cn)).heap[g3]? = some (.cells (cas.flatMap intC).toArray 3 (0, 0)) ∧ P + 2 ≤ g1 ∧ g1 < g2 ∧ g2 < g3 ∧ g3 < (w3.setCell ⟨P, 9, none⟩ (.slice (some ⟨g3, 0, none⟩) cn cn)).heap.size from by
    have ho := E2.out.2.2.2.2.2.2.2
    rw [hg3] at ho
    refine ⟨E2.out.1, by simp; omega, (E2.out.2.2.1.trans (hb.mono (by omega))).setCell (p := ⟨P, 9, none⟩) (Nat.le_refl _) _, set_at m1 9 _, (set_far (by omega) _ _).trans m2, (set_far (by omega) _ _).trans k1, (set_far (by omega) _ _).trans k2, (set_far (by omega) _ _).trans hg, ?_⟩
    simp only [World.setCell, Array.size_modify]
    omega)
  clear m1 m2 hg hb hsz hg3 hgl k1 k2
  go_wp2_with fail
  have E3o := E3.out
  obtain ⟨a1, a2, a3, a4, a5, b1, b2, b3, o1, o2, o3, o4⟩ := E3o
  refine bodyPost_ret (results_cell_row (fn := Try.f43) rfl _ (lay10 (w3.setCell ⟨P, 9, none⟩ (.slice (some ⟨g3, 0, none⟩) cn cn)) (P + 1) (.int .i64 op) (.int .i64 k) (.int .i64 c) (.int .i64 n) (.int .i64 t) (.slice (some ⟨g1, 0, none⟩) an an) (.string name) (.int .i64 off) (.slice (some ⟨g2, 0, none⟩) ln ln) (.slice (some ⟨g3, 0, none⟩) cn cn)) (P + 1) 51 #[.int .i64 op, .int .i64 k, .int .i64 c, .int .i64 n, .int .i64 t, .slice (some ⟨g1, 0, none⟩) an an, .string name, .int .i64 off, .slice (some ⟨g2, 0, none⟩) ln ln, .slice (some ⟨g3, 0, none⟩) cn cn] (0, 0) _ rfl (lay10_at a5) Try.underlying51 rfl (by kernel_rfl)) rfl ?_
  exact ⟨g1, g2, g3, rfl, by omega, o2, o3, Nat.lt_of_lt_of_eq o4 (lay10_size _ _ _ _ _ _ _ _ _ _ _ _).symm, (lay10_far (by omega) _ _ _ _ _ _ _ _ _ _).trans b1, (lay10_far (by omega) _ _ _ _ _ _ _ _ _ _).trans b2, (lay10_far (by omega) _ _ _ _ _ _ _ _ _ _).trans b3, by rw [← a1]; exact lay10_below _ _ _ _ _ _ _ _ _ _ a3 (by omega)⟩
end Go.Proofs.Ytocelaebokikcaa
