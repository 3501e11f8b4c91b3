/- A function, each operand of which is turned. -/
import Derived.Test.YtocelaebokikcaaMapS
namespace Go.Proofs.Ytocelaebokikcaa
open Go.ChangeShapes Go.WideShapes Go.RowKit
set_option linter.unusedVariables false
set_option maxRecDepth 20000

/-- What Map hands back. -/
structure MapP (f : Fun) (w : World) (e : Ending) (w' : World) : Prop where
  out : ∃ r, e = .returned (.agg (funR f.turned r)) ∧ IsFun w' f.turned r ∧ Below w.heap.size w w'
set_option maxHeartbeats 4000000 in
theorem mapF_v (F : FuncId) (hF : Inpl F) (f : Fun) (v : FunV) (w : World) (h : IsFun w f v) (hs : ∀ p, f.parts.valid p → f.parts.len p ≤ 1048576) : Calls Try.prog 20 #[.agg (funR f v), .func (.func F) #[] #[]] w (MapP f w) := by
  have B0 : Below w.heap.size w ((w.alloc (.cells (funR f v) 31)).alloc (.cells #[.bool false, .string ⟨#[]⟩, .slice none 0 0, .slice none 0 0, .slice none 0 0] 31)) := ((Below.refl _ w).alloc (Nat.le_refl _) _).alloc (by simp) _
  have HI := h.below B0
  have D := Lib.hid (And.intro B0 (And.intro (show ((w.alloc (.cells (funR f v) 31)).alloc (.cells #[.bool false, .string ⟨#[]⟩, .slice none 0 0, .slice none 0 0, .slice none 0 0] 31)).heap.size = w.heap.size + 2 by simp) (box_two w (.cells (funR f v) 31) (.cells #[.bool false, .string ⟨#[]⟩, .slice none 0 0, .slice none 0 0, .slice none 0 0] 31))))
  clear B0
  obtain ⟨wa, hwa⟩ : ∃ wa, (w.alloc (.cells (funR f v) 31)).alloc (.cells #[.bool false, .string ⟨#[]⟩, .slice none 0 0, .slice none 0 0, .slice none 0 0] 31) = wa := ⟨_, rfl⟩
  rw [hwa] at D HI
  have CC := Lib.hid (show Calls Try.prog 17 #[.agg (funR f v)] wa (CopyP f wa) from copy_v f v wa HI hs)
  have HA := Lib.hid (And.intro hF hs)
  clear h HI hF hs
  obtain ⟨P, hPP⟩ : ∃ P, w.heap.size = P := ⟨_, rfl⟩
  obtain ⟨fm, fname, ra, rn, rc, pa, pn, pc, ba, bn, bc, hfr⟩ : ∃ fm fname ra rn rc pa pn pc ba bn bc, funR f v = #[.bool fm, .string fname, .slice ra rn rc, .slice pa pn pc, .slice ba bn bc] ∧ f.machine = fm ∧ f.name = fname := ⟨_, _, _, _, _, _, _, _, _, _, _, rfl, rfl, rfl⟩
  have HFN := Lib.hid hfr.2
  replace hfr := hfr.1
  rw [hfr] at D CC hwa ⊢
  clear hfr
  have hP := D.out.2.2.1
  have k0 : wa.cell? ⟨w.heap.size, 0, none⟩ = some (.bool fm) := cell_in hP 0
  have k1 : wa.cell? ⟨w.heap.size, 1, none⟩ = some (.string fname) := cell_in hP 1
  have k2 : wa.cell? ⟨w.heap.size, 2, none⟩ = some (.slice ra rn rc) := cell_in hP 2
  have k3 : wa.cell? ⟨w.heap.size, 3, none⟩ = some (.slice pa pn pc) := cell_in hP 3
  have k4 : wa.cell? ⟨w.heap.size, 4, none⟩ = some (.slice ba bn bc) := cell_in hP 4
  have HPP := Lib.hid hPP
  clear hP hPP
  go_enter Try.func20, Try.ntmps20
  go_wp2_with fail
  clear hwa
  refine CC.out.mono ?_
  rintro e w1 ⟨G, S, rfl, hown, hb⟩
  clear k0 k1 k2 k3 k4
  have hP1 := kept_box D.out.2.2.1 hb
  have hR1 := kept_box D.out.2.2.2 hb
  obtain ⟨Ra, Rn, Rc, Pa, Pn, Pc, Ba, Bn, Bc, hv⟩ : ∃ Ra Rn Rc Pa Pn Pc Ba Bn Bc, f.parts.funV S = ⟨Ra, Rn, Rc, Pa, Pn, Pc, Ba, Bn, Bc, f.parts.blkV S⟩ := ⟨_, _, _, _, _, _, _, _, _, rfl⟩
  have hfr : funR f (f.parts.funV S) = #[.bool fm, .string fname, .slice Ra Rn Rc, .slice Pa Pn Pc, .slice Ba Bn Bc] := by
    rw [hv]
    unfold funR
    rw [HFN.out.1, HFN.out.2]
  rw [hfr]
  have HM := Lib.hid (And.intro hown (And.intro hb (And.intro hv hfr)))
  rw [HPP.out] at hP1 hR1 D
  have c0 : w1.cell? ⟨P, 0, none⟩ = some (.bool fm) := cell_in hP1 0
  have z0 : w1.frozen? ⟨P, 0, none⟩ = false := froz_in hP1 0
  have c1 : w1.cell? ⟨P, 1, none⟩ = some (.string fname) := cell_in hP1 1
  have z1 : w1.frozen? ⟨P, 1, none⟩ = false := froz_in hP1 1
  have c2 : w1.cell? ⟨P, 2, none⟩ = some (.slice ra rn rc) := cell_in hP1 2
  have z2 : w1.frozen? ⟨P, 2, none⟩ = false := froz_in hP1 2
  have c3 : w1.cell? ⟨P, 3, none⟩ = some (.slice pa pn pc) := cell_in hP1 3
  have z3 : w1.frozen? ⟨P, 3, none⟩ = false := froz_in hP1 3
  have c4 : w1.cell? ⟨P, 4, none⟩ = some (.slice ba bn bc) := cell_in hP1 4
  have z4 : w1.frozen? ⟨P, 4, none⟩ = false := froz_in hP1 4
  have HPR := Lib.hid (And.intro hP1 hR1)
  clear hown hb hv hfr hP1 hR1
  rw [HPP.out]
  go_wp2_with fail
  obtain ⟨w2, hw2⟩ : ∃ w2, lay5 w1 P (.bool fm) (.string fname) (.slice Ra Rn Rc) (.slice Pa Pn Pc) (.slice Ba Bn Bc) = w2 := ⟨_, rfl⟩
  have far : ∀ g, g ≠ P → w2.heap[g]? = w1.heap[g]? := fun g hg => by rw [← hw2]; exact lay5_far hg _ _ _ _ _
  have hsz : w2.heap.size = w1.heap.size := by rw [← hw2]; exact lay5_size _ _ _ _ _ _ _
  have hPc : w2.heap[P]? = some (.cells #[.bool fm, .string fname, .slice Ra Rn Rc, .slice Pa Pn Pc, .slice Ba Bn Bc] 31 (0, 0)) := by
    rw [← hw2]; exact lay5_at HPR.out.1
  have hbs : wa.heap.size = P + 2 := D.out.2.1
  have hlow2 : Below P w w2 := by
    rw [← hw2]; exact lay5_below _ _ _ _ _ (D.out.1.trans (HM.out.2.1.mono (by rw [hbs]; omega))) (Nat.le_refl _)
  have hw1s := HM.out.2.1.size
  have hBA : Below w2.heap.size w2 (w2.alloc (.cells #[.func (.func F) #[] #[]] 58)) := (Below.refl _ w2).alloc (Nat.le_refl _) _
  have MK0 : MK f.parts S G (wa.heap.size + 2) P w2.heap.size w := by
    refine ⟨by omega, fun p hp => ?_, HM.out.1.spots, HM.out.1.small, HPP.out⟩
    have := HM.out.1.lay.lt hp
    omega
  have M0 : MF F f.parts S G (wa.heap.size + 2) P w2.heap.size w #[.bool fm, .string fname, .slice Ra Rn Rc, .slice Pa Pn Pc, .slice Ba Bn Bc] #[.bool false, .string ⟨#[]⟩, .slice none 0 0, .slice none 0 0, .slice none 0 0] 0 (w2.alloc (.cells #[.func (.func F) #[] #[]] 58)) := by
    refine ⟨((HM.out.1.lay.keep (fun g hg _ => far g (by omega))).below hBA).congr (fun _ e => e) (fun _ _ => rfl) (fun p _ => turnR_zero _ _ _ p), kept_box hPc hBA, kept_box ((far (P + 1) (by omega)).trans HPR.out.2) hBA, heap_alloc_new w2 _, hlow2.trans (hBA.mono (by rw [hsz]; omega))⟩
  have HE := Lib.hid (MF.each HA.out.1 MK0 (by rw [HM.out.2.2.1]; rfl) (by rw [HM.out.2.2.1]; rfl) M0)
  have H59 := Lib.hid (inPl_v F w2)
  have HK := Lib.hid (And.intro MK0 (And.intro hsz (And.intro hbs hw1s)))
  clear MK0 M0 far hsz hPc hbs hlow2 hw1s hBA c0 z0 c1 z1 c2 z2 c3 z3 c4 z4
  unfold lay5 at hw2
  rw [hw2]
  clear hw2
  refine H59.out.mono ?_
  rintro e w3 ⟨rfl, rfl⟩
  go_wp2_with fail
  refine HE.out.mono ?_
  rintro e w4 ⟨rfl, hm⟩
  have hd := hm.box
  have hr := hm.res
  have HJ := Lib.hid hm
  clear hm
  have c0 : w4.cell? ⟨P, 0, none⟩ = some (.bool fm) := cell_in hd 0
  have c1 : w4.cell? ⟨P, 1, none⟩ = some (.string fname) := cell_in hd 1
  have c2 : w4.cell? ⟨P, 2, none⟩ = some (.slice Ra Rn Rc) := cell_in hd 2
  have c3 : w4.cell? ⟨P, 3, none⟩ = some (.slice Pa Pn Pc) := cell_in hd 3
  have c4 : w4.cell? ⟨P, 4, none⟩ = some (.slice Ba Bn Bc) := cell_in hd 4
  have r0 : w4.cell? ⟨P + 1, 0, none⟩ = some (.bool false) := cell_in hr 0
  have z0 : w4.frozen? ⟨P + 1, 0, none⟩ = false := froz_in hr 0
  have r1 : w4.cell? ⟨P + 1, 1, none⟩ = some (.string ⟨#[]⟩) := cell_in hr 1
  have z1 : w4.frozen? ⟨P + 1, 1, none⟩ = false := froz_in hr 1
  have r2 : w4.cell? ⟨P + 1, 2, none⟩ = some (.slice none 0 0) := cell_in hr 2
  have z2 : w4.frozen? ⟨P + 1, 2, none⟩ = false := froz_in hr 2
  have r3 : w4.cell? ⟨P + 1, 3, none⟩ = some (.slice none 0 0) := cell_in hr 3
  have z3 : w4.frozen? ⟨P + 1, 3, none⟩ = false := froz_in hr 3
  have r4 : w4.cell? ⟨P + 1, 4, none⟩ = some (.slice none 0 0) := cell_in hr 4
  have z4 : w4.frozen? ⟨P + 1, 4, none⟩ = false := froz_in hr 4
  have HR := Lib.hid hr
  clear hd hr
  go_wp2_with fail
  refine bodyPost_ret (results_cell_row (fn := Try.f20) rfl _ (lay5 w4 (P + 1) (.bool fm) (.string fname) (.slice Ra Rn Rc) (.slice Pa Pn Pc) (.slice Ba Bn Bc)) (P + 1) 31 #[.bool fm, .string fname, .slice Ra Rn Rc, .slice Pa Pn Pc, .slice Ba Bn Bc] (0, 0) _ rfl (lay5_at HR.out) Try.underlying31 rfl (by kernel_rfl)) rfl ?_
  have hown := HJ.out.done HK.out.1
  have hkeep : Own (lay5 w4 (P + 1) (.bool fm) (.string fname) (.slice Ra Rn Rc) (.slice Pa Pn Pc) (.slice Ba Bn Bc)) (wa.heap.size + 2) G f.parts.T S := ⟨hown.lay.keep (fun g hg _ => lay5_far (by have := HK.out.2.2.1; omega) _ _ _ _ _), hown.spots, hown.small⟩
  have hfun := hkeep.isFun
  rw [T_toFun, FunD.T_funV] at hfun
  refine ⟨⟨f.parts.funV S, ?_, hfun, ?_⟩⟩
  · rw [show funR f.turned (f.parts.funV S) = funR f (f.parts.funV S) from rfl, HM.out.2.2.2]
  · rw [HPP.out]; exact lay5_below _ _ _ _ _ HJ.out.low (by omega)
end Go.Proofs.Ytocelaebokikcaa
