/- The statements on functions' texts, and on instructions'. -/
import Derived.Test.YtlfohbajeecdeaaDoorShoWorks
import Derived.Test.YtlfohbajeecdeaaDoorShoLen
namespace Go.Proofs.YtlfohbajeecdeaaDoor
open Go.ChangeShapes Go.WideShapes Go.RowKit
set_option linter.unusedVariables false
set_option maxRecDepth 20000

theorem toList_self (X : ByteArray) : (X.toList == X.toList) = true := by simp
set_option maxHeartbeats 4000000 in
theorem funcs_w (machine : Bool) (name : ByteArray) (regs : List Rg) (params : List Opn) (blocks : List Blk) (ra : Option Addr) (rn rc : Nat) (pa : Option Addr) (pn pc : Nat) (ba : Option Addr) (bn bc : Nat) (R : Nat → BlkV) (W0 : World) (hG : Opr.Glob W0) (hI : IsFun W0 ⟨machine, name, regs, params, blocks⟩ ⟨ra, rn, rc, pa, pn, pc, ba, bn, bc, R⟩) (hF : FunG ⟨machine, name, regs, params, blocks⟩) (hlen : (funT ⟨machine, name, regs, params, blocks⟩).length ≤ big) :
    Calls Tryd.prog 3 #[.agg #[.bool machine, .string name, .slice ra rn rc, .slice pa pn pc, .slice ba bn bc]] W0 fun e w' => e = .returned (.bool true) ∧ Below W0.heap.size W0 w' := by
  have BA : Below W0.heap.size W0 (W0.alloc (.cells #[.bool machine, .string name, .slice ra rn rc, .slice pa pn pc, .slice ba bn bc] 26)) := (Below.refl _ W0).alloc (Nat.le_refl _) _
  have hal := heap_alloc_new W0 (.cells #[.bool machine, .string name, .slice ra rn rc, .slice pa pn pc, .slice ba bn bc] 26)
  have HI := hI.below BA
  have HGl := hG.below BA hG.1
  obtain ⟨wa, hwa⟩ : ∃ wa, W0.alloc (.cells #[.bool machine, .string name, .slice ra rn rc, .slice pa pn pc, .slice ba bn bc] 26) = wa := ⟨_, rfl⟩
  rw [hwa] at BA hal HI HGl
  obtain ⟨k0, k1, k2, k3, k4⟩ := five_cells hal
  obtain ⟨X, hX⟩ : ∃ X, tx (funT ⟨machine, name, regs, params, blocks⟩) = X := ⟨_, rfl⟩
  have hXX := toList_self X
  have HA := Lib.hid (And.intro BA (And.intro hal HGl))
  have CL := Lib.hid (show ∀ W', Below wa.heap.size wa W' → Calls Tryd.prog 6 #[.agg #[.bool machine, .string name, .slice ra rn rc, .slice pa pn pc, .slice ba bn bc]] W' fun e w' => SomeBool e ∧ Below W'.heap.size W' w' from fun W' h => large_v ⟨machine, name, regs, params, blocks⟩ ⟨ra, rn, rc, pa, pn, pc, ba, bn, bc, R⟩ W' (HI.below h))
  have C8 := Lib.hid (show ∀ W', Below wa.heap.size wa W' → Calls Tryd.prog 8 #[.agg #[.bool machine, .string name, .slice ra rn rc, .slice pa pn pc, .slice ba bn bc]] W' fun e w' => e = .returned (.string X) ∧ Below W'.heap.size W' w' from fun W' h => by
    have := sfunc_w machine name regs params blocks ra rn rc pa pn pc ba bn bc R _ W' (HGl.below h HGl.1) (HI.below h) hF.fits rfl hlen
    rw [← hX]; exact this)
  have C9 := Lib.hid (show ∀ W', Below wa.heap.size wa W' → Calls Tryd.prog 9 #[.agg #[.bool machine, .string name, .slice ra rn rc, .slice pa pn pc, .slice ba bn bc]] W' fun e w' => e = .returned (.string X) ∧ Below W'.heap.size W' w' from fun W' h => by
    have := rfunc_v ⟨machine, name, regs, params, blocks⟩ ⟨ra, rn, rc, pa, pn, pc, ba, bn, bc, R⟩ _ W' (HI.below h) hF rfl hlen
    rw [← hX]; exact this)
  clear BA hal HI HGl hI hF hlen hG hX
  go_enter Tryd.func3, Tryd.ntmps3
  go_wp2_with fail
  clear hwa k0 k1 k2 k3 k4
  refine (CL.out wa (Below.refl _ _)).mono ?_
  rintro e w1 ⟨⟨b1, rfl⟩, hb⟩
  have B1 := Lib.hid hb
  clear hb
  cases b1
  case true =>
    go_wp2_with fail
    refine (works_v _ (HA.out.2.2.below B1.out HA.out.2.2.1)).mono ?_
    rintro e w2 ⟨rfl, hb⟩
    have B2 := Lib.hid (B1.out.trans (hb.mono B1.out.size))
    clear hb
    go_wp2_with fail
    go_ret
    exact ⟨rfl, HA.out.1.trans (B2.out.mono HA.out.1.size)⟩
  have S0 := Lib.hid (five_cells (kept_box HA.out.2.1 B1.out))
  go_wp2_with fail
  go_region_held3 (fun W => W.cell? ⟨W0.heap.size, 0, none⟩ = some (.bool machine) ∧ W.cell? ⟨W0.heap.size, 1, none⟩ = some (.string name) ∧ W.cell? ⟨W0.heap.size, 2, none⟩ = some (.slice ra rn rc) ∧ W.cell? ⟨W0.heap.size, 3, none⟩ = some (.slice pa pn pc) ∧ W.cell? ⟨W0.heap.size, 4, none⟩ = some (.slice ba bn bc))
    (first | exact S3.out | exact S2.out | exact S1.out | exact S0.out)
    (first
      | (go_at_call 7; (refine (works_v w3 (HA.out.2.2.below B3.out HA.out.2.2.1)).mono ?_); rintro e w4 ⟨rfl, hb⟩; have B4 := Lib.hid (B3.out.trans (hb.mono B3.out.size)); have S3 := Lib.hid (five_cells (kept_box HA.out.2.1 B4.out)); clear hb)
      | (go_at_call 9; (refine (C9.out w2 B2.out).mono ?_); rintro e w3 ⟨rfl, hb⟩; have B3 := Lib.hid (B2.out.trans (hb.mono B2.out.size)); have S2 := Lib.hid (five_cells (kept_box HA.out.2.1 B3.out)); clear hb)
      | (go_at_call 8; (refine (C8.out w1.drew B1.out.drew).mono ?_); rintro e w2 ⟨rfl, hb⟩; have B2 := Lib.hid (show Below wa.heap.size wa w2 from B1.out.drew.trans (hb.mono B1.out.drew.size)); have S1 := Lib.hid (five_cells (kept_box HA.out.2.1 B2.out)); clear hb))
  go_wp2_with fail
  go_ret
  exact ⟨rfl, HA.out.1.trans (B4.out.mono HA.out.1.size)⟩
theorem funcs_v (f : Fun) (v : FunV) (W : World) (hG : Opr.Glob W) (hI : IsFun W f v) (hF : FunG f) (hw : wF f ≤ 1048576) :
    Calls Tryd.prog 3 #[.agg (funR f v)] W fun e w' => e = .returned (.bool true) ∧ Below W.heap.size W w' := by
  have hlen := funT_le f hF.fits hw
  obtain ⟨machine, name, regs, params, blocks⟩ := f
  obtain ⟨ra, rn, rc, pa, pn, pc, ba, bn, bc, R⟩ := v
  exact funcs_w machine name regs params blocks ra rn rc pa pn pc ba bn bc R W hG hI hF hlen
theorem four_allocs (W : World) (a0 a1 a2 a3 : Obj) (n : Nat) (hn : W.heap.size = n) :
    ((((W.alloc a0).alloc a1).alloc a2).alloc a3).heap[n]? = some a0 ∧ ((((W.alloc a0).alloc a1).alloc a2).alloc a3).heap[n + 1]? = some a1 ∧ ((((W.alloc a0).alloc a1).alloc a2).alloc a3).heap[n + 1 + 1]? = some a2 ∧ ((((W.alloc a0).alloc a1).alloc a2).alloc a3).heap[n + 1 + 1 + 1]? = some a3 ∧ Below n W ((((W.alloc a0).alloc a1).alloc a2).alloc a3) := by
  subst hn
  have g : ∀ (w : World) (o : Obj) (k : Nat) (x : Obj), w.heap[k]? = some x → (w.alloc o).heap[k]? = some x := fun w o k x h => (heap_alloc_old w o (Array.getElem?_eq_some_iff.1 h).1).trans h
  have s1 : (W.alloc a0).heap.size = W.heap.size + 1 := by simp
  have s2 : ((W.alloc a0).alloc a1).heap.size = W.heap.size + 1 + 1 := by simp
  have s3 : (((W.alloc a0).alloc a1).alloc a2).heap.size = W.heap.size + 1 + 1 + 1 := by simp
  refine ⟨g _ _ _ _ (g _ _ _ _ (g _ _ _ _ (heap_alloc_new W a0))), ?_, ?_, ?_, ?_⟩
  · have h := heap_alloc_new (W.alloc a0) a1; rw [s1] at h; exact g _ _ _ _ (g _ _ _ _ h)
  · have h := heap_alloc_new ((W.alloc a0).alloc a1) a2; rw [s2] at h; exact g _ _ _ _ h
  · have h := heap_alloc_new (((W.alloc a0).alloc a1).alloc a2) a3; rw [s3] at h; exact h
  · exact ((((Below.refl _ W).alloc (Nat.le_refl _) _).alloc (by simp) _).alloc (by simp; omega) _).alloc (by simp; omega) _
set_option maxHeartbeats 8000000 in
theorem instrs_w (op : Int) (dk dc dn dt : Int) (args : List Opn) (nm : ByteArray) (off : Int) (labels : List ByteArray) (cas : List Int) (aa : Option Addr) (an ac : Nat) (la : Option Addr) (ln lc : Nat) (ca : Option Addr) (cn cc : Nat) (ok oc on ot : Int) (W0 : World) (hG : Opr.Glob W0) (hI : IsIns W0 ⟨op, ⟨dk, dc, dn, dt⟩, args, nm, off, labels, cas⟩ ⟨aa, an, ac, la, ln, lc, ca, cn, cc⟩) (hF : InsF ⟨op, ⟨dk, dc, dn, dt⟩, args, nm, off, labels, cas⟩) (hO : OpF ⟨ok, oc, on, ot⟩) (hlen : (insT ⟨op, ⟨dk, dc, dn, dt⟩, args, nm, off, labels, cas⟩).length ≤ big) :
    Calls Tryd.prog 4 #[.agg #[.int .i64 op, .int .i64 dk, .int .i64 dc, .int .i64 dn, .int .i64 dt, .slice aa an ac, .string nm, .int .i64 off, .slice la ln lc, .slice ca cn cc], .agg #[.int .i64 ok, .int .i64 oc, .int .i64 on, .int .i64 ot]] W0 fun e w' => e = .returned (.bool true) ∧ Below W0.heap.size W0 w' := by
  obtain ⟨n, hn⟩ : ∃ n, W0.heap.size = n := ⟨_, rfl⟩
  have hf := four_allocs W0 (.cells #[.int .i64 op, .int .i64 dk, .int .i64 dc, .int .i64 dn, .int .i64 dt, .slice aa an ac, .string nm, .int .i64 off, .slice la ln lc, .slice ca cn cc] 35) (.cells #[.int .i64 ok, .int .i64 oc, .int .i64 on, .int .i64 ot] 31) (.cells #[.int .i64 op, .int .i64 dk, .int .i64 dc, .int .i64 dn, .int .i64 dt, .slice aa an ac, .string nm, .int .i64 off, .slice la ln lc, .slice ca cn cc] 35) (.cells #[.string ⟨#[]⟩, .bool false, .slice none 0 0, .slice (some ⟨n + 1 + 1, 0, none⟩) 1 1] 38) n hn
  obtain ⟨X1, hX1⟩ : ∃ X, tx (insT ⟨op, ⟨dk, dc, dn, dt⟩, args, nm, off, labels, cas⟩) = X := ⟨_, rfl⟩
  obtain ⟨X2, hX2⟩ : ∃ X, tx (opnT ⟨ok, oc, on, ot⟩) = X := ⟨_, rfl⟩
  obtain ⟨X3, hX3⟩ : ∃ X, tx (vregT on) = X := ⟨_, rfl⟩
  have q1 := toList_self X1
  have q2 := toList_self X2
  have q3 := toList_self X3
  have HGl : Opr.Glob ((((W0.alloc (.cells #[.int .i64 op, .int .i64 dk, .int .i64 dc, .int .i64 dn, .int .i64 dt, .slice aa an ac, .string nm, .int .i64 off, .slice la ln lc, .slice ca cn cc] 35)).alloc (.cells #[.int .i64 ok, .int .i64 oc, .int .i64 on, .int .i64 ot] 31)).alloc (.cells #[.int .i64 op, .int .i64 dk, .int .i64 dc, .int .i64 dn, .int .i64 dt, .slice aa an ac, .string nm, .int .i64 off, .slice la ln lc, .slice ca cn cc] 35)).alloc (.cells #[.string ⟨#[]⟩, .bool false, .slice none 0 0, .slice (some ⟨n + 1 + 1, 0, none⟩) 1 1] 38)) := hG.below hf.2.2.2.2 (by rw [← hn]; exact hG.1)
  have HI : IsIns ((((W0.alloc (.cells #[.int .i64 op, .int .i64 dk, .int .i64 dc, .int .i64 dn, .int .i64 dt, .slice aa an ac, .string nm, .int .i64 off, .slice la ln lc, .slice ca cn cc] 35)).alloc (.cells #[.int .i64 ok, .int .i64 oc, .int .i64 on, .int .i64 ot] 31)).alloc (.cells #[.int .i64 op, .int .i64 dk, .int .i64 dc, .int .i64 dn, .int .i64 dt, .slice aa an ac, .string nm, .int .i64 off, .slice la ln lc, .slice ca cn cc] 35)).alloc (.cells #[.string ⟨#[]⟩, .bool false, .slice none 0 0, .slice (some ⟨n + 1 + 1, 0, none⟩) 1 1] 38)) ⟨op, ⟨dk, dc, dn, dt⟩, args, nm, off, labels, cas⟩ ⟨aa, an, ac, la, ln, lc, ca, cn, cc⟩ := hI.below (by rw [hn]; exact hf.2.2.2.2)
  go_enter Tryd.func4, Tryd.ntmps4
  go_wp2_with fail
  try rw [hn]
  obtain ⟨wc, hwc⟩ : ∃ wc, ((((W0.alloc (.cells #[.int .i64 op, .int .i64 dk, .int .i64 dc, .int .i64 dn, .int .i64 dt, .slice aa an ac, .string nm, .int .i64 off, .slice la ln lc, .slice ca cn cc] 35)).alloc (.cells #[.int .i64 ok, .int .i64 oc, .int .i64 on, .int .i64 ot] 31)).alloc (.cells #[.int .i64 op, .int .i64 dk, .int .i64 dc, .int .i64 dn, .int .i64 dt, .slice aa an ac, .string nm, .int .i64 off, .slice la ln lc, .slice ca cn cc] 35)).alloc (.cells #[.string ⟨#[]⟩, .bool false, .slice none 0 0, .slice (some ⟨n + 1 + 1, 0, none⟩) 1 1] 38)) = wc := ⟨_, rfl⟩
  rw [hwc] at hf HI HGl ⊢
  have HFF := Lib.hid hf
  have hIF : IsFun wc ⟨false, ⟨#[]⟩, [], [], [⟨⟨#[]⟩, false, [], [⟨op, ⟨dk, dc, dn, dt⟩, args, nm, off, labels, cas⟩]⟩]⟩ ⟨none, 0, 0, none, 0, 0, some ⟨n + 1 + 1 + 1, 0, none⟩, 1, 1, fun _ => ⟨none, 0, 0, some ⟨n + 1 + 1, 0, none⟩, 1, 1, fun _ => ⟨aa, an, ac, la, ln, lc, ca, cn, cc⟩⟩⟩ :=
    ⟨IsRegs.nil _ _, IsOps.nil _ _, blks_one hf.2.2.2.1 ⟨IsOps.nil _ _, code_one hf.2.2.1 HI⟩⟩
  have CL := Lib.hid (large_v _ _ wc hIF)
  have HBX := Lib.hid (show ∀ W', Below wc.heap.size wc W' → (W'.cell? ⟨n, 0, none⟩ = some (.int .i64 op) ∧ W'.cell? ⟨n, 1, none⟩ = some (.int .i64 dk) ∧ W'.cell? ⟨n, 2, none⟩ = some (.int .i64 dc) ∧ W'.cell? ⟨n, 3, none⟩ = some (.int .i64 dn) ∧ W'.cell? ⟨n, 4, none⟩ = some (.int .i64 dt) ∧ W'.cell? ⟨n, 5, none⟩ = some (.slice aa an ac) ∧ W'.cell? ⟨n, 6, none⟩ = some (.string nm) ∧ W'.cell? ⟨n, 7, none⟩ = some (.int .i64 off) ∧ W'.cell? ⟨n, 8, none⟩ = some (.slice la ln lc) ∧ W'.cell? ⟨n, 9, none⟩ = some (.slice ca cn cc) ∧ W'.cell? ⟨n + 1, 0, none⟩ = some (.int .i64 ok) ∧ W'.cell? ⟨n + 1, 1, none⟩ = some (.int .i64 oc) ∧ W'.cell? ⟨n + 1, 2, none⟩ = some (.int .i64 on) ∧ W'.cell? ⟨n + 1, 3, none⟩ = some (.int .i64 ot)) from fun W' h => by
    obtain ⟨g0, g1, g2, g3, g4, g5, g6, g7, g8, g9⟩ := ten_cells (kept_box HFF.out.1 h)
    obtain ⟨h0, h1, h2, h3⟩ := four_cells (kept_box HFF.out.2.1 h)
    exact ⟨g0, g1, g2, g3, g4, g5, g6, g7, g8, g9, h0, h1, h2, h3⟩)
  have C10 := Lib.hid (show ∀ W', Below wc.heap.size wc W' → Calls Tryd.prog 10 #[.agg #[.int .i64 op, .int .i64 dk, .int .i64 dc, .int .i64 dn, .int .i64 dt, .slice aa an ac, .string nm, .int .i64 off, .slice la ln lc, .slice ca cn cc]] W' fun e w' => e = .returned (.string X1) ∧ Below W'.heap.size W' w' from fun W' h => by
    have := sinstr_w op dk dc dn dt args nm off labels cas aa an ac la ln lc ca cn cc _ W' (HGl.below h HGl.1) (HI.below h) hF rfl hlen
    rw [← hX1]; exact this)
  have C11 := Lib.hid (show ∀ W', Below wc.heap.size wc W' → Calls Tryd.prog 11 #[.agg #[.int .i64 op, .int .i64 dk, .int .i64 dc, .int .i64 dn, .int .i64 dt, .slice aa an ac, .string nm, .int .i64 off, .slice la ln lc, .slice ca cn cc]] W' fun e w' => e = .returned (.string X1) ∧ Below W'.heap.size W' w' from fun W' h => by
    have := rinstr_v ⟨op, ⟨dk, dc, dn, dt⟩, args, nm, off, labels, cas⟩ ⟨aa, an, ac, la, ln, lc, ca, cn, cc⟩ _ W' (HI.below h) hF rfl hlen
    rw [← hX1]; exact this)
  have C12 := Lib.hid (show ∀ W', Calls Tryd.prog 12 #[.agg #[.int .i64 ok, .int .i64 oc, .int .i64 on, .int .i64 ot]] W' fun e w' => e = .returned (.string X2) ∧ Below W'.heap.size W' w' from fun W' => by
    have := soperand_v ok oc on ot _ W' hO rfl (opnT_big _ hO)
    rw [← hX2]; exact this)
  have C13 := Lib.hid (show ∀ W', Calls Tryd.prog 13 #[.agg #[.int .i64 ok, .int .i64 oc, .int .i64 on, .int .i64 ot]] W' fun e w' => e = .returned (.string X2) ∧ Below W'.heap.size W' w' from fun W' => by
    have := rop_v ⟨ok, oc, on, ot⟩ _ W' hO rfl
    rw [← hX2]; exact this)
  have C14 := Lib.hid (show ∀ W', Calls Tryd.prog 14 #[.int .i64 on] W' fun e w' => e = .returned (.string X3) ∧ Below W'.heap.size W' w' from fun W' => by
    have := svreg_v on _ W' hO.1 rfl (by have := txt_le on hO.1; unfold vregT big; rw [List.length_cons]; omega)
    rw [← hX3]; exact this)
  have C15 := Lib.hid (show ∀ W', Calls Tryd.prog 13 #[.agg #[.int .i64 1, .int .i64 0, .int .i64 on, .int .i64 0]] W' fun e w' => e = .returned (.string X3) ∧ Below W'.heap.size W' w' from fun W' => by
    have := rop_v ⟨1, 0, on, 0⟩ _ W' ⟨hO.1, ⟨by show (-9223372036854775808 : Int) ≤ 0; decide, by show (0 : Int) ≤ 9223372036854775807; decide⟩⟩ rfl
    rw [← hX3]; exact this)
  have HGG := Lib.hid HGl
  have HN := Lib.hid hn
  clear hf hwc hG hI hF hO hlen HI HGl hX1 hX2 hX3 hIF hn
  refine CL.out.mono ?_
  rintro e w1 ⟨⟨b1, rfl⟩, hb⟩
  have B1 := Lib.hid hb
  clear hb
  have Bend := Lib.hid (show ∀ w', Below wc.heap.size wc w' → Below W0.heap.size W0 w' from fun w' h => by
    have h1 := HFF.out.2.2.2.2
    rw [← HN.out] at h1
    exact h1.trans (h.mono h1.size))
  cases b1
  case true =>
    go_wp2_with fail
    refine (works_v _ (HGG.out.below B1.out HGG.out.1)).mono ?_
    rintro e w2 ⟨rfl, hb⟩
    have B2 := Lib.hid (B1.out.trans (hb.mono B1.out.size))
    clear hb
    go_wp2_with fail
    go_ret
    exact ⟨rfl, Bend.out _ B2.out⟩
  have S0 := Lib.hid (HBX.out w1 B1.out)
  go_wp2_with fail
  refine wp_region_held_drew (S := fun W => W.cell? ⟨n, 0, none⟩ = some (.int .i64 op) ∧ W.cell? ⟨n, 1, none⟩ = some (.int .i64 dk) ∧ W.cell? ⟨n, 2, none⟩ = some (.int .i64 dc) ∧ W.cell? ⟨n, 3, none⟩ = some (.int .i64 dn) ∧ W.cell? ⟨n, 4, none⟩ = some (.int .i64 dt) ∧ W.cell? ⟨n, 5, none⟩ = some (.slice aa an ac) ∧ W.cell? ⟨n, 6, none⟩ = some (.string nm) ∧ W.cell? ⟨n, 7, none⟩ = some (.int .i64 off) ∧ W.cell? ⟨n, 8, none⟩ = some (.slice la ln lc) ∧ W.cell? ⟨n, 9, none⟩ = some (.slice ca cn cc) ∧ W.cell? ⟨n + 1, 0, none⟩ = some (.int .i64 ok) ∧ W.cell? ⟨n + 1, 1, none⟩ = some (.int .i64 oc) ∧ W.cell? ⟨n + 1, 2, none⟩ = some (.int .i64 on) ∧ W.cell? ⟨n + 1, 3, none⟩ = some (.int .i64 ot)) (by kernel_rfl) ?_ (fun hHeld => ?_)
  · exact S0.out
  refine wpAnyH_take (i := 0) (oi := { dst := some 12, op := Op.load 35 (Operand.tmp 2), type := 35, pos := "law.go:31", after := #[], guard := none }) (v := ?v0) rfl (by kernel_rfl) (by kernel_rfl) (by kernel_rfl) (fun _ _ _ h => h) (Or.inl ⟨by rfl, ?hy0⟩) (by assumption) ?rest0
  case hy0 => (intro w hSw; (try dsimp only at hSw); go_simp; (try (with_reducible rfl)))
  try simp only [Act.put, List.setIfInBounds_toArray, List.set_cons_zero, List.set_cons_succ]
  refine wpAnyH_take (i := 2) (oi := { dst := some 14, op := Op.load 35 (Operand.tmp 2), type := 35, pos := "law.go:31", after := #[], guard := none }) (v := ?v2) rfl (by kernel_rfl) (by kernel_rfl) (by kernel_rfl) (fun _ _ _ h => h) (Or.inl ⟨by rfl, ?hy2⟩) (by assumption) ?rest2
  case hy2 => (intro w hSw; (try dsimp only at hSw); go_simp; (try (with_reducible rfl)))
  try simp only [Act.put, List.setIfInBounds_toArray, List.set_cons_zero, List.set_cons_succ]
  refine wpAnyH_ready (rs := [1]) (by kernel_rfl) (by simp) ?_
  refine AllReadyH.cons (o := { dst := some 13, op := Op.call { callee := Callee.value (Operand.func 10), args := #[Operand.tmp 12], argTypes := #[35] }, type := 9, pos := "law.go:31", after := #[{ on := 0, ground := Ground.data }], guard := none }) rfl (fun K hK => ?_) AllReadyH.nil
  go_simp
  (go_at_call 10; (refine (C10.out w1.drew B1.out.drew).mono ?_); rintro e w2 ⟨rfl, hb⟩; have B2 := Lib.hid (show Below wc.heap.size wc w2 from B1.out.drew.trans (hb.mono B1.out.drew.size)); have S1 := Lib.hid (HBX.out w2 B2.out); clear hb)
  first | refine hK.out _ _ ?_ (fun hHeld => ?_) | (go_wp2_with fail; refine hK.out _ _ ?_ (fun hHeld => ?_))
  · exact S1.out
  clear hK K
  try simp only [Act.put, List.setIfInBounds_toArray, List.set_cons_zero, List.set_cons_succ]
  refine wpAnyH_ready (rs := [3]) (by kernel_rfl) (by simp) ?_
  refine AllReadyH.cons (o := { dst := some 15, op := Op.call { callee := Callee.value (Operand.func 11), args := #[Operand.tmp 14], argTypes := #[35] }, type := 9, pos := "law.go:31", after := #[{ on := 2, ground := Ground.data }, { on := 1, ground := Ground.chain }], guard := none }) rfl (fun K hK => ?_) AllReadyH.nil
  go_simp
  (go_at_call 11; (refine (C11.out w2 B2.out).mono ?_); rintro e w3 ⟨rfl, hb⟩; have B3 := Lib.hid (show Below wc.heap.size wc w3 from B2.out.trans (hb.mono B2.out.size)); have S2 := Lib.hid (HBX.out w3 B3.out); clear hb)
  first | refine hK.out _ _ ?_ (fun hHeld => ?_) | (go_wp2_with fail; refine hK.out _ _ ?_ (fun hHeld => ?_))
  · exact S2.out
  clear hK K
  try simp only [Act.put, List.setIfInBounds_toArray, List.set_cons_zero, List.set_cons_succ]
  refine wpAnyH_take (i := 4) (oi := { dst := some 16, op := Op.binOp BinOp.eql 9 (Operand.tmp 13) (Operand.tmp 15) 9, type := 4, pos := "law.go:31", after := #[{ on := 1, ground := Ground.data }, { on := 3, ground := Ground.data }], guard := none }) (v := ?v4) rfl (by kernel_rfl) (by kernel_rfl) (by kernel_rfl) (fun _ _ _ h => h) (Or.inl ⟨by rfl, ?hy4⟩) (by assumption) ?rest4
  case hy4 => (intro w hSw; (try dsimp only at hSw); go_simp; (try (with_reducible rfl)))
  try simp only [Act.put, List.setIfInBounds_toArray, List.set_cons_zero, List.set_cons_succ]
  refine wpAnyH_take (i := 5) (oi := { dst := some 17, op := Op.move (Operand.tmp 16), type := 4, pos := "law.go:31", after := #[{ on := 4, ground := Ground.data }, { on := 3, ground := Ground.chain }], guard := none }) (v := ?v5) rfl (by kernel_rfl) (by kernel_rfl) (by kernel_rfl) (fun _ _ _ h => h) (Or.inl ⟨by rfl, ?hy5⟩) (by assumption) ?rest5
  case hy5 => (intro w hSw; (try dsimp only at hSw); go_simp; (try (with_reducible rfl)))
  try simp only [Act.put, List.setIfInBounds_toArray, List.set_cons_zero, List.set_cons_succ]
  refine wpAnyH_take (i := 6) (oi := { dst := some 18, op := Op.load 31 (Operand.tmp 3), type := 31, pos := "law.go:31", after := #[{ on := 5, ground := Ground.guard }], guard := some (5, true) }) (v := ?v6) rfl (by kernel_rfl) (by kernel_rfl) (by kernel_rfl) (fun _ _ _ h => h) (Or.inl ⟨by rfl, ?hy6⟩) (by assumption) ?rest6
  case hy6 => (intro w hSw; (try dsimp only at hSw); go_simp; (try (with_reducible rfl)))
  try simp only [Act.put, List.setIfInBounds_toArray, List.set_cons_zero, List.set_cons_succ]
  refine wpAnyH_take (i := 8) (oi := { dst := some 20, op := Op.load 31 (Operand.tmp 3), type := 31, pos := "law.go:31", after := #[{ on := 5, ground := Ground.guard }], guard := some (5, true) }) (v := ?v8) rfl (by kernel_rfl) (by kernel_rfl) (by kernel_rfl) (fun _ _ _ h => h) (Or.inl ⟨by rfl, ?hy8⟩) (by assumption) ?rest8
  case hy8 => (intro w hSw; (try dsimp only at hSw); go_simp; (try (with_reducible rfl)))
  try simp only [Act.put, List.setIfInBounds_toArray, List.set_cons_zero, List.set_cons_succ]
  refine wpAnyH_ready (rs := [7]) (by kernel_rfl) (by simp) ?_
  refine AllReadyH.cons (o := { dst := some 19, op := Op.call { callee := Callee.value (Operand.func 12), args := #[Operand.tmp 18], argTypes := #[31] }, type := 9, pos := "law.go:31", after := #[{ on := 6, ground := Ground.data }, { on := 5, ground := Ground.chain }, { on := 5, ground := Ground.guard }], guard := some (5, true) }) rfl (fun K hK => ?_) AllReadyH.nil
  go_simp
  (go_at_call 12; (refine (C12.out w3).mono ?_); rintro e w4 ⟨rfl, hb⟩; have B4 := Lib.hid (show Below wc.heap.size wc w4 from B3.out.trans (hb.mono B3.out.size)); have S3 := Lib.hid (HBX.out w4 B4.out); clear hb)
  first | refine hK.out _ _ ?_ (fun hHeld => ?_) | (go_wp2_with fail; refine hK.out _ _ ?_ (fun hHeld => ?_))
  · exact S3.out
  clear hK K
  try simp only [Act.put, List.setIfInBounds_toArray, List.set_cons_zero, List.set_cons_succ]
  refine wpAnyH_ready (rs := [9]) (by kernel_rfl) (by simp) ?_
  refine AllReadyH.cons (o := { dst := some 21, op := Op.call { callee := Callee.value (Operand.func 13), args := #[Operand.tmp 20], argTypes := #[31] }, type := 9, pos := "law.go:31", after := #[{ on := 8, ground := Ground.data }, { on := 7, ground := Ground.chain }, { on := 5, ground := Ground.guard }], guard := some (5, true) }) rfl (fun K hK => ?_) AllReadyH.nil
  go_simp
  (go_at_call 13; (refine (C13.out w4).mono ?_); rintro e w5 ⟨rfl, hb⟩; have B5 := Lib.hid (show Below wc.heap.size wc w5 from B4.out.trans (hb.mono B4.out.size)); have S4 := Lib.hid (HBX.out w5 B5.out); clear hb)
  first | refine hK.out _ _ ?_ (fun hHeld => ?_) | (go_wp2_with fail; refine hK.out _ _ ?_ (fun hHeld => ?_))
  · exact S4.out
  clear hK K
  try simp only [Act.put, List.setIfInBounds_toArray, List.set_cons_zero, List.set_cons_succ]
  refine wpAnyH_take (i := 10) (oi := { dst := some 22, op := Op.binOp BinOp.eql 9 (Operand.tmp 19) (Operand.tmp 21) 9, type := 4, pos := "law.go:31", after := #[{ on := 7, ground := Ground.data }, { on := 9, ground := Ground.data }, { on := 5, ground := Ground.guard }], guard := some (5, true) }) (v := ?v10) rfl (by kernel_rfl) (by kernel_rfl) (by kernel_rfl) (fun _ _ _ h => h) (Or.inl ⟨by rfl, ?hy10⟩) (by assumption) ?rest10
  case hy10 => (intro w hSw; (try dsimp only at hSw); go_simp; (try (with_reducible rfl)))
  try simp only [Act.put, List.setIfInBounds_toArray, List.set_cons_zero, List.set_cons_succ]
  refine wpAnyH_take (i := 11) (oi := { dst := some 23, op := Op.pick (Operand.tmp 17) (Operand.tmp 22) (Operand.const (Value.bool false)), type := 4, pos := "law.go:31", after := #[{ on := 5, ground := Ground.data }, { on := 10, ground := Ground.data }], guard := none }) (v := ?v11) rfl (by kernel_rfl) (by kernel_rfl) (by kernel_rfl) (fun _ _ _ h => h) (Or.inl ⟨by rfl, ?hy11⟩) (by assumption) ?rest11
  case hy11 => (intro w hSw; (try dsimp only at hSw); go_simp; (try (with_reducible rfl)))
  try simp only [Act.put, List.setIfInBounds_toArray, List.set_cons_zero, List.set_cons_succ]
  refine wpAnyH_take (i := 12) (oi := { dst := some 24, op := Op.move (Operand.tmp 23), type := 4, pos := "law.go:31", after := #[{ on := 11, ground := Ground.data }, { on := 9, ground := Ground.chain }], guard := none }) (v := ?v12) rfl (by kernel_rfl) (by kernel_rfl) (by kernel_rfl) (fun _ _ _ h => h) (Or.inl ⟨by rfl, ?hy12⟩) (by assumption) ?rest12
  case hy12 => (intro w hSw; (try dsimp only at hSw); go_simp; (try (with_reducible rfl)))
  try simp only [Act.put, List.setIfInBounds_toArray, List.set_cons_zero, List.set_cons_succ]
  refine wpAnyH_take (i := 13) (oi := { dst := some 25, op := Op.fieldAddr 31 (Operand.tmp 3) 2, type := 0, pos := "law.go:31", after := #[{ on := 12, ground := Ground.guard }], guard := some (12, true) }) (v := ?v13) rfl (by kernel_rfl) (by kernel_rfl) (by kernel_rfl) (fun _ _ _ h => h) (Or.inl ⟨by rfl, ?hy13⟩) (by assumption) ?rest13
  case hy13 => (intro w hSw; (try dsimp only at hSw); go_simp; (try (with_reducible rfl)))
  try simp only [Act.put, List.setIfInBounds_toArray, List.set_cons_zero, List.set_cons_succ]
  refine wpAnyH_take (i := 14) (oi := { dst := some 26, op := Op.load 3 (Operand.tmp 25), type := 3, pos := "law.go:31", after := #[{ on := 13, ground := Ground.data }, { on := 12, ground := Ground.guard }], guard := some (12, true) }) (v := ?v14) rfl (by kernel_rfl) (by kernel_rfl) (by kernel_rfl) (fun _ _ _ h => h) (Or.inl ⟨by rfl, ?hy14⟩) (by assumption) ?rest14
  case hy14 => (intro w hSw; (try dsimp only at hSw); go_simp; (try (with_reducible rfl)))
  try simp only [Act.put, List.setIfInBounds_toArray, List.set_cons_zero, List.set_cons_succ]
  refine wpAnyH_take (i := 16) (oi := { dst := some 28, op := Op.fieldAddr 31 (Operand.tmp 3) 2, type := 0, pos := "law.go:31", after := #[{ on := 12, ground := Ground.guard }], guard := some (12, true) }) (v := ?v16) rfl (by kernel_rfl) (by kernel_rfl) (by kernel_rfl) (fun _ _ _ h => h) (Or.inl ⟨by rfl, ?hy16⟩) (by assumption) ?rest16
  case hy16 => (intro w hSw; (try dsimp only at hSw); go_simp; (try (with_reducible rfl)))
  try simp only [Act.put, List.setIfInBounds_toArray, List.set_cons_zero, List.set_cons_succ]
  refine wpAnyH_take (i := 17) (oi := { dst := some 29, op := Op.load 3 (Operand.tmp 28), type := 3, pos := "law.go:31", after := #[{ on := 16, ground := Ground.data }, { on := 12, ground := Ground.guard }], guard := some (12, true) }) (v := ?v17) rfl (by kernel_rfl) (by kernel_rfl) (by kernel_rfl) (fun _ _ _ h => h) (Or.inl ⟨by rfl, ?hy17⟩) (by assumption) ?rest17
  case hy17 => (intro w hSw; (try dsimp only at hSw); go_simp; (try (with_reducible rfl)))
  try simp only [Act.put, List.setIfInBounds_toArray, List.set_cons_zero, List.set_cons_succ]
  refine wpAnyH_take (i := 18) (oi := { dst := some 30, op := Op.build 31 #[(0, Operand.const (Value.int IntKind.i64 1)), (2, Operand.tmp 29)], type := 31, pos := "law.go:31", after := #[{ on := 17, ground := Ground.data }, { on := 12, ground := Ground.guard }], guard := some (12, true) }) (v := ?v18) rfl (by kernel_rfl) (by kernel_rfl) (by kernel_rfl) (fun _ _ _ h => h) (Or.inl ⟨by rfl, ?hy18⟩) (by assumption) ?rest18
  case hy18 => (intro w hSw; (try dsimp only at hSw); go_simp; (try (with_reducible rfl)))
  try simp only [Act.put, List.setIfInBounds_toArray, List.set_cons_zero, List.set_cons_succ]
  refine wpAnyH_ready (rs := [15]) (by kernel_rfl) (by simp) ?_
  refine AllReadyH.cons (o := { dst := some 27, op := Op.call { callee := Callee.value (Operand.func 14), args := #[Operand.tmp 26], argTypes := #[3] }, type := 9, pos := "law.go:31", after := #[{ on := 14, ground := Ground.data }, { on := 12, ground := Ground.chain }, { on := 12, ground := Ground.guard }], guard := some (12, true) }) rfl (fun K hK => ?_) AllReadyH.nil
  go_simp
  (go_at_call 14; (refine (C14.out w5).mono ?_); rintro e w6 ⟨rfl, hb⟩; have B6 := Lib.hid (show Below wc.heap.size wc w6 from B5.out.trans (hb.mono B5.out.size)); have S5 := Lib.hid (HBX.out w6 B6.out); clear hb)
  first | refine hK.out _ _ ?_ (fun hHeld => ?_) | (go_wp2_with fail; refine hK.out _ _ ?_ (fun hHeld => ?_))
  · exact S5.out
  clear hK K
  try simp only [Act.put, List.setIfInBounds_toArray, List.set_cons_zero, List.set_cons_succ]
  refine wpAnyH_ready (rs := [19]) (by kernel_rfl) (by simp) ?_
  refine AllReadyH.cons (o := { dst := some 31, op := Op.call { callee := Callee.value (Operand.func 13), args := #[Operand.tmp 30], argTypes := #[31] }, type := 9, pos := "law.go:31", after := #[{ on := 18, ground := Ground.data }, { on := 15, ground := Ground.chain }, { on := 12, ground := Ground.guard }], guard := some (12, true) }) rfl (fun K hK => ?_) AllReadyH.nil
  go_simp
  (go_at_call 13; (refine (C15.out w6).mono ?_); rintro e w7 ⟨rfl, hb⟩; have B7 := Lib.hid (show Below wc.heap.size wc w7 from B6.out.trans (hb.mono B6.out.size)); have S6 := Lib.hid (HBX.out w7 B7.out); clear hb)
  first | refine hK.out _ _ ?_ (fun hHeld => ?_) | (go_wp2_with fail; refine hK.out _ _ ?_ (fun hHeld => ?_))
  · exact S6.out
  clear hK K
  try simp only [Act.put, List.setIfInBounds_toArray, List.set_cons_zero, List.set_cons_succ]
  refine wpAnyH_take (i := 20) (oi := { dst := some 32, op := Op.binOp BinOp.eql 9 (Operand.tmp 27) (Operand.tmp 31) 9, type := 4, pos := "law.go:31", after := #[{ on := 15, ground := Ground.data }, { on := 19, ground := Ground.data }, { on := 12, ground := Ground.guard }], guard := some (12, true) }) (v := ?v20) rfl (by kernel_rfl) (by kernel_rfl) (by kernel_rfl) (fun _ _ _ h => h) (Or.inl ⟨by rfl, ?hy20⟩) (by assumption) ?rest20
  case hy20 => (intro w hSw; (try dsimp only at hSw); go_simp; (try (with_reducible rfl)))
  try simp only [Act.put, List.setIfInBounds_toArray, List.set_cons_zero, List.set_cons_succ]
  refine wpAnyH_take (i := 21) (oi := { dst := some 33, op := Op.pick (Operand.tmp 24) (Operand.tmp 32) (Operand.const (Value.bool false)), type := 4, pos := "law.go:31", after := #[{ on := 12, ground := Ground.data }, { on := 20, ground := Ground.data }], guard := none }) (v := ?v21) rfl (by kernel_rfl) (by kernel_rfl) (by kernel_rfl) (fun _ _ _ h => h) (Or.inl ⟨by rfl, ?hy21⟩) (by assumption) ?rest21
  case hy21 => (intro w hSw; (try dsimp only at hSw); go_simp; (try (with_reducible rfl)))
  try simp only [Act.put, List.setIfInBounds_toArray, List.set_cons_zero, List.set_cons_succ]
  refine wpAnyH_take (i := 22) (oi := { dst := some 34, op := Op.move (Operand.tmp 33), type := 4, pos := "law.go:31", after := #[{ on := 21, ground := Ground.data }, { on := 19, ground := Ground.chain }], guard := none }) (v := ?v22) rfl (by kernel_rfl) (by kernel_rfl) (by kernel_rfl) (fun _ _ _ h => h) (Or.inl ⟨by rfl, ?hy22⟩) (by assumption) ?rest22
  case hy22 => (intro w hSw; (try dsimp only at hSw); go_simp; (try (with_reducible rfl)))
  try simp only [Act.put, List.setIfInBounds_toArray, List.set_cons_zero, List.set_cons_succ]
  refine wpAnyH_ready (rs := [23]) (by kernel_rfl) (by simp) ?_
  refine AllReadyH.cons (o := { dst := some 35, op := Op.call { callee := Callee.value (Operand.func 7), args := #[], argTypes := #[] }, type := 4, pos := "law.go:31", after := #[{ on := 22, ground := Ground.chain }, { on := 22, ground := Ground.guard }], guard := some (22, true) }) rfl (fun K hK => ?_) AllReadyH.nil
  go_simp
  (go_at_call 7; (refine (works_v w7 (HGG.out.below B7.out HGG.out.1)).mono ?_); rintro e w8 ⟨rfl, hb⟩; have B8 := Lib.hid (show Below wc.heap.size wc w8 from B7.out.trans (hb.mono B7.out.size)); have S7 := Lib.hid (HBX.out w8 B8.out); clear hb)
  first | refine hK.out _ _ ?_ (fun hHeld => ?_) | (go_wp2_with fail; refine hK.out _ _ ?_ (fun hHeld => ?_))
  · exact S7.out
  clear hK K
  try simp only [Act.put, List.setIfInBounds_toArray, List.set_cons_zero, List.set_cons_succ]
  refine wpAnyH_take (i := 24) (oi := { dst := some 36, op := Op.pick (Operand.tmp 34) (Operand.tmp 35) (Operand.const (Value.bool false)), type := 4, pos := "law.go:31", after := #[{ on := 22, ground := Ground.data }, { on := 23, ground := Ground.data }], guard := none }) (v := ?v24) rfl (by kernel_rfl) (by kernel_rfl) (by kernel_rfl) (fun _ _ _ h => h) (Or.inl ⟨by rfl, ?hy24⟩) (by assumption) ?rest24
  case hy24 => (intro w hSw; (try dsimp only at hSw); go_simp; (try (with_reducible rfl)))
  try simp only [Act.put, List.setIfInBounds_toArray, List.set_cons_zero, List.set_cons_succ]
  refine wpAnyH_take (i := 25) (oi := { dst := some 4, op := Op.assign (Operand.tmp 36), type := 4, pos := "law.go:31", after := #[{ on := 24, ground := Ground.data }, { on := 23, ground := Ground.chain }, { on := 0, ground := Ground.phase }, { on := 1, ground := Ground.phase }, { on := 2, ground := Ground.phase }, { on := 3, ground := Ground.phase }, { on := 4, ground := Ground.phase }, { on := 5, ground := Ground.phase }, { on := 6, ground := Ground.phase }, { on := 7, ground := Ground.phase }, { on := 8, ground := Ground.phase }, { on := 9, ground := Ground.phase }, { on := 10, ground := Ground.phase }, { on := 11, ground := Ground.phase }, { on := 12, ground := Ground.phase }, { on := 13, ground := Ground.phase }, { on := 14, ground := Ground.phase }, { on := 15, ground := Ground.phase }, { on := 16, ground := Ground.phase }, { on := 17, ground := Ground.phase }, { on := 18, ground := Ground.phase }, { on := 19, ground := Ground.phase }, { on := 20, ground := Ground.phase }, { on := 21, ground := Ground.phase }, { on := 22, ground := Ground.phase }, { on := 23, ground := Ground.phase }, { on := 24, ground := Ground.phase }], guard := none }) (v := ?v25) rfl (by kernel_rfl) (by kernel_rfl) (by kernel_rfl) (fun _ _ _ h => h) (Or.inl ⟨by rfl, ?hy25⟩) (by assumption) ?rest25
  case hy25 => (intro w hSw; (try dsimp only at hSw); go_simp; (try (with_reducible rfl)))
  try simp only [Act.put, List.setIfInBounds_toArray, List.set_cons_zero, List.set_cons_succ]
  refine wpAnyH_done (by kernel_rfl) ?_ _
  go_wp2_with fail
  go_ret
  exact ⟨rfl, Bend.out _ B8.out⟩
theorem instrs_v (i : Ins) (r : InsV) (x : Opn) (W : World) (hG : Opr.Glob W) (hI : IsIns W i r) (hF : InsF i) (hO : OpF x) (hw : wI i ≤ 1048576) :
    Calls Tryd.prog 4 #[.agg (insR i r), .agg #[.int .i64 x.k, .int .i64 x.c, .int .i64 x.n, .int .i64 x.t]] W fun e w' => e = .returned (.bool true) ∧ Below W.heap.size W w' := by
  have hlen := insT_big i hF hw
  obtain ⟨op, ⟨dk, dc, dn, dt⟩, args, nm, off, labels, cas⟩ := i
  obtain ⟨aa, an, ac, la, ln, lc, ca, cn, cc⟩ := r
  obtain ⟨ok, oc, on, ot⟩ := x
  exact instrs_w op dk dc dn dt args nm off labels cas aa an ac la ln lc ca cn cc ok oc on ot W hG hI hF hO hlen
end Go.Proofs.YtlfohbajeecdeaaDoor
