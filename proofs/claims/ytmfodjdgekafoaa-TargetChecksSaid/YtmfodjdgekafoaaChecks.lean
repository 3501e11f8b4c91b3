/- The statement on targets: what is wrong with any target, and whether it has any place, and a call spoils that, is what the chapter says. -/
import Derived.Test.YtmfodjdgekafoaaWorks
import Derived.Deep.RegionHeld3
namespace Go.Proofs.Ytmfodjdgekafoaa
open Go.ChangeShapes Go.WideShapes Go.RowKit
set_option linter.unusedVariables false
set_option maxRecDepth 20000

set_option maxHeartbeats 4000000 in
theorem checks_v (i : Tgt) (r : TgtV) (k c n : Int) (hf : Deci.fit n) (w : World) (h : IsTgt w i r) :
    Calls Try.prog 3 #[.agg (tgtR i r), .agg #[.int .i64 k, .int .i64 c, .int .i64 n]] w fun e w' => e = .returned (.bool true) ∧ Below w.heap.size w w' := by
  have B0 : Below w.heap.size w ((w.alloc (.cells (tgtR i r) 26)).alloc (.cells #[.int .i64 k, .int .i64 c, .int .i64 n] 28)) := ((Below.refl _ w).alloc (Nat.le_refl _) _).alloc (by simp) _
  have HI := h.below B0
  have D := Lib.hid (And.intro B0 (And.intro (show w.heap.size ≤ ((w.alloc (.cells (tgtR i r) 26)).alloc (.cells #[.int .i64 k, .int .i64 c, .int .i64 n] 28)).heap.size by simp; omega) (box_two w (.cells (tgtR i r) 26) (.cells #[.int .i64 k, .int .i64 c, .int .i64 n] 28))))
  clear h B0
  obtain ⟨z, hz⟩ : ∃ z, chkT i = z := ⟨_, rfl⟩
  obtain ⟨bh, hh⟩ : ∃ b, hasB i k c n = b := ⟨_, rfl⟩
  obtain ⟨bs, hs⟩ : ∃ b, spB i k c n = b := ⟨_, rfl⟩
  obtain ⟨s, hss⟩ : ∃ s, ByteArray.mk (nameOf k c n).toArray = s := ⟨_, rfl⟩
  obtain ⟨wa, hwa⟩ : ∃ wa, (w.alloc (.cells (tgtR i r) 26)).alloc (.cells #[.int .i64 k, .int .i64 c, .int .i64 n] 28) = wa := ⟨_, rfl⟩
  rw [hwa] at D HI
  have hl0 := HI.c0.2.1
  have hl1 := HI.c1.2.1
  have C7 : ∀ W, Below wa.heap.size wa W → Calls Try.prog 7 #[.agg (tgtR i r)] W fun e w' => e = .returned (.int .i64 z) ∧ Below W.heap.size W w' := fun W hB => by rw [← hz]; exact (check_v i r W (HI.below hB))
  have C8 : ∀ W, Below wa.heap.size wa W → Calls Try.prog 8 #[.agg (tgtR i r)] W fun e w' => e = .returned (.int .i64 z) ∧ Below W.heap.size W w' := fun W hB => by rw [← hz]; exact (rcheck_v i r W (HI.below hB))
  have C9 : ∀ W, Below wa.heap.size wa W → Calls Try.prog 9 #[.agg (tgtR i r), .agg #[.int .i64 k, .int .i64 c, .int .i64 n]] W fun e w' => e = .returned (.bool bh) ∧ Below W.heap.size W w' := fun W hB => (has_v i r k c n W (HI.below hB) bh hh)
  have C10 : ∀ W, Below wa.heap.size wa W → Calls Try.prog 10 #[.agg (tgtR i r), .agg #[.int .i64 k, .int .i64 c, .int .i64 n]] W fun e w' => e = .returned (.bool bh) ∧ Below W.heap.size W w' := fun W hB => (rhas_v i r k c n W (HI.below hB) bh hh)
  have C11 : ∀ W, Below wa.heap.size wa W → Calls Try.prog 11 #[.agg (tgtR i r), .agg #[.int .i64 k, .int .i64 c, .int .i64 n]] W fun e w' => e = .returned (.bool bs) ∧ Below W.heap.size W w' := fun W hB => (spoils_v i r k c n W (HI.below hB) bs hs)
  have C12 : ∀ W, Below wa.heap.size wa W → Calls Try.prog 12 #[.agg (tgtR i r), .agg #[.int .i64 k, .int .i64 c, .int .i64 n]] W fun e w' => e = .returned (.bool bs) ∧ Below W.heap.size W w' := fun W hB => (rspoils_v i r k c n W (HI.below hB) bs hs)
  have C13 : ∀ W, Below wa.heap.size wa W → Calls Try.prog 13 #[.agg #[.int .i64 k, .int .i64 c, .int .i64 n]] W fun e w' => e = .returned (.string s) ∧ Below W.heap.size W w' := fun W hB => (name_v k c n hf s hss W)
  have C14 : ∀ W, Below wa.heap.size wa W → Calls Try.prog 14 #[.agg #[.int .i64 k, .int .i64 c, .int .i64 n]] W fun e w' => e = .returned (.string s) ∧ Below W.heap.size W w' := fun W hB => (rname_v k c n hf s hss W)
  have C6 : ∀ W, Below wa.heap.size wa W → Calls Try.prog 6 #[] W fun e w' => e = .returned (.bool true) ∧ Below W.heap.size W w' := fun W hB => (works_v W)
  have CC := Lib.hid (And.intro C7 (And.intro C8 (And.intro C9 (And.intro C10 (And.intro C11 (And.intro C12 (And.intro C13 (And.intro C14 (C6)))))))))
  clear C7 C8 C9 C10 C11 C12 C13 C14 C6 HI hz hh hs hss hf
  obtain ⟨r0, r1, c0, c1, sl⟩ := i
  obtain ⟨a0, n0, m0, a1, n1, m1⟩ := r
  unfold tgtR at D CC hwa ⊢
  dsimp only at D CC hwa hl0 hl1 ⊢
  obtain ⟨t0, t1, t2, t3, t4, l0, l1, l2⟩ := sp_cells D.out.2.2.1 D.out.2.2.2
  by_cases h0 : (n0 : Int) > 60
  · go_enter Try.func3, Try.ntmps3
    go_wp2_with fail
    refine (CC.out.2.2.2.2.2.2.2.2 _ (Below.refl _ _)).mono ?_
    rintro e w1 ⟨rfl, hb⟩
    have HB := Lib.hid hb
    clear hb
    go_wp2_with fail
    go_ret
    exact ⟨rfl, D.out.1.trans (HB.out.mono D.out.2.1)⟩
  by_cases h1 : (n1 : Int) > 60
  · go_enter Try.func3, Try.ntmps3
    go_wp2_with fail
    refine (CC.out.2.2.2.2.2.2.2.2 _ (Below.refl _ _)).mono ?_
    rintro e w1 ⟨rfl, hb⟩
    have HB := Lib.hid hb
    clear hb
    go_wp2_with fail
    go_ret
    exact ⟨rfl, D.out.1.trans (HB.out.mono D.out.2.1)⟩
  have B0 := Lib.hid (show Below wa.heap.size wa wa.drew from below_drewN wa 1)
  go_enter Try.func3, Try.ntmps3
  go_wp2_with fail
  clear hwa
  go_region_held3 (fun W => W.cell? ⟨w.heap.size, 0, none⟩ = some (.int .i64 r0) ∧ W.cell? ⟨w.heap.size, 1, none⟩ = some (.int .i64 r1) ∧ W.cell? ⟨w.heap.size, 2, none⟩ = some (.slice a0 n0 m0) ∧ W.cell? ⟨w.heap.size, 3, none⟩ = some (.slice a1 n1 m1) ∧ W.cell? ⟨w.heap.size, 4, none⟩ = some (.int .i64 sl) ∧ W.cell? ⟨w.heap.size + 1, 0, none⟩ = some (.int .i64 k) ∧ W.cell? ⟨w.heap.size + 1, 1, none⟩ = some (.int .i64 c) ∧ W.cell? ⟨w.heap.size + 1, 2, none⟩ = some (.int .i64 n))
    (first | exact S9.out | exact S8.out | exact S7.out | exact S6.out | exact S5.out | exact S4.out | exact S3.out | exact S2.out | exact S1.out | exact ⟨t0, t1, t2, t3, t4, l0, l1, l2⟩)
    (first
      | (go_at_call 6; (refine Calls.mono (CC.out.2.2.2.2.2.2.2.2 w8 B8.out) ?_); rintro e w9 ⟨rfl, hb⟩; have B9 := Lib.hid (B8.out.trans (hb.mono B8.out.size)); clear hb; have S9 := Lib.hid (sp_cells (kept_box D.out.2.2.1 B9.out) (kept_box D.out.2.2.2 B9.out)))
      | (go_at_call 14; (refine Calls.mono (CC.out.2.2.2.2.2.2.2.1 w7 B7.out) ?_); rintro e w8 ⟨rfl, hb⟩; have B8 := Lib.hid (B7.out.trans (hb.mono B7.out.size)); clear hb; have S8 := Lib.hid (sp_cells (kept_box D.out.2.2.1 B8.out) (kept_box D.out.2.2.2 B8.out)))
      | (go_at_call 13; (refine Calls.mono (CC.out.2.2.2.2.2.2.1 w6 B6.out) ?_); rintro e w7 ⟨rfl, hb⟩; have B7 := Lib.hid (B6.out.trans (hb.mono B6.out.size)); clear hb; have S7 := Lib.hid (sp_cells (kept_box D.out.2.2.1 B7.out) (kept_box D.out.2.2.2 B7.out)))
      | (go_at_call 12; (refine Calls.mono (CC.out.2.2.2.2.2.1 w5 B5.out) ?_); rintro e w6 ⟨rfl, hb⟩; have B6 := Lib.hid (B5.out.trans (hb.mono B5.out.size)); clear hb; have S6 := Lib.hid (sp_cells (kept_box D.out.2.2.1 B6.out) (kept_box D.out.2.2.2 B6.out)))
      | (go_at_call 11; (refine Calls.mono (CC.out.2.2.2.2.1 w4 B4.out) ?_); rintro e w5 ⟨rfl, hb⟩; have B5 := Lib.hid (B4.out.trans (hb.mono B4.out.size)); clear hb; have S5 := Lib.hid (sp_cells (kept_box D.out.2.2.1 B5.out) (kept_box D.out.2.2.2 B5.out)))
      | (go_at_call 10; (refine Calls.mono (CC.out.2.2.2.1 w3 B3.out) ?_); rintro e w4 ⟨rfl, hb⟩; have B4 := Lib.hid (B3.out.trans (hb.mono B3.out.size)); clear hb; have S4 := Lib.hid (sp_cells (kept_box D.out.2.2.1 B4.out) (kept_box D.out.2.2.2 B4.out)))
      | (go_at_call 9; (refine Calls.mono (CC.out.2.2.1 w2 B2.out) ?_); rintro e w3 ⟨rfl, hb⟩; have B3 := Lib.hid (B2.out.trans (hb.mono B2.out.size)); clear hb; have S3 := Lib.hid (sp_cells (kept_box D.out.2.2.1 B3.out) (kept_box D.out.2.2.2 B3.out)))
      | (go_at_call 8; (refine Calls.mono (CC.out.2.1 w1 B1.out) ?_); rintro e w2 ⟨rfl, hb⟩; have B2 := Lib.hid (B1.out.trans (hb.mono B1.out.size)); clear hb; have S2 := Lib.hid (sp_cells (kept_box D.out.2.2.1 B2.out) (kept_box D.out.2.2.2 B2.out)))
      | (go_at_call 7; (refine Calls.mono (CC.out.1 wa.drew B0.out) ?_); rintro e w1 ⟨rfl, hb⟩; have B1 := Lib.hid (B0.out.trans (hb.mono B0.out.size)); clear hb; have S1 := Lib.hid (sp_cells (kept_box D.out.2.2.1 B1.out) (kept_box D.out.2.2.2 B1.out))))
  go_wp2_with fail
  go_ret
  exact ⟨rfl, D.out.1.trans (B9.out.mono D.out.2.1)⟩
end Go.Proofs.Ytmfodjdgekafoaa
