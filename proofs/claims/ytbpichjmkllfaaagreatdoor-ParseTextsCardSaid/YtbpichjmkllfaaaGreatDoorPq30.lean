/- Packed texts of one proof. Conditions: none. -/
import Derived.Test.YtbpichjmkllfaaaGreatDoorPq29
namespace Go.Proofs.YtbpichjmkllfaaaGreatDoor.Par
open Go.ChangeShapes Go.WideShapes Go.RowKit
open Lex (Tok tcl tkv tk tc)
set_option linter.unusedVariables false
set_option maxRecDepth 20000
def wt1 : ByteArray := ⟨([102, 117, 110, 99, 32, 102, 40, 37, 48, 41, 32, 123, 32, 114, 101, 103, 115, 32, 37, 48, 58, 103, 32, 37, 50, 58, 120, 59, 32, 97, 58, 32, 37, 48, 32, 61, 32, 108, 111, 97, 100, 32, 37, 50, 32, 43, 32, 45, 56, 59, 32, 115].append [119, 105, 116, 99, 104, 32, 37, 48, 32, 91, 49, 58, 32, 97, 44, 32, 101, 108, 115, 101, 58, 32, 98, 46, 99, 93, 32, 59, 32, 101, 100, 103, 101, 32, 98, 46, 99, 58, 32, 114, 101, 116, 32, 40, 49, 43, 50, 41, 59, 32, 125]).toArray⟩
def wt2 : ByteArray := ⟨#[102, 117, 110, 99, 32, 102, 40, 41, 32, 123, 32, 97, 58, 32, 97, 100, 100, 32, 37, 49, 59, 32, 125]⟩
def wt3 : ByteArray := ⟨#[102, 117, 110, 99, 32, 102, 40, 41, 32, 123, 32, 97, 58, 32, 102, 111, 111, 32, 98, 97, 114, 32, 125]⟩
def wchk1 (x : Fun) : Bool := decide (x.blocks.length = 2) && decide (x.regs.length = 2) && (match x.blocks with
 | [b0, b1] => decide (b0.code.length = 2) && decide (b1.code.length = 1) && b1.edge && (match b0.code, b1.code with
  | i0 :: _, [j0] => decide (i0.off = -8) && (match j0.args with | a :: _ => decide (a.n = 3) | _ => false)
  | _, _ => false)
 | _ => false)
def wok (s : ByteArray) (f : Fun → Bool) : Bool := match Lex.all s.data.toList with
 | (m, c, _) => decide (c = 0) && (match whole m with | .ok x _ => f x | .bad _ _ => false)
def wbad (s : ByteArray) (p : Nat) : Bool := match Lex.all s.data.toList with
 | (m, c, _) => decide (c = 0) && (match whole m with | .ok _ _ => false | .bad c q => decide (c = 20) && decide (q = p))
theorem w1_is : wok wt1 wchk1 = true := by decide +kernel
theorem w2_is : wbad wt2 20 = true := by decide +kernel
theorem w3_is : wbad wt3 18 = true := by decide +kernel
theorem TextP.good {s : ByteArray} {w w' : World} {e : Ending} {f : Fun → Bool} (h : TextP s w e w') (hk : wok s f = true) : ∃ x r, f x = true ∧ e = .returned (.tuple #[.agg (funR x r), .nilIface]) ∧ IsFun w' x r ∧ Below w.heap.size w w' := by
 obtain ⟨hb, ⟨m, code, q, hc, hm, rfl⟩ | ⟨m, q, x, l, r, hm, hw, rfl, hF⟩ | ⟨m, q, c, p, hm, hc, hw, rfl⟩⟩ := h
 ·unfold wok at hk
  rw [hm] at hk
  simp [hc] at hk
 ·unfold wok at hk
  rw [hm] at hk
  simp only [hw] at hk
  exact ⟨x, r, by simpa using hk, rfl, hF, hb⟩
 ·unfold wok at hk
  rw [hm] at hk
  simp only [hw] at hk
  simp at hk
theorem TextP.wrong {s : ByteArray} {w w' : World} {e : Ending} {n : Nat} (h : TextP s w e w') (hk : wbad s n = true) : e = .returned (.tuple #[funZ, Flt.err 20 (n : Int) [funcB]]) ∧ Below w.heap.size w w' := by
 obtain ⟨hb, ⟨m, code, q, hc, hm, rfl⟩ | ⟨m, q, x, l, r, hm, hw, rfl, hF⟩ | ⟨m, q, c, p, hm, hc, hw, rfl⟩⟩ := h
 ·unfold wbad at hk
  rw [hm] at hk
  simp [hc] at hk
 ·unfold wbad at hk
  rw [hm] at hk
  simp only [hw] at hk
  simp at hk
 ·unfold wbad at hk
  rw [hm] at hk
  simp only [hw] at hk
  simp at hk
  obtain ⟨rfl, rfl⟩ := hk
  exact ⟨rfl, hb⟩
theorem w1_parts {x : Fun} (h : wchk1 x = true) : ∃ b0 b1 i0 i1 j0 a as_, x.blocks = [b0, b1] ∧ b0.code = [i0, i1] ∧ b1.code = [j0] ∧ b1.edge = true ∧ i0.off = -8 ∧ j0.args = a :: as_ ∧ a.n = 3 ∧ x.regs.length = 2 := by
 unfold wchk1 at h
 simp only [Bool.and_eq_true, decide_eq_true_eq] at h
 obtain ⟨⟨h1, h2⟩, h3⟩ := h
 obtain ⟨b0, b1, hb⟩ : ∃ b0 b1, x.blocks = [b0, b1] := by
  match hx : x.blocks, h1 with
  | [b0, b1], _ => exact ⟨b0, b1, rfl⟩
 rw [hb] at h3
 simp only [Bool.and_eq_true, decide_eq_true_eq] at h3
 obtain ⟨⟨⟨h4, h5⟩, h6⟩, h7⟩ := h3
 obtain ⟨i0, i1, hi⟩ : ∃ i0 i1, b0.code = [i0, i1] := by
  match hx : b0.code, h4 with
  | [i0, i1], _ => exact ⟨i0, i1, rfl⟩
 obtain ⟨j0, hj⟩ : ∃ j0, b1.code = [j0] := by
  match hx : b1.code, h5 with
  | [j0], _ => exact ⟨j0, rfl⟩
 rw [hi, hj] at h7
 simp only [Bool.and_eq_true, decide_eq_true_eq] at h7
 obtain ⟨h8, h9⟩ := h7
 cases ha : j0.args with
 | nil => rw [ha] at h9; simp at h9
 | cons a as_ =>
  rw [ha] at h9
  simp only [decide_eq_true_eq] at h9
  exact ⟨b0, b1, i0, i1, j0, a, as_, hb, hi, hj, h6, h8, ha, h9, h2⟩
set_option maxHeartbeats 8000000 in
theorem works_v (w : World) (hG : Opr.Glob w) (hF : Flt.Glob w) : Calls Tryz.prog 7 #[] w fun e w' => e = .returned (.bool true) ∧ Below w.heap.size w w' := by
 have HA := Hh (Ai hG hF)
 clear hG hF
 go_enter Tryz.func7, Tryz.ntmps7
 go_wp2_with fail
 refine (text_v wt1 w HA.out.1).mono ?_
 intro e w1 h1
 obtain ⟨x, r, hx, rfl, hfun, hb1⟩ := h1.good w1_is
 obtain ⟨b0, b1, i0, i1, j0, a, as_, e1, e2, e3, e4, e5, e6, e7, e8⟩ := w1_parts hx
 have HX := Hh (Ai hfun (Ai hb1 (Ai e1 (Ai e2 (Ai e3 (Ai e4 (Ai e5 (Ai e6 (Ai e7 e8)))))))))
 clear h1 hx hfun hb1 e1 e2 e3 e4 e5 e6 e7 e8
 obtain ⟨w2, hw2⟩ : ∃ w2, w1.alloc (.cells #[.bool x.machine, .string x.name, .slice r.ra r.rn r.rc, .slice r.pa r.pn r.pc, .slice r.ba r.bn r.bc] 27) = w2 := ⟨_, rfl⟩
 have nb2 := new_box w1 _ 27 hw2
 have B2 := HX.out.2.1.trans (nb2.1.mono HX.out.2.1.size)
 have HB := Hh (Ai B2 (Ai nb2.2 (HX.out.1.below nb2.1)))
 clear B2 nb2
 unfold funR
 go_wp2_with fail
 try rw [hw2]
 clear hw2
 refine (text_v wt2 w2 (HA.out.1.below HB.out.1 HA.out.1.1)).mono ?_
 intro e w3 h3
 obtain ⟨rfl, hb3⟩ := h3.wrong w2_is
 obtain ⟨w4, hw4⟩ : ∃ w4, w3.alloc (.cells #[.bool false, .string ⟨#[]⟩, .slice none 0 0, .slice none 0 0, .slice none 0 0] 27) = w4 := ⟨_, rfl⟩
 have nb4 := new_box w3 _ 27 hw4
 have b24 := hb3.trans (nb4.1.mono hb3.size)
 have HC := Hh (Ai (HB.out.1.trans (b24.mono HB.out.1.size)) (Ai (kept_box HB.out.2.1 b24) (HB.out.2.2.below b24)))
 have HW4 := Hh hw4
 clear h3 hb3 nb4 b24 hw4
 obtain ⟨E2, hE2⟩ : ∃ E2, Flt.err 20 20 [funcB] = E2 := ⟨_, rfl⟩
 have HE2 := Hh hE2
 rw [show ((20 : Nat) : Int) = 20 from rfl, hE2]
 clear hE2
 unfold funZ
 go_wp2_with fail
 rw [HW4.out]
 refine (text_v wt3 w4 (HA.out.1.below HC.out.1 HA.out.1.1)).mono ?_
 intro e w5 h5
 obtain ⟨rfl, hb5⟩ := h5.wrong w3_is
 obtain ⟨w6, hw6⟩ : ∃ w6, w5.alloc (.cells #[.bool false, .string ⟨#[]⟩, .slice none 0 0, .slice none 0 0, .slice none 0 0] 27) = w6 := ⟨_, rfl⟩
 have nb6 := new_box w5 _ 27 hw6
 have b46 := hb5.trans (nb6.1.mono hb5.size)
 have HD := Hh (Ai (HC.out.1.trans (b46.mono HC.out.1.size)) (Ai (kept_box HC.out.2.1 b46) (HC.out.2.2.below b46)))
 have HW6 := Hh hw6
 obtain ⟨⟨u0, u1, u2, u3, u4⟩, _⟩ := box5 HD.out.2.1
 have hR : r.rn = 2 := by have := HD.out.2.2.regs.1; rw [HX.out.2.2.2.2.2.2.2.2.2] at this; exact this.symm
 have hBn : r.bn = 2 := by have := HD.out.2.2.blocks.1; rw [HX.out.2.2.1] at this; exact this.symm
 obtain ⟨p1, p2, p3, p4⟩ := HX.out.2.2
 obtain ⟨bb, bo, hba, _, y0, hy0, hB0, c00, c01, c02, c03⟩ := HD.out.2.2.blocks.at (k := 0) (by rw [hBn]; decide)
 obtain ⟨bb', bo', hba', _, y1, hy1, hB1, c10, c11, c12, c13⟩ := HD.out.2.2.blocks.at (k := 1) (by rw [hBn]; decide)
 rw [p1] at hy0 hy1
 have ey0 : b0 = y0 := by simpa using hy0
 have ey1 : b1 = y1 := by simpa using hy1
 subst ey0; subst ey1
 have eb : bb' = bb ∧ bo' = bo := by rw [hba] at hba'; injection hba' with h; injection h with h1 h2; exact ⟨h1.symm, h2.symm⟩
 obtain ⟨rfl, rfl⟩ := eb
 have hk0 : (r.R 0).kn = 2 := by have := hB0.code.1; rw [p2] at this; exact this.symm
 have hk1 : (r.R 1).kn = 1 := by have := hB1.code.1; rw [p3] at this; exact this.symm
 obtain ⟨q4, q5, q6, q7, q8⟩ := p4
 obtain ⟨cb, co, hca, _, z0, hz0, hI0, i00, i01, i02, i03, i04, i05, i06, i07, i08, i09⟩ := hB0.code.at (k := 0) (by rw [hk0]; decide)
 obtain ⟨db, do_, hda, _, z1, hz1, hI1, j00, j01, j02, j03, j04, j05, j06, j07, j08, j09⟩ := hB1.code.at (k := 0) (by rw [hk1]; decide)
 rw [p2] at hz0
 rw [p3] at hz1
 have ez0 : i0 = z0 := by simpa using hz0
 have ez1 : j0 = z1 := by simpa using hz1
 subst ez0; subst ez1
 have hal : ((r.R 1).R 0).an ≠ 0 := by
  have := hI1.args.1
  rw [q6] at this
  simp at this
  omega
 obtain ⟨ab, ao, haa, _, t0, ht0, a00, a01, a02, a03⟩ := hI1.args.at (k := 0) (by omega)
 rw [q6] at ht0
 have et0 : a = t0 := by simpa using ht0
 subst et0
 have hpos : (0 : Int) < (((r.R 1).R 0).an : Int) := by omega
 rw [hca, hk0] at c03
 rw [hda, hk1] at c13
 rw [haa] at j05
 rw [hba, hBn] at u4
 rw [hR] at u2
 rw [q5] at i07
 rw [q7] at a02
 rw [q4] at c11
 simp only [Nat.zero_mul, Nat.one_mul, Nat.add_zero] at c00 c01 c02 c03 c10 c11 c12 c13 i00 i01 i02 i03 i04 i05 i06 i07 i08 i09 j00 j01 j02 j03 j04 j05 j06 j07 j08 j09 a00 a01 a02 a03
 obtain ⟨E3, hE3⟩ : ∃ E3, Flt.err 20 18 [funcB] = E3 := ⟨_, rfl⟩
 have HE3 := Hh hE3
 rw [show ((18 : Nat) : Int) = 18 from rfl, hE3]
 clear h5 hb5 nb6 b46 hw6 hR hBn p1 p2 p3 q4 q5 q6 q7 q8 hy0 hy1 hB0 hB1 hz0 hz1 hI0 hI1 hk0 hk1 ht0 hal hE3 hba hba' hca hda haa
 unfold funZ
 go_upto_region 4 with fail
 rw [HW6.out]
 go_upto_region 7 with fail
 obtain ⟨w7, hw7⟩ : ∃ w7, w6.alloc (.cells #[.int .i64 i0.op, .int .i64 i0.dst.k, .int .i64 i0.dst.c, .int .i64 i0.dst.n, .int .i64 i0.dst.t, .slice ((r.R 0).R 0).aa ((r.R 0).R 0).an ((r.R 0).R 0).ac, .string i0.name, .int .i64 (-8), .slice ((r.R 0).R 0).la ((r.R 0).R 0).ln ((r.R 0).R 0).lc, .slice ((r.R 0).R 0).ca ((r.R 0).R 0).cn ((r.R 0).R 0).cc] 67) = w7 := ⟨_, rfl⟩
 rw [hw7]
 have nb7 := new_box w6 _ 67 hw7
 have hcell : ∀ (a : Addr) (v : Value), w6.cell? a = some v → w7.cell? a = some v := fun a v h => (nb7.1.cell (World.block_lt_of_cell? w6 a h)).trans h
 replace u2 := hcell _ _ u2
 replace u4 := hcell _ _ u4
 replace c11 := hcell _ _ c11
 replace c13 := hcell _ _ c13
 replace j05 := hcell _ _ j05
 replace a02 := hcell _ _ a02
 have k7 : w7.cell? ⟨w6.heap.size, 7, none⟩ = some (.int .i64 (-8)) := cell_in nb7.2 7
 have HF := Hh (HD.out.1.trans (nb7.1.mono HD.out.1.size))
 clear u0 u1 u3 c00 c01 c02 c03 c10 c12 i00 i01 i02 i03 i04 i05 i06 i07 i08 i09 j00 j01 j02 j03 j04 j06 j07 j08 j09 a00 a01 a03 hcell nb7 hw7
 go_wp2_with fail
 rw [← HE2.out]
 refine (Flt.of_v 20 20 [funcB] _ (HA.out.2.below HF.out (HA.out.2.pos))).mono ?_
 rintro e w8 ⟨rfl, hb8⟩
 have HG8 := Hh (HF.out.trans (hb8.mono HF.out.size))
 clear hb8
 rw [HE2.out]
 go_wp2_with fail
 rw [← HE2.out]
 refine (Flt.at_v 20 20 [funcB] _ (HA.out.2.below HG8.out (HA.out.2.pos))).mono ?_
 rintro e w9 ⟨rfl, hb9⟩
 have HG9 := Hh (HG8.out.trans (hb9.mono HG8.out.size))
 clear hb9
 rw [HE2.out]
 go_wp2_with fail
 rw [← HE3.out]
 refine (Flt.at_v 20 18 [funcB] _ (HA.out.2.below HG9.out (HA.out.2.pos))).mono ?_
 rintro e w10 ⟨rfl, hb10⟩
 have HG10 := Hh (HG9.out.trans (hb10.mono HG9.out.size))
 clear hb10
 go_wp2_with fail
 go_ret
 exact ⟨rfl, HG10.out⟩
theorem next_opr {w w1 : World} (h : Opr.Glob w) (hb : Below w.heap.size w w1) : Opr.Glob w1 := h.below hb h.1
theorem next_flt {w w1 : World} (h : Flt.Glob w) (hb : Below w.heap.size w w1) : Flt.Glob w1 := h.below hb h.pos
end Go.Proofs.YtbpichjmkllfaaaGreatDoor.Par
