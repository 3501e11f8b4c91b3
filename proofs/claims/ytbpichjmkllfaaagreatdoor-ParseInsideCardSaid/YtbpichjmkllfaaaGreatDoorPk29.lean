/- The statements' own check: three texts. -/
import Derived.Test.YtbpichjmkllfaaaGreatDoorPk28
import Derived.Deep.CutRange
import Derived.Test.YtbpichjmkllfaaaGreatDoorPk27
import Derived.Laws.StructEq
import Derived.Test.YtbpichjmkllfaaaGreatDoorPk16
import Derived.Test.YtbpichjmkllfaaaGreatDoorRows
import Derived.Lib.LaidTab
import Derived.LaidLaws
import Derived.OpenShut
namespace Go.Proofs.YtbpichjmkllfaaaGreatDoor.Par
open Go.ChangeShapes Go.WideShapes Go.RowKit
open Lex (Tok tcl tkv tk tc)
set_option linter.unusedVariables false
set_option maxRecDepth 20000

def wt1 : ByteArray := ⟨([102, 117, 110, 99, 32, 102, 40, 37, 48, 41, 32, 123, 32, 114, 101, 103, 115, 32, 37, 48, 58, 103, 32, 37, 50, 58, 120, 59, 32, 97, 58, 32, 37, 48, 32, 61, 32, 108, 111, 97, 100, 32, 37, 50, 32, 43, 32, 45, 56, 59, 32, 115].append [119, 105, 116, 99, 104, 32, 37, 48, 32, 91, 49, 58, 32, 97, 44, 32, 101, 108, 115, 101, 58, 32, 98, 46, 99, 93, 32, 59, 32, 101, 100, 103, 101, 32, 98, 46, 99, 58, 32, 114, 101, 116, 32, 40, 49, 43, 50, 41, 59, 32, 125]).toArray⟩
def wt2 : ByteArray := ⟨#[102, 117, 110, 99, 32, 102, 40, 41, 32, 123, 32, 97, 58, 32, 97, 100, 100, 32, 37, 49, 59, 32, 125]⟩
def wt3 : ByteArray := ⟨#[102, 117, 110, 99, 32, 102, 40, 41, 32, 123, 32, 97, 58, 32, 102, 111, 111, 32, 98, 97, 114, 32, 125]⟩
def wchk1 (x : Fun) : Bool := decide (x.blocks.length = 2) && decide (x.regs.length = 2) && (match x.blocks with
  | [b0, b1] => decide (b0.code.length = 2) && decide (b1.code.length = 1) && b1.edge && (match b0.code, b1.code with
    | i0 :: _, [j0] => decide (i0.off = -8) && (match j0.args with | a :: _ => decide (a.n = 3) | _ => false)
    | _, _ => false)
  | _ => false)
def wok (s : ByteArray) (f : Fun → Bool) : Bool := match Lex.all s.data.toList with
  | (m, c, _) => decide (c = 0) && (match whole m with | .ok x _ => f x | .bad _ _ => false)
def wbad (s : ByteArray) (p : Nat) : Bool := match Lex.all s.data.toList with
  | (m, c, _) => decide (c = 0) && (match whole m with | .ok _ _ => false | .bad c q => decide (c = 20) && decide (q = p))
theorem w1_is : wok wt1 wchk1 = true := by decide +kernel
theorem w2_is : wbad wt2 20 = true := by decide +kernel
theorem w3_is : wbad wt3 18 = true := by decide +kernel
theorem TextP.good {s : ByteArray} {w w' : World} {e : Ending} {f : Fun → Bool} (h : TextP s w e w') (hk : wok s f = true) : ∃ x r, f x = true ∧ e = .returned (.tuple #[.agg (funR x r), .nilIface]) ∧ IsFun w' x r ∧ Below w.heap.size w w' := by
  obtain ⟨hb, ⟨m, code, q, hc, hm, rfl⟩ | ⟨m, q, x, l, r, hm, hw, rfl, hF⟩ | ⟨m, q, c, p, hm, hc, hw, rfl⟩⟩ := h
  · unfold wok at hk
    rw [hm] at hk
    simp [hc] at hk
  · unfold wok at hk
    rw [hm] at hk
    simp only [hw] at hk
    exact ⟨x, r, by simpa using hk, rfl, hF, hb⟩
  · unfold wok at hk
    rw [hm] at hk
    simp only [hw] at hk
    simp at hk
theorem TextP.wrong {s : ByteArray} {w w' : World} {e : Ending} {n : Nat} (h : TextP s w e w') (hk : wbad s n = true) : e = .returned (.tuple #[funZ, Flt.err 20 (n : Int) [funcB]]) ∧ Below w.heap.size w w' := by
  obtain ⟨hb, ⟨m, code, q, hc, hm, rfl⟩ | ⟨m, q, x, l, r, hm, hw, rfl, hF⟩ | ⟨m, q, c, p, hm, hc, hw, rfl⟩⟩ := h
  · unfold wbad at hk
    rw [hm] at hk
    simp [hc] at hk
  · unfold wbad at hk
    rw [hm] at hk
    simp only [hw] at hk
    simp at hk
  · unfold wbad at hk
    rw [hm] at hk
    simp only [hw] at hk
    simp at hk
    obtain ⟨rfl, rfl⟩ := hk
    exact ⟨rfl, hb⟩
/-- What the first text's function has. -/
theorem w1_parts {x : Fun} (h : wchk1 x = true) : ∃ b0 b1 i0 i1 j0 a as_, x.blocks = [b0, b1] ∧ b0.code = [i0, i1] ∧ b1.code = [j0] ∧ b1.edge = true ∧ i0.off = -8 ∧ j0.args = a :: as_ ∧ a.n = 3 ∧ x.regs.length = 2 := by
  unfold wchk1 at h
  simp only [Bool.and_eq_true, decide_eq_true_eq] at h
  obtain ⟨⟨h1, h2⟩, h3⟩ := h
  obtain ⟨b0, b1, hb⟩ : ∃ b0 b1, x.blocks = [b0, b1] := by
    match hx : x.blocks, h1 with
    | [b0, b1], _ => exact ⟨b0, b1, rfl⟩
  rw [hb] at h3
  simp only [Bool.and_eq_true, decide_eq_true_eq] at h3
  obtain ⟨⟨⟨h4, h5⟩, h6⟩, h7⟩ := h3
  obtain ⟨i0, i1, hi⟩ : ∃ i0 i1, b0.code = [i0, i1] := by
    match hx : b0.code, h4 with
    | [i0, i1], _ => exact ⟨i0, i1, rfl⟩
  obtain ⟨j0, hj⟩ : ∃ j0, b1.code = [j0] := by
    match hx : b1.code, h5 with
    | [j0], _ => exact ⟨j0, rfl⟩
  rw [hi, hj] at h7
  simp only [Bool.and_eq_true, decide_eq_true_eq] at h7
  obtain ⟨h8, h9⟩ := h7
  cases ha : j0.args with
  | nil => rw [ha] at h9; simp at h9
  | cons a as_ =>
    rw [ha] at h9
    simp only [decide_eq_true_eq] at h9
    exact ⟨b0, b1, i0, i1, j0, a, as_, hb, hi, hj, h6, h8, ha, h9, h2⟩
set_option maxHeartbeats 8000000 in
theorem works_v (w : World) (hG : Opr.Glob w) (hF : Flt.Glob w) : Calls Tryz.prog 7 #[] w fun e w' => e = .returned (.bool true) ∧ Below w.heap.size w w' := by
  have HA := Lib.hid (And.intro hG hF)
  clear hG hF
  go_enter Tryz.func7, Tryz.ntmps7
  go_wp2_with fail
  refine (text_v wt1 w HA.out.1).mono ?_
  intro e w1 h1
  obtain ⟨x, r, hx, rfl, hfun, hb1⟩ := h1.good w1_is
  obtain ⟨b0, b1, i0, i1, j0, a, as_, e1, e2, e3, e4, e5, e6, e7, e8⟩ := w1_parts hx
  have HX := Lib.hid (And.intro hfun (And.intro hb1 (And.intro e1 (And.intro e2 (And.intro e3 (And.intro e4 (And.intro e5 (And.intro e6 (And.intro e7 e8)))))))))
  clear h1 hx hfun hb1 e1 e2 e3 e4 e5 e6 e7 e8
  obtain ⟨w2, hw2⟩ : ∃ w2, w1.alloc (.cells #[.bool x.machine, .string x.name, .slice r.ra r.rn r.rc, .slice r.pa r.pn r.pc, .slice r.ba r.bn r.bc] 27) = w2 := ⟨_, rfl⟩
  have nb2 := new_box w1 _ 27 hw2
  have B2 := HX.out.2.1.trans (nb2.1.mono HX.out.2.1.size)
  have HB := Lib.hid (And.intro B2 (And.intro nb2.2 (HX.out.1.below nb2.1)))
  clear B2 nb2
  unfold funR
  go_wp2_with fail
  try rw [hw2]
  clear hw2
  refine (text_v wt2 w2 (HA.out.1.below HB.out.1 HA.out.1.1)).mono ?_
  intro e w3 h3
  obtain ⟨rfl, hb3⟩ := h3.wrong w2_is
  obtain ⟨w4, hw4⟩ : ∃ w4, w3.alloc (.cells #[.bool false, .string ⟨#[]⟩, .slice none 0 0, .slice none 0 0, .slice none 0 0] 27) = w4 := ⟨_, rfl⟩
  have nb4 := new_box w3 _ 27 hw4
  have b24 := hb3.trans (nb4.1.mono hb3.size)
  have HC := Lib.hid (And.intro (HB.out.1.trans (b24.mono HB.out.1.size)) (And.intro (kept_box HB.out.2.1 b24) (HB.out.2.2.below b24)))
  have HW4 := Lib.hid hw4
  clear h3 hb3 nb4 b24 hw4
  obtain ⟨E2, hE2⟩ : ∃ E2, Flt.err 20 20 [funcB] = E2 := ⟨_, rfl⟩
  have HE2 := Lib.hid hE2
  rw [show ((20 : Nat) : Int) = 20 from rfl, hE2]
  clear hE2
  unfold funZ
  go_wp2_with fail
  rw [HW4.out]
  refine (text_v wt3 w4 (HA.out.1.below HC.out.1 HA.out.1.1)).mono ?_
  intro e w5 h5
  obtain ⟨rfl, hb5⟩ := h5.wrong w3_is
  obtain ⟨w6, hw6⟩ : ∃ w6, w5.alloc (.cells #[.bool false, .string ⟨#[]⟩, .slice none 0 0, .slice none 0 0, .slice none 0 0] 27) = w6 := ⟨_, rfl⟩
  have nb6 := new_box w5 _ 27 hw6
  have b46 := hb5.trans (nb6.1.mono hb5.size)
  have HD := Lib.hid (And.intro (HC.out.1.trans (b46.mono HC.out.1.size)) (And.intro (kept_box HC.out.2.1 b46) (HC.out.2.2.below b46)))
  have HW6 := Lib.hid hw6
  obtain ⟨⟨u0, u1, u2, u3, u4⟩, _⟩ := box5 HD.out.2.1
  have hR : r.rn = 2 := by have := HD.out.2.2.regs.1; rw [HX.out.2.2.2.2.2.2.2.2.2] at this; exact this.symm
  have hBn : r.bn = 2 := by have := HD.out.2.2.blocks.1; rw [HX.out.2.2.1] at this; exact this.symm
  obtain ⟨p1, p2, p3, p4⟩ := HX.out.2.2
  obtain ⟨bb, bo, hba, _, y0, hy0, hB0, c00, c01, c02, c03⟩ := HD.out.2.2.blocks.at (k := 0) (by rw [hBn]; decide)
  obtain ⟨bb', bo', hba', _, y1, hy1, hB1, c10, c11, c12, c13⟩ := HD.out.2.2.blocks.at (k := 1) (by rw [hBn]; decide)
  rw [p1] at hy0 hy1
  have ey0 : b0 = y0 := by simpa using hy0
  have ey1 : b1 = y1 := by simpa using hy1
  subst ey0; subst ey1
  have eb : bb' = bb ∧ bo' = bo := by rw [hba] at hba'; injection hba' with h; injection h with h1 h2; exact ⟨h1.symm, h2.symm⟩
  obtain ⟨rfl, rfl⟩ := eb
  have hk0 : (r.R 0).kn = 2 := by have := hB0.code.1; rw [p2] at this; exact this.symm
  have hk1 : (r.R 1).kn = 1 := by have := hB1.code.1; rw [p3] at this; exact this.symm
  obtain ⟨q4, q5, q6, q7, q8⟩ := p4
  obtain ⟨cb, co, hca, _, z0, hz0, hI0, i00, i01, i02, i03, i04, i05, i06, i07, i08, i09⟩ := hB0.code.at (k := 0) (by rw [hk0]; decide)
  obtain ⟨db, do_, hda, _, z1, hz1, hI1, j00, j01, j02, j03, j04, j05, j06, j07, j08, j09⟩ := hB1.code.at (k := 0) (by rw [hk1]; decide)
  rw [p2] at hz0
  rw [p3] at hz1
  have ez0 : i0 = z0 := by simpa using hz0
  have ez1 : j0 = z1 := by simpa using hz1
  subst ez0; subst ez1
  have hal : ((r.R 1).R 0).an ≠ 0 := by
    have := hI1.args.1
    rw [q6] at this
    simp at this
    omega
  obtain ⟨ab, ao, haa, _, t0, ht0, a00, a01, a02, a03⟩ := hI1.args.at (k := 0) (by omega)
  rw [q6] at ht0
  have et0 : a = t0 := by simpa using ht0
  subst et0
  have hpos : (0 : Int) < (((r.R 1).R 0).an : Int) := by omega
  rw [hca, hk0] at c03
  rw [hda, hk1] at c13
  rw [haa] at j05
  rw [hba, hBn] at u4
  rw [hR] at u2
  rw [q5] at i07
  rw [q7] at a02
  rw [q4] at c11
  simp only [Nat.zero_mul, Nat.one_mul, Nat.add_zero] at c00 c01 c02 c03 c10 c11 c12 c13 i00 i01 i02 i03 i04 i05 i06 i07 i08 i09 j00 j01 j02 j03 j04 j05 j06 j07 j08 j09 a00 a01 a02 a03
  obtain ⟨E3, hE3⟩ : ∃ E3, Flt.err 20 18 [funcB] = E3 := ⟨_, rfl⟩
  have HE3 := Lib.hid hE3
  rw [show ((18 : Nat) : Int) = 18 from rfl, hE3]
  clear h5 hb5 nb6 b46 hw6 hR hBn p1 p2 p3 q4 q5 q6 q7 q8 hy0 hy1 hB0 hB1 hz0 hz1 hI0 hI1 hk0 hk1 ht0 hal hE3 hba hba' hca hda haa
  unfold funZ
  go_upto_region 4 with fail
  rw [HW6.out]
  go_upto_region 7 with fail
  obtain ⟨w7, hw7⟩ : ∃ w7, w6.alloc (.cells #[.int .i64 i0.op, .int .i64 i0.dst.k, .int .i64 i0.dst.c, .int .i64 i0.dst.n, .int .i64 i0.dst.t, .slice ((r.R 0).R 0).aa ((r.R 0).R 0).an ((r.R 0).R 0).ac, .string i0.name, .int .i64 (-8), .slice ((r.R 0).R 0).la ((r.R 0).R 0).ln ((r.R 0).R 0).lc, .slice ((r.R 0).R 0).ca ((r.R 0).R 0).cn ((r.R 0).R 0).cc] 67) = w7 := ⟨_, rfl⟩
  rw [hw7]
  have nb7 := new_box w6 _ 67 hw7
  have hcell : ∀ (a : Addr) (v : Value), w6.cell? a = some v → w7.cell? a = some v := fun a v h => (nb7.1.cell (World.block_lt_of_cell? w6 a h)).trans h
  replace u2 := hcell _ _ u2
  replace u4 := hcell _ _ u4
  replace c11 := hcell _ _ c11
  replace c13 := hcell _ _ c13
  replace j05 := hcell _ _ j05
  replace a02 := hcell _ _ a02
  have k7 : w7.cell? ⟨w6.heap.size, 7, none⟩ = some (.int .i64 (-8)) := cell_in nb7.2 7
  have HF := Lib.hid (HD.out.1.trans (nb7.1.mono HD.out.1.size))
  clear u0 u1 u3 c00 c01 c02 c03 c10 c12 i00 i01 i02 i03 i04 i05 i06 i07 i08 i09 j00 j01 j02 j03 j04 j06 j07 j08 j09 a00 a01 a03 hcell nb7 hw7
  go_wp2_with fail
  rw [← HE2.out]
  refine (Flt.of_v 20 20 [funcB] _ (HA.out.2.below HF.out (HA.out.2.pos))).mono ?_
  rintro e w8 ⟨rfl, hb8⟩
  have HG8 := Lib.hid (HF.out.trans (hb8.mono HF.out.size))
  clear hb8
  rw [HE2.out]
  go_wp2_with fail
  rw [← HE2.out]
  refine (Flt.at_v 20 20 [funcB] _ (HA.out.2.below HG8.out (HA.out.2.pos))).mono ?_
  rintro e w9 ⟨rfl, hb9⟩
  have HG9 := Lib.hid (HG8.out.trans (hb9.mono HG8.out.size))
  clear hb9
  rw [HE2.out]
  go_wp2_with fail
  rw [← HE3.out]
  refine (Flt.at_v 20 18 [funcB] _ (HA.out.2.below HG9.out (HA.out.2.pos))).mono ?_
  rintro e w10 ⟨rfl, hb10⟩
  have HG10 := Lib.hid (HG9.out.trans (hb10.mono HG9.out.size))
  clear hb10
  go_wp2_with fail
  go_ret
  exact ⟨rfl, HG10.out⟩
end Go.Proofs.YtbpichjmkllfaaaGreatDoor.Par

/- What errors.Is answers at a fault within parts and a fault's code. -/
namespace Go.Proofs.YtbpichjmkllfaaaGreatDoor.Flt
open Go.RowKit Go.Extern.Stop Go.Stop Go.Extern
set_option linter.unusedVariables false

theorem comp41 : (Tryz.prog.info? 84).map (·.comparable) = some true := by kernel_rfl
theorem fields41 : Tryz.prog.underlying 84 = some (.struct (Tryz.prog.fieldsOf 84)) := by kernel_rfl
theorem held41 : Tryz.prog.stoodInHeld 84 = false := by kernel_rfl
theorem part0 (x y : Int) (w : World) : (part 32 #[.int .i64 x, .int .i64 y] 0).run Tryz.prog w = .ok (.int .i64 x) w := by kernel_rfl
theorem part1 (x y : Int) (w : World) : (part 3 #[.int .i64 x, .int .i64 y] 1).run Tryz.prog w = .ok (.int .i64 y) w := by kernel_rfl
theorem names41 : (Tryz.prog.fieldsOf 84).toList.map (fun f => (f.name, f.type, f.offset)) = [("code", 32, 0), ("at", 3, 1)] := by kernel_rfl
theorem eqf (x y a b : Int) (w : World) (d : Nat) (fs : List Field) (h : fs.map (fun f => (f.name, f.type, f.offset)) = [("code", 32, 0), ("at", 3, 1)]) :
    (Op.eqFields (d + 1) #[.int .i64 x, .int .i64 y] #[.int .i64 a, .int .i64 b] fs).run Tryz.prog w = .ok (x == a && y == b) w := by
  obtain ⟨f, g, rfl⟩ : ∃ f g, fs = [f, g] := by
    have hl : fs.length = 2 := by have := congrArg List.length h; simpa using this
    match fs, hl with
    | [f, g], _ => exact ⟨f, g, rfl⟩
  · simp only [List.map_cons, List.map_nil, List.cons.injEq, Prod.mk.injEq] at h
    obtain ⟨⟨f1, f2, f3⟩, ⟨g1, g2, g3⟩, _⟩ := h
    simp [Op.eqFields, f1, f2, f3, g1, g2, g3, part0, part1, run_equalIn_int _ _ _ _ _ _ _ Tryz.underlying32, run_equalIn_int _ _ _ _ _ _ _ Tryz.underlying3, Result.andThen]
    cases h1 : x == a <;> cases h2 : y == b <;> simp_all
theorem eql41 (x y a b : Int) (w : World) : (binOp .eql 29 (.iface 84 (.agg #[.int .i64 x, .int .i64 y])) (.iface 84 (.agg #[.int .i64 a, .int .i64 b]))).run Tryz.prog w = .ok (.bool (x == a && y == b)) w := by
  obtain ⟨i, hi, hcmp⟩ := Option.map_eq_some_iff.1 comp41
  have h : ∀ d : Nat, (Op.equalIn (d + 3) 29 (.iface 84 (.agg #[.int .i64 x, .int .i64 y])) (.iface 84 (.agg #[.int .i64 a, .int .i64 b]))).run Tryz.prog w = .ok (x == a && y == b) w := fun d => by
    have k := run_equalIn_struct w (P := Tryz.prog) (d + 1) 84 #[.int .i64 x, .int .i64 y] #[.int .i64 a, .int .i64 b] fields41 held41
    rw [eqf x y a b w d _ names41] at k
    rw [Op.equalIn]
    simp [run_underlying Tryz.underlying29, typeInfo, hi, hcmp, k]
  simp only [binOp]
  simp [Op.equal, Op.maxDepth, h 9997]
theorem assert41 (v : Value) (w : World) : (Instr.typeAssert (.iface 84 v) 29 84 true).run Tryz.prog w = .ok (.tuple #[v, .bool true]) w := by kernel_rfl
theorem fis_v (x y a b : Int) (z : Bool) (hz : (a == x) = z) (w : World) :
    Calls Tryz.prog 224 #[.agg #[.int .i64 x, .int .i64 y], .iface 84 (.agg #[.int .i64 a, .int .i64 b])] w fun e w' => e = .returned (.bool z) ∧ Below w.heap.size w w' := by
  have hA := assert41
  have hb : Below w.heap.size w ((w.alloc (.cells #[.int .i64 x, .int .i64 y] 84)).alloc (.cells #[.int .i64 a, .int .i64 b] 84)) := ((Below.refl _ w).alloc (Nat.le_refl _) _).alloc (by simp) _
  have HB := Lib.hid hb
  clear hb
  go_enter Tryz.func224, Tryz.ntmps224
  go_wp2_with fail
  go_ret
  exact ⟨rfl, HB.out⟩
end Go.Proofs.YtbpichjmkllfaaaGreatDoor.Flt

/- What errors.is, errors.Is and the program's Has answer. -/
namespace Go.Proofs.YtbpichjmkllfaaaGreatDoor.Flt
open Go.RowKit Go.Extern.Stop Go.Stop Go.Extern
set_option linter.unusedVariables false

set_option maxRecDepth 100000 in
set_option maxHeartbeats 4000000 in
theorem is_v (code place other : Int) (path : List ByteArray) (z : Bool) (hz : (code == other) = z) (w : World) :
    Calls Tryz.prog 86 #[err code place path, .iface 84 (.agg #[.int .i64 other, .int .i64 0]), .bool true] w fun e w' => e = .returned (.bool z) ∧ Below w.heap.size w w' := by
  have hty : ∀ (v : Value) (w : World), (binOp .eql 29 (.iface 76 v) (.iface 84 (.agg #[.int .i64 other, .int .i64 0]))).run Tryz.prog w = .ok (.bool false) w := fun v w => run_eql_iface_types (P := Tryz.prog) 76 84 v _ Tryz.underlying29 (by decide) w
  have nI := noIs52
  have hI := hasIs41
  have hU := hasUnwrap52
  have mU := methodUnwrap
  have mI := methodIs
  have nU := noUnwrap41
  have nV := noUnwraps41
  have HZ := Lib.hid hz
  clear hz
  go_enter Tryz.func86, Tryz.ntmps86
  go_wp2_with fail
  go_loopg [0] path.length (fun gk v wr => ∃ r : List ByteArray, r.length = gk ∧ v = err code place r ∧ Hid (Below w.heap.size w wr))
  case atStart => exact ⟨path, rfl, rfl, Below.refl _ _⟩
  case round =>
    obtain ⟨r, hr, rfl, HB⟩ := hrel
    cases r with
    | nil =>
      clear hr
      simp only [err, bare]
      by_cases hc : code = other
      · have hz : true = z := by rw [← HZ.out]; simp [hc]
        subst hz
        by_cases hp : place = 0
        · have heq : ∀ w : World, (binOp .eql 29 (.iface 84 (.agg #[.int .i64 code, .int .i64 place])) (.iface 84 (.agg #[.int .i64 other, .int .i64 0]))).run Tryz.prog w = .ok (.bool true) w := fun w => by
            rw [eql41]; simp [hc, hp]
          clear hc hp
          go_wp2_with fail
          go_ret
          exact ⟨rfl, HB.out⟩
        · have heq : ∀ w : World, (binOp .eql 29 (.iface 84 (.agg #[.int .i64 code, .int .i64 place])) (.iface 84 (.agg #[.int .i64 other, .int .i64 0]))).run Tryz.prog w = .ok (.bool false) w := fun w => by
            rw [eql41]; simp [hp]
          have HC := Lib.hid hc
          clear hc hp
          go_wp2_with fail
          refine (fis_v code place other 0 true (by rw [HC.out]; simp) _).mono ?_
          rintro e w1 ⟨rfl, hb⟩
          have H1 := Lib.hid (HB.out.trans (hb.mono HB.out.size))
          clear hb
          go_wp2_with fail
          go_ret
          exact ⟨rfl, H1.out⟩
      · have hz : false = z := by rw [← HZ.out]; simp [hc]
        subst hz
        have heq : ∀ w : World, (binOp .eql 29 (.iface 84 (.agg #[.int .i64 code, .int .i64 place])) (.iface 84 (.agg #[.int .i64 other, .int .i64 0]))).run Tryz.prog w = .ok (.bool false) w := fun w => by
          rw [eql41]; simp [hc]
        have HC := Lib.hid hc
        clear hc
        go_wp2_with fail
        refine (fis_v code place other 0 false (by simpa using fun h => HC.out h.symm) _).mono ?_
        rintro e w1 ⟨rfl, hb⟩
        have H1 := Lib.hid (HB.out.trans (hb.mono HB.out.size))
        clear hb
        go_wp2_with fail
        go_ret
        exact ⟨rfl, H1.out⟩
    | cons p r =>
      obtain ⟨T, v, hE, hC⟩ := err_cons code place p r
      have HE := Lib.hid hE
      rw [hC]
      clear hE hC
      obtain ⟨q, rfl⟩ : ∃ q, gk = q + 1 := ⟨r.length, by simpa using hr.symm⟩
      have HR := Lib.hid hr
      clear hr
      go_wp2_with (go_at_call 222; refine (unwrap_v p T v _).mono ?_; rintro e w' ⟨rfl, rfl⟩)
      go_roundg q
      case measure => omega
      case rel => exact ⟨r, by have := HR.out; simpa using this, HE.out.symm, HB.out.alloc HB.out.size _⟩

theorem comparable_run (w : World) : (callFunc 230 #[.agg #[.pointer (some ⟨3, 84, none⟩)]]).run Tryz.prog w = .ok (.value (.bool true)) w := by
  rw [@run_callFunc_extern Tryz.prog 230 _ (ReflectliteType.method fun t => do Rtype.noPackHeld "Comparable" t; pure (.bool (← typeInfo t).comparable)) Tryz.func230 (by kernel_rfl) (by kernel_rfl) (by kernel_rfl) (by kernel_rfl)]
  rw [show ((ReflectliteType.method fun t => do Rtype.noPackHeld "Comparable" t; pure (.bool (← typeInfo t).comparable)) #[.agg #[.pointer (some ⟨3, 84, none⟩)]]).run Tryz.prog w = .ok (.bool true) w by kernel_rfl]
  rfl
set_option maxRecDepth 100000 in
set_option maxHeartbeats 4000000 in
theorem has_v (code place other : Int) (path : List ByteArray) (z : Bool) (hz : (code == other) = z) (w : World) :
    Calls Tryz.prog 23 #[err code place path, .int .i64 other] w fun e w' => e = .returned (.bool z) ∧ Below w.heap.size w w' := by
  have h22 : Calls Tryz.prog 52 #[err code place path, .iface 84 (.agg #[.int .i64 other, .int .i64 0])] w fun e w' => e = .returned (.bool z) ∧ Below w.heap.size w w' := by
    have h30 := @run_callFunc_extern Tryz.prog 85 _ ReflectliteType.typeOf Tryz.func85 (by kernel_rfl) (by kernel_rfl) (by kernel_rfl) (by kernel_rfl)
    have h63 := comparable_run
    have tT := typeOf41
    have mR := methodComparable
    have HZ := Lib.hid hz
    clear hz
    obtain ⟨T, v, hE⟩ := err_iface code place path
    have HE := Lib.hid hE
    rw [hE]
    clear hE
    go_enter Tryz.func52, Tryz.ntmps52
    go_wp2_with fail
    rw [← HE.out]
    refine (is_v code place other path z HZ.out _).mono ?_
    rintro e w1 ⟨rfl, hb⟩
    have H1 := Lib.hid hb
    clear hb
    go_wp2_with fail
    go_ret
    exact ⟨rfl, H1.out⟩
  have H22 := Lib.hid h22
  clear h22 hz
  go_enter Tryz.func23, Tryz.ntmps23
  go_wp2_with fail
  refine H22.out.mono ?_
  rintro e w1 ⟨rfl, hb⟩
  have H1 := Lib.hid hb
  clear hb
  go_wp2_with fail
  go_ret
  exact ⟨rfl, H1.out⟩
theorem has_nil (other : Int) (w : World) :
    Calls Tryz.prog 23 #[.nilIface, .int .i64 other] w fun e w' => e = .returned (.bool false) ∧ w = w' := by
  have h22 : Calls Tryz.prog 52 #[.nilIface, .iface 84 (.agg #[.int .i64 other, .int .i64 0])] w fun e w' => e = .returned (.bool false) ∧ w = w' := by
    have hn := run_eql_iface_nil_left (P := Tryz.prog) w 84 (.agg #[.int .i64 other, .int .i64 0]) Tryz.underlying29
    go_enter Tryz.func52, Tryz.ntmps52
    go_wp2
    go_ret
    exact ⟨rfl, rfl⟩
  have H22 := Lib.hid h22
  clear h22
  go_enter Tryz.func23, Tryz.ntmps23
  go_wp2_with fail
  refine H22.out.mono ?_
  rintro e w1 ⟨rfl, rfl⟩
  go_wp2_with fail
  go_ret
  exact ⟨rfl, rfl⟩
end Go.Proofs.YtbpichjmkllfaaaGreatDoor.Flt

/- The statement on what stands inside: a walk over any text. -/
namespace Go.Proofs.YtbpichjmkllfaaaGreatDoor.Par
open Go.ChangeShapes Go.WideShapes Go.RowKit
open Lex (Tok tcl tkv tk tc)
set_option linter.unusedVariables false
set_option maxRecDepth 20000

/-! What is wrong with a text's tokens is never that no function goes on so. -/
theorem vcode_20 (top : Nat) (l : List UInt8) : Lex.vcode top l ≠ 20 := by
  unfold Lex.vcode
  split
  · decide
  · split <;> decide
theorem numb_20 {kind cls top : Nat} {pre r : List UInt8} {a y : Nat} {e : Int} (h : Lex.numb kind cls top pre r a = .bad e y) : e ≠ 20 := by
  unfold Lex.numb at h
  split at h
  · cases h
  · injection h with h _
    rw [← h]
    exact vcode_20 _ _
theorem plain_20 {c : UInt8} {r : List UInt8} {a y : Nat} {e : Int} (h : Lex.plain c r a = .bad e y) : e ≠ 20 := by
  unfold Lex.plain at h
  split at h
  · split at h
    · injection h with h _
      rw [← h]; decide
    · cases h
  · split at h
    · exact numb_20 h
    · split at h
      · exact numb_20 h
      · split at h
        · split at h
          · injection h with h _
            rw [← h]; decide
          · split at h
            · exact numb_20 h
            · split at h
              · exact numb_20 h
              · injection h with h _
                rw [← h]; decide
        · split at h
          · exact numb_20 h
          · split at h
            · split at h <;> cases h
            · injection h with h _
              rw [← h]; decide
theorem scan_20 (f : Nat) (l : List UInt8) (p : Nat) (t : List UInt8) : (Quo.scan f l p t).2.2 ≠ 20 := by
  rcases Lex.scan_bad f l p t (Quo.scan f l p t).1 (Quo.scan f l p t).2.1 (Quo.scan f l p t).2.2 rfl with h | h | h <;> (rw [h]; decide)
theorem nx_20 {l : List UInt8} {a y : Nat} {e : Int} (h : Lex.nx l a = .bad e y) : e ≠ 20 := by
  unfold Lex.nx at h
  split at h
  · injection h with h _
    rw [← h]; decide
  · split at h
    · cases h
    · split at h
      · cases h
      · split at h
        · split at h
          · cases h
          · injection h with h _
            rw [← h]
            exact scan_20 _ _ _ _
        · exact plain_20 h
theorem go_20 : ∀ (n : Nat) (l : List UInt8) (f p : Nat) (out m : List Tok) (c : Int) (q : Nat), l.length ≤ n → Lex.go f l p out = (m, c, q) → c ≠ 20 := by
  intro n
  induction n with
  | zero =>
    intro l f p out m c q h1 h
    obtain rfl : l = [] := List.eq_nil_of_length_eq_zero (by omega)
    cases f with
    | zero => injection h with _ h; injection h with h _; rw [← h]; decide
    | succ f =>
      rw [Lex.go_end] at h
      injection h with _ h; injection h with h _; rw [← h]; decide
  | succ n ih =>
    intro l f p out m c q h1 h
    cases f with
    | zero => injection h with _ h; injection h with h _; rw [← h]; decide
    | succ f =>
      cases l with
      | nil =>
        rw [Lex.go_end] at h
        injection h with _ h; injection h with h _; rw [← h]; decide
      | cons x r =>
        cases hx : Lex.nx (x :: r) p with
        | skip k =>
          have hk := Lex.nx_skip_size hx
          rw [Lex.go_skip out hx] at h
          exact ih _ _ _ _ _ _ _ (by rw [List.length_drop]; omega) h
        | tok t k =>
          have hk := Lex.nx_tok_size hx
          rw [Lex.go_tok out hx] at h
          exact ih _ _ _ _ _ _ _ (by rw [List.length_drop]; omega) h
        | bad e y =>
          rw [Lex.go_bad out hx] at h
          injection h with _ h; injection h with h _; rw [← h]; exact nx_20 hx
theorem all_20 {s : List UInt8} {m : List Tok} {c : Int} {q : Nat} (h : Lex.all s = (m, c, q)) : c ≠ 20 := by
  unfold Lex.all at h
  split at h
  · injection h with _ h; injection h with h _; rw [← h]; decide
  · exact go_20 _ _ _ _ _ _ _ _ (Nat.le_refl _) h
theorem next_opr {w w1 : World} (h : Opr.Glob w) (hb : Below w.heap.size w w1) : Opr.Glob w1 := h.below hb h.1
theorem next_flt {w w1 : World} (h : Flt.Glob w) (hb : Below w.heap.size w w1) : Flt.Glob w1 := h.below hb h.pos
theorem slice_hi (s : ByteArray) (p : Nat) (h : p ≤ s.size) (W : World) : (Instr.slice 9 (.string s) none (some (.int .i64 (p : Int))) none).run Tryz.prog W = .ok (.string (s.extract 0 p)) W := by
  rw [run_slice_string_to_if W 9 s .i64 _ Tryz.underlying9, if_pos (by omega), show ((p : Int)).toNat = p by omega]
theorem take_extract (s : ByteArray) (p : Nat) : (s.extract 0 p).data.toList = s.data.toList.take p := by
  simp [ByteArray.data_extract]
theorem inside_long (s : ByteArray) (hs : 2000 < s.size) (w : World) (hG : Opr.Glob w) (hF : Flt.Glob w) : Calls Tryz.prog 6 #[.string s] w fun e w' => e = .returned (.bool true) ∧ Below w.heap.size w w' := by
  have h1 : (2000 : Int) < (s.size : Int) := by omega
  have HA := Lib.hid (And.intro hG hF)
  clear hG hF hs
  go_enter Tryz.func6, Tryz.ntmps6
  go_wp2_with fail
  refine (works_v w HA.out.1 HA.out.2).mono ?_
  rintro e w1 ⟨rfl, hb⟩
  go_wp2_with fail
  go_ret
  exact ⟨rfl, hb⟩
set_option maxHeartbeats 2000000 in
theorem inside_v (s : ByteArray) (w : World) (hG : Opr.Glob w) (hF : Flt.Glob w) : Calls Tryz.prog 6 #[.string s] w fun e w' => e = .returned (.bool true) ∧ Below w.heap.size w w' := by
  by_cases hs : 2000 < s.size
  · exact inside_long s hs w hG hF
  have h1 : ¬ (2000 : Int) < (s.size : Int) := by omega
  have HA := Lib.hid (And.intro hG hF)
  clear hG hF hs
  go_enter Tryz.func6, Tryz.ntmps6
  go_wp2_with fail
  refine (text_v s w HA.out.1).mono ?_
  rintro e w1 ⟨hb1, ⟨m, code, q, hc, hm, rfl⟩ | ⟨m, q, x, l, r, hm, hw, rfl, hfn⟩ | ⟨m, q, c, p, hm, hc, hw, rfl⟩⟩
  · have hq : q ≤ s.size := by have := Lex.all_bad_in hm hc; rwa [Nam.len_list] at this
    have h20 : (code == 20) = false := by rw [beq_eq_false_iff_ne]; exact all_20 hm
    have l1 : ¬ (s.size : Int) < (q : Int) := by omega
    have HM := Lib.hid h20
    clear hm hc hq h20
    obtain ⟨T, v, hE⟩ := Flt.err_iface code (q : Int) [textB]
    have HE := Lib.hid hE
    rw [hE]
    clear hE
    obtain ⟨w2, hw2⟩ : ∃ w2, w1.alloc (.cells #[.bool false, .string ⟨#[]⟩, .slice none 0 0, .slice none 0 0, .slice none 0 0] 27) = w2 := ⟨_, rfl⟩
    have nb2 := new_box w1 _ 27 hw2
    have HW := Lib.hid hw2
    have HB := Lib.hid (hb1.trans (nb2.1.mono hb1.size))
    clear hb1 nb2 hw2
    have l0 : ¬ (q : Int) < 0 := by omega
    unfold funZ
    go_wp2_with fail
    rw [HW.out, ← HE.out]
    refine (Flt.at_v code (q : Int) [textB] _ (next_flt HA.out.2 HB.out)).mono ?_
    rintro e w3 ⟨rfl, hb3⟩
    have HC := Lib.hid (HB.out.trans (hb3.mono HB.out.size))
    clear hb3
    rw [HE.out]
    go_wp2_with fail
    rw [← HE.out]
    refine (Flt.has_v code (q : Int) 20 [textB] false HM.out _).mono ?_
    rintro e w4 ⟨rfl, hb4⟩
    have HZ := Lib.hid (HC.out.trans (hb4.mono HC.out.size))
    clear hb4
    rw [HE.out]
    go_wp2_with fail
    refine (works_v _ (next_opr HA.out.1 HZ.out) (next_flt HA.out.2 HZ.out)).mono ?_
    rintro e w9 ⟨rfl, hb9⟩
    have HY := Lib.hid (HZ.out.trans (hb9.mono HZ.out.size))
    clear hb9
    go_wp2_with fail
    go_ret
    exact ⟨rfl, HY.out⟩
  · have HB := Lib.hid hb1
    clear hb1 hm hw hfn
    unfold funR
    go_wp2_with fail
    refine (works_v _ (next_opr HA.out.1 (HB.out.alloc HB.out.size _)) (next_flt HA.out.2 (HB.out.alloc HB.out.size _))).mono ?_
    rintro e w2 ⟨rfl, hb2⟩
    have HC := Lib.hid ((HB.out.alloc HB.out.size _).trans (hb2.mono (HB.out.alloc HB.out.size _).size))
    clear hb2
    go_wp2_with fail
    go_ret
    exact ⟨rfl, HC.out⟩
  · have hin := inside hm hw
    rw [Nam.len_list] at hin
    have hq : p ≤ s.size := hin.1
    have l1 : ¬ (s.size : Int) < (p : Int) := by omega
    have HM := Lib.hid (And.intro hin.2 hq)
    clear hm hw hin hq hc
    obtain ⟨T, v, hE⟩ := Flt.err_iface c (p : Int) [funcB]
    have HE := Lib.hid hE
    rw [hE]
    clear hE
    obtain ⟨w2, hw2⟩ : ∃ w2, w1.alloc (.cells #[.bool false, .string ⟨#[]⟩, .slice none 0 0, .slice none 0 0, .slice none 0 0] 27) = w2 := ⟨_, rfl⟩
    have nb2 := new_box w1 _ 27 hw2
    have HW := Lib.hid hw2
    have HB := Lib.hid (hb1.trans (nb2.1.mono hb1.size))
    clear hb1 nb2 hw2
    have l0 : ¬ (p : Int) < 0 := by omega
    unfold funZ
    go_wp2_with fail
    rw [HW.out, ← HE.out]
    refine (Flt.at_v c (p : Int) [funcB] _ (next_flt HA.out.2 HB.out)).mono ?_
    rintro e w3 ⟨rfl, hb3⟩
    have HC := Lib.hid (HB.out.trans (hb3.mono HB.out.size))
    clear hb3
    rw [HE.out]
    go_wp2_with fail
    rw [← HE.out]
    by_cases h20 : c = 20
    · subst h20
      refine (Flt.has_v 20 (p : Int) 20 [funcB] true (by decide) _).mono ?_
      rintro e w4 ⟨rfl, hb4⟩
      have HD := Lib.hid (HC.out.trans (hb4.mono HC.out.size))
      clear hb4
      have hsl := slice_hi s p HM.out.2
      rw [HE.out]
      go_wp2_with fail
      clear hsl
      refine (text_v (s.extract 0 p) w4 (next_opr HA.out.1 HD.out)).mono ?_
      obtain ⟨m', hm', hor⟩ := HM.out.1 (by trivial)
      rw [← take_extract] at hm'
      have HO := Lib.hid (And.intro hm' hor)
      clear hm' hor
      rintro e w5 ⟨hb5, ⟨m, code, q2, hc, hm, rfl⟩ | ⟨m, q2, x, l, r, hm, hw, rfl, hfn⟩ | ⟨m, q2, c, p2, hm, hc, hw, rfl⟩⟩
      · exfalso
        rw [HO.out.1] at hm
        injection hm with _ hm
        injection hm with hm _
        exact hc hm.symm
      · have HZ0 := Lib.hid (HD.out.trans (hb5.mono HD.out.size))
        have HZ := Lib.hid (HZ0.out.alloc HZ0.out.size (.cells #[.bool x.machine, .string x.name, .slice r.ra r.rn r.rc, .slice r.pa r.pn r.pc, .slice r.ba r.bn r.bc] 27))
        clear hb5 hm hw hfn
        unfold funR
        go_wp2_with fail
        refine (works_v _ (next_opr HA.out.1 HZ.out) (next_flt HA.out.2 HZ.out)).mono ?_
        rintro e w9 ⟨rfl, hb9⟩
        have HY := Lib.hid (HZ.out.trans (hb9.mono HZ.out.size))
        clear hb9
        go_wp2_with fail
        go_ret
        exact ⟨rfl, HY.out⟩
      · have e1 : c = 20 ∧ p2 = p := by
          rw [HO.out.1] at hm
          injection hm with hm _
          subst hm
          rcases HO.out.2 with ⟨f, r, h⟩ | h
          · rw [hw] at h; cases h
          · rw [hw] at h
            injection h with h1 h2
            exact ⟨h1, h2⟩
        obtain ⟨rfl, rfl⟩ := e1
        obtain ⟨w6, hw6⟩ : ∃ w6, w5.alloc (.cells #[.bool false, .string ⟨#[]⟩, .slice none 0 0, .slice none 0 0, .slice none 0 0] 27) = w6 := ⟨_, rfl⟩
        have nb6 := new_box w5 _ 27 hw6
        have HW6 := Lib.hid hw6
        have HF := Lib.hid (HD.out.trans ((hb5.trans (nb6.1.mono hb5.size)).mono HD.out.size))
        clear hb5 hm hw nb6 hw6 hc
        rw [HE.out]
        unfold funZ
        go_wp2_with fail
        rw [HW6.out, ← HE.out]
        refine (Flt.of_v 20 (p2 : Int) [funcB] _ (next_flt HA.out.2 HF.out)).mono ?_
        rintro e w7 ⟨rfl, hb7⟩
        have HG := Lib.hid (HF.out.trans (hb7.mono HF.out.size))
        clear hb7
        rw [HE.out]
        go_wp2_with fail
        rw [← HE.out]
        refine (Flt.at_v 20 (p2 : Int) [funcB] _ (next_flt HA.out.2 HG.out)).mono ?_
        rintro e w8 ⟨rfl, hb8⟩
        have HZ := Lib.hid (HG.out.trans (hb8.mono HG.out.size))
        clear hb8
        rw [HE.out]
        go_wp2_with fail
        refine (works_v _ (next_opr HA.out.1 HZ.out) (next_flt HA.out.2 HZ.out)).mono ?_
        rintro e w9 ⟨rfl, hb9⟩
        have HY := Lib.hid (HZ.out.trans (hb9.mono HZ.out.size))
        clear hb9
        go_wp2_with fail
        go_ret
        exact ⟨rfl, HY.out⟩
    · refine (Flt.has_v c (p : Int) 20 [funcB] false (by rw [beq_eq_false_iff_ne]; exact h20) _).mono ?_
      rintro e w4 ⟨rfl, hb4⟩
      have HZ := Lib.hid (HC.out.trans (hb4.mono HC.out.size))
      have H20 := Lib.hid h20
      clear hb4 h20
      rw [HE.out]
      go_wp2_with fail
      refine (works_v _ (next_opr HA.out.1 HZ.out) (next_flt HA.out.2 HZ.out)).mono ?_
      rintro e w9 ⟨rfl, hb9⟩
      have HY := Lib.hid (HZ.out.trans (hb9.mono HZ.out.size))
      clear hb9
      go_wp2_with fail
      go_ret
      exact ⟨rfl, HY.out⟩
end Go.Proofs.YtbpichjmkllfaaaGreatDoor.Par

/- The program's table of names, as the row lists it, is what the walks read. -/
namespace Go.Proofs.YtbpichjmkllfaaaGreatDoor.Opr
open Go.ChangeShapes Go.WideShapes Go.RowKit
set_option linter.unusedVariables false
set_option maxRecDepth 20000

def strData {H : Type} (ss : List ByteArray) : DataW H := .agg (ss.map fun s => .lit (.string s.data.toList))
theorem cells_of_strs {H : Type} {enc : TypeId × Value → H} {P : Program} {w : World} {base : Nat} {sp : Nat → Bool} {held : Bool} {fuel : Nat} {t e : TypeId} {n : Nat} {cs : List Value} {ss : List ByteArray} {p : List MemPlace}
    (ht : P.underlying t = some (.array n e)) (he : P.underlying e = some .string) (hce : P.cellsOf e = 1) (hct : P.cellsOf t = n)
    (h : DataW.trod enc P w base sp held fuel t cs = some (strData ss, p)) : cs = ss.map Value.string := by
  cases fuel with
  | zero => simp [DataW.trod] at h
  | succ fuel =>
    simp only [DataW.trod, ht, hce, hct, Nat.mul_one] at h
    split at h
    · rename_i hl
      obtain ⟨xs, hm, hx⟩ := Option.map_eq_some_iff.1 h
      have hxs : xs.map (·.1) = ss.map fun s => (DataW.lit (.string s.data.toList) : DataW H) := by
        have := congrArg Prod.fst hx
        simpa [strData] using this
      have hxl : xs.length = n := by simpa using Lib.mapM_length hm
      have hzl : ss.length = n := by
        have := congrArg List.length hxs
        simp at this
        omega
      apply List.ext_getElem?
      intro i
      by_cases hi : i < n
      · obtain ⟨b, hb, hf⟩ := Lib.mapM_at hm i i (by simp [hi])
        obtain ⟨s, hc, hb2, _⟩ := DataW.trod_string he hf
        subst hb2
        have h1 : cs[i]? = some (.string s) := by
          have := congrArg (·[0]?) hc
          simpa [List.getElem?_take, List.getElem?_drop] using this
        have h2 : (xs.map (·.1))[i]? = some (DataW.lit (.string s.data.toList) : DataW H) := by simp [hb]
        rw [hxs] at h2
        simp only [List.getElem?_map, Option.map_eq_some_iff, DataW.lit.injEq, Lit.string.injEq] at h2
        obtain ⟨s', hs', e⟩ := h2
        have : s' = s := ByteArray.ext (Array.ext' e)
        subst this
        simp [h1, hs']
      · rw [List.getElem?_eq_none (by omega), List.getElem?_eq_none (by simp; omega)]
    · cases h
def nameList : List ByteArray := ⟨#[]⟩ :: tab.map Rw.nm
theorem glob_of_laid {W : World} (hL : laidMet Tryz.prog [("dyehouse/op.names", Rows.laid_dyehouse_op_names)] W) : Glob W := by
  have e : (Rows.laid_dyehouse_op_names : DataW Unit) = strData nameList := by rfl
  rw [e] at hL
  have hg : Tryz.prog.globalNamed "dyehouse/op.names" = some 1 := by kernel_rfl
  obtain ⟨ps, ⟨g', t', cs, fuel, p, q, hg', ht', hvar, hd, _, _⟩, _⟩ := hL
  obtain rfl := Option.some.inj (hg.symm.trans hg')
  have hty : (Tryz.prog.globals[1]?).map (·.type) = some 220 := by kernel_rfl
  obtain rfl := Option.some.inj (hty.symm.trans ht')
  have hcs := cells_of_strs Tryz.underlying220 Tryz.underlying9 (by kernel_rfl) (by kernel_rfl) hd
  have hn : nameList.map Value.string = nameRow.toList := by rfl
  rw [hn] at hcs
  have hc : ∀ j v, nameRow.toList[j]? = some v → W.cell? ⟨1, j, none⟩ = some v := fun j v hj => by
    have h1 := World.var?_cell hg hvar j
    rw [← Array.getElem?_toList, hcs] at h1
    exact h1.trans hj
  have h0 := hc 0 (.string ⟨#[]⟩) rfl
  refine ⟨?_, fun j v hj => by rw [Nat.zero_add]; exact hc j v hj⟩
  unfold World.cell? at h0
  cases hb : W.heap[1]? with
  | none => simp [hb] at h0
  | some c => exact (Array.getElem?_eq_some_iff.1 hb).1
end Go.Proofs.YtbpichjmkllfaaaGreatDoor.Opr
