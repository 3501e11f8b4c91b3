/- What Vreg, Operand, Instr, Head, Block and Func of show answer. -/
import Derived.Test.YtlfohbajeecdeaaDoorShoFun
namespace Go.Proofs.YtlfohbajeecdeaaDoor
open Go.ChangeShapes Go.WideShapes Go.RowKit
set_option linter.unusedVariables false
set_option maxRecDepth 20000

theorem opT_ne (n : Int) : opT n ≠ [] := by
  unfold opT
  cases h : Opr.isOp n
  · simp
  · simp only [if_true]
    have hn : 1 ≤ n ∧ n ≤ 27 := by unfold Opr.isOp at h; simpa using h
    have key : ∀ k : Fin 28, 1 ≤ k.val → (Opr.nameOf (k.val : Int)).data.toList ≠ [] := by decide +kernel
    have := key ⟨n.toNat, by omega⟩ (by show 1 ≤ n.toNat; omega)
    rwa [show ((⟨n.toNat, by omega⟩ : Fin 28).val : Int) = n from by show ((n.toNat : Nat) : Int) = n; omega] at this
theorem txt_ne (n : Int) : Deci.txt n ≠ [] := by
  intro h
  have := Deci.txt_pos n
  rw [h] at this
  simp at this
theorem opnT_ne (x : Opn) : opnT x ≠ [] := by
  unfold opnT
  split
  · simp
  split
  · simp [vregT]
  split
  · exact txt_ne _
  split <;> simp
theorem insT_ne (i : Ins) : insT i ≠ [] := by
  unfold insT
  have h : opT i.op ≠ [] := opT_ne i.op
  intro e
  simp at e
  exact h e.2.1
theorem headT_ne (x : Blk) : headT x ≠ [] := by unfold headT; simp
theorem blkT_ne (x : Blk) : blkT x ≠ [] := by unfold blkT; simp
theorem funT_ne (f : Fun) : funT f ≠ [] := by unfold funT; simp
theorem built_new (w : World) : Lib.IsBuilder 49 5 w.heap.size w.heap.size (Lib.byteCells []) (w.alloc (.cells #[.pointer none, .slice none 0 0] 49)) :=
  .inl ⟨Nat.le_refl _, .slice none 0 0, heap_alloc_new w _, World.ownsRow_nil _ _ _ _, by simp [Value.ownBlock]⟩
theorem wr_new (w : World) : Wr w w.heap.size [] (w.alloc (.cells #[.pointer none, .slice none 0 0] 49)) := ⟨built_new w, (Below.refl _ w).alloc (Nat.le_refl _) _⟩
/-- A text is answered, and what was there is as it was. -/
def Says (t : List UInt8) (W : World) (e : Ending) (w' : World) : Prop := e = .returned (.string (ByteArray.mk t.toArray)) ∧ Below W.heap.size W w'
set_option maxHeartbeats 2000000 in
theorem svreg_v (n : Int) (t : List UInt8) (W : World) (hf : Deci.fit n) (ht : vregT n = t) (hlen : t.length ≤ big) : Calls Tryd.prog 14 #[.int .i64 n] W (Says t W) := by
  have hne : t ≠ [] := by rw [← ht]; simp [vregT]
  have HP := Lib.hid (And.intro hf (And.intro ht (And.intro hlen hne)))
  have H0 := Lib.hid (wr_new W)
  clear hf ht hlen hne
  go_enter Tryd.func14, Tryd.ntmps14
  go_wp2_with fail
  refine (vreg_v W W.heap.size [] t n _ H0.out HP.out.1 HP.out.2.1 HP.out.2.2.1).mono ?_
  rintro e w1 ⟨rfl, h1⟩
  have H1 := Lib.hid h1
  clear h1
  go_wp2_with fail
  refine (string_v W.heap.size W.heap.size t _ H1.out.1.1 HP.out.2.2.2).mono ?_
  rintro e w2 ⟨rfl, hb⟩
  have H2 := Lib.hid (H1.out.1.2.trans hb)
  clear hb
  go_wp2_with fail
  go_ret
  exact ⟨rfl, H2.out⟩
set_option maxHeartbeats 2000000 in
theorem soperand_v (k c n tg : Int) (t : List UInt8) (W : World) (hf : OpF ⟨k, c, n, tg⟩) (ht : opnT ⟨k, c, n, tg⟩ = t) (hlen : t.length ≤ big) : Calls Tryd.prog 12 #[.agg #[.int .i64 k, .int .i64 c, .int .i64 n, .int .i64 tg]] W (Says t W) := by
  have hne : t ≠ [] := by rw [← ht]; exact opnT_ne _
  have HP := Lib.hid (And.intro ht (And.intro hlen hne))
  have BA : Below W.heap.size W (W.alloc (.cells #[.int .i64 k, .int .i64 c, .int .i64 n, .int .i64 tg] 31)) := (Below.refl _ W).alloc (Nat.le_refl _) _
  have HX := Lib.hid (And.intro hf (show W.alloc (.cells #[.int .i64 k, .int .i64 c, .int .i64 n, .int .i64 tg] 31) = W.alloc (.cells #[.int .i64 k, .int .i64 c, .int .i64 n, .int .i64 tg] 31) from rfl))
  have hal := heap_alloc_new W (.cells #[.int .i64 k, .int .i64 c, .int .i64 n, .int .i64 tg] 31)
  obtain ⟨wa, hwa⟩ : ∃ wa, W.alloc (.cells #[.int .i64 k, .int .i64 c, .int .i64 n, .int .i64 tg] 31) = wa := ⟨_, rfl⟩
  rw [hwa] at BA hal HX
  have H0 := Lib.hid (wr_new wa)
  have hal2 := kept_box hal ((Below.refl _ wa).alloc (Nat.le_refl _) (.cells #[.pointer none, .slice none 0 0] 49))
  obtain ⟨wb, hwb⟩ : ∃ wb, wa.alloc (.cells #[.pointer none, .slice none 0 0] 49) = wb := ⟨_, rfl⟩
  rw [hwb] at H0 hal2
  have HB := Lib.hid BA
  obtain ⟨k0, k1, k2, k3⟩ := four_cells hal2
  clear BA ht hlen hne
  go_enter Tryd.func12, Tryd.ntmps12
  go_wp2_with fail
  refine (operand_v wa wa.heap.size [] t ⟨k, c, n, tg⟩ _ H0.out HX.out.1 HP.out.1 HP.out.2.1).mono ?_
  rintro e w1 ⟨rfl, h1⟩
  have H1 := Lib.hid h1
  clear h1
  go_wp2_with fail
  refine (string_v wa.heap.size wa.heap.size t _ H1.out.1.1 HP.out.2.2).mono ?_
  rintro e w2 ⟨rfl, hb⟩
  have H2 := Lib.hid (HB.out.trans ((H1.out.1.2.trans hb).mono HB.out.size))
  clear hb
  go_wp2_with fail
  go_ret
  exact ⟨rfl, H2.out⟩
set_option maxHeartbeats 2000000 in
theorem sinstr_w (op : Int) (dk dc dn dt : Int) (args : List Opn) (nm : ByteArray) (off : Int) (labels : List ByteArray) (cas : List Int) (aa : Option Addr) (an ac : Nat) (la : Option Addr) (ln lc : Nat) (ca : Option Addr) (cn cc : Nat) (t : List UInt8) (W : World) (hG : Opr.Glob W) (hI : IsIns W ⟨op, ⟨dk, dc, dn, dt⟩, args, nm, off, labels, cas⟩ ⟨aa, an, ac, la, ln, lc, ca, cn, cc⟩) (hF : InsF ⟨op, ⟨dk, dc, dn, dt⟩, args, nm, off, labels, cas⟩) (ht : insT ⟨op, ⟨dk, dc, dn, dt⟩, args, nm, off, labels, cas⟩ = t) (hlen : t.length ≤ big) : Calls Tryd.prog 10 #[.agg #[.int .i64 op, .int .i64 dk, .int .i64 dc, .int .i64 dn, .int .i64 dt, .slice aa an ac, .string nm, .int .i64 off, .slice la ln lc, .slice ca cn cc]] W (Says t W) := by
  have hne : t ≠ [] := by rw [← ht]; exact insT_ne _
  have HP := Lib.hid (And.intro ht (And.intro hlen hne))
  have BA : Below W.heap.size W (W.alloc (.cells #[.int .i64 op, .int .i64 dk, .int .i64 dc, .int .i64 dn, .int .i64 dt, .slice aa an ac, .string nm, .int .i64 off, .slice la ln lc, .slice ca cn cc] 35)) := (Below.refl _ W).alloc (Nat.le_refl _) _
  have HX := Lib.hid (And.intro hF (And.intro (hG.below BA hG.1) (hI.below BA)))
  have hal := heap_alloc_new W (.cells #[.int .i64 op, .int .i64 dk, .int .i64 dc, .int .i64 dn, .int .i64 dt, .slice aa an ac, .string nm, .int .i64 off, .slice la ln lc, .slice ca cn cc] 35)
  obtain ⟨wa, hwa⟩ : ∃ wa, W.alloc (.cells #[.int .i64 op, .int .i64 dk, .int .i64 dc, .int .i64 dn, .int .i64 dt, .slice aa an ac, .string nm, .int .i64 off, .slice la ln lc, .slice ca cn cc] 35) = wa := ⟨_, rfl⟩
  rw [hwa] at BA hal HX
  have H0 := Lib.hid (wr_new wa)
  have hal2 := kept_box hal ((Below.refl _ wa).alloc (Nat.le_refl _) (.cells #[.pointer none, .slice none 0 0] 49))
  obtain ⟨wb, hwb⟩ : ∃ wb, wa.alloc (.cells #[.pointer none, .slice none 0 0] 49) = wb := ⟨_, rfl⟩
  rw [hwb] at H0 hal2
  have HB := Lib.hid BA
  obtain ⟨e0, e1, e2, e3, e4, e5, e6, e7, e8, e9⟩ := ten_cells hal2
  clear BA ht hlen hne
  go_enter Tryd.func10, Tryd.ntmps10
  go_wp2_with fail
  refine (instr_v wa wa.heap.size [] t ⟨op, ⟨dk, dc, dn, dt⟩, args, nm, off, labels, cas⟩ ⟨aa, an, ac, la, ln, lc, ca, cn, cc⟩ _ HX.out.2.1 H0.out HX.out.2.2 HX.out.1 HP.out.1 HP.out.2.1).mono ?_
  rintro e w1 ⟨rfl, h1⟩
  have H1 := Lib.hid h1
  clear h1
  go_wp2_with fail
  refine (string_v wa.heap.size wa.heap.size t _ H1.out.1.1 HP.out.2.2).mono ?_
  rintro e w2 ⟨rfl, hb⟩
  have H2 := Lib.hid (HB.out.trans ((H1.out.1.2.trans hb).mono HB.out.size))
  clear hb
  go_wp2_with fail
  go_ret
  exact ⟨rfl, H2.out⟩
set_option maxHeartbeats 2000000 in
theorem shead_w (label : ByteArray) (edge : Bool) (ins : List Opn) (code : List Ins) (ia : Option Addr) (il ic : Nat) (ka : Option Addr) (kn kc : Nat) (R : Nat → InsV) (t : List UInt8) (W : World) (hI : IsBlk W ⟨label, edge, ins, code⟩ ⟨ia, il, ic, ka, kn, kc, R⟩) (hF : BlkF ⟨label, edge, ins, code⟩) (ht : headT ⟨label, edge, ins, code⟩ = t) (hlen : t.length ≤ big) : Calls Tryd.prog 15 #[.agg #[.string label, .bool edge, .slice ia il ic, .slice ka kn kc]] W (Says t W) := by
  have hne : t ≠ [] := by rw [← ht]; exact headT_ne _
  have HP := Lib.hid (And.intro ht (And.intro hlen hne))
  have BA : Below W.heap.size W (W.alloc (.cells #[.string label, .bool edge, .slice ia il ic, .slice ka kn kc] 38)) := (Below.refl _ W).alloc (Nat.le_refl _) _
  have HX := Lib.hid (And.intro hF (hI.below BA))
  have hal := heap_alloc_new W (.cells #[.string label, .bool edge, .slice ia il ic, .slice ka kn kc] 38)
  obtain ⟨wa, hwa⟩ : ∃ wa, W.alloc (.cells #[.string label, .bool edge, .slice ia il ic, .slice ka kn kc] 38) = wa := ⟨_, rfl⟩
  rw [hwa] at BA hal HX
  have H0 := Lib.hid (wr_new wa)
  have hal2 := kept_box hal ((Below.refl _ wa).alloc (Nat.le_refl _) (.cells #[.pointer none, .slice none 0 0] 49))
  obtain ⟨wb, hwb⟩ : ∃ wb, wa.alloc (.cells #[.pointer none, .slice none 0 0] 49) = wb := ⟨_, rfl⟩
  rw [hwb] at H0 hal2
  have HB := Lib.hid BA
  obtain ⟨k0, k1, k2, k3⟩ := four_cells hal2
  clear BA ht hlen hne
  go_enter Tryd.func15, Tryd.ntmps15
  go_wp2_with fail
  refine (head_v wa wa.heap.size [] t ⟨label, edge, ins, code⟩ ⟨ia, il, ic, ka, kn, kc, R⟩ _ H0.out HX.out.2.ins HX.out.1.ins HP.out.1 HP.out.2.1).mono ?_
  rintro e w1 ⟨rfl, h1⟩
  have H1 := Lib.hid h1
  clear h1
  go_wp2_with fail
  refine (string_v wa.heap.size wa.heap.size t _ H1.out.1.1 HP.out.2.2).mono ?_
  rintro e w2 ⟨rfl, hb⟩
  have H2 := Lib.hid (HB.out.trans ((H1.out.1.2.trans hb).mono HB.out.size))
  clear hb
  go_wp2_with fail
  go_ret
  exact ⟨rfl, H2.out⟩
set_option maxHeartbeats 2000000 in
theorem sblock_w (label : ByteArray) (edge : Bool) (ins : List Opn) (code : List Ins) (ia : Option Addr) (il ic : Nat) (ka : Option Addr) (kn kc : Nat) (R : Nat → InsV) (t : List UInt8) (W : World) (hG : Opr.Glob W) (hI : IsBlk W ⟨label, edge, ins, code⟩ ⟨ia, il, ic, ka, kn, kc, R⟩) (hF : BlkF ⟨label, edge, ins, code⟩) (ht : blkT ⟨label, edge, ins, code⟩ = t) (hlen : t.length ≤ big) : Calls Tryd.prog 16 #[.agg #[.string label, .bool edge, .slice ia il ic, .slice ka kn kc]] W (Says t W) := by
  have hne : t ≠ [] := by rw [← ht]; exact blkT_ne _
  have HP := Lib.hid (And.intro ht (And.intro hlen hne))
  have BA : Below W.heap.size W (W.alloc (.cells #[.string label, .bool edge, .slice ia il ic, .slice ka kn kc] 38)) := (Below.refl _ W).alloc (Nat.le_refl _) _
  have HX := Lib.hid (And.intro hF (And.intro (hG.below BA hG.1) (hI.below BA)))
  have hal := heap_alloc_new W (.cells #[.string label, .bool edge, .slice ia il ic, .slice ka kn kc] 38)
  obtain ⟨wa, hwa⟩ : ∃ wa, W.alloc (.cells #[.string label, .bool edge, .slice ia il ic, .slice ka kn kc] 38) = wa := ⟨_, rfl⟩
  rw [hwa] at BA hal HX
  have H0 := Lib.hid (wr_new wa)
  have hal2 := kept_box hal ((Below.refl _ wa).alloc (Nat.le_refl _) (.cells #[.pointer none, .slice none 0 0] 49))
  obtain ⟨wb, hwb⟩ : ∃ wb, wa.alloc (.cells #[.pointer none, .slice none 0 0] 49) = wb := ⟨_, rfl⟩
  rw [hwb] at H0 hal2
  have HB := Lib.hid BA
  obtain ⟨k0, k1, k2, k3⟩ := four_cells hal2
  clear BA ht hlen hne
  go_enter Tryd.func16, Tryd.ntmps16
  go_wp2_with fail
  refine (block_v wa wa.heap.size [] t ⟨label, edge, ins, code⟩ ⟨ia, il, ic, ka, kn, kc, R⟩ _ HX.out.2.1 H0.out HX.out.2.2 HX.out.1 HP.out.1 HP.out.2.1).mono ?_
  rintro e w1 ⟨rfl, h1⟩
  have H1 := Lib.hid h1
  clear h1
  go_wp2_with fail
  refine (string_v wa.heap.size wa.heap.size t _ H1.out.1.1 HP.out.2.2).mono ?_
  rintro e w2 ⟨rfl, hb⟩
  have H2 := Lib.hid (HB.out.trans ((H1.out.1.2.trans hb).mono HB.out.size))
  clear hb
  go_wp2_with fail
  go_ret
  exact ⟨rfl, H2.out⟩
set_option maxHeartbeats 2000000 in
theorem sfunc_w (machine : Bool) (name : ByteArray) (regs : List Rg) (params : List Opn) (blocks : List Blk) (ra : Option Addr) (rn rc : Nat) (pa : Option Addr) (pn pc : Nat) (ba : Option Addr) (bn bc : Nat) (R : Nat → BlkV) (t : List UInt8) (W : World) (hG : Opr.Glob W) (hI : IsFun W ⟨machine, name, regs, params, blocks⟩ ⟨ra, rn, rc, pa, pn, pc, ba, bn, bc, R⟩) (hF : FunF ⟨machine, name, regs, params, blocks⟩) (ht : funT ⟨machine, name, regs, params, blocks⟩ = t) (hlen : t.length ≤ big) : Calls Tryd.prog 8 #[.agg #[.bool machine, .string name, .slice ra rn rc, .slice pa pn pc, .slice ba bn bc]] W (Says t W) := by
  have hne : t ≠ [] := by rw [← ht]; exact funT_ne _
  have HP := Lib.hid (And.intro ht (And.intro hlen hne))
  have BA : Below W.heap.size W (W.alloc (.cells #[.bool machine, .string name, .slice ra rn rc, .slice pa pn pc, .slice ba bn bc] 26)) := (Below.refl _ W).alloc (Nat.le_refl _) _
  have HX := Lib.hid (And.intro hF (And.intro (hG.below BA hG.1) (hI.below BA)))
  have hal := heap_alloc_new W (.cells #[.bool machine, .string name, .slice ra rn rc, .slice pa pn pc, .slice ba bn bc] 26)
  obtain ⟨wa, hwa⟩ : ∃ wa, W.alloc (.cells #[.bool machine, .string name, .slice ra rn rc, .slice pa pn pc, .slice ba bn bc] 26) = wa := ⟨_, rfl⟩
  rw [hwa] at BA hal HX
  have H0 := Lib.hid (wr_new wa)
  have hal2 := kept_box hal ((Below.refl _ wa).alloc (Nat.le_refl _) (.cells #[.pointer none, .slice none 0 0] 49))
  obtain ⟨wb, hwb⟩ : ∃ wb, wa.alloc (.cells #[.pointer none, .slice none 0 0] 49) = wb := ⟨_, rfl⟩
  rw [hwb] at H0 hal2
  have HB := Lib.hid BA
  obtain ⟨k0, k1, k2, k3, k4⟩ := five_cells hal2
  clear BA ht hlen hne
  go_enter Tryd.func8, Tryd.ntmps8
  go_wp2_with fail
  refine (function_v wa wa.heap.size [] t ⟨machine, name, regs, params, blocks⟩ ⟨ra, rn, rc, pa, pn, pc, ba, bn, bc, R⟩ _ HX.out.2.1 H0.out HX.out.2.2 HX.out.1 HP.out.1 HP.out.2.1).mono ?_
  rintro e w1 ⟨rfl, h1⟩
  have H1 := Lib.hid h1
  clear h1
  go_wp2_with fail
  refine (string_v wa.heap.size wa.heap.size t _ H1.out.1.1 HP.out.2.2).mono ?_
  rintro e w2 ⟨rfl, hb⟩
  have H2 := Lib.hid (HB.out.trans ((H1.out.1.2.trans hb).mono HB.out.size))
  clear hb
  go_wp2_with fail
  go_ret
  exact ⟨rfl, H2.out⟩
end Go.Proofs.YtlfohbajeecdeaaDoor
