
/- What Vreg, Operand, Instr, Head, Block and Func of show answer. -/
import Derived.Test.YtakfoncdiejhaaaDoorShoFun
namespace Go.Proofs.YtakfoncdiejhaaaDoor
open Go.ChangeShapes Go.WideShapes Go.RowKit
set_option linter.unusedVariables false
set_option maxRecDepth 20000

theorem opT_ne (n : Int) : opT n ≠ [] := by
  unfold opT
  cases h : Opr.isOp n
  · simp
  · simp only [if_true]
    have hn : 1 ≤ n ∧ n ≤ 27 := by unfold Opr.isOp at h; simpa using h
    have key : ∀ k : Fin 28, 1 ≤ k.val → (Opr.nameOf (k.val : Int)).data.toList ≠ [] := by decide +kernel
    have := key ⟨n.toNat, by omega⟩ (by show 1 ≤ n.toNat; omega)
    rwa [show ((⟨n.toNat, by omega⟩ : Fin 28).val : Int) = n from by show ((n.toNat : Nat) : Int) = n; omega] at this
theorem txt_ne (n : Int) : Deci.txt n ≠ [] := by
  intro h
  have := Deci.txt_pos n
  rw [h] at this
  simp at this
theorem opnT_ne (x : Opn) : opnT x ≠ [] := by
  unfold opnT
  split
  · simp
  split
  · simp [vregT]
  split
  · exact txt_ne _
  split <;> simp
theorem insT_ne (i : Ins) : insT i ≠ [] := by
  unfold insT
  have h : opT i.op ≠ [] := opT_ne i.op
  intro e
  simp at e
  exact h e.2.1
theorem headT_ne (x : Blk) : headT x ≠ [] := by unfold headT; simp
theorem blkT_ne (x : Blk) : blkT x ≠ [] := by unfold blkT; simp
theorem funT_ne (f : Fun) : funT f ≠ [] := by unfold funT; simp
theorem built_new (w : World) : Lib.IsBuilder 105 5 w.heap.size w.heap.size (Lib.byteCells []) (w.alloc (.cells #[.pointer none, .slice none 0 0] 105)) :=
  .inl ⟨Nat.le_refl _, .slice none 0 0, heap_alloc_new w _, World.ownsRow_nil _ _ _ _, by simp [Value.ownBlock]⟩
theorem wr_new (w : World) : Wr w w.heap.size [] (w.alloc (.cells #[.pointer none, .slice none 0 0] 105)) := ⟨built_new w, (Below.refl _ w).alloc (Nat.le_refl _) _⟩
/-- A text is answered, and what was there is as it was. -/
def Says (t : List UInt8) (W : World) (e : Ending) (w' : World) : Prop := e = .returned (.string (ByteArray.mk t.toArray)) ∧ Below W.heap.size W w'
set_option maxHeartbeats 2000000 in
theorem svreg_v (n : Int) (t : List UInt8) (W : World) (hf : Deci.fit n) (ht : vregT n = t) (hlen : t.length ≤ big) : Calls Tryd.prog 49 #[.int .i64 n] W (Says t W) := by
  have hne : t ≠ [] := by rw [← ht]; simp [vregT]
  have HP := Lib.hid (And.intro hf (And.intro ht (And.intro hlen hne)))
  have H0 := Lib.hid (wr_new W)
  clear hf ht hlen hne
  go_enter Tryd.func49, Tryd.ntmps49
  go_wp2_with fail
  refine (vreg_v W W.heap.size [] t n _ H0.out HP.out.1 HP.out.2.1 HP.out.2.2.1).mono ?_
  rintro e w1 ⟨rfl, h1⟩
  have H1 := Lib.hid h1
  clear h1
  go_wp2_with fail
  refine (string_v W.heap.size W.heap.size t _ H1.out.1.1 HP.out.2.2.2).mono ?_
  rintro e w2 ⟨rfl, hb⟩
  have H2 := Lib.hid (H1.out.1.2.trans hb)
  clear hb
  go_wp2_with fail
  go_ret
  exact ⟨rfl, H2.out⟩
set_option maxHeartbeats 2000000 in
theorem sfunc_w (machine : Bool) (name : ByteArray) (regs : List Rg) (params : List Opn) (blocks : List Blk) (ra : Option Addr) (rn rc : Nat) (pa : Option Addr) (pn pc : Nat) (ba : Option Addr) (bn bc : Nat) (R : Nat → BlkV) (t : List UInt8) (W : World) (hG : Opr.Glob W) (hI : IsFun W ⟨machine, name, regs, params, blocks⟩ ⟨ra, rn, rc, pa, pn, pc, ba, bn, bc, R⟩) (hF : FunF ⟨machine, name, regs, params, blocks⟩) (ht : funT ⟨machine, name, regs, params, blocks⟩ = t) (hlen : t.length ≤ big) : Calls Tryd.prog 29 #[.agg #[.bool machine, .string name, .slice ra rn rc, .slice pa pn pc, .slice ba bn bc]] W (Says t W) := by
  have hne : t ≠ [] := by rw [← ht]; exact funT_ne _
  have HP := Lib.hid (And.intro ht (And.intro hlen hne))
  have BA : Below W.heap.size W (W.alloc (.cells #[.bool machine, .string name, .slice ra rn rc, .slice pa pn pc, .slice ba bn bc] 31)) := (Below.refl _ W).alloc (Nat.le_refl _) _
  have HX := Lib.hid (And.intro hF (And.intro (hG.below BA hG.1) (hI.below BA)))
  have hal := heap_alloc_new W (.cells #[.bool machine, .string name, .slice ra rn rc, .slice pa pn pc, .slice ba bn bc] 31)
  obtain ⟨wa, hwa⟩ : ∃ wa, W.alloc (.cells #[.bool machine, .string name, .slice ra rn rc, .slice pa pn pc, .slice ba bn bc] 31) = wa := ⟨_, rfl⟩
  rw [hwa] at BA hal HX
  have H0 := Lib.hid (wr_new wa)
  have hal2 := kept_box hal ((Below.refl _ wa).alloc (Nat.le_refl _) (.cells #[.pointer none, .slice none 0 0] 105))
  obtain ⟨wb, hwb⟩ : ∃ wb, wa.alloc (.cells #[.pointer none, .slice none 0 0] 105) = wb := ⟨_, rfl⟩
  rw [hwb] at H0 hal2
  have HB := Lib.hid BA
  obtain ⟨k0, k1, k2, k3, k4⟩ := five_cells hal2
  clear BA ht hlen hne
  go_enter Tryd.func29, Tryd.ntmps29
  go_wp2_with fail
  refine (function_v wa wa.heap.size [] t ⟨machine, name, regs, params, blocks⟩ ⟨ra, rn, rc, pa, pn, pc, ba, bn, bc, R⟩ _ HX.out.2.1 H0.out HX.out.2.2 HX.out.1 HP.out.1 HP.out.2.1).mono ?_
  rintro e w1 ⟨rfl, h1⟩
  have H1 := Lib.hid h1
  clear h1
  go_wp2_with fail
  refine (string_v wa.heap.size wa.heap.size t _ H1.out.1.1 HP.out.2.2).mono ?_
  rintro e w2 ⟨rfl, hb⟩
  have H2 := Lib.hid (HB.out.trans ((H1.out.1.2.trans hb).mono HB.out.size))
  clear hb
  go_wp2_with fail
  go_ret
  exact ⟨rfl, H2.out⟩
end Go.Proofs.YtakfoncdiejhaaaDoor
