/- All operands of a function, in a row: plain. -/
import Derived.Test.YtocelaebokikcaaEach
import Derived.Test.YtocelaebokikcaaPart
namespace Go.Proofs.Ytocelaebokikcaa
open Go.ChangeShapes Go.WideShapes Go.RowKit
set_option linter.unusedVariables false

def insOps (i : Ins) : List Opn := i.dst :: i.args
def blkOps (b : Blk) : List Opn := b.ins ++ b.code.flatMap insOps
def funOps (f : Fun) : List Opn := f.params ++ f.blocks.flatMap blkOps
theorem sumTo_shift (F : Nat → Nat) (n : Nat) : sumTo F (n + 1) = F 0 + sumTo (fun k => F (k + 1)) n := by
  induction n with
  | zero => simp [sumTo]
  | succ n ih =>
    show sumTo F (n + 1) + F (n + 1) = F 0 + (sumTo (fun k => F (k + 1)) n + F (n + 1))
    rw [ih]; omega
theorem sumTo_congr (F G : Nat → Nat) (n : Nat) (h : ∀ k, k < n → F k = G k) : sumTo F n = sumTo G n := by
  induction n with
  | zero => rfl
  | succ n ih =>
    show sumTo F n + F n = sumTo G n + G n
    rw [ih (fun k hk => h k (by omega)), h n (by omega)]
theorem flatMap_sum {α β : Type} [Inhabited α] (f : α → List β) (l : List α) : (l.flatMap f).length = sumTo (fun k => (f (l.getD k default)).length) l.length := by
  induction l with
  | nil => rfl
  | cons a l ih =>
    rw [List.flatMap_cons, List.length_append, ih, List.length_cons, sumTo_shift]
    rfl
theorem flatMap_at {α β : Type} [Inhabited α] (f : α → List β) (l : List α) (b k : Nat) (hb : b < l.length) (hk : k < (f (l.getD b default)).length) : (l.flatMap f)[sumTo (fun k => (f (l.getD k default)).length) b + k]? = (f (l.getD b default))[k]? := by
  induction l generalizing b with
  | nil => simp at hb
  | cons a l ih =>
    cases b with
    | zero =>
      have hk' : k < (f a).length := hk
      show ((a :: l).flatMap f)[0 + k]? = (f a)[k]?
      rw [Nat.zero_add, List.flatMap_cons, List.getElem?_append_left hk']
    | succ b =>
      rw [sumTo_shift, List.flatMap_cons]
      have e : (fun k => (fun k => (f ((a :: l).getD k default)).length) (k + 1)) = fun k => (f (l.getD k default)).length := rfl
      rw [e]
      show (f a ++ l.flatMap f)[(f a).length + sumTo (fun k => (f (l.getD k default)).length) b + k]? = _
      rw [Nat.add_assoc, List.getElem?_append_right (by omega), Nat.add_sub_cancel_left]
      exact ih b (by simpa using hb) hk
/-- Where a function's lists are as long as they are. -/
structure Fits (f : Fun) (v : FunV) : Prop where
  params : f.params.length = v.pn
  blocks : f.blocks.length = v.bn
  ins : ∀ b, b < v.bn → (f.blk b).ins.length = (v.R b).il
  code : ∀ b, b < v.bn → (f.blk b).code.length = (v.R b).kn
  args : ∀ b k, b < v.bn → k < (v.R b).kn → (f.inst b k).args.length = ((v.R b).R k).an
theorem IsFun.fits {w : World} {f : Fun} {v : FunV} (h : IsFun w f v) : Fits f v :=
  ⟨h.params.1, h.blocks.1, fun b hb => (h.blkOf (by rw [h.blocks.1]; exact hb)).ins.1, fun b hb => (h.blkOf (by rw [h.blocks.1]; exact hb)).code.1, fun b k hb hk => (h.insOf (by rw [h.blocks.1]; exact hb) (by rw [(h.blkOf (by rw [h.blocks.1]; exact hb)).code.1]; exact hk)).args.1⟩
theorem Fits.insN {f : Fun} {v : FunV} (h : Fits f v) {b k : Nat} (hb : b < v.bn) (hk : k ≤ (v.R b).kn) : v.insN b k = sumTo (fun k => (insOps ((f.blk b).code.getD k default)).length) k :=
  sumTo_congr _ _ _ (fun j hj => by
    have := h.args b j hb (by omega)
    show 1 + _ = (_ :: _).length
    rw [List.length_cons, ← this]
    show 1 + (f.inst b j).args.length = (f.inst b j).args.length + 1
    omega)
theorem Fits.codeN {f : Fun} {v : FunV} (h : Fits f v) {b : Nat} (hb : b < v.bn) : ((f.blk b).code.flatMap insOps).length = v.insN b (v.R b).kn := by
  rw [flatMap_sum, h.code b hb, h.insN hb (Nat.le_refl _)]
theorem Fits.blkN {f : Fun} {v : FunV} (h : Fits f v) {b : Nat} (hb : b < v.bn) : v.blkN b = (blkOps (f.blk b)).length := by
  unfold FunV.blkN blkOps
  rw [List.length_append, h.ins b hb, h.codeN hb]
theorem Fits.off {f : Fun} {v : FunV} (h : Fits f v) {b : Nat} (hb : b ≤ v.bn) : v.off b = v.pn + sumTo (fun b => (blkOps (f.blocks.getD b default)).length) b := by
  unfold FunV.off
  rw [sumTo_congr v.blkN (fun b => (blkOps (f.blocks.getD b default)).length) b (fun j hj => h.blkN (by omega))]
theorem Fits.all {f : Fun} {v : FunV} (h : Fits f v) : v.off v.bn = (funOps f).length := by
  rw [h.off (Nat.le_refl _)]
  unfold funOps
  rw [List.length_append, h.params, flatMap_sum, h.blocks]
theorem Fits.at_params {f : Fun} {v : FunV} (h : Fits f v) {k : Nat} (hk : k < v.pn) : (funOps f)[k]? = f.params[k]? := by
  unfold funOps
  rw [List.getElem?_append_left (by rw [h.params]; exact hk)]
theorem Fits.at_block {f : Fun} {v : FunV} (h : Fits f v) {b k : Nat} (hb : b < v.bn) (hk : k < (blkOps (f.blk b)).length) : (funOps f)[v.off b + k]? = (blkOps (f.blk b))[k]? := by
  unfold funOps
  rw [h.off (by omega), List.getElem?_append_right (by rw [h.params]; omega), h.params, show ∀ x, v.pn + x + k - v.pn = x + k by intro x; omega]
  exact flatMap_at blkOps f.blocks b k (by rw [h.blocks]; exact hb) hk
theorem Fits.at_ins {f : Fun} {v : FunV} (h : Fits f v) {b k : Nat} (hb : b < v.bn) (hk : k < (v.R b).il) : (funOps f)[v.off b + k]? = (f.blk b).ins[k]? := by
  have hk' : k < (f.blk b).ins.length := by rw [h.ins b hb]; exact hk
  rw [h.at_block hb (by unfold blkOps; rw [List.length_append]; omega)]
  unfold blkOps
  rw [List.getElem?_append_left hk']
theorem Fits.at_inst {f : Fun} {v : FunV} (h : Fits f v) {b k j : Nat} (hb : b < v.bn) (hk : k < (v.R b).kn) (hj : j < (insOps (f.inst b k)).length) : (funOps f)[v.offI b k + j]? = (insOps (f.inst b k))[j]? := by
  have hkc : k < (f.blk b).code.length := by rw [h.code b hb]; exact hk
  have e : v.offI b k + j = v.off b + ((f.blk b).ins.length + (sumTo (fun k => (insOps ((f.blk b).code.getD k default)).length) k + j)) := by
    unfold FunV.offI
    rw [h.ins b hb, h.insN hb (by omega)]; omega
  have hc := flatMap_at insOps (f.blk b).code k j hkc hj
  have hlt := (List.getElem?_eq_some_iff.1 (hc.trans (List.getElem?_eq_getElem (l := insOps ((f.blk b).code.getD k default)) hj))).1
  rw [e, h.at_block hb (by unfold blkOps; rw [List.length_append]; omega)]
  unfold blkOps
  rw [List.getElem?_append_right (by omega), Nat.add_sub_cancel_left]
  exact hc
theorem Fits.at_dst {f : Fun} {v : FunV} (h : Fits f v) {b k : Nat} (hb : b < v.bn) (hk : k < (v.R b).kn) : (funOps f)[v.offI b k]? = some (f.inst b k).dst := by
  have := h.at_inst (j := 0) hb hk (by unfold insOps; simp)
  rw [Nat.add_zero] at this
  rw [this]; rfl
theorem Fits.at_args {f : Fun} {v : FunV} (h : Fits f v) {b k j : Nat} (hb : b < v.bn) (hk : k < (v.R b).kn) (hj : j < ((v.R b).R k).an) : (funOps f)[v.offI b k + 1 + j]? = (f.inst b k).args[j]? := by
  have := h.at_inst (j := j + 1) hb hk (by unfold insOps; rw [List.length_cons, h.args b k hb hk]; omega)
  rw [show v.offI b k + 1 + j = v.offI b k + (j + 1) by omega, this]
  rfl
end Go.Proofs.Ytocelaebokikcaa
