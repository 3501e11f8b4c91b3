/- What the second form's bound gives of a function's lists. -/
import Derived.Test.YtocelaebokikcaaOpenB
import Derived.Test.YtocelaebokikcaaLay
namespace Go.Proofs.Ytocelaebokikcaa
theorem FunB.blk {B : Nat} {f : Fun} (h : FunB B f) (b : Nat) (hb : b < f.blocks.length) : BlkB B (f.blk b) := by
  refine h.each _ ?_
  unfold Fun.blk
  rw [List.getD_eq_getElem?_getD, List.getElem?_eq_getElem hb]
  exact List.getElem_mem hb
theorem FunB.inst {B : Nat} {f : Fun} (h : FunB B f) (b k : Nat) (hb : b < f.blocks.length) (hk : k < (f.blk b).code.length) : InsB B (f.inst b k) := by
  refine (h.blk b hb).each _ ?_
  unfold Fun.inst
  rw [List.getD_eq_getElem?_getD, List.getElem?_eq_getElem hk]
  exact List.getElem_mem hk
theorem FunB.small {B : Nat} {f : Fun} (h : FunB B f) : ∀ p, f.parts.valid p → f.parts.len p ≤ B := by
  intro p hv
  cases p with
  | regs => exact h.regs
  | params => exact h.params
  | blocks => exact h.blocks
  | ins b => exact (h.blk b hv).ins
  | code b => exact (h.blk b hv).code
  | args b k => exact (h.inst b k hv.1 hv.2).args
  | labels b k => exact (h.inst b k hv.1 hv.2).labels
  | cases b k => exact (h.inst b k hv.1 hv.2).cases
end Go.Proofs.Ytocelaebokikcaa
