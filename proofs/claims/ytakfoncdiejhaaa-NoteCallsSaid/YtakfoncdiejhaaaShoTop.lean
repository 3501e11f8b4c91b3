
/- What show's Vreg answers. -/
import Derived.Test.YtakfoncdiejhaaaShoWr
namespace Go.Proofs.Ytakfoncdiejhaaa
open Go.ChangeShapes Go.WideShapes Go.RowKit
set_option linter.unusedVariables false
set_option maxRecDepth 20000

theorem built_new (w : World) : Lib.IsBuilder 77 5 w.heap.size w.heap.size (Lib.byteCells []) (w.alloc (.cells #[.pointer none, .slice none 0 0] 77)) :=
  .inl ⟨Nat.le_refl _, .slice none 0 0, heap_alloc_new w _, World.ownsRow_nil _ _ _ _, by simp [Value.ownBlock]⟩
theorem wr_new (w : World) : Wr w w.heap.size [] (w.alloc (.cells #[.pointer none, .slice none 0 0] 77)) := ⟨built_new w, (Below.refl _ w).alloc (Nat.le_refl _) _⟩
/-- A text is answered, and what was there is as it was. -/
def Says (t : List UInt8) (W : World) (e : Ending) (w' : World) : Prop := e = .returned (.string (ByteArray.mk t.toArray)) ∧ Below W.heap.size W w'
set_option maxHeartbeats 2000000 in
theorem svreg_v (n : Int) (t : List UInt8) (W : World) (hf : Deci.fit n) (ht : vregT n = t) (hlen : t.length ≤ big) : Calls Try.prog 32 #[.int .i64 n] W (Says t W) := by
  have hne : t ≠ [] := by rw [← ht]; simp [vregT]
  have HP := Lib.hid (And.intro hf (And.intro ht (And.intro hlen hne)))
  have H0 := Lib.hid (wr_new W)
  clear hf ht hlen hne
  go_enter Try.func32, Try.ntmps32
  go_wp2_with fail
  refine (vreg_v W W.heap.size [] t n _ H0.out HP.out.1 HP.out.2.1 HP.out.2.2.1).mono ?_
  rintro e w1 ⟨rfl, h1⟩
  have H1 := Lib.hid h1
  clear h1
  go_wp2_with fail
  refine (string_v W.heap.size W.heap.size t _ H1.out.1.1 HP.out.2.2.2).mono ?_
  rintro e w2 ⟨rfl, hb⟩
  have H2 := Lib.hid (H1.out.1.2.trans hb)
  clear hb
  go_wp2_with fail
  go_ret
  exact ⟨rfl, H2.out⟩
end Go.Proofs.Ytakfoncdiejhaaa
