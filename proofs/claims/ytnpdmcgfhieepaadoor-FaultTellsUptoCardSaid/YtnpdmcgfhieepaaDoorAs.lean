/- What errors.As answers: at a variable for a fault (the fault that an error is, within whatever parts), at a variable for an error within a part. -/
import Derived.Test.YtnpdmcgfhieepaaDoorFacts
import Derived.Lib.Builder
import Derived.Lib.Hide
namespace Go.Proofs.YtnpdmcgfhieepaaDoor
open Go.RowKit Go.Extern.Stop Go.Stop Go.Extern
set_option linter.unusedVariables false

theorem valueOf52 (p : ByteArray) (T : TypeId) (v : Value) (w : World) : (ReflectliteValue.unpack (.iface 52 (.agg #[.string p, .iface T v]))).run Tryd.prog w
    = .ok (.agg #[.pointer (some ⟨1, 52, none⟩), .pointer (some ⟨w.heap.size, 0, none⟩), .int .u64 153]) (w.alloc (.cells #[.string p, .iface T v] 52)) := by kernel_rfl
/-- Two cells laid in. -/
def two (w : World) (b : Nat) (x y : Value) : World := (w.setCell ⟨b, 0, none⟩ x).setCell ⟨b, 1, none⟩ y
theorem two_heap {w : World} {b : Nat} {x y u v : Value} {T : TypeId} (h : w.heap[b]? = some (.cells #[u, v] T (0, 0))) : (two w b x y).heap[b]? = some (.cells #[x, y] T (0, 0)) := by
  unfold two
  simp [World.setCell, Array.getElem?_modify, h]
theorem two_block {w : World} {b k : Nat} {x y : Value} (h : k ≠ b) : (two w b x y).heap[k]? = w.heap[k]? := by
  unfold two
  rw [Below.heap_setCell _ _ _ _ (by exact h), Below.heap_setCell _ _ _ _ (by exact h)]
theorem two_grown {w w1 : World} {b : Nat} {x y : Value} (h : Below w.heap.size w w1) : w.grownBy (two w1 b x y) (some b) :=
  ⟨h.os, h.tape, h.output, by have := h.size; unfold two; simpa [World.setCell] using this, fun k hk hne => (two_block (fun e => hne (by rw [e]))).trans (h.block k hk)⟩
theorem fresh0 {w : World} {b : Nat} {cs : Array Value} {T : TypeId} (h : w.heap[b]? = some (.cells cs T (0, 0))) : b < w.heap.size := by
  rcases Nat.lt_or_ge b w.heap.size with h' | h'
  · exact h'
  · simp [Array.getElem?_eq_none h'] at h
end Go.Proofs.YtnpdmcgfhieepaaDoor
