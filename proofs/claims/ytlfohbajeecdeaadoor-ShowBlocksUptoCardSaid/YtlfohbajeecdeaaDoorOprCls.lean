
/- What Classes of op answers: a slice of its own. -/
import Derived.Test.YtlfohbajeecdeaaDoorOprMid
import Derived.Maps.AppendAt
import Derived.Deep.AppendLies
import Derived.OwnWalk
import Derived.Laws.OwnMore
namespace Go.Proofs.YtlfohbajeecdeaaDoor.Opr
open Go.ChangeShapes Go.WideShapes Go.RowKit
set_option linter.unusedVariables false

def ints (l : List Int) : List Value := l.map (Value.int .i64)
def clsR (v : Int) : Nat → List Int
  | 0 => []
  | k + 1 => clsR v k ++ if fitR v (k : Int) then [(k : Int)] else []
theorem clsR_yes (v : Int) (k : Nat) (h : fitR v (k : Int) = true) : clsR v (k + 1) = clsR v k ++ [(k : Int)] := by rw [clsR, if_pos h]
theorem clsR_no (v : Int) (k : Nat) (h : fitR v (k : Int) = false) : clsR v (k + 1) = clsR v k := by rw [clsR, h]; simp
theorem info3 : (Tryd.prog.info? 3).map (fun i => (i.zero, i.size, i.bytes)) = some (some (.int .i64 0), 1, 8) := by kernel_rfl
theorem news_new (w : World) (cs : Array Value) (t : TypeId) (l : List Value) (hl : cs.toList = l) : ∀ j u, l[j]? = some u → (w.alloc (.cells cs t)).cell? ((⟨w.heap.size, 0, none⟩ : Addr).add j) = some u := by
  subst hl
  exact World.news_of_block (heap_alloc_new w _)
/-- What Classes hands back. -/
def ClsP (v : Int) (w : World) (e : Ending) (w' : World) : Prop :=
  ∃ A c, e = .returned (.slice A (clsR v 2).length c) ∧ w'.ownsRow w.heap.size 3 1 (.slice A (clsR v 2).length c) (clsR v 2).length (ints (clsR v 2)) ∧ Below w.heap.size w w'
structure Cl (v : Int) (w wr : World) (k : Nat) (A : Option Addr) (c N : Nat) : Prop where
  len : (clsR v k).length = N
  own : wr.ownsRow w.heap.size 3 1 (.slice A N c) N (ints (clsR v k))
  below : Below w.heap.size w wr
theorem Cl.next {v : Int} {w wr w1 : World} {k : Nat} {A : Option Addr} {c N g cap : Nat} {o : Obj} (h : Cl v w wr k A c N) (hf : fitR v (k : Int) = true)
    (ho : w1.ownsRow w.heap.size 3 1 (.slice (some ⟨g, 0, none⟩) (N + 1) cap) (N + 1) (ints (clsR v k) ++ [.int .i64 (k : Int)])) (hg : (wr.alloc o).grownBy w1 (Value.ownBlock (.slice A N c))) :
    Cl v w w1 (k + 1) (some ⟨g, 0, none⟩) cap (N + 1) := by
  have e := clsR_yes v k hf
  refine ⟨by rw [e, List.length_append, h.len]; rfl, by rw [e]; unfold ints at ho ⊢; rw [List.map_append]; exact ho, ?_⟩
  have h1 := h.below.alloc h.below.size o
  exact h1.grown hg (by have := h.below.size; simp; omega) (fun k hk => (h.own.lt k hk).1)
theorem Cl.same {v : Int} {w wr : World} {k : Nat} {A : Option Addr} {c N : Nat} (h : Cl v w wr k A c N) (hf : fitR v (k : Int) = false) : Cl v w wr (k + 1) A c N := by
  have e := clsR_no v k hf
  exact ⟨by rw [e]; exact h.len, by rw [e]; exact h.own, h.below⟩
end Go.Proofs.YtlfohbajeecdeaaDoor.Opr
