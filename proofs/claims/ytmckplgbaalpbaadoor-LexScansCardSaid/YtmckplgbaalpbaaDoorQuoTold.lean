/- What the program's told answers: the bytes so far, and behind them a byte as it stands between quotes. -/
import Derived.Test.YtmckplgbaalpbaaDoorQuoPieceB
import Derived.Maps.AppendAt
import Derived.Deep.AppendLies
import Derived.OwnWalk
import Derived.Deep.RegionLaw
namespace Go.Proofs.YtmckplgbaalpbaaDoor.Quo
open Go.ChangeShapes Go.WideShapes Go.RowKit
set_option linter.unusedVariables false

/-- Bytes as cells. -/
def cellsOf (l : List UInt8) : List Value := l.map fun c => .int .u8 (c.toNat : Int)
/-- The bytes t are those of a slice that the call has made. -/
def Own (base : Nat) (w : World) (A : Option Addr) (c : Nat) (t : List UInt8) : Prop := w.ownsRow base 5 1 (.slice A t.length c) t.length (cellsOf t)
/-- A slice of its own is handed back, with the bytes t. -/
def ToldP (base : Nat) (t : List UInt8) (w : World) (e : Ending) (w' : World) : Prop :=
  ∃ A c, e = .returned (.slice A t.length c) ∧ Own base w' A c t ∧ Below base w w'
theorem info5 : (Tryd.prog.info? 5).map (fun i => (i.zero, i.size, i.bytes)) = some (some (.int .u8 0), 1, 1) := by kernel_rfl
theorem one_cell (x : List UInt8) : ∀ u ∈ cellsOf x, u.oneCell' = true := by
  intro u hu
  obtain ⟨c, _, rfl⟩ := List.mem_map.1 hu
  rfl
theorem news_new (w : World) (cs : Array Value) (t : TypeId) (l : List Value) (hl : cs.toList = l) : ∀ j u, l[j]? = some u → (w.alloc (.cells cs t)).cell? ((⟨w.heap.size, 0, none⟩ : Addr).add j) = some u := by
  subst hl
  exact World.news_of_block (heap_alloc_new w _)
theorem own_next {base m : Nat} {w wr w1 : World} {A : Option Addr} {c : Nat} {t x : List UInt8} {v' : Value} {o : Obj} {xs : List Value}
    (ho : w1.ownsRow base 5 1 v' (t.length + m) (cellsOf t ++ xs)) (hx : xs = cellsOf x) (hm : x.length = m) (h0 : 0 < m)
    (hg : (wr.alloc o).grownBy w1 (Value.ownBlock (.slice A t.length c))) (hown : Own base wr A c t) (hb : Below base w wr) (hB : base ≤ wr.heap.size) :
    ∃ A' c', v' = .slice A' (t ++ x).length c' ∧ Own base w1 A' c' (t ++ x) ∧ Below base w w1 := by
  subst hx hm
  obtain ⟨g, cap, rfl, _, _⟩ := ho.form (by omega)
  have e1 : (t ++ x).length = t.length + x.length := by simp
  have e2 : cellsOf (t ++ x) = cellsOf t ++ cellsOf x := by unfold cellsOf; rw [List.map_append]
  unfold Own
  rw [e1, e2]
  refine ⟨_, _, rfl, ho, ?_⟩
  have h1 : Below base w (wr.alloc o) := hb.alloc hB o
  exact h1.grown hg (by simp; omega) (fun k hk => (hown.lt k hk).1)
end Go.Proofs.YtmckplgbaalpbaaDoor.Quo
