/- What the program's told answers: a byte by its digits; and in all. -/
import Derived.Test.YtmckplgbaalpbaaDoorQuoTold
import Derived.Deep.RegionLaw
namespace Go.Proofs.YtmckplgbaalpbaaDoor.Quo
open Go.ChangeShapes Go.WideShapes Go.RowKit
set_option linter.unusedVariables false

theorem and_15 : ∀ n : Nat, n < 256 → bits BinOp.and IntKind.u8 (n : Int) 15 = ((n % 16 : Nat) : Int) := by decide +kernel
theorem tab_at : ∀ k : Nat, k < 16 → (⟨#[48, 49, 50, 51, 52, 53, 54, 55, 56, 57, 97, 98, 99, 100, 101, 102]⟩ : ByteArray)[k]! = hexd k := by decide +kernel
theorem tab_run (z : Int) (k : Nat) (hz : z = (k : Int)) (hk : k < 16) (W : World) :
    (Instr.index 9 (.string ⟨#[48, 49, 50, 51, 52, 53, 54, 55, 56, 57, 97, 98, 99, 100, 101, 102]⟩) (.int .u8 z)).run Tryd.prog W = .ok (.int .u8 ((hexd k).toNat : Int)) W := by
  subst hz
  rw [run_index_string W 9 _ .u8 _ Tryd.underlying9]
  have e := tab_at k hk
  have hs : (⟨#[48, 49, 50, 51, 52, 53, 54, 55, 56, 57, 97, 98, 99, 100, 101, 102]⟩ : ByteArray).size = 16 := rfl
  rw [dif_pos ⟨by omega, by rw [hs]; omega⟩]
  rw [getElem!_pos _ k (by rw [hs]; omega)] at e
  rw [← e]; rfl
theorem own_ret {base : Nat} {w w1 : World} {A : Option Addr} {c g cap : Nat} {t x : List UInt8} {o : Obj}
    (ho : w1.ownsRow base 5 1 (.slice (some ⟨g, 0, none⟩) (t.length + x.length) cap) (t.length + x.length) (cellsOf t ++ cellsOf x))
    (hg : (w.alloc o).drew.grownBy w1 (Value.ownBlock (.slice A t.length c))) (hown : Own base w A c t) (hB : base ≤ w.heap.size) :
    ToldP base (t ++ x) w (.returned (.slice (some ⟨g, 0, none⟩) (t.length + x.length) cap)) w1 := by
  have e1 : (t ++ x).length = t.length + x.length := by simp
  have e2 : cellsOf (t ++ x) = cellsOf t ++ cellsOf x := by unfold cellsOf; rw [List.map_append]
  unfold ToldP Own
  rw [e1, e2]
  refine ⟨_, _, rfl, ho, ?_⟩
  have h1 : Below base w (w.alloc o).drew := ((Below.refl _ _).alloc hB o).drew
  exact h1.grown hg (by simp; omega) (fun k hk => (hown.lt k hk).1)
end Go.Proofs.YtmckplgbaalpbaaDoor.Quo
