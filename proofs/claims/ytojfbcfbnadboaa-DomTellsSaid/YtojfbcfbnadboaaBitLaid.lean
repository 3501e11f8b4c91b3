
/- How a set lies in memory: its bound, its words; and what keeps it there. -/
import Derived.Test.YtojfbcfbnadboaaRows
import Derived.Test.YtojfbcfbnadboaaBitMath
import Derived.WalkKit
import Derived.ProofKit
import Derived.OpenShut
import Derived.Below
import Derived.OwnWalk
import Derived.Laws.OwnMore
import Derived.Deep.AppendLies
import Derived.Deep.Light
import Derived.Lib.Hide
import Derived.Maps.AppendAt
namespace Go.Proofs.Ytojfbcfbnadboaa.Bit
open Go.ChangeShapes Go.WideShapes Go.RowKit
set_option linter.unusedVariables false

theorem gtrans {w w1 w2 : World} {row : Option Nat} (h : w.grownBy w1 row) (k : w1.grownBy w2 row) : w.grownBy w2 row :=
  ⟨k.os.trans h.os, k.tape.trans h.tape, k.output.trans h.output, Nat.le_trans h.size k.size, fun i hi hne => (k.block i (Nat.lt_of_lt_of_le hi h.size) hne).trans (h.block i hi hne)⟩
theorem gweak {w w1 : World} (row : Option Nat) (h : w.grownBy w1 none) : w.grownBy w1 row := ⟨h.os, h.tape, h.output, h.size, fun i hi _ => h.block i hi (by simp)⟩
theorem gdrew (w : World) (row : Option Nat) : w.grownBy w.drew row := ⟨rfl, rfl, rfl, Nat.le_refl _, fun _ _ _ => rfl⟩
theorem galloc (w : World) (o : Obj) (row : Option Nat) : w.grownBy (w.alloc o) row := World.grownBy_alloc w o row
theorem gset (w : World) (b k : Nat) (v : Value) : w.grownBy (w.setCell ⟨b, k, none⟩ v) (some b) :=
  ⟨rfl, rfl, rfl, by simp [World.setCell], fun i _ hne => Below.heap_setCell _ _ _ _ (fun e => hne (by rw [e]))⟩
theorem gbelow {B : Nat} {w w' : World} {row : Option Nat} (h : w.grownBy w' row) (hB : B ≤ w.heap.size) (hr : ∀ k, row = some k → B ≤ k) : Below B w w' := (Below.refl B w).grown h hB hr
/-- A store into a new block turns nothing that lay. -/
theorem gnew {w w1 w2 : World} {b : Nat} {row : Option Nat} (h : w.grownBy w1 row) (k : w1.grownBy w2 (some b)) (hb : w.heap.size ≤ b) : w.grownBy w2 row :=
  ⟨k.os.trans h.os, k.tape.trans h.tape, k.output.trans h.output, Nat.le_trans h.size k.size, fun i hi hne => (k.block i (Nat.lt_of_lt_of_le hi h.size) (fun e => by injection e with e; omega)).trans (h.block i hi hne)⟩
theorem below_grown {w w' : World} (h : Below w.heap.size w w') : w.grownBy w' none := ⟨h.os, h.tape, h.output, h.size, fun i hi _ => h.block i hi⟩

/-- The words of a set in block g. -/
structure Wd (w : World) (g : Nat) (bs : List Bool) : Prop where
  lt : g < w.heap.size
  cell : ∀ k, k < words bs.length → w.cell? ⟨g, k, none⟩ = some (.int .u64 (word bs k : Nat))
  free : ∀ k, w.frozen? ⟨g, k, none⟩ = false
/-- The set bs, below the bound bs.length, at the pointer to block p, its words in block g; both from B on. -/
structure SetAt (B : Nat) (w : World) (p g : Nat) (bs : List Bool) : Prop where
  lo : B ≤ p
  log : B ≤ g
  ne : p ≠ g
  small : bs.length ≤ 300
  lt : p < w.heap.size
  bound : w.cell? ⟨p, 0, none⟩ = some (.int .i64 (bs.length : Nat))
  slice : w.cell? ⟨p, 1, none⟩ = some (.slice (some ⟨g, 0, none⟩) (words bs.length) (words bs.length))
  row : Wd w g bs
theorem Wd.kept {w w' : World} {g : Nat} {bs : List Bool} {row : Option Nat} (h : Wd w g bs) (hg : w.grownBy w' row) (h1 : some g ≠ row) : Wd w' g bs :=
  ⟨Nat.lt_of_lt_of_le h.lt hg.size, fun k hk => (hg.cell_far ⟨g, k, none⟩ h.lt h1).trans (h.cell k hk), fun k => (hg.frozen_far ⟨g, k, none⟩ h.lt h1).trans (h.free k)⟩
theorem SetAt.kept {B : Nat} {w w' : World} {p g : Nat} {bs : List Bool} {row : Option Nat} (h : SetAt B w p g bs) (hg : w.grownBy w' row) (h1 : some p ≠ row) (h2 : some g ≠ row) : SetAt B w' p g bs :=
  ⟨h.lo, h.log, h.ne, h.small, Nat.lt_of_lt_of_le h.lt hg.size, (hg.cell_far ⟨p, 0, none⟩ h.lt h1).trans h.bound, (hg.cell_far ⟨p, 1, none⟩ h.lt h1).trans h.slice, h.row.kept hg h2⟩
theorem SetAt.grow {B : Nat} {w w' : World} {p g : Nat} {bs : List Bool} (h : SetAt B w p g bs) (hg : w.grownBy w' none) : SetAt B w' p g bs := h.kept hg (by simp) (by simp)
theorem SetAt.drew {B : Nat} {w : World} {p g : Nat} {bs : List Bool} (h : SetAt B w p g bs) : SetAt B w.drew p g bs := h.grow (gdrew w none)
theorem SetAt.below {B N : Nat} {w w' : World} {p g : Nat} {bs : List Bool} (h : SetAt B w p g bs) (hb : Below N w w') (hp : p < N) (hg : g < N) : SetAt B w' p g bs :=
  ⟨h.lo, h.log, h.ne, h.small, Nat.lt_of_lt_of_le h.lt hb.size, (hb.cell (p := ⟨p, 0, none⟩) hp).trans h.bound, (hb.cell (p := ⟨p, 1, none⟩) hp).trans h.slice,
    Nat.lt_of_lt_of_le h.row.lt hb.size, fun k hk => (hb.cell (p := ⟨g, k, none⟩) hg).trans (h.row.cell k hk), fun k => (hb.frozen (p := ⟨g, k, none⟩) hg).trans (h.row.free k)⟩
theorem SetAt.mono {B B' : Nat} {w : World} {p g : Nat} {bs : List Bool} (h : SetAt B w p g bs) (hB : B' ≤ B) : SetAt B' w p g bs :=
  ⟨Nat.le_trans hB h.lo, Nat.le_trans hB h.log, h.ne, h.small, h.lt, h.bound, h.slice, h.row⟩
/-- A store into one word: the set whose words are those, but for this one. -/
theorem SetAt.put {B : Nat} {w : World} {p g : Nat} {bs cs : List Bool} (h : SetAt B w p g bs) (hl : cs.length = bs.length) (k z : Nat) (hk : k < words bs.length) (hz : word cs k = z)
    (ho : ∀ q, q < words bs.length → q ≠ k → word cs q = word bs q) : SetAt B (w.setCell ⟨g, k, none⟩ (.int .u64 (z : Int))) p g cs := by
  have hgr := gset w g k (.int .u64 (z : Int))
  have h1 : some p ≠ some g := by simpa using h.ne
  refine ⟨h.lo, h.log, h.ne, by rw [hl]; exact h.small, Nat.lt_of_lt_of_le h.lt hgr.size, by rw [hl]; exact (hgr.cell_far ⟨p, 0, none⟩ h.lt h1).trans h.bound,
    by rw [hl]; exact (hgr.cell_far ⟨p, 1, none⟩ h.lt h1).trans h.slice, Nat.lt_of_lt_of_le h.row.lt hgr.size, fun q hq => ?_, fun q => by rw [World.frozen?_setCell]; exact h.row.free q⟩
  rw [hl] at hq
  by_cases e : q = k
  · subst e
    rw [hz]
    exact World.cell?_setCell_same' _ _ _ (by rw [h.row.cell q hq]; rfl)
  · rw [World.cell?_setCell_other _ _ _ _ (by simp), h.row.cell q hq, ho q hq e]
theorem words_le {n : Nat} (h : n ≤ 300) : words n ≤ 5 := by unfold words; omega
end Go.Proofs.Ytojfbcfbnadboaa.Bit
