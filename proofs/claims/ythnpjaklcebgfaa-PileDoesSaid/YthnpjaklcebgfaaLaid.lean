/- How items, and what waits, lie in memory; and what keeps them there. -/
import Derived.Test.YthnpjaklcebgfaaRows
import Derived.Test.YthnpjaklcebgfaaHeap
import Derived.WalkKit
import Derived.ProofKit
import Derived.OpenShut
import Derived.Below
import Derived.OwnWalk
import Derived.Laws.OwnMore
import Derived.Deep.AppendLies
import Derived.Deep.Light
import Derived.Lib.Hide
import Derived.Maps.AppendAt
namespace Go.Proofs.Ythnpjaklcebgfaa
open Go.ChangeShapes Go.WideShapes Go.RowKit
set_option linter.unusedVariables false

theorem gtrans {w w1 w2 : World} {row : Option Nat} (h : w.grownBy w1 row) (k : w1.grownBy w2 row) : w.grownBy w2 row :=
  ⟨k.os.trans h.os, k.tape.trans h.tape, k.output.trans h.output, Nat.le_trans h.size k.size, fun i hi hne => (k.block i (Nat.lt_of_lt_of_le hi h.size) hne).trans (h.block i hi hne)⟩
theorem gweak {w w1 : World} (row : Option Nat) (h : w.grownBy w1 none) : w.grownBy w1 row := ⟨h.os, h.tape, h.output, h.size, fun i hi _ => h.block i hi (by simp)⟩
theorem gdrew (w : World) (row : Option Nat) : w.grownBy w.drew row := ⟨rfl, rfl, rfl, Nat.le_refl _, fun _ _ _ => rfl⟩
theorem galloc (w : World) (o : Obj) (row : Option Nat) : w.grownBy (w.alloc o) row := World.grownBy_alloc w o row
theorem gset (w : World) (b k : Nat) (v : Value) : w.grownBy (w.setCell ⟨b, k, none⟩ v) (some b) :=
  ⟨rfl, rfl, rfl, by simp [World.setCell], fun i _ hne => Below.heap_setCell _ _ _ _ (fun e => hne (by rw [e]))⟩
/-- A store into a new block turns nothing that lay. -/
theorem gnew {w w1 w2 : World} {b : Nat} {row : Option Nat} (h : w.grownBy w1 row) (k : w1.grownBy w2 (some b)) (hb : w.heap.size ≤ b) : w.grownBy w2 row :=
  ⟨k.os.trans h.os, k.tape.trans h.tape, k.output.trans h.output, Nat.le_trans h.size k.size, fun i hi hne => (k.block i (Nat.lt_of_lt_of_le hi h.size) (fun e => by injection e with e; omega)).trans (h.block i hi hne)⟩

/-- All blocks that lay are as they were, but for two. -/
structure Kp (q g : Nat) (w w' : World) : Prop where
  os : w'.os = w.os
  tape : w'.tape = w.tape
  output : w'.output = w.output
  size : w.heap.size ≤ w'.heap.size
  block : ∀ i, i < w.heap.size → i ≠ q → i ≠ g → w'.heap[i]? = w.heap[i]?
theorem Kp.refl (q g : Nat) (w : World) : Kp q g w w := ⟨rfl, rfl, rfl, Nat.le_refl _, fun _ _ _ _ => rfl⟩
theorem Kp.of {q g : Nat} {w w' : World} {row : Option Nat} (h : w.grownBy w' row) (hr : ∀ k, row = some k → k = q ∨ k = g ∨ w.heap.size ≤ k) : Kp q g w w' :=
  ⟨h.os, h.tape, h.output, h.size, fun i hi h1 h2 => h.block i hi (fun e => by rcases hr i e.symm with e | e | e; exact h1 e; exact h2 e; omega)⟩
theorem Kp.nil {q g : Nat} {w w' : World} (h : w.grownBy w' none) : Kp q g w w' := Kp.of h (by simp)
/-- Two steps; the second one's block is the first one's, or a new one. -/
theorem Kp.trans {q g g' : Nat} {w w1 w2 : World} (h : Kp q g w w1) (k : Kp q g' w1 w2) (hg : g' = g ∨ w.heap.size ≤ g') : Kp q g w w2 :=
  ⟨k.os.trans h.os, k.tape.trans h.tape, k.output.trans h.output, Nat.le_trans h.size k.size, fun i hi h1 h2 => (k.block i (Nat.lt_of_lt_of_le hi h.size) h1 (by rcases hg with e | e; rw [e]; exact h2; omega)).trans (h.block i hi h1 h2)⟩
theorem Kp.cell {q g : Nat} {w w' : World} (h : Kp q g w w') (a : Addr) (hlt : a.block < w.heap.size) (h1 : a.block ≠ q) (h2 : a.block ≠ g) : w'.cell? a = w.cell? a := World.cell?_of_block (h.block a.block hlt h1 h2)
theorem Kp.frozen {q g : Nat} {w w' : World} (h : Kp q g w w') (a : Addr) (hlt : a.block < w.heap.size) (h1 : a.block ≠ q) (h2 : a.block ≠ g) : w'.frozen? a = w.frozen? a := World.frozen?_of_block (h.block a.block hlt h1 h2)
/-- Both blocks are new: nothing has turned. -/
theorem Kp.new {q g : Nat} {w w1 w2 : World} {row : Option Nat} (h : w.grownBy w1 row) (k : Kp q g w1 w2) (h1 : w.heap.size ≤ q) (h2 : w.heap.size ≤ g) : w.grownBy w2 row :=
  ⟨k.os.trans h.os, k.tape.trans h.tape, k.output.trans h.output, Nat.le_trans h.size k.size, fun i hi hne => (k.block i (Nat.lt_of_lt_of_le hi h.size) (by omega) (by omega)).trans (h.block i hi hne)⟩
theorem Kp.owns {q g : Nat} {w w' : World} (h : Kp q g w w') {B : Nat} {e : TypeId} {size : Nat} {v : Value} {n : Nat} {xs : List Value} (ho : w.ownsRow B e size v n xs) (h1 : ∀ k, v.ownBlock = some k → k ≠ q ∧ k ≠ g) : w'.ownsRow B e size v n xs := by
  cases hv : v.ownBlock with
  | none =>
    rcases ho.2 with ⟨hv', h0⟩ | ⟨g', cap, cur, rfl, hb, hg', r⟩
    · exact ⟨ho.1, .inl ⟨hv', h0⟩⟩
    · simp [Value.ownBlock] at hv
  | some k =>
    have hk := h1 k hv
    have hl := ho.lt k hv
    rcases ho.2 with ⟨hv', h0⟩ | ⟨g', cap, cur, hv', hb, hg', r⟩
    · exact ⟨ho.1, .inl ⟨hv', h0⟩⟩
    · subst hv'
      simp only [Value.ownBlock, Option.some.injEq] at hv
      subst hv
      exact ⟨ho.1, .inr ⟨g', cap, cur, rfl, hb, (h.block g' hl.2 hk.1 hk.2).trans hg', r⟩⟩

/-- An item as a value, and its cells. -/
abbrev iv (x : It) : Value := .agg #[.int .i64 x.1, .int .i64 x.2]
def cs (l : List It) : List Value := l.flatMap fun x => [Value.int .i64 x.1, Value.int .i64 x.2]
theorem cs_len (l : List It) : (cs l).length = l.length * 2 := by
  induction l with
  | nil => rfl
  | cons a l ih => unfold cs at *; rw [List.flatMap_cons, List.length_append, ih, List.length_cons, List.length_cons, List.length_cons, List.length_nil]; omega
theorem cs_append (l m : List It) : cs (l ++ m) = cs l ++ cs m := by unfold cs; rw [List.flatMap_append]
theorem cs_key (l : List It) (k : Nat) (h : k < l.length) : (cs l)[k * 2]? = some (.int .i64 (ia l k).1) ∧ (cs l)[k * 2 + 1]? = some (.int .i64 (ia l k).2) := by
  induction l generalizing k with
  | nil => exact absurd h (Nat.not_lt_zero _)
  | cons a l ih =>
    cases k with
    | zero => exact ⟨rfl, rfl⟩
    | succ k =>
      have := ih k (by simpa using h)
      have e1 : (k + 1) * 2 = k * 2 + 1 + 1 := by omega
      rw [e1]
      exact this
theorem cs_set (l : List It) (k : Nat) (x : It) (h : k < l.length) : ((cs l).set (k * 2) (.int .i64 x.1)).set (k * 2 + 1) (.int .i64 x.2) = cs (l.set k x) := by
  induction l generalizing k with
  | nil => exact absurd h (Nat.not_lt_zero _)
  | cons a l ih =>
    cases k with
    | zero => rfl
    | succ k =>
      have := ih k (by simpa using h)
      have e1 : (k + 1) * 2 = k * 2 + 1 + 1 := by omega
      rw [e1, List.set_cons_succ]
      show _ :: _ :: _ = _ :: _ :: cs (l.set k x)
      rw [← this]
      rfl
theorem cs_setKey (l : List It) (k : Nat) (y : Int) (h : k < l.length) : (cs l).set (k * 2) (.int .i64 y) = cs (l.set k (y, (ia l k).2)) := by
  rw [← cs_set l k (y, (ia l k).2) h]
  symm
  apply List.ext_getElem?
  intro j
  rw [List.getElem?_set]
  by_cases e : k * 2 + 1 = j
  · subst e
    have h1 := (cs_key l k h).2
    have h2 := cs_len l
    rw [if_pos rfl, if_pos (by rw [List.length_set, h2]; omega), List.getElem?_set, if_neg (by omega), h1]
  · rw [if_neg e]
theorem cs_take (l : List It) (n : Nat) : cs (l.take n) = (cs l).take (n * 2) := by
  induction l generalizing n with
  | nil => simp [cs]
  | cons a l ih =>
    cases n with
    | zero => simp [cs]
    | succ n =>
      rw [List.take_succ_cons, ← List.singleton_append, cs_append, ih, ← List.singleton_append, cs_append]
      have : (n + 1) * 2 = n * 2 + 1 + 1 := by omega
      rw [this]; rfl
theorem cs_one (l : List It) : ∀ u ∈ cs l, u.oneCell' = true := by
  intro u hu
  unfold cs at hu
  simp only [List.mem_flatMap, List.mem_cons, List.not_mem_nil, or_false] at hu
  obtain ⟨a, _, rfl | rfl⟩ := hu <;> rfl

/-- What waits: at the pointer to block q its items' slice, in block g, with room for cap, and the order; all from B on. -/
structure PAt (B : Nat) (w : World) (q g cap : Nat) (l : List It) : Prop where
  lo : B ≤ q
  ne : q ≠ g
  lt : q < w.heap.size
  slice : w.cell? ⟨q, 0, none⟩ = some (.slice (some ⟨g, 0, none⟩) l.length cap)
  ord : w.cell? ⟨q, 1, none⟩ = some (.func (.func 18) #[] #[])
  free : w.frozen? ⟨q, 0, none⟩ = false
  own : w.ownsRow B 51 2 (.slice (some ⟨g, 0, none⟩) l.length cap) l.length (cs l)
  small : l.length ≤ 1000
theorem PAt.log {B : Nat} {w : World} {q g cap : Nat} {l : List It} (h : PAt B w q g cap l) : B ≤ g := (h.own.lt g rfl).1
theorem PAt.ltg {B : Nat} {w : World} {q g cap : Nat} {l : List It} (h : PAt B w q g cap l) : g < w.heap.size := (h.own.lt g rfl).2
theorem PAt.cap_le {B : Nat} {w : World} {q g cap : Nat} {l : List It} (h : PAt B w q g cap l) : l.length ≤ cap ∧ cap ≤ maxLen := by
  rcases h.own.2 with ⟨e, _⟩ | ⟨g', cap', cur, e, _, _, h1, h2, _⟩
  · simp at e
  · simp only [Value.slice.injEq, Option.some.injEq, Addr.mk.injEq, and_true, true_and] at e
    rw [e.2]; exact ⟨h1, h2⟩
theorem PAt.key {B : Nat} {w : World} {q g cap : Nat} {l : List It} (h : PAt B w q g cap l) {k : Nat} (hk : k < l.length) : w.cell? ⟨g, k * 2, none⟩ = some (.int .i64 (ia l k).1) := by
  rw [h.own.cellAt _ (by omega)]; exact (cs_key l k hk).1
theorem PAt.val {B : Nat} {w : World} {q g cap : Nat} {l : List It} (h : PAt B w q g cap l) {k : Nat} (hk : k < l.length) : w.cell? ⟨g, k * 2 + 1, none⟩ = some (.int .i64 (ia l k).2) := by
  rw [h.own.cellAt _ (by omega)]; exact (cs_key l k hk).2
theorem PAt.thaw {B : Nat} {w : World} {q g cap : Nat} {l : List It} (h : PAt B w q g cap l) (k : Nat) : w.frozen? ⟨g, k, none⟩ = false := h.own.frozenAt k
theorem PAt.kept {B : Nat} {w w' : World} {q g cap : Nat} {l : List It} {row : Option Nat} (h : PAt B w q g cap l) (hg : w.grownBy w' row) (h1 : some q ≠ row) (h2 : some g ≠ row) : PAt B w' q g cap l :=
  ⟨h.lo, h.ne, Nat.lt_of_lt_of_le h.lt hg.size, (hg.cell_far ⟨q, 0, none⟩ h.lt h1).trans h.slice, (hg.cell_far ⟨q, 1, none⟩ h.lt h1).trans h.ord, (hg.frozen_far ⟨q, 0, none⟩ h.lt h1).trans h.free, h.own.kept hg (.inr h2), h.small⟩
theorem PAt.grow {B : Nat} {w w' : World} {q g cap : Nat} {l : List It} (h : PAt B w q g cap l) (hg : w.grownBy w' none) : PAt B w' q g cap l := h.kept hg (by simp) (by simp)
theorem PAt.drew {B : Nat} {w : World} {q g cap : Nat} {l : List It} (h : PAt B w q g cap l) : PAt B w.drew q g cap l := h.grow (gdrew w none)
theorem PAt.keptKp {B : Nat} {w w' : World} {q g cap : Nat} {l : List It} {a b : Nat} (h : PAt B w q g cap l) (hg : Kp a b w w') (h1 : q ≠ a ∧ q ≠ b) (h2 : g ≠ a ∧ g ≠ b) : PAt B w' q g cap l :=
  ⟨h.lo, h.ne, Nat.lt_of_lt_of_le h.lt hg.size, (hg.cell ⟨q, 0, none⟩ h.lt h1.1 h1.2).trans h.slice, (hg.cell ⟨q, 1, none⟩ h.lt h1.1 h1.2).trans h.ord, (hg.frozen ⟨q, 0, none⟩ h.lt h1.1 h1.2).trans h.free,
    hg.owns h.own (fun k hk => by simp only [Value.ownBlock, Option.some.injEq] at hk; subst hk; exact h2), h.small⟩
/-- An item is written. -/
theorem PAt.put {B : Nat} {w : World} {q g cap : Nat} {l : List It} (h : PAt B w q g cap l) {k : Nat} (hk : k < l.length) (x : It) :
    PAt B ((w.setCell ⟨g, k * 2, none⟩ (.int .i64 x.1)).setCell ⟨g, k * 2 + 1, none⟩ (.int .i64 x.2)) q g cap (l.set k x) := by
  obtain ⟨o1, g1⟩ := h.own.stored (k * 2) (.int .i64 x.1)
  obtain ⟨o2, g2⟩ := o1.stored (k * 2 + 1) (.int .i64 x.2)
  have gg := gtrans g1 g2
  have h1 : some q ≠ some g := by simpa using h.ne
  have hl : (l.set k x).length = l.length := by simp
  refine ⟨h.lo, h.ne, Nat.lt_of_lt_of_le h.lt gg.size, ?_, (gg.cell_far ⟨q, 1, none⟩ h.lt h1).trans h.ord, (gg.frozen_far ⟨q, 0, none⟩ h.lt h1).trans h.free, ?_, by rw [hl]; exact h.small⟩
  · rw [hl]; exact (gg.cell_far ⟨q, 0, none⟩ h.lt h1).trans h.slice
  · rw [hl, ← cs_set l k x hk]; exact o2
/-- An item's key is written. -/
theorem PAt.putKey {B : Nat} {w : World} {q g cap : Nat} {l : List It} (h : PAt B w q g cap l) {k : Nat} (hk : k < l.length) (y : Int) :
    PAt B (w.setCell ⟨g, k * 2, none⟩ (.int .i64 y)) q g cap (l.set k (y, (ia l k).2)) := by
  obtain ⟨o1, gg⟩ := h.own.stored (k * 2) (.int .i64 y)
  have h1 : some q ≠ some g := by simpa using h.ne
  have hl : (l.set k (y, (ia l k).2)).length = l.length := by simp
  refine ⟨h.lo, h.ne, Nat.lt_of_lt_of_le h.lt gg.size, ?_, (gg.cell_far ⟨q, 1, none⟩ h.lt h1).trans h.ord, (gg.frozen_far ⟨q, 0, none⟩ h.lt h1).trans h.free, ?_, by rw [hl]; exact h.small⟩
  · rw [hl]; exact (gg.cell_far ⟨q, 0, none⟩ h.lt h1).trans h.slice
  · rw [hl, ← cs_setKey l k y hk]; exact o1
theorem gput {w : World} {g a b c d : Nat} {u v x y : Value} : w.grownBy ((((w.setCell ⟨g, a, none⟩ u).setCell ⟨g, b, none⟩ v).setCell ⟨g, c, none⟩ x).setCell ⟨g, d, none⟩ y) (some g) :=
  gtrans (gtrans (gset _ _ _ _) (gset _ _ _ _)) (gtrans (gset _ _ _ _) (gset _ _ _ _))
/-- Two items change places. -/
theorem PAt.swap {B : Nat} {w : World} {q g cap : Nat} {l : List It} (h : PAt B w q g cap l) {i j : Nat} (hi : i < l.length) (hj : j < l.length) :
    PAt B ((((w.setCell ⟨g, i * 2, none⟩ (.int .i64 (ia l j).1)).setCell ⟨g, i * 2 + 1, none⟩ (.int .i64 (ia l j).2)).setCell ⟨g, j * 2, none⟩ (.int .i64 (ia l i).1)).setCell ⟨g, j * 2 + 1, none⟩ (.int .i64 (ia l i).2)) q g cap (swp l i j) :=
  (h.put hi (ia l j)).put (by simpa using hj) (ia l i)
/-- The slice is cut by its last item. -/
theorem own_cut {w : World} {B g n cap : Nat} {l : List It} (h : w.ownsRow B 51 2 (.slice (some ⟨g, 0, none⟩) (n + 1) cap) (n + 1) (cs l)) (hl : l.length = n + 1) :
    w.ownsRow B 51 2 (.slice (some ⟨g, 0, none⟩) n cap) n (cs (l.take n)) := by
  rcases h.2 with ⟨e, _⟩ | ⟨g', cap', cur, e, hb, hg, h1, h2, h3, h4⟩
  · simp at e
  · simp only [Value.slice.injEq, Option.some.injEq, Addr.mk.injEq, and_true, true_and] at e
    obtain ⟨rfl, rfl⟩ := e
    refine ⟨by rw [cs_len]; simp [hl], .inr ⟨g, cap, cur, rfl, hb, hg, by omega, h2, h3, ?_⟩⟩
    rw [cs_take, ← h4, List.take_take]
    congr 1; omega
theorem PAt.header {B : Nat} {w w' : World} {q g g' cap cap' : Nat} {l l' : List It} (h : PAt B w q g cap l) (hc : w'.cell? ⟨q, 0, none⟩ = some (.slice (some ⟨g, 0, none⟩) l.length cap)) (ho : w'.cell? ⟨q, 1, none⟩ = some (.func (.func 18) #[] #[])) (hf : w'.frozen? ⟨q, 0, none⟩ = false) (hlt : q < w'.heap.size)
    (hne : q ≠ g') (hown : w'.ownsRow B 51 2 (.slice (some ⟨g', 0, none⟩) l'.length cap') l'.length (cs l')) (hs : l'.length ≤ 1000) :
    PAt B (w'.setCell ⟨q, 0, none⟩ (.slice (some ⟨g', 0, none⟩) l'.length cap')) q g' cap' l' := by
  have gg := gset w' q 0 (.slice (some ⟨g', 0, none⟩) l'.length cap')
  refine ⟨h.lo, hne, Nat.lt_of_lt_of_le hlt gg.size, World.cell?_setCell_same' _ _ _ (by rw [hc]; rfl), ?_, by rw [World.frozen?_setCell]; exact hf, hown.kept gg (.inr (by simpa [Value.ownBlock] using fun e => hne e.symm)), hs⟩
  rw [World.cell?_setCell_other _ _ _ _ (by simp)]; exact ho
end Go.Proofs.Ythnpjaklcebgfaa
