/- A function that is copied part by part: what is done so far. -/
import Derived.Test.YtocelaebokikcaaLay
namespace Go.Proofs.Ytocelaebokikcaa
open Go.ChangeShapes Go.WideShapes Go.RowKit
set_option linter.unusedVariables false

theorem flat_congr {α : Type} (l : List α) (f g : α → List Value) (h : ∀ x ∈ l, f x = g x) : l.flatMap f = l.flatMap g := by
  induction l with
  | nil => rfl
  | cons a l ih => rw [List.flatMap_cons, List.flatMap_cons, h a (by simp), ih (fun x hx => h x (by simp [hx]))]
theorem flat_set (n s k j : Nat) (f f' : Nat → List Value) (hs : ∀ x, (f x).length = s) (hs' : ∀ x, (f' x).length = s) (hk : k < n) (hj : j < s) (v : Value) (h1 : f' k = (f k).set j v) (h2 : ∀ x, x ≠ k → f' x = f x) :
    ((List.range n).flatMap f).toArray.setIfInBounds (k * s + j) v = ((List.range n).flatMap f').toArray := by
  rw [List.setIfInBounds_toArray]
  congr 1
  apply List.ext_getElem?
  intro i
  have l1 := flat_len f s hs (List.range n)
  have l2 := flat_len f' s hs' (List.range n)
  rw [List.length_range] at l1 l2
  by_cases hi : i < n * s
  · obtain ⟨k', j', rfl, hk', hj'⟩ := flat_split i s n (by omega) hi
    rw [flat_at f' s hs' (List.range n) k' j' k' (by rw [List.getElem?_range hk']) hj', List.getElem?_set]
    by_cases hkk : k' = k
    · subst hkk
      by_cases hjj : j' = j
      · subst hjj
        rw [if_pos rfl, if_pos (by omega), h1, List.getElem?_set, if_pos rfl, if_pos (by rw [hs]; exact hj)]
      · rw [if_neg (by omega), flat_at f s hs (List.range n) k' j' k' (by rw [List.getElem?_range hk']) hj', h1, List.getElem?_set, if_neg (by omega)]
    · have hne : ¬ k * s + j = k' * s + j' := by
        intro e
        have e1 : (k * s + j) / s = k := by rw [Nat.mul_comm, Nat.mul_add_div (by omega), Nat.div_eq_of_lt hj, Nat.add_zero]
        have e2 : (k' * s + j') / s = k' := by rw [Nat.mul_comm, Nat.mul_add_div (by omega), Nat.div_eq_of_lt hj', Nat.add_zero]
        rw [e, e2] at e1
        exact hkk e1
      rw [if_neg hne, flat_at f s hs (List.range n) k' j' k' (by rw [List.getElem?_range hk']) hj', h2 k' hkk]
  · rw [List.getElem?_eq_none (by rw [List.length_set]; omega), List.getElem?_eq_none (by omega)]
/-- One row of rows of one length, turned at one place. -/
def rowSet (f : Nat → List Value) (k j : Nat) (v : Value) : Nat → List Value := fun x => if x = k then (f k).set j v else f x
theorem rowSet_len (f : Nat → List Value) (s k j : Nat) (v : Value) (hs : ∀ x, (f x).length = s) : ∀ x, (rowSet f k j v x).length = s := fun x => by
  unfold rowSet; split
  · rw [List.length_set, hs]
  · exact hs x
theorem row_set {w : World} {g n s k j : Nat} {f : Nat → List Value} {t : TypeId} (hs : ∀ x, (f x).length = s) (hk : k < n) (hj : j < s) (v : Value) (h : w.heap[g]? = some (.cells ((List.range n).flatMap f).toArray t (0, 0))) :
    (w.setCell ⟨g, k * s + j, none⟩ v).heap[g]? = some (.cells ((List.range n).flatMap (rowSet f k j v)).toArray t (0, 0)) := by
  rw [set_at h, flat_set n s k j f (rowSet f k j v) hs (rowSet_len f s k j v hs) hk hj v (by unfold rowSet; rw [if_pos rfl]) (fun x hx => by unfold rowSet; rw [if_neg hx])]

/-- Where a function's lists were. -/
def spots0 (v : FunV) : Spots
  | .regs => (v.ra, v.rc)
  | .params => (v.pa, v.pc)
  | .blocks => (v.ba, v.bc)
  | .ins b => ((v.R b).ia, (v.R b).ic)
  | .code b => ((v.R b).ka, (v.R b).kc)
  | .args b k => (((v.R b).R k).aa, ((v.R b).R k).ac)
  | .labels b k => (((v.R b).R k).la, ((v.R b).R k).lc)
  | .cases b k => (((v.R b).R k).ca, ((v.R b).R k).cc)
theorem IsFun.blkOf {w : World} {f : Fun} {v : FunV} (h : IsFun w f v) {b : Nat} (hb : b < f.blocks.length) : IsBlk w (f.blk b) (v.R b) := by
  have := h.blocks.2.2.2 b hb
  have e : f.blk b = f.blocks[b] := by unfold Fun.blk; rw [List.getD_eq_getElem?_getD, List.getElem?_eq_getElem hb]; rfl
  rw [e]; exact this
theorem IsFun.insOf {w : World} {f : Fun} {v : FunV} (h : IsFun w f v) {b k : Nat} (hb : b < f.blocks.length) (hk : k < (f.blk b).code.length) : IsIns w (f.inst b k) ((v.R b).R k) := by
  have := (h.blkOf hb).code.2.2.2 k hk
  have e : f.inst b k = (f.blk b).code[k] := by unfold Fun.inst; rw [List.getD_eq_getElem?_getD, List.getElem?_eq_getElem hk]; rfl
  rw [e]; exact this
/-- So much is done. -/
structure Part (f : Fun) (v : FunV) (w : World) (V : Pos → Prop) (wr : World) (G : Pos → Nat) (S : Spots) : Prop where
  lay : Lay wr (w.heap.size + 2) V G (f.parts.rows S)
  spots : ∀ p, V p → S p = (some ⟨G p, 0, none⟩, f.parts.len p)
  old : ∀ p, ¬ V p → S p = spots0 v p
  below : Below w.heap.size w wr
  size : w.heap.size + 2 ≤ wr.heap.size
  box : wr.heap[w.heap.size]? = some (.cells (funR f (f.parts.funV S)) 31 (0, 0))
  res : wr.heap[w.heap.size + 1]? = some (.cells #[.bool false, .string ⟨#[]⟩, .slice none 0 0, .slice none 0 0, .slice none 0 0] 31 (0, 0))
def doneB (d : FunD) (b : Nat) : Pos → Prop
  | .ins b' => b' < b
  | .code b' => b' < b
  | .args b' k' => b' < b ∧ k' < d.nk b'
  | .labels b' k' => b' < b ∧ k' < d.nk b'
  | .cases b' k' => b' < b ∧ k' < d.nk b'
  | _ => True
def doneK (d : FunD) (b k : Nat) : Pos → Prop
  | .ins b' => b' ≤ b
  | .code b' => b' ≤ b
  | .args b' k' => (b' < b ∧ k' < d.nk b') ∨ (b' = b ∧ k' < k)
  | .labels b' k' => (b' < b ∧ k' < d.nk b') ∨ (b' = b ∧ k' < k)
  | .cases b' k' => (b' < b ∧ k' < d.nk b') ∨ (b' = b ∧ k' < k)
  | _ => True
theorem Part.iff {f : Fun} {v : FunV} {w wr : World} {V V' : Pos → Prop} {G : Pos → Nat} {S : Spots} (h : Part f v w V wr G S) (hV : ∀ p, V' p ↔ V p) : Part f v w V' wr G S :=
  ⟨h.lay.congr (fun p hp => (hV p).1 hp) (fun _ _ => rfl) (fun _ _ => rfl), fun p hp => h.spots p ((hV p).1 hp), fun p hp => h.old p (fun k => hp ((hV p).2 k)), h.below, h.size, h.box, h.res⟩
theorem doneK_all (d : FunD) (b : Nat) (p : Pos) : doneB d (b + 1) p ↔ doneK d b (d.nk b) p := by
  cases p with
  | regs => exact Iff.rfl
  | params => exact Iff.rfl
  | blocks => exact Iff.rfl
  | ins b' => show b' < b + 1 ↔ b' ≤ b; omega
  | code b' => show b' < b + 1 ↔ b' ≤ b; omega
  | args b' k' =>
    show (b' < b + 1 ∧ k' < d.nk b') ↔ ((b' < b ∧ k' < d.nk b') ∨ (b' = b ∧ k' < d.nk b))
    by_cases e : b' = b
    · subst e; omega
    · omega
  | labels b' k' =>
    show (b' < b + 1 ∧ k' < d.nk b') ↔ ((b' < b ∧ k' < d.nk b') ∨ (b' = b ∧ k' < d.nk b))
    by_cases e : b' = b
    · subst e; omega
    · omega
  | cases b' k' =>
    show (b' < b + 1 ∧ k' < d.nk b') ↔ ((b' < b ∧ k' < d.nk b') ∨ (b' = b ∧ k' < d.nk b))
    by_cases e : b' = b
    · subst e; omega
    · omega
theorem doneB_valid (f : Fun) (p : Pos) : f.parts.valid p ↔ doneB f.parts f.blocks.length p := by
  cases p <;> exact Iff.rfl
/-- One more list, and the cell that names it. -/
def updS (S : Spots) (p : Pos) (x : Option Addr × Nat) : Spots := fun q => if q = p then x else S q
def updG (G : Pos → Nat) (p : Pos) (x : Nat) : Pos → Nat := fun q => if q = p then x else G q
end Go.Proofs.Ytocelaebokikcaa
