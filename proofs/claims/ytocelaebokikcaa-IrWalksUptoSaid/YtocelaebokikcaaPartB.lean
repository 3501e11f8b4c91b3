/- One more list of a function that is copied. -/
import Derived.Test.YtocelaebokikcaaPart
namespace Go.Proofs.Ytocelaebokikcaa
open Go.ChangeShapes Go.WideShapes Go.RowKit
set_option linter.unusedVariables false

theorem Part.addOne {f : Fun} {v : FunV} {w wr w1 : World} {V : Pos → Prop} {G : Pos → Nat} {S : Spots} (h : Part f v w V wr G S) (p q : Pos) (i : Nat) (val : Value) (x : Option Addr × Nat)
    (hx : x = (some ⟨wr.heap.size, 0, none⟩, f.parts.len p)) (hq : V q) (hp1 : p ≠ .regs) (hp2 : p ≠ .params) (hp3 : p ≠ .blocks)
    (hr : ∀ r, r ≠ q → f.parts.rows (updS S p x) r = f.parts.rows S r) (hcell : (f.parts.rows S q).toArray.setIfInBounds i val = (f.parts.rows (updS S p x) q).toArray)
    (hnew : w1.heap[wr.heap.size]? = some (.cells (f.parts.rows S p).toArray p.ty (0, 0))) (hb : Below wr.heap.size wr w1) (hpq : p ≠ q) :
    Part f v w (fun r => V r ∨ r = p) (w1.setCell ⟨G q, i, none⟩ val) (updG G p wr.heap.size) (updS S p x) := by
  have hGq := h.lay.lt hq
  have hqb := (h.lay.mem q hq).1
  have l1 := h.lay.add (W' := w1) p wr.heap.size (f.parts.rows S p) (Nat.le_refl _) h.size (fun y _ hy => hb.block y hy) hnew
  have hne : ∀ y, y ≠ G q → (w1.setCell ⟨G q, i, none⟩ val).heap[y]? = w1.heap[y]? := fun y hy => set_far hy i val
  have hGq' : (if q = p then wr.heap.size else G q) = G q := if_neg (fun e => hpq e.symm)
  have l2 := l1.put (W' := w1.setCell ⟨G q, i, none⟩ val) q (.inl hq) (f.parts.rows (updS S p x) q) (by
      rw [hGq']
      have hm := (h.lay.mem q hq).2
      rw [← hcell]
      exact set_at ((hb.block _ hGq).trans hm) i val) (fun y _ _ hy => hne y (by rw [hGq'] at hy; exact hy))
  refine ⟨l2.congr (fun _ h => h) (fun _ _ => rfl) (fun r hr' => ?_), fun r hr' => ?_, fun r hr' => ?_, ?_, ?_, ?_, ?_⟩
  · by_cases e : r = q
    · rw [e]; simp
    · simp only [if_neg e]
      rw [hr r e]
      by_cases e2 : r = p
      · rw [e2]; simp
      · simp [e2]
  · unfold updS updG
    by_cases e : r = p
    · rw [if_pos e, if_pos e, hx, e]
    · rw [if_neg e, if_neg e]; exact h.spots r (hr'.resolve_right e)
  · unfold updS
    rw [if_neg (fun e => hr' (.inr e))]
    exact h.old r (fun k => hr' (.inl k))
  · exact (h.below.trans (hb.mono (by have := h.size; omega))).setCell (p := ⟨G q, i, none⟩) (by show w.heap.size ≤ G q; omega) val
  · have := hb.size; have := h.size; simp [World.setCell]; omega
  · have e : funR f (f.parts.funV (updS S p x)) = funR f (f.parts.funV S) := by
      unfold funR FunD.funV updS
      simp [Ne.symm hp1, Ne.symm hp2, Ne.symm hp3]
    rw [e, hne _ (by omega), hb.block _ (by have := h.size; omega)]
    exact h.box
  · rw [hne _ (by omega), hb.block _ (by have := h.size; omega)]
    exact h.res
theorem rows_ins (d : FunD) (S : Spots) (b : Nat) (x : Option Addr × Nat) (r : Pos) (hr : r ≠ .blocks) : d.rows (updS S (.ins b) x) r = d.rows S r := by
  cases r with
  | blocks => exact absurd rfl hr
  | code b' =>
    refine flat_congr _ _ _ (fun k _ => ?_)
    unfold FunD.insV updS; simp
  | _ => rfl
theorem rows_code (d : FunD) (S : Spots) (b : Nat) (x : Option Addr × Nat) (r : Pos) (hr : r ≠ .blocks) : d.rows (updS S (.code b) x) r = d.rows S r := by
  cases r with
  | blocks => exact absurd rfl hr
  | code b' =>
    refine flat_congr _ _ _ (fun k _ => ?_)
    unfold FunD.insV updS; simp
  | _ => rfl
theorem cell_ins (d : FunD) (S : Spots) (b : Nat) (hb : b < d.nb) (A : Option Addr) (c : Nat) : (d.rows S .blocks).toArray.setIfInBounds (b * 4 + 2) (.slice A (d.len (.ins b)) c) = (d.rows (updS S (.ins b) (A, c)) .blocks).toArray :=
  flat_set d.nb 4 b 2 _ _ (fun _ => rfl) (fun _ => rfl) hb (by omega) _ (by unfold FunD.blkV blkR updS; simp) (fun x hx => by
    unfold FunD.blkV blkR updS
    simp [hx])
theorem cell_code (d : FunD) (S : Spots) (b : Nat) (hb : b < d.nb) (A : Option Addr) (c : Nat) : (d.rows S .blocks).toArray.setIfInBounds (b * 4 + 3) (.slice A (d.nk b) c) = (d.rows (updS S (.code b) (A, c)) .blocks).toArray :=
  flat_set d.nb 4 b 3 _ _ (fun _ => rfl) (fun _ => rfl) hb (by omega) _ (by unfold FunD.blkV blkR updS; simp) (fun x hx => by
    unfold FunD.blkV blkR updS
    simp [hx])
theorem Part.ins {f : Fun} {v : FunV} {w wr w1 : World} {V : Pos → Prop} {G : Pos → Nat} {S : Spots} (h : Part f v w V wr G S) (hV : V .blocks) (b : Nat) (hb : b < f.blocks.length)
    (hnew : w1.heap[wr.heap.size]? = some (.cells ((f.blk b).ins.flatMap Opn.cs).toArray 44 (0, 0))) (hB : Below wr.heap.size wr w1) :
    Part f v w (fun r => V r ∨ r = .ins b) (w1.setCell ⟨G .blocks, b * 4 + 2, none⟩ (.slice (some ⟨wr.heap.size, 0, none⟩) (f.blk b).ins.length (f.blk b).ins.length)) (updG G (.ins b) wr.heap.size) (updS S (.ins b) (some ⟨wr.heap.size, 0, none⟩, (f.blk b).ins.length)) :=
  h.addOne (.ins b) .blocks _ _ _ rfl hV (by simp) (by simp) (by simp) (fun r hr => rows_ins _ _ _ _ r hr) (cell_ins f.parts S b hb _ _) hnew hB (by simp)
theorem Part.code {f : Fun} {v : FunV} {w wr w1 : World} {V : Pos → Prop} {G : Pos → Nat} {S : Spots} (h : Part f v w V wr G S) (hV : V .blocks) (b : Nat) (hb : b < f.blocks.length)
    (hnew : w1.heap[wr.heap.size]? = some (.cells (f.parts.rows S (.code b)).toArray 51 (0, 0))) (hB : Below wr.heap.size wr w1) :
    Part f v w (fun r => V r ∨ r = .code b) (w1.setCell ⟨G .blocks, b * 4 + 3, none⟩ (.slice (some ⟨wr.heap.size, 0, none⟩) (f.blk b).code.length (f.blk b).code.length)) (updG G (.code b) wr.heap.size) (updS S (.code b) (some ⟨wr.heap.size, 0, none⟩, (f.blk b).code.length)) :=
  h.addOne (.code b) .blocks _ _ _ rfl hV (by simp) (by simp) (by simp) (fun r hr => rows_code _ _ _ _ r hr) (cell_code f.parts S b hb _ _) hnew hB (by simp)
/-- Ten cells laid into a row. -/
def rowTen (w : World) (g k : Nat) (x0 x1 x2 x3 x4 x5 x6 x7 x8 x9 : Value) : World :=
  ((((((((((w.setCell ⟨g, k * 10, none⟩ x0).setCell ⟨g, k * 10 + 1, none⟩ x1).setCell ⟨g, k * 10 + 2, none⟩ x2).setCell ⟨g, k * 10 + 3, none⟩ x3).setCell ⟨g, k * 10 + 4, none⟩ x4).setCell ⟨g, k * 10 + 5, none⟩ x5).setCell ⟨g, k * 10 + 6, none⟩ x6).setCell ⟨g, k * 10 + 7, none⟩ x7).setCell ⟨g, k * 10 + 8, none⟩ x8).setCell ⟨g, k * 10 + 9, none⟩ x9)
theorem rowTen_far {w : World} {g k y : Nat} (hne : y ≠ g) (x0 x1 x2 x3 x4 x5 x6 x7 x8 x9 : Value) : (rowTen w g k x0 x1 x2 x3 x4 x5 x6 x7 x8 x9).heap[y]? = w.heap[y]? := by
  unfold rowTen
  simp only [set_far hne]
theorem rowTen_size (w : World) (g k : Nat) (x0 x1 x2 x3 x4 x5 x6 x7 x8 x9 : Value) : (rowTen w g k x0 x1 x2 x3 x4 x5 x6 x7 x8 x9).heap.size = w.heap.size := by unfold rowTen; simp [World.setCell]
theorem rowTen_below {B : Nat} {w w1 : World} {g k : Nat} (x0 x1 x2 x3 x4 x5 x6 x7 x8 x9 : Value) (h : Below B w w1) (hb : B ≤ g) : Below B w (rowTen w1 g k x0 x1 x2 x3 x4 x5 x6 x7 x8 x9) :=
  (((((((((h.setCell (p := ⟨g, _, none⟩) hb _).setCell (p := ⟨g, _, none⟩) hb _).setCell (p := ⟨g, _, none⟩) hb _).setCell (p := ⟨g, _, none⟩) hb _).setCell (p := ⟨g, _, none⟩) hb _).setCell (p := ⟨g, _, none⟩) hb _).setCell (p := ⟨g, _, none⟩) hb _).setCell (p := ⟨g, _, none⟩) hb _).setCell (p := ⟨g, _, none⟩) hb _).setCell (p := ⟨g, _, none⟩) hb _
theorem rowTen_at {w : World} {g n k : Nat} {f f' : Nat → List Value} {t : TypeId} (hs : ∀ x, (f x).length = 10) (hk : k < n) (x0 x1 x2 x3 x4 x5 x6 x7 x8 x9 : Value) (h : w.heap[g]? = some (.cells ((List.range n).flatMap f).toArray t (0, 0)))
    (h1 : f' k = [x0, x1, x2, x3, x4, x5, x6, x7, x8, x9]) (h2 : ∀ x, x ≠ k → f' x = f x) : (rowTen w g k x0 x1 x2 x3 x4 x5 x6 x7 x8 x9).heap[g]? = some (.cells ((List.range n).flatMap f').toArray t (0, 0)) := by
  have a0 := row_set (j := 0) hs hk (by omega) x0 h
  have s0 := rowSet_len f 10 k 0 x0 hs
  have a1 := row_set (j := 1) s0 hk (by omega) x1 a0
  have s1 := rowSet_len _ 10 k 1 x1 s0
  have a2 := row_set (j := 2) s1 hk (by omega) x2 a1
  have s2 := rowSet_len _ 10 k 2 x2 s1
  have a3 := row_set (j := 3) s2 hk (by omega) x3 a2
  have s3 := rowSet_len _ 10 k 3 x3 s2
  have a4 := row_set (j := 4) s3 hk (by omega) x4 a3
  have s4 := rowSet_len _ 10 k 4 x4 s3
  have a5 := row_set (j := 5) s4 hk (by omega) x5 a4
  have s5 := rowSet_len _ 10 k 5 x5 s4
  have a6 := row_set (j := 6) s5 hk (by omega) x6 a5
  have s6 := rowSet_len _ 10 k 6 x6 s5
  have a7 := row_set (j := 7) s6 hk (by omega) x7 a6
  have s7 := rowSet_len _ 10 k 7 x7 s6
  have a8 := row_set (j := 8) s7 hk (by omega) x8 a7
  have s8 := rowSet_len _ 10 k 8 x8 s7
  have a9 := row_set (j := 9) s8 hk (by omega) x9 a8
  have e : (List.range n).flatMap (rowSet (rowSet (rowSet (rowSet (rowSet (rowSet (rowSet (rowSet (rowSet (rowSet f k 0 x0) k 1 x1) k 2 x2) k 3 x3) k 4 x4) k 5 x5) k 6 x6) k 7 x7) k 8 x8) k 9 x9) = (List.range n).flatMap f' := by
    refine flat_congr _ _ _ (fun x _ => ?_)
    by_cases hx : x = k
    · subst hx
      rw [h1]
      simp only [rowSet, if_true]
      obtain ⟨y0, y1, y2, y3, y4, y5, y6, y7, y8, y9, hy⟩ : ∃ y0 y1 y2 y3 y4 y5 y6 y7 y8 y9, f x = [y0, y1, y2, y3, y4, y5, y6, y7, y8, y9] := by
        have := hs x
        match f x, this with
        | [y0, y1, y2, y3, y4, y5, y6, y7, y8, y9], _ => exact ⟨y0, y1, y2, y3, y4, y5, y6, y7, y8, y9, rfl⟩
      rw [hy]
      rfl
    · rw [h2 x hx]
      simp only [rowSet, if_neg hx]
  rw [← e]
  exact a9
end Go.Proofs.Ytocelaebokikcaa
