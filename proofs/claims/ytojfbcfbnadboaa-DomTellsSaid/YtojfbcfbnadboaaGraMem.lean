
/- What lies in memory while a call makes rows of its own. -/
import Derived.Test.YtojfbcfbnadboaaParMem
import Derived.Deep.AppendLies
import Derived.Deep.Slices
namespace Go.Proofs.Ytojfbcfbnadboaa.Gra
open Go.ChangeShapes Go.WideShapes Go.RowKit
set_option linter.unusedVariables false
set_option maxRecDepth 20000

theorem cell_i {w : World} {g : Nat} {cs : Array Value} {t : TypeId} (h : w.heap[g]? = some (.cells cs t (0, 0))) (j : Nat) : w.cell? ⟨g, j, none⟩ = cs[j]? := by
  simp only [World.cell?, h]
  simp
theorem froz_i {w : World} {g : Nat} {cs : Array Value} {t : TypeId} (h : w.heap[g]? = some (.cells cs t (0, 0))) (j : Nat) : w.frozen? ⟨g, j, none⟩ = false := by
  simp only [World.frozen?, h]
  simp
theorem m_box (w : World) (cs : Array Value) (T : TypeId) {w' : World} (hw : w.alloc (.cells cs T) = w') : Below w.heap.size w w' ∧ w'.heap[w.heap.size]? = some (.cells cs T (0, 0)) := by
  rw [← hw]
  exact ⟨(Below.refl _ w).alloc (Nat.le_refl _) _, heap_alloc_new w _⟩
def mset4 (w : World) (b : Nat) (x0 x1 x2 x3 : Value) : World := (((w.setCell ⟨b, 0, none⟩ x0).setCell ⟨b, 1, none⟩ x1).setCell ⟨b, 2, none⟩ x2).setCell ⟨b, 3, none⟩ x3
theorem mset4_heap {w : World} {b : Nat} {x0 x1 x2 x3 y0 y1 y2 y3 : Value} {T : TypeId} (h : w.heap[b]? = some (.cells #[y0, y1, y2, y3] T (0, 0))) : (mset4 w b x0 x1 x2 x3).heap[b]? = some (.cells #[x0, x1, x2, x3] T (0, 0)) := by
  unfold mset4
  simp [World.setCell, Array.getElem?_modify, h]
theorem mset4_below {B : Nat} {w w1 : World} {b : Nat} {x0 x1 x2 x3 : Value} (h : Below B w w1) (hb : B ≤ b) : Below B w (mset4 w1 b x0 x1 x2 x3) :=
  (((h.setCell (p := ⟨b, 0, none⟩) hb _).setCell (p := ⟨b, 1, none⟩) hb _).setCell (p := ⟨b, 2, none⟩) hb _).setCell (p := ⟨b, 3, none⟩) hb _
theorem mset4_far {w : World} {b g : Nat} {x0 x1 x2 x3 : Value} (h : g ≠ b) : (mset4 w b x0 x1 x2 x3).heap[g]? = w.heap[g]? := by
  unfold mset4
  simp [World.setCell, Array.getElem?_modify, Ne.symm h]
theorem mset4_size {w : World} {b : Nat} {x0 x1 x2 x3 : Value} : (mset4 w b x0 x1 x2 x3).heap.size = w.heap.size := by
  unfold mset4
  simp [World.setCell]
def mset10 (w : World) (b : Nat) (x0 x1 x2 x3 x4 x5 x6 x7 x8 x9 : Value) : World := (((((((((w.setCell ⟨b, 0, none⟩ x0).setCell ⟨b, 1, none⟩ x1).setCell ⟨b, 2, none⟩ x2).setCell ⟨b, 3, none⟩ x3).setCell ⟨b, 4, none⟩ x4).setCell ⟨b, 5, none⟩ x5).setCell ⟨b, 6, none⟩ x6).setCell ⟨b, 7, none⟩ x7).setCell ⟨b, 8, none⟩ x8).setCell ⟨b, 9, none⟩ x9
theorem mset10_heap {w : World} {b : Nat} {x0 x1 x2 x3 x4 x5 x6 x7 x8 x9 y0 y1 y2 y3 y4 y5 y6 y7 y8 y9 : Value} {T : TypeId} (h : w.heap[b]? = some (.cells #[y0, y1, y2, y3, y4, y5, y6, y7, y8, y9] T (0, 0))) : (mset10 w b x0 x1 x2 x3 x4 x5 x6 x7 x8 x9).heap[b]? = some (.cells #[x0, x1, x2, x3, x4, x5, x6, x7, x8, x9] T (0, 0)) := by
  unfold mset10
  simp [World.setCell, Array.getElem?_modify, h]
theorem mset10_below {B : Nat} {w w1 : World} {b : Nat} {x0 x1 x2 x3 x4 x5 x6 x7 x8 x9 : Value} (h : Below B w w1) (hb : B ≤ b) : Below B w (mset10 w1 b x0 x1 x2 x3 x4 x5 x6 x7 x8 x9) :=
  (((((((((h.setCell (p := ⟨b, 0, none⟩) hb _).setCell (p := ⟨b, 1, none⟩) hb _).setCell (p := ⟨b, 2, none⟩) hb _).setCell (p := ⟨b, 3, none⟩) hb _).setCell (p := ⟨b, 4, none⟩) hb _).setCell (p := ⟨b, 5, none⟩) hb _).setCell (p := ⟨b, 6, none⟩) hb _).setCell (p := ⟨b, 7, none⟩) hb _).setCell (p := ⟨b, 8, none⟩) hb _).setCell (p := ⟨b, 9, none⟩) hb _
theorem mset10_far {w : World} {b g : Nat} {x0 x1 x2 x3 x4 x5 x6 x7 x8 x9 : Value} (h : g ≠ b) : (mset10 w b x0 x1 x2 x3 x4 x5 x6 x7 x8 x9).heap[g]? = w.heap[g]? := by
  unfold mset10
  simp [World.setCell, Array.getElem?_modify, Ne.symm h]
theorem mset10_size {w : World} {b : Nat} {x0 x1 x2 x3 x4 x5 x6 x7 x8 x9 : Value} : (mset10 w b x0 x1 x2 x3 x4 x5 x6 x7 x8 x9).heap.size = w.heap.size := by
  unfold mset10
  simp [World.setCell]
def mset5 (w : World) (b : Nat) (x0 x1 x2 x3 x4 : Value) : World := ((((w.setCell ⟨b, 0, none⟩ x0).setCell ⟨b, 1, none⟩ x1).setCell ⟨b, 2, none⟩ x2).setCell ⟨b, 3, none⟩ x3).setCell ⟨b, 4, none⟩ x4
theorem mset5_heap {w : World} {b : Nat} {x0 x1 x2 x3 x4 y0 y1 y2 y3 y4 : Value} {T : TypeId} (h : w.heap[b]? = some (.cells #[y0, y1, y2, y3, y4] T (0, 0))) : (mset5 w b x0 x1 x2 x3 x4).heap[b]? = some (.cells #[x0, x1, x2, x3, x4] T (0, 0)) := by
  unfold mset5
  simp [World.setCell, Array.getElem?_modify, h]
theorem mset5_below {B : Nat} {w w1 : World} {b : Nat} {x0 x1 x2 x3 x4 : Value} (h : Below B w w1) (hb : B ≤ b) : Below B w (mset5 w1 b x0 x1 x2 x3 x4) :=
  ((((h.setCell (p := ⟨b, 0, none⟩) hb _).setCell (p := ⟨b, 1, none⟩) hb _).setCell (p := ⟨b, 2, none⟩) hb _).setCell (p := ⟨b, 3, none⟩) hb _).setCell (p := ⟨b, 4, none⟩) hb _
theorem mset5_far {w : World} {b g : Nat} {x0 x1 x2 x3 x4 : Value} (h : g ≠ b) : (mset5 w b x0 x1 x2 x3 x4).heap[g]? = w.heap[g]? := by
  unfold mset5
  simp [World.setCell, Array.getElem?_modify, Ne.symm h]
theorem mset5_size {w : World} {b : Nat} {x0 x1 x2 x3 x4 : Value} : (mset5 w b x0 x1 x2 x3 x4).heap.size = w.heap.size := by
  unfold mset5
  simp [World.setCell]
theorem mbox3 {W : World} {b : Nat} {x0 x1 x2 : Value} {T : TypeId} (h : W.heap[b]? = some (.cells #[x0, x1, x2] T (0, 0))) :
    (W.cell? ⟨b, 0, none⟩ = some x0 ∧ W.cell? ⟨b, 1, none⟩ = some x1 ∧ W.cell? ⟨b, 2, none⟩ = some x2) ∧ (W.frozen? ⟨b, 0, none⟩ = false ∧ W.frozen? ⟨b, 1, none⟩ = false ∧ W.frozen? ⟨b, 2, none⟩ = false) :=
  ⟨⟨cell_i h 0, cell_i h 1, cell_i h 2⟩, froz_i h 0, froz_i h 1, froz_i h 2⟩
theorem mbox4 {W : World} {b : Nat} {x0 x1 x2 x3 : Value} {T : TypeId} (h : W.heap[b]? = some (.cells #[x0, x1, x2, x3] T (0, 0))) :
    (W.cell? ⟨b, 0, none⟩ = some x0 ∧ W.cell? ⟨b, 1, none⟩ = some x1 ∧ W.cell? ⟨b, 2, none⟩ = some x2 ∧ W.cell? ⟨b, 3, none⟩ = some x3) ∧ (W.frozen? ⟨b, 0, none⟩ = false ∧ W.frozen? ⟨b, 1, none⟩ = false ∧ W.frozen? ⟨b, 2, none⟩ = false ∧ W.frozen? ⟨b, 3, none⟩ = false) :=
  ⟨⟨cell_i h 0, cell_i h 1, cell_i h 2, cell_i h 3⟩, froz_i h 0, froz_i h 1, froz_i h 2, froz_i h 3⟩
theorem mbox5 {W : World} {b : Nat} {x0 x1 x2 x3 x4 : Value} {T : TypeId} (h : W.heap[b]? = some (.cells #[x0, x1, x2, x3, x4] T (0, 0))) :
    (W.cell? ⟨b, 0, none⟩ = some x0 ∧ W.cell? ⟨b, 1, none⟩ = some x1 ∧ W.cell? ⟨b, 2, none⟩ = some x2 ∧ W.cell? ⟨b, 3, none⟩ = some x3 ∧ W.cell? ⟨b, 4, none⟩ = some x4) ∧ (W.frozen? ⟨b, 0, none⟩ = false ∧ W.frozen? ⟨b, 1, none⟩ = false ∧ W.frozen? ⟨b, 2, none⟩ = false ∧ W.frozen? ⟨b, 3, none⟩ = false ∧ W.frozen? ⟨b, 4, none⟩ = false) :=
  ⟨⟨cell_i h 0, cell_i h 1, cell_i h 2, cell_i h 3, cell_i h 4⟩, froz_i h 0, froz_i h 1, froz_i h 2, froz_i h 3, froz_i h 4⟩
theorem mbox10 {W : World} {b : Nat} {x0 x1 x2 x3 x4 x5 x6 x7 x8 x9 : Value} {T : TypeId} (h : W.heap[b]? = some (.cells #[x0, x1, x2, x3, x4, x5, x6, x7, x8, x9] T (0, 0))) :
    (W.cell? ⟨b, 0, none⟩ = some x0 ∧ W.cell? ⟨b, 1, none⟩ = some x1 ∧ W.cell? ⟨b, 2, none⟩ = some x2 ∧ W.cell? ⟨b, 3, none⟩ = some x3 ∧ W.cell? ⟨b, 4, none⟩ = some x4 ∧ W.cell? ⟨b, 5, none⟩ = some x5 ∧ W.cell? ⟨b, 6, none⟩ = some x6 ∧ W.cell? ⟨b, 7, none⟩ = some x7 ∧ W.cell? ⟨b, 8, none⟩ = some x8 ∧ W.cell? ⟨b, 9, none⟩ = some x9) ∧ (W.frozen? ⟨b, 0, none⟩ = false ∧ W.frozen? ⟨b, 1, none⟩ = false ∧ W.frozen? ⟨b, 2, none⟩ = false ∧ W.frozen? ⟨b, 3, none⟩ = false ∧ W.frozen? ⟨b, 4, none⟩ = false ∧ W.frozen? ⟨b, 5, none⟩ = false ∧ W.frozen? ⟨b, 6, none⟩ = false ∧ W.frozen? ⟨b, 7, none⟩ = false ∧ W.frozen? ⟨b, 8, none⟩ = false ∧ W.frozen? ⟨b, 9, none⟩ = false) :=
  ⟨⟨cell_i h 0, cell_i h 1, cell_i h 2, cell_i h 3, cell_i h 4, cell_i h 5, cell_i h 6, cell_i h 7, cell_i h 8, cell_i h 9⟩, froz_i h 0, froz_i h 1, froz_i h 2, froz_i h 3, froz_i h 4, froz_i h 5, froz_i h 6, froz_i h 7, froz_i h 8, froz_i h 9⟩
/-- A call turns just some blocks, and makes new ones. -/
structure Mv (M : Nat → Prop) (w w' : World) : Prop where
  os : w'.os = w.os
  tape : w'.tape = w.tape
  output : w'.output = w.output
  agree : Agree (fun k => ¬ M k) w w'
theorem Mv.size {M : Nat → Prop} {w w' : World} (h : Mv M w w') : w.heap.size ≤ w'.heap.size := h.agree.1
theorem Mv.refl (M : Nat → Prop) (w : World) : Mv M w w := ⟨rfl, rfl, rfl, Agree.refl _ w⟩
theorem Mv.of {M : Nat → Prop} {w w' : World} (h : Below w.heap.size w w') : Mv M w w' := ⟨h.os, h.tape, h.output, h.size, fun k hk _ => h.block k hk⟩
/-- Which blocks may move later: those that did, or new ones. -/
def Grow (w : World) (M M' : Nat → Prop) : Prop := ∀ k, M' k → M k ∨ w.heap.size ≤ k
theorem Grow.refl (w : World) (M : Nat → Prop) : Grow w M M := fun _ h => .inl h
theorem Grow.trans {a b : World} {M M' M'' : Nat → Prop} (h : Grow a M M') (k : Grow b M' M'') (hab : a.heap.size ≤ b.heap.size) : Grow a M M'' := fun i hi => (k i hi).elim (h i) (fun g => .inr (Nat.le_trans hab g))
theorem Mv.trans {M M' : Nat → Prop} {a b c : World} (h : Mv M a b) (k : Mv M' b c) (hg : Grow a M M') : Mv M a c :=
  ⟨k.os.trans h.os, k.tape.trans h.tape, k.output.trans h.output, Nat.le_trans h.size k.size, fun i hi hm =>
    (k.agree.2 i (Nat.lt_of_lt_of_le hi h.size) (fun hm' => (hg i hm').elim hm (fun g => by omega))).trans (h.agree.2 i hi hm)⟩
theorem Mv.below {M : Nat → Prop} {a w w' : World} {B : Nat} (h : Mv M w w') (hb : Below B a w) (hB : B ≤ w.heap.size) (hM : ∀ k, M k → B ≤ k) : Below B a w' :=
  ⟨h.os.trans hb.os, h.tape.trans hb.tape, h.output.trans hb.output, Nat.le_trans hb.size h.size, fun k hk => (h.agree.2 k (Nat.lt_of_lt_of_le hk hB) (fun hm => by have := hM k hm; omega)).trans (hb.block k hk)⟩
/-- What holds as long as none but the moving blocks turn. -/
def Frz (M : Nat → Prop) (w : World) (P : World → Prop) : Prop := ∃ S : Nat → Prop, (∀ k, S k → ¬ M k ∧ k < w.heap.size) ∧ Held S w P
theorem Frz.here {M : Nat → Prop} {w : World} {P : World → Prop} (h : Frz M w P) : P w := by obtain ⟨S, _, h⟩ := h; exact h.here
theorem Frz.keep {M : Nat → Prop} {w w' : World} {P : World → Prop} (h : Frz M w P) (k : Mv M w w') : Frz M w' P := by
  obtain ⟨S, h1, h2⟩ := h
  exact ⟨S, fun i hi => ⟨(h1 i hi).1, Nat.lt_of_lt_of_le (h1 i hi).2 k.size⟩, h2.keep (k.agree.weak fun i _ hi => (h1 i hi).1)⟩
theorem Frz.grow {M M' : Nat → Prop} {w : World} {P : World → Prop} (h : Frz M w P) (hg : Grow w M M') : Frz M' w P := by
  obtain ⟨S, h1, h2⟩ := h
  exact ⟨S, fun i hi => ⟨fun hm => (hg i hm).elim (h1 i hi).1 (fun g => by have := (h1 i hi).2; omega), (h1 i hi).2⟩, h2⟩
theorem Frz.go {M M' : Nat → Prop} {w w' : World} {P : World → Prop} (h : Frz M w P) (k : Mv M w w') (hg : Grow w M M') : Frz M' w' P := by
  obtain ⟨S, h1, h2⟩ := h
  exact ⟨S, fun i hi => ⟨fun hm => (hg i hm).elim (h1 i hi).1 (fun g => by have := (h1 i hi).2; omega), Nat.lt_of_lt_of_le (h1 i hi).2 k.size⟩, h2.keep (k.agree.weak fun i _ hi => (h1 i hi).1)⟩
theorem Frz.map {M : Nat → Prop} {w : World} {P Q : World → Prop} (h : Frz M w P) (f : ∀ w, P w → Q w) : Frz M w Q := by
  obtain ⟨S, h1, h2⟩ := h
  exact ⟨S, h1, h2.map f⟩
theorem Frz.and {M : Nat → Prop} {w : World} {P Q : World → Prop} (h : Frz M w P) (k : Frz M w Q) : Frz M w fun w => P w ∧ Q w := by
  obtain ⟨S, h1, h2⟩ := h
  obtain ⟨T, k1, k2⟩ := k
  exact ⟨fun i => S i ∨ T i, fun i hi => hi.elim (h1 i) (k1 i), (h2.weak fun _ _ hi => .inl hi).and (k2.weak fun _ _ hi => .inr hi)⟩
theorem frz_const {M : Nat → Prop} {w : World} {P : Prop} (h : P) : Frz M w fun _ => P := ⟨fun _ => False, fun _ h => h.elim, held_const h⟩
theorem Frz.all {M : Nat → Prop} {w : World} {α : Type} {P : α → World → Prop} (l : List α) (h : ∀ x ∈ l, Frz M w (P x)) : Frz M w fun w => ∀ x ∈ l, P x w := by
  refine ⟨fun k => ∃ x, ∃ hx : x ∈ l, (h x hx).choose k, fun k ⟨x, hx, hk⟩ => (h x hx).choose_spec.1 k hk, fun w' hw x hx => ?_⟩
  exact (h x hx).choose_spec.2 w' (hw.weak fun k _ hk => ⟨x, hx, hk⟩)
/-- What is new, while the moving blocks are elder or newer. -/
theorem frz_new {M : Nat → Prop} {N : Nat} {w : World} {P : World → Prop} (h : Held (fun k => N ≤ k ∧ k < w.heap.size) w P) (hM : ∀ k, M k → k < N ∨ w.heap.size ≤ k) : Frz M w P :=
  ⟨_, fun k hk => ⟨fun hm => by have := hM k hm; omega, hk.2⟩, h⟩
theorem frz_own {α : Type} {T : TypeId} {sz : Nat} {cs : α → List Value} {N : Nat} {w : World} {A : Option Addr} {c : Nat} {l : List α} {M : Nat → Prop} (h : OwnL T sz cs N w A c l) (hM : ∀ k, Value.ownBlock (.slice A l.length c) = some k → ¬ M k) : Frz M w fun w => OwnL T sz cs N w A c l :=
  ⟨_, fun k hk => ⟨hM k hk, (h.lo k hk).2⟩, h.held⟩
theorem frz_box {w : World} {p : Nat} {o : Obj} {M : Nat → Prop} (h : w.heap[p]? = some o) (hM : ¬ M p) : Frz M w fun w => w.heap[p]? = some o := by
  have hp := (Array.getElem?_eq_some_iff.1 h).1
  exact ⟨fun k => k = p, fun k hk => by subst hk; exact ⟨hM, hp⟩, fun w' hw => by show w'.heap[p]? = some o; rw [hw.2 p hp rfl]; exact h⟩
theorem grown_mv {M : Nat → Prop} {w w' : World} {row : Option Nat} (h : w.grownBy w' row) (hr : ∀ k, row = some k → M k) : Mv M w w' :=
  ⟨h.os, h.tape, h.output, h.size, fun k hk hm => h.block k hk (fun e => hm (hr k e.symm))⟩
theorem put_mv {M : Nat → Prop} {w : World} {p o : Nat} (v : Value) (hM : M p) : Mv M w (w.setCell ⟨p, o, none⟩ v) :=
  ⟨rfl, rfl, rfl, by simp [World.setCell], fun k _ hm => Below.heap_setCell _ _ _ _ (by rintro rfl; exact hm hM)⟩
theorem drew_mv (M : Nat → Prop) (w : World) : Mv M w w.drew := ⟨rfl, rfl, rfl, drew_agree _ w⟩
theorem alloc_mv {M : Nat → Prop} {w : World} {o : Obj} : Mv M w (w.alloc o) := ⟨rfl, rfl, rfl, by simp, fun k hk _ => Below.heap_alloc _ _ _ hk⟩
theorem mbox2 {W : World} {b : Nat} {x0 x1 : Value} {T : TypeId} (h : W.heap[b]? = some (.cells #[x0, x1] T (0, 0))) : (W.cell? ⟨b, 0, none⟩ = some x0 ∧ W.cell? ⟨b, 1, none⟩ = some x1) ∧ W.frozen? ⟨b, 0, none⟩ = false ∧ W.frozen? ⟨b, 1, none⟩ = false :=
  ⟨⟨cell_i h 0, cell_i h 1⟩, froz_i h 0, froz_i h 1⟩
theorem kept {w w' : World} {p : Nat} {o : Obj} (h : w.heap[p]? = some o) (hb : Below w.heap.size w w') : w'.heap[p]? = some o := (hb.block p (Array.getElem?_eq_some_iff.1 h).1).trans h
theorem Mv.more {M M' : Nat → Prop} {w w' : World} (h : Mv M w w') (hm : ∀ k, M k → M' k) : Mv M' w w' :=
  ⟨h.os, h.tape, h.output, h.size, fun k hk hn => h.agree.2 k hk (fun e => hn (hm k e))⟩
/-- A kind of rows: of which cells, how many, in which slices. -/
structure MRow {α : Type} (T st : TypeId) (sz : Nat) (cs : α → List Value) : Prop where
  under : Try.prog.underlying st = some (.slice T)
  info : ∃ i z, Try.prog.info? T = some i ∧ i.zero = some z ∧ i.size = sz ∧ i.bytes ≤ 1000000 ∧ z.cells.size = sz
  pos : 0 < sz
  len : ∀ x, (cs x).length = sz
  one : ∀ x, ∀ u ∈ cs x, u.oneCell' = true
theorem minfo {T : TypeId} {z : Value} {sz : Nat} (h : (Try.prog.info? T).map (fun i => (i.zero, i.size, decide (i.bytes ≤ 1000000))) = some (some z, sz, true)) (hz : z.cells.size = sz) :
    ∃ i z, Try.prog.info? T = some i ∧ i.zero = some z ∧ i.size = sz ∧ i.bytes ≤ 1000000 ∧ z.cells.size = sz := by
  obtain ⟨i, h1, h2⟩ := Option.map_eq_some_iff.1 h
  injection h2 with h2 h3
  injection h3 with h3 h4
  exact ⟨i, z, h1, h2, h3, of_decide_eq_true h4, hz⟩
theorem mInt : MRow 3 37 1 intC := ⟨Try.underlying37, minfo (z := .int .i64 0) (by kernel_rfl) rfl, by decide, fun x => rfl, fun x u hu => by simp [intC] at hu; rw [hu]; rfl⟩
section
variable {α : Type} {T st : TypeId} {sz : Nat} {cs : α → List Value}
theorem flat_len (hc : ∀ x, (cs x).length = sz) (l : List α) : (l.flatMap cs).length = l.length * sz := by
  induction l with
  | nil => simp
  | cons a l ih => rw [List.flatMap_cons, List.length_append, hc, ih, List.length_cons, Nat.succ_mul, Nat.add_comm]
/-- A row that is laid in one block. -/
theorem mfirst (hK : MRow T st sz cs) {N b k : Nat} {W : World} {l : List α} (hb : W.heap[b]? = some (.cells (l.flatMap cs).toArray T (0, 0))) (hN : N ≤ b) (hk : l.length = k) (hk2 : k ≤ 1000000) : OwnL T sz cs N W (some ⟨b, 0, none⟩) k l := by
  subst hk
  refine ⟨by simp [flat_len hK.len], .inr ⟨b, l.length, (l.flatMap cs).toArray, rfl, hN, hb, Nat.le_refl _, by unfold maxLen; omega, by simp [flat_len hK.len], ?_⟩⟩
  simp
  rw [List.take_of_length_le (by rw [flat_len hK.len]; exact Nat.le_refl _)]
/-- More behind it, at the list of a region's operations. -/
theorem mapp (hK : MRow T st sz cs) {W : World} {ops : Array Oper} {rest : List Oper} {o : Oper} {a : Act} {Q : Exit → Act → World → Prop} (hgd : o.guard = none) (s x : Operand)
    (ho : o.op = .call { callee := .builtin .append, args := #[s, x], argTypes := #[st, st] })
    {N : Nat} {A : Option Addr} {c m : Nat} {l : List α} (hm : l.length = m) (hs : a.eval s = .slice A m c) (hown : OwnL T sz cs N W A c l) (ad : Addr) (k d : Nat) (r : List α) (hx : a.eval x = .slice (some ad) k d) (hk : r.length = k) (hk0 : 0 < k)
    (hr : ∀ j u, (r.flatMap cs)[j]? = some u → W.cell? (ad.add j) = some u) (hlen : m + k ≤ 2000001) (hN : N ≤ W.heap.size)
    (h : ∀ g c' w', OwnL T sz cs N w' (some ⟨g, 0, none⟩) c' (l ++ r) → W.grownBy w' (Value.ownBlock (.slice A m c)) → (Value.ownBlock (.slice A m c) = some g ∨ g = W.heap.size) → g < w'.heap.size → wpList Try.prog ops Q rest (a.put o.dst (.slice (some ⟨g, 0, none⟩) (m + k) c')) w') : wpList Try.prog ops Q (o :: rest) a W := by
  obtain ⟨i, z, hi, hz, hz1, hz2, hz3⟩ := hK.info
  subst hm hk
  refine wpList_append_lies (w := W) hgd s x st ho N T i z sz i.bytes hK.under hi hz hz1 rfl hz3 hK.pos (.slice A l.length c) l.length (l.flatMap cs) hs hown ad r.length d (r.flatMap cs) hx (flat_len hK.len r) hr ?_ hk0 (by unfold maxLen; omega) ?_ hN W.heap.size rfl ?_
  · intro u hu
    obtain ⟨y, _, hy⟩ := List.mem_flatMap.1 hu
    exact hK.one y u hy
  · have h1 : (l.length + r.length) * i.bytes ≤ 2000001 * 1000000 := Nat.mul_le_mul hlen hz2
    omega
  · intro g cap w' ho' hg hat hlt
    refine h g cap w' ?_ hg hat hlt
    unfold OwnL
    rw [List.length_append, List.flatMap_append]
    exact ho'
/-- One row more. -/
theorem mapp1 (hK : MRow T st sz cs) {W : World} {ops : Array Oper} {rest : List Oper} {o : Oper} {a : Act} {Q : Exit → Act → World → Prop} (hgd : o.guard = none) (s x : Operand)
    (ho : o.op = .call { callee := .builtin .append, args := #[s, x], argTypes := #[st, st] })
    {N : Nat} {A : Option Addr} {c m : Nat} {l : List α} (hm : l.length = m) (hs : a.eval s = .slice A m c) (hown : OwnL T sz cs N W A c l) (b : Nat) (r : α) (hx : a.eval x = .slice (some ⟨b, 0, none⟩) 1 1)
    (hb : W.heap[b]? = some (.cells (cs r).toArray T (0, 0))) (hlen : m ≤ 2000000) (hN : N ≤ W.heap.size)
    (h : ∀ g c' w', OwnL T sz cs N w' (some ⟨g, 0, none⟩) c' (l ++ [r]) → W.grownBy w' (Value.ownBlock (.slice A m c)) → (Value.ownBlock (.slice A m c) = some g ∨ g = W.heap.size) → g < w'.heap.size → wpList Try.prog ops Q rest (a.put o.dst (.slice (some ⟨g, 0, none⟩) (m + 1) c')) w') : wpList Try.prog ops Q (o :: rest) a W := by
  refine mapp hK hgd s x ho hm hs hown ⟨b, 0, none⟩ 1 1 [r] hx rfl (by decide) ?_ (by omega) hN h
  intro j u hu
  have hj : (⟨b, 0, none⟩ : Addr).add j = ⟨b, j, none⟩ := by rw [add_at]; simp
  rw [hj, cell_i hb j]
  simpa using hu
/-- One row more, at the operation. -/
theorem mapp_wp (hK : MRow T st sz cs) {W : World} {o : Oper} {a : Act} {K : Act → World → Prop} {Q : Exit → Act → World → Prop} (s x : Operand)
    (ho : o.op = .call { callee := .builtin .append, args := #[s, x], argTypes := #[st, st] })
    {N : Nat} {A : Option Addr} {c m : Nat} {l : List α} (hm : l.length = m) (hs : a.eval s = .slice A m c) (hown : OwnL T sz cs N W A c l) (b : Nat) (r : α) (hx : a.eval x = .slice (some ⟨b, 0, none⟩) 1 1)
    (hb : W.heap[b]? = some (.cells (cs r).toArray T (0, 0))) (hlen : m ≤ 2000000) (hN : N ≤ W.heap.size)
    (h : ∀ g c' w', OwnL T sz cs N w' (some ⟨g, 0, none⟩) c' (l ++ [r]) → W.grownBy w' (Value.ownBlock (.slice A m c)) → (Value.ownBlock (.slice A m c) = some g ∨ g = W.heap.size) → K (a.put o.dst (.slice (some ⟨g, 0, none⟩) (m + 1) c')) w') : o.wp Try.prog a W K Q := by
  obtain ⟨i, z, hi, hz, hz1, hz2, hz3⟩ := hK.info
  subst hm
  refine wp_append_lies W s x st ho N T i z sz i.bytes hK.under hi hz hz1 rfl hz3 hK.pos (.slice A l.length c) l.length (l.flatMap cs) hs hown ⟨b, 0, none⟩ 1 1 (cs r) hx (by rw [hK.len, Nat.one_mul]) ?_ (hK.one r) (by decide) (by unfold maxLen; omega) ?_ hN W.heap.size rfl ?_
  · intro j u hu
    have hj : (⟨b, 0, none⟩ : Addr).add j = ⟨b, j, none⟩ := by rw [add_at]; simp
    rw [hj, cell_i hb j]
    simpa using hu
  · have h1 : (l.length + 1) * i.bytes ≤ 2000001 * 1000000 := Nat.mul_le_mul (by omega) hz2
    omega
  · intro g cap w' ho' hg hat _
    exact h g cap w' (own_more ho' rfl) hg hat
/-- A list of the call's own lies beside another one. -/
theorem mother {N : Nat} {W W' : World} {A : Option Addr} {c : Nat} {l : List α} {row : Option Nat} (h : OwnL T sz cs N W A c l) (hg : W.grownBy W' row) (hne : ∀ k, Value.ownBlock (.slice A l.length c) = some k → some k ≠ row) : OwnL T sz cs N W' A c l :=
  h.held W' ⟨hg.size, fun k hk e => hg.block k hk (hne k e)⟩
theorem mown_mv {N : Nat} {W W' : World} {A : Option Addr} {c : Nat} {l : List α} {M : Nat → Prop} (h : OwnL T sz cs N W A c l) (hv : Mv M W W') (hne : ∀ k, Value.ownBlock (.slice A l.length c) = some k → ¬ M k) : OwnL T sz cs N W' A c l :=
  h.held W' ⟨hv.size, fun k hk e => hv.agree.2 k hk (hne k e)⟩
end
/-- The blocks of a level that move: its box and its row; and all of the call's own that are elder. -/
def mvL (b : Nat) (x : Value) : Nat → Prop := fun k => k = b ∨ Value.ownBlock x = some k
def mvB (L0 B0 B b : Nat) (x : Value) : Nat → Prop := fun k => (k < L0 ∨ (B0 ≤ k ∧ k < B)) ∨ mvL b x k
theorem frz_agree {M : Nat → Prop} {w w' : World} {P : World → Prop} (h : Frz M w P) (k : Agree (fun k => k < w.heap.size) w w') : Frz M w' P := by
  obtain ⟨S, h1, h2⟩ := h
  exact ⟨S, fun i hi => ⟨(h1 i hi).1, Nat.lt_of_lt_of_le (h1 i hi).2 k.1⟩, h2.keep (k.weak fun i hi _ => hi)⟩
theorem held_box {w : World} {p : Nat} {o : Obj} {S : Nat → Prop} (h : w.heap[p]? = some o) (hS : S p) : Held S w fun w => w.heap[p]? = some o :=
  fun w' hw => (hw.2 p (Array.getElem?_eq_some_iff.1 h).1 hS).trans h
/-- A level: a box, a row that grows, what stood still ahead of it, and what it has made. -/
structure Lv {α : Type} (L0 B0 B : Nat) (BT : TypeId) (b : Nat) (xs : Array Value) (T : TypeId) (sz : Nat) (cs : α → List Value) (A : Option Addr) (n c : Nat) (l : List α) (P Q : World → Prop) (W : World) : Prop where
  l0 : L0 ≤ B0
  b0 : B0 ≤ B
  lo : B ≤ b
  box : W.heap[b]? = some (.cells xs BT (0, 0))
  row : OwnL T sz cs B W A c l
  len : l.length = n
  ap : Value.ownBlock (.slice A n c) ≠ some b
  old : Frz (mvL b (.slice A n c)) W P
  new : Frz (mvB L0 B0 B b (.slice A n c)) W Q
section
variable {α : Type} {L0 B0 B : Nat} {BT : TypeId} {b : Nat} {xs ys : Array Value} {T : TypeId} {sz : Nat} {cs : α → List Value} {A : Option Addr} {n c : Nat} {l : List α} {P Q R : World → Prop} {W W' : World}
theorem Lv.hi (h : Lv L0 B0 B BT b xs T sz cs A n c l P Q W) : b < W.heap.size := (Array.getElem?_eq_some_iff.1 h.box).1
theorem Lv.lt (h : Lv L0 B0 B BT b xs T sz cs A n c l P Q W) {k : Nat} (hk : mvL b (.slice A n c) k) : B ≤ k ∧ k < W.heap.size := by
  rcases hk with rfl | e
  · exact ⟨h.lo, h.hi⟩
  · exact h.row.lo k (by rw [h.len]; exact e)
theorem Lv.below (h : Lv L0 B0 B BT b xs T sz cs A n c l P Q W) (hb : Below W.heap.size W W') : Lv L0 B0 B BT b xs T sz cs A n c l P Q W' :=
  ⟨h.l0, h.b0, h.lo, kept h.box hb, h.row.below hb, h.len, h.ap, h.old.keep (Mv.of hb), h.new.keep (Mv.of hb)⟩
theorem Lv.held (h : Lv L0 B0 B BT b xs T sz cs A n c l P Q W) : Held (fun k => k < W.heap.size) W fun W => Lv L0 B0 B BT b xs T sz cs A n c l P Q W :=
  fun W' hw => ⟨h.l0, h.b0, h.lo, by rw [hw.2 b h.hi h.hi]; exact h.box, h.row.held W' (hw.weak fun k hk _ => hk), h.len, h.ap, frz_agree h.old hw, frz_agree h.new hw⟩
theorem lv_open (hL : L0 ≤ B0) (hB : B0 ≤ W.heap.size) (hR : Held (fun k => k < W.heap.size) W R) (hw : W.alloc (.cells xs BT) = W') : Lv L0 B0 W.heap.size BT W.heap.size xs T sz cs none 0 0 ([] : List α) R (fun _ => True) W' := by
  have hm := m_box W xs BT hw
  refine ⟨hL, hB, Nat.le_refl _, hm.2, OwnL.nil, rfl, (fun h => by cases h), ⟨fun k => k < W.heap.size, fun k hk => ⟨?_, Nat.lt_of_lt_of_le hk hm.1.size⟩, hR.keep (below_agree hm.1)⟩, frz_const trivial⟩
  have hk : k < W.heap.size := hk
  rintro (e | e)
  · omega
  · cases e
theorem Lv.put (h : Lv L0 B0 B BT b xs T sz cs A n c l P Q W) (o : Nat) (v : Value) (hy : ys = xs.setIfInBounds o v) : Lv L0 B0 B BT b ys T sz cs A n c l P Q (W.setCell ⟨b, o, none⟩ v) := by
  have hp : Mv (fun k => k = b) W (W.setCell ⟨b, o, none⟩ v) := put_mv v rfl
  refine ⟨h.l0, h.b0, h.lo, ?_, mown_mv h.row hp (fun k hk e => h.ap (by rw [← h.len]; have e : k = b := e; subst e; exact hk)), h.len, h.ap, h.old.keep (hp.more fun k e => .inl e), h.new.keep (hp.more fun k e => .inr (.inl e))⟩
  subst hy
  simp [World.setCell, Array.getElem?_modify, h.box]
/-- The box is stored anew. -/
theorem Lv.boxed (h : Lv L0 B0 B BT b xs T sz cs A n c l P Q W) (hv : Mv (fun k => k = b) W W') (hb : W'.heap[b]? = some (.cells ys BT (0, 0))) : Lv L0 B0 B BT b ys T sz cs A n c l P Q W' :=
  ⟨h.l0, h.b0, h.lo, hb, mown_mv h.row hv (fun k hk e => h.ap (by rw [← h.len]; have e : k = b := e; subst e; exact hk)), h.len, h.ap, h.old.keep (hv.more fun k e => .inl e), h.new.keep (hv.more fun k e => .inr (.inl e))⟩
theorem Lv.app (h : Lv L0 B0 B BT b xs T sz cs A n c l P Q W) {g c' : Nat} {x : α} (ho : OwnL T sz cs B W' (some ⟨g, 0, none⟩) c' (l ++ [x])) (hg : W.grownBy W' (Value.ownBlock (.slice A n c))) (hat : Value.ownBlock (.slice A n c) = some g ∨ g = W.heap.size) :
    Lv L0 B0 B BT b xs T sz cs (some ⟨g, 0, none⟩) (n + 1) c' (l ++ [x]) P Q W' := by
  have hG : Grow W (mvL b (.slice A n c)) (mvL b (.slice (some ⟨g, 0, none⟩) (n + 1) c')) := by
    intro k hk
    rcases hk with e | e
    · exact .inl (.inl e)
    · have e : g = k := by injection e
      subst e
      exact hat.elim (fun e => .inl (.inr e)) (fun e => .inr (by omega))
  have hG2 : Grow W (mvB L0 B0 B b (.slice A n c)) (mvB L0 B0 B b (.slice (some ⟨g, 0, none⟩) (n + 1) c')) := by
    intro k hk
    rcases hk with e | e
    · exact .inl (.inl e)
    · exact (hG k e).imp .inr id
  refine ⟨h.l0, h.b0, h.lo, (hg.block b h.hi (fun e => h.ap e.symm)).trans h.box, ho, by rw [List.length_append, h.len]; rfl, fun e => ?_, h.old.go (grown_mv hg (fun k e => .inr e)) hG, h.new.go (grown_mv hg (fun k e => .inr (.inr e))) hG2⟩
  have e : g = b := by injection e
  subst e
  rcases hat with e | e
  · exact h.ap e
  · have := h.hi; omega
theorem Lv.more (h : Lv L0 B0 B BT b xs T sz cs A n c l P Q W) (hr : Frz (mvB L0 B0 B b (.slice A n c)) W R) : Lv L0 B0 B BT b xs T sz cs A n c l P (fun W => Q W ∧ R W) W :=
  ⟨h.l0, h.b0, h.lo, h.box, h.row, h.len, h.ap, h.old, h.new.and hr⟩
theorem Lv.map (h : Lv L0 B0 B BT b xs T sz cs A n c l P Q W) (f : ∀ W, Q W → R W) : Lv L0 B0 B BT b xs T sz cs A n c l P R W :=
  ⟨h.l0, h.b0, h.lo, h.box, h.row, h.len, h.ap, h.old, h.new.map f⟩
/-- The row is done: it stands still, and another one begins. -/
theorem Lv.drop (h : Lv L0 B0 B BT b xs T sz cs A n c l P Q W) {β : Type} {T' : TypeId} {sz' : Nat} {cs' : β → List Value} (hB : B0 = B) : Lv L0 B0 B BT b xs T' sz' cs' none 0 0 ([] : List β) P (fun W => Q W ∧ OwnL T sz cs B W A c l) W := by
  have hG : Grow W (mvL b (.slice A n c)) (mvL b (.slice none 0 0)) := by
    intro k hk
    rcases hk with e | e
    · exact .inl (.inl e)
    · cases e
  have hG2 : Grow W (mvB L0 B0 B b (.slice A n c)) (mvB L0 B0 B b (.slice none 0 0)) := by
    intro k hk
    rcases hk with e | e
    · exact .inl (.inl e)
    · exact (hG k e).imp .inr id
  refine ⟨h.l0, h.b0, h.lo, h.box, OwnL.nil, rfl, (fun e => by cases e), h.old.grow hG, (h.new.grow hG2).and (frz_own h.row (fun k hk e => ?_))⟩
  have h1 := (h.row.lo k hk).1
  have h2 := h.l0
  rcases e with e | e | e
  · omega
  · subst e; exact h.ap (by rw [← h.len]; exact hk)
  · cases e
/-- What it has made, for whoever moves elder blocks alone. -/
theorem Lv.made (h : Lv L0 B0 B BT b xs T sz cs A n c l P Q W) {M : Nat → Prop} (hM : ∀ k, M k → k < L0 ∨ (B0 ≤ k ∧ k < B)) : Frz M W fun W => Q W ∧ OwnL T sz cs B W A c l :=
  (h.new.grow (fun k hk => .inl (.inl (hM k hk)))).and (frz_own h.row (fun k hk e => by have := hM k e; have := (h.row.lo k hk).1; have := h.l0; have := h.b0; omega))
/-- What is new. -/
theorem Lv.fresh (h : Lv L0 B0 B BT b xs T sz cs A n c l P Q W) {N : Nat} (hN : ∀ k, mvL b (.slice A n c) k → k < N) (hB : B ≤ N) (hr : Held (fun k => N ≤ k ∧ k < W.heap.size) W R) : Frz (mvB L0 B0 B b (.slice A n c)) W R :=
  frz_new hr (fun k hk => by
    rcases hk with e | e
    · exact .inl (by have := h.l0; have := h.b0; omega)
    · exact .inl (hN k e))
/-- What is elder than all of the call's own. -/
theorem Lv.elder (h : Lv L0 B0 B BT b xs T sz cs A n c l P Q W) (hr : Held (fun k => L0 ≤ k ∧ k < B0) W R) : Frz (mvB L0 B0 B b (.slice A n c)) W R := by
  have h1 := h.hi
  have h2 := h.lo
  have h3 := h.b0
  refine ⟨fun k => L0 ≤ k ∧ k < B0, fun k hk => ⟨?_, by have hk : L0 ≤ k ∧ k < B0 := hk; omega⟩, hr⟩
  have hk : L0 ≤ k ∧ k < B0 := hk
  rintro (e | e)
  · omega
  · have := h.lt e; omega
theorem Lv.bel {N : Nat} {w0 : World} (h : Lv L0 B0 B BT b xs T sz cs A n c l P Q W) (hb : Below N w0 W) (hN : N ≤ B) (hg : W.grownBy W' (Value.ownBlock (.slice A n c))) : Below N w0 W' := by
  have h1 := h.hi
  have h2 := h.lo
  exact ⟨hg.os.trans hb.os, hg.tape.trans hb.tape, hg.output.trans hb.output, Nat.le_trans hb.size hg.size, fun k hk => (hg.block k (by omega) (fun e => by have := h.lt (.inr e.symm); omega)).trans (hb.block k hk)⟩
theorem Lv.belput {N : Nat} {w0 : World} (h : Lv L0 B0 B BT b xs T sz cs A n c l P Q W) (hb : Below N w0 W) (hN : N ≤ B) (o : Nat) (v : Value) : Below N w0 (W.setCell ⟨b, o, none⟩ v) :=
  hb.setCell (p := ⟨b, o, none⟩) (by have := h.lo; show N ≤ b; omega) v
end
end Go.Proofs.Ytojfbcfbnadboaa.Gra
