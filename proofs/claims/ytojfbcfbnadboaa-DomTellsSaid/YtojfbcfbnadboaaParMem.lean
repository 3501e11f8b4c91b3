
/- What lies in some blocks alone, and stays as long as these do; lists of a call's own that grow, of rows of any kind. -/
import Derived.Test.YtojfbcfbnadboaaIrData
import Derived.OwnWalk
import Derived.Laws.OwnMore
import Derived.Deep.AppendLies
namespace Go.Proofs.Ytojfbcfbnadboaa
open Go.ChangeShapes Go.WideShapes Go.RowKit
set_option linter.unusedVariables false
set_option maxRecDepth 20000

/-- Of some blocks nothing has turned. -/
def Agree (S : Nat → Prop) (w w' : World) : Prop := w.heap.size ≤ w'.heap.size ∧ ∀ k, k < w.heap.size → S k → w'.heap[k]? = w.heap[k]?
theorem Agree.refl (S : Nat → Prop) (w : World) : Agree S w w := ⟨Nat.le_refl _, fun _ _ _ => rfl⟩
theorem Agree.trans {S : Nat → Prop} {a b c : World} (h : Agree S a b) (k : Agree S b c) : Agree S a c :=
  ⟨Nat.le_trans h.1 k.1, fun i hi hs => (k.2 i (Nat.lt_of_lt_of_le hi h.1) hs).trans (h.2 i hi hs)⟩
theorem Agree.weak {S S' : Nat → Prop} {w w' : World} (h : Agree S w w') (hS : ∀ k, k < w.heap.size → S' k → S k) : Agree S' w w' := ⟨h.1, fun k hk hs => h.2 k hk (hS k hk hs)⟩
theorem below_agree {B : Nat} {w w' : World} (h : Below B w w') : Agree (fun k => k < B) w w' := ⟨h.size, fun k _ hs => h.block k hs⟩
theorem grown_agree {row : Option Nat} {w w' : World} (h : w.grownBy w' row) : Agree (fun k => some k ≠ row) w w' := ⟨h.size, fun k hk hs => h.block k hk hs⟩
theorem Agree.cell {S : Nat → Prop} {w w' : World} (h : Agree S w w') {a : Addr} {v : Value} (hs : S a.block) (hc : w.cell? a = some v) : w'.cell? a = some v :=
  (World.cell?_of_block (h.2 a.block (World.block_lt_of_cell? w a hc) hs)).trans hc
/-- What holds as long as some blocks stay. -/
def Held (S : Nat → Prop) (w : World) (P : World → Prop) : Prop := ∀ w', Agree S w w' → P w'
theorem Held.here {S : Nat → Prop} {w : World} {P : World → Prop} (h : Held S w P) : P w := h w (Agree.refl S w)
theorem Held.keep {S : Nat → Prop} {w w' : World} {P : World → Prop} (h : Held S w P) (k : Agree S w w') : Held S w' P := fun w'' k' => h w'' (k.trans k')
theorem Held.weak {S S' : Nat → Prop} {w : World} {P : World → Prop} (h : Held S w P) (hS : ∀ k, k < w.heap.size → S k → S' k) : Held S' w P := fun w' k => h w' (k.weak hS)
theorem Held.map {S : Nat → Prop} {w : World} {P Q : World → Prop} (h : Held S w P) (f : ∀ w, P w → Q w) : Held S w Q := fun w' k => f w' (h w' k)
theorem Held.and {S : Nat → Prop} {w : World} {P Q : World → Prop} (h : Held S w P) (k : Held S w Q) : Held S w fun w => P w ∧ Q w := fun w' e => ⟨h w' e, k w' e⟩
theorem held_const {S : Nat → Prop} {w : World} {P : Prop} (h : P) : Held S w fun _ => P := fun _ _ => h
/-! A block that changes, and all that is new. -/
theorem gtrans {a b c : World} {row : Option Nat} (h : a.grownBy b row) (k : b.grownBy c row) : a.grownBy c row :=
  ⟨k.os.trans h.os, k.tape.trans h.tape, k.output.trans h.output, Nat.le_trans h.size k.size, fun i hi hne => (k.block i (Nat.lt_of_lt_of_le hi h.size) hne).trans (h.block i hi hne)⟩
theorem grefl (w : World) (row : Option Nat) : w.grownBy w row := ⟨rfl, rfl, rfl, Nat.le_refl _, fun _ _ _ => rfl⟩
theorem gbelow {w w' : World} (h : Below w.heap.size w w') (row : Option Nat) : w.grownBy w' row := ⟨h.os, h.tape, h.output, h.size, fun i hi _ => h.block i hi⟩
/-- As a call's step, from a number of blocks on. -/
def Step (B p : Nat) (w w' : World) : Prop := w'.os = w.os ∧ w'.tape = w.tape ∧ w'.output = w.output ∧ w.heap.size ≤ w'.heap.size ∧ ∀ k, k < B → k ≠ p → w'.heap[k]? = w.heap[k]?
theorem Step.refl (B p : Nat) (w : World) : Step B p w w := ⟨rfl, rfl, rfl, Nat.le_refl _, fun _ _ _ => rfl⟩
theorem Step.trans {B p : Nat} {a b c : World} (h : Step B p a b) (k : Step B p b c) : Step B p a c :=
  ⟨k.1.trans h.1, k.2.1.trans h.2.1, k.2.2.1.trans h.2.2.1, Nat.le_trans h.2.2.2.1 k.2.2.2.1, fun i hi hp => (k.2.2.2.2 i hi hp).trans (h.2.2.2.2 i hi hp)⟩
theorem Step.mono {B B' p : Nat} {w w' : World} (h : Step B p w w') (hB : B' ≤ B) : Step B' p w w' := ⟨h.1, h.2.1, h.2.2.1, h.2.2.2.1, fun k hk hp => h.2.2.2.2 k (by omega) hp⟩
theorem Step.size {B p : Nat} {w w' : World} (h : Step B p w w') : w.heap.size ≤ w'.heap.size := h.2.2.2.1
theorem Step.of {B p : Nat} {w w' : World} (h : Below B w w') : Step B p w w' := ⟨h.os, h.tape, h.output, h.size, fun k hk _ => h.block k hk⟩
theorem Step.agree {B p : Nat} {w w' : World} (h : Step B p w w') : Agree (fun k => k < B ∧ k ≠ p) w w' := ⟨h.2.2.2.1, fun k _ hs => h.2.2.2.2 k hs.1 hs.2⟩
theorem Step.put {B p : Nat} {a w : World} (h : Step B p a w) (o : Nat) (v : Value) : Step B p a (w.setCell ⟨p, o, none⟩ v) :=
  h.trans ⟨rfl, rfl, rfl, by simp [World.setCell], fun k _ hp => Below.heap_setCell _ _ _ _ hp⟩
theorem Step.drew {B p : Nat} {a w : World} (h : Step B p a w) : Step B p a w.drew := h.trans ⟨rfl, rfl, rfl, Nat.le_refl _, fun _ _ _ => rfl⟩
theorem Step.drewN {B p : Nat} {a w : World} (h : Step B p a w) (n : Nat) : Step B p a (w.drewN n) := h.trans ⟨rfl, rfl, rfl, Nat.le_refl _, fun _ _ _ => rfl⟩
theorem drew_agree (S : Nat → Prop) (w : World) : Agree S w w.drew := ⟨Nat.le_refl _, fun _ _ _ => rfl⟩
theorem drewN_agree (S : Nat → Prop) (w : World) (n : Nat) : Agree S w (w.drewN n) := ⟨Nat.le_refl _, fun _ _ _ => rfl⟩
theorem Step.alloc {B p : Nat} {a w : World} (h : Step B p a w) (hB : B ≤ w.heap.size) (o : Obj) : Step B p a (w.alloc o) :=
  h.trans ⟨rfl, rfl, rfl, by simp, fun k hk _ => Below.heap_alloc _ _ _ (by omega)⟩
theorem Step.grown {B p : Nat} {a w w' : World} {row : Option Nat} (h : Step B p a w) (hg : w.grownBy w' row) (hB : B ≤ w.heap.size) (hr : ∀ k, row = some k → B ≤ k) : Step B p a w' :=
  h.trans ⟨hg.os, hg.tape, hg.output, hg.size, fun k hk _ => hg.block k (by omega) (fun e => by have := hr k e.symm; omega)⟩
/-! Lists of the call's own. -/
section
variable {α : Type} {T : TypeId} {sz : Nat} {cs : α → List Value}
/-- A slice of rows that the call made, from a number of blocks on. -/
def OwnL (T : TypeId) (sz : Nat) (cs : α → List Value) (N : Nat) (w : World) (A : Option Addr) (c : Nat) (l : List α) : Prop := w.ownsRow N T sz (.slice A l.length c) l.length (l.flatMap cs)
theorem flat_at (hc : ∀ x, (cs x).length = sz) (l : List α) (k j : Nat) (hk : k < l.length) (hj : j < sz) : (l.flatMap cs)[k * sz + j]? = (cs l[k])[j]? := by
  induction l generalizing k with
  | nil => cases hk
  | cons t l ih =>
    rw [List.flatMap_cons]
    cases k with
    | zero =>
      rw [List.getElem?_append_left (by rw [hc]; omega)]
      simp
    | succ k =>
      rw [List.getElem?_append_right (by rw [hc, Nat.succ_mul]; omega), hc, show (k + 1) * sz + j - sz = k * sz + j by rw [Nat.succ_mul]; omega, ih k (by simpa using hk)]
      simp
theorem OwnL.nil {N : Nat} {w : World} : OwnL T sz cs N w none 0 ([] : List α) := World.ownsRow_nil _ _ _ _
theorem OwnL.lo {N : Nat} {w : World} {A : Option Addr} {c : Nat} {l : List α} (h : OwnL T sz cs N w A c l) : ∀ k, Value.ownBlock (.slice A l.length c) = some k → N ≤ k ∧ k < w.heap.size := World.ownsRow.lt h
theorem OwnL.less {N N' : Nat} {w : World} {A : Option Addr} {c : Nat} {l : List α} (h : OwnL T sz cs N w A c l) (hN : N' ≤ N) : OwnL T sz cs N' w A c l := by
  obtain ⟨h1, h2 | ⟨g, cap, cur, h2, h3, h4⟩⟩ := h
  · exact ⟨h1, .inl h2⟩
  · exact ⟨h1, .inr ⟨g, cap, cur, h2, Nat.le_trans hN h3, h4⟩⟩
/-- It stays as long as its own block does. -/
theorem OwnL.held {N : Nat} {w : World} {A : Option Addr} {c : Nat} {l : List α} (h : OwnL T sz cs N w A c l) : Held (fun k => Value.ownBlock (.slice A l.length c) = some k) w fun w => OwnL T sz cs N w A c l := by
  intro w' hw
  obtain ⟨h1, h2 | ⟨g, cap, cur, h2, h3, h4, h5⟩⟩ := h
  · exact ⟨h1, .inl h2⟩
  · refine ⟨h1, .inr ⟨g, cap, cur, h2, h3, ?_, h5⟩⟩
    rw [hw.2 g (Array.getElem?_eq_some_iff.1 h4).1 (by rw [h2]; rfl)]
    exact h4
theorem OwnL.step {N : Nat} {w w' : World} {A : Option Addr} {c p : Nat} {l : List α} (h : OwnL T sz cs N w A c l) (hs : Step w.heap.size p w w') (hp : p < N) : OwnL T sz cs N w' A c l :=
  h.held w' (hs.agree.weak fun k hk e => ⟨hk, by have := (h.lo k e).1; omega⟩)
theorem OwnL.below {N : Nat} {w w' : World} {A : Option Addr} {c : Nat} {l : List α} (h : OwnL T sz cs N w A c l) (hs : Below w.heap.size w w') : OwnL T sz cs N w' A c l :=
  h.held w' ((below_agree hs).weak fun k hk e => hk)
theorem OwnL.form {N : Nat} {w : World} {A : Option Addr} {c : Nat} {l : List α} (h : OwnL T sz cs N w A c l) (hc : ∀ x, (cs x).length = sz) : l.length ≤ 9223372036854775807 ∧ (l = [] ∨ ∃ g, A = some ⟨g, 0, none⟩ ∧ N ≤ g ∧ g < w.heap.size ∧ ∀ k j, (hk : k < l.length) → j < sz → w.cell? ⟨g, k * sz + j, none⟩ = (cs l[k])[j]?) := by
  cases l with
  | nil => exact ⟨by simp, .inl rfl⟩
  | cons x l =>
    obtain ⟨g, cap, e, hb, hlt⟩ := World.ownsRow.form h (by simp)
    simp only [Value.slice.injEq, true_and] at e
    obtain ⟨rfl, rfl⟩ := e
    constructor
    · obtain ⟨_, ⟨h2, _⟩ | ⟨g', cap', cur, h2, h3, h4, h5, h6, _⟩⟩ := h
      · cases h2
      · unfold maxLen at h6
        omega
    · refine .inr ⟨g, rfl, hb, hlt, fun k j hk hj => ?_⟩
      have : k * sz + j < (x :: l).length * sz := by
        have := Nat.mul_le_mul_right sz (show k + 1 ≤ (x :: l).length from hk)
        rw [Nat.succ_mul] at this
        omega
      rw [World.ownsRow.cellAt h _ this]
      exact flat_at hc _ k j hk hj
/-- Behind an append of one row. -/
theorem own_more {N : Nat} {w : World} {g c n : Nat} {l : List α} {x : α} (h : w.ownsRow N T sz (.slice (some ⟨g, 0, none⟩) (n + 1) c) (n + 1) (l.flatMap cs ++ cs x)) (hn : l.length = n) : OwnL T sz cs N w (some ⟨g, 0, none⟩) c (l ++ [x]) := by
  unfold OwnL
  have e : (l ++ [x]).length = n + 1 := by simp [hn]
  rw [e, List.flatMap_append]
  simpa using h
end
/-! The rows that there are. -/
def strC (s : ByteArray) : List Value := [.string s]
def intC (n : Int) : List Value := [.int .i64 n]
def insC (x : Ins × InsV) : List Value := (insR x.1 x.2).toList
def blkC (x : Blk × BlkV) : List Value := (blkR x.1 x.2).toList
theorem opC_len (x : Opn) : (Opn.cs x).length = 4 := rfl
theorem rgC_len (x : Rg) : (Rg.cs x).length = 2 := rfl
theorem strC_len (x : ByteArray) : (strC x).length = 1 := rfl
theorem intC_len (x : Int) : (intC x).length = 1 := rfl
theorem insC_len (x : Ins × InsV) : (insC x).length = 10 := rfl
theorem blkC_len (x : Blk × BlkV) : (blkC x).length = 4 := rfl
section
variable {T : TypeId} {N : Nat} {w : World} {A : Option Addr} {c : Nat}
theorem OwnL.ops {l : List Opn} (h : OwnL T 4 Opn.cs N w A c l) : IsOps w A l.length l := by
  obtain ⟨h1, h2⟩ := h.form opC_len
  refine ⟨rfl, h1, h2.imp id ?_⟩
  rintro ⟨g, rfl, _, h3, h4⟩
  exact ⟨g, 0, rfl, h3, fun k hk => ⟨by rw [Nat.zero_add]; exact h4 k 0 hk (by decide), by rw [Nat.zero_add]; exact h4 k 1 hk (by decide), by rw [Nat.zero_add]; exact h4 k 2 hk (by decide), by rw [Nat.zero_add]; exact h4 k 3 hk (by decide)⟩⟩
theorem OwnL.rgs {l : List Rg} (h : OwnL T 2 Rg.cs N w A c l) : IsRegs w A l.length l := by
  obtain ⟨h1, h2⟩ := h.form rgC_len
  refine ⟨rfl, h1, h2.imp id ?_⟩
  rintro ⟨g, rfl, _, h3, h4⟩
  exact ⟨g, 0, rfl, h3, fun k hk => ⟨by rw [Nat.zero_add]; exact h4 k 0 hk (by decide), by rw [Nat.zero_add]; exact h4 k 1 hk (by decide)⟩⟩
theorem OwnL.strs {l : List ByteArray} (h : OwnL T 1 strC N w A c l) : IsStrs w A l.length l := by
  obtain ⟨h1, h2⟩ := h.form strC_len
  refine ⟨rfl, h1, h2.imp id ?_⟩
  rintro ⟨g, rfl, _, h3, h4⟩
  exact ⟨g, 0, rfl, h3, fun k hk => by have := h4 k 0 hk (by decide); rw [Nat.mul_one] at this; rw [Nat.zero_add]; exact this⟩
theorem OwnL.ints {l : List Int} (h : OwnL T 1 intC N w A c l) : IsInts w A l.length l := by
  obtain ⟨h1, h2⟩ := h.form intC_len
  refine ⟨rfl, h1, h2.imp id ?_⟩
  rintro ⟨g, rfl, _, h3, h4⟩
  exact ⟨g, 0, rfl, h3, fun k hk => by have := h4 k 0 hk (by decide); rw [Nat.mul_one] at this; rw [Nat.zero_add]; exact this⟩
def insR0 : InsV := ⟨none, 0, 0, none, 0, 0, none, 0, 0⟩
def blkR0 : BlkV := ⟨none, 0, 0, none, 0, 0, fun _ => insR0⟩
def viewI (l : List (Ins × InsV)) (k : Nat) : InsV := match l[k]? with | some x => x.2 | none => insR0
def viewB (l : List (Blk × BlkV)) (k : Nat) : BlkV := match l[k]? with | some x => x.2 | none => blkR0
theorem viewI_at {l : List (Ins × InsV)} {k : Nat} (h : k < l.length) : viewI l k = l[k].2 := by unfold viewI; rw [List.getElem?_eq_getElem h]
theorem viewB_at {l : List (Blk × BlkV)} {k : Nat} (h : k < l.length) : viewB l k = l[k].2 := by unfold viewB; rw [List.getElem?_eq_getElem h]
theorem OwnL.code {l : List (Ins × InsV)} (h : OwnL T 10 insC N w A c l) (he : ∀ x ∈ l, IsIns w x.1 x.2) : IsCode w A l.length (viewI l) (l.map (·.1)) := by
  obtain ⟨h1, h2⟩ := h.form insC_len
  refine ⟨by simp, h1, h2.imp (by rintro rfl; rfl) ?_, fun k hk => ?_⟩
  · rintro ⟨g, rfl, _, h3, h4⟩
    refine ⟨g, 0, rfl, h3, fun k hk => ?_⟩
    have hk' : k < l.length := by simpa using hk
    rw [viewI_at hk', Nat.zero_add, List.getElem_map]
    exact ⟨h4 k 0 hk' (by decide), h4 k 1 hk' (by decide), h4 k 2 hk' (by decide), h4 k 3 hk' (by decide), h4 k 4 hk' (by decide), h4 k 5 hk' (by decide), h4 k 6 hk' (by decide), h4 k 7 hk' (by decide), h4 k 8 hk' (by decide), h4 k 9 hk' (by decide)⟩
  · have hk' : k < l.length := by simpa using hk
    rw [viewI_at hk', List.getElem_map]
    exact he _ (List.getElem_mem hk')
theorem OwnL.blks {l : List (Blk × BlkV)} (h : OwnL T 4 blkC N w A c l) (he : ∀ x ∈ l, IsBlk w x.1 x.2) : IsBlks w A l.length (viewB l) (l.map (·.1)) := by
  obtain ⟨h1, h2⟩ := h.form blkC_len
  refine ⟨by simp, h1, h2.imp (by rintro rfl; rfl) ?_, fun k hk => ?_⟩
  · rintro ⟨g, rfl, _, h3, h4⟩
    refine ⟨g, 0, rfl, h3, fun k hk => ?_⟩
    have hk' : k < l.length := by simpa using hk
    rw [viewB_at hk', Nat.zero_add, List.getElem_map]
    exact ⟨h4 k 0 hk' (by decide), h4 k 1 hk' (by decide), h4 k 2 hk' (by decide), h4 k 3 hk' (by decide)⟩
  · have hk' : k < l.length := by simpa using hk
    rw [viewB_at hk', List.getElem_map]
    exact he _ (List.getElem_mem hk')
end
end Go.Proofs.Ytojfbcfbnadboaa
