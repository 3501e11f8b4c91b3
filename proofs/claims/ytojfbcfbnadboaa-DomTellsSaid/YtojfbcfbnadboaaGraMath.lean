/- Graphs as lists of lists: what is reached, in which order blocks are left (plain). -/
import Derived.Lib.Hide
namespace Go.Proofs.Ytojfbcfbnadboaa.Gra
set_option linter.unusedVariables false

abbrev Gr := List (List Nat)
/-- Where a block goes on. -/
def nx (s : Gr) (i : Nat) : List Nat := s.getD i []
/-- Blocks go on with blocks that there are. -/
def Ok (s : Gr) : Prop := ∀ i, ∀ j ∈ nx s i, j < s.length
/-- A way from one block to another one, on which none of some blocks stands. -/
inductive Rch (s : Gr) (wo : Nat → Prop) (a : Nat) : Nat → Prop
  | refl : a < s.length → ¬ wo a → Rch s wo a a
  | step {b c : Nat} : Rch s wo a b → c ∈ nx s b → ¬ wo c → Rch s wo a c
theorem nx_lt {s : Gr} {i j : Nat} (h : j ∈ nx s i) : i < s.length := by
  unfold nx at h
  rw [List.getD_eq_getElem?_getD] at h
  by_cases hi : i < s.length
  · exact hi
  · rw [List.getElem?_eq_none (by omega)] at h
    cases h
theorem Rch.lt {s : Gr} (hs : Ok s) {wo : Nat → Prop} {a b : Nat} (h : Rch s wo a b) : b < s.length := by
  cases h with
  | refl h _ => exact h
  | step _ h _ => exact hs _ _ h
theorem Rch.no {s : Gr} {wo : Nat → Prop} {a b : Nat} (h : Rch s wo a b) : ¬ wo b := by
  cases h with
  | refl _ h => exact h
  | step _ _ h => exact h
theorem Rch.from_lt {s : Gr} {wo : Nat → Prop} {a b : Nat} (h : Rch s wo a b) : a < s.length ∧ ¬ wo a := by
  induction h with
  | refl h1 h2 => exact ⟨h1, h2⟩
  | step _ _ _ ih => exact ih
/-- A step ahead of a way. -/
theorem Rch.head {s : Gr} {wo : Nat → Prop} {k a b : Nat} (h : Rch s wo a b) (hk : a ∈ nx s k) (hw : ¬ wo k) : Rch s wo k b := by
  induction h with
  | refl h1 h2 => exact .step (.refl (nx_lt hk) hw) hk h2
  | step _ h2 h3 ih => exact .step ih h2 h3
/-- What holds of the end, and of whatever goes on with one of which it holds, holds of the beginning. -/
theorem Rch.back {s : Gr} {wo : Nat → Prop} {P : Nat → Prop} {a b : Nat} (h : Rch s wo a b) (hb : P b) (hP : ∀ x y, y ∈ nx s x → ¬ wo x → P y → P x) : P a := by
  induction h with
  | refl _ _ => exact hb
  | step h1 h2 h3 ih => exact ih (hP _ _ h2 h1.no hb)
/-- What holds of the beginning, and of whatever one goes on with of which it holds, holds of the end. -/
theorem Rch.along {s : Gr} {wo : Nat → Prop} {P : Nat → Prop} {a b : Nat} (h : Rch s wo a b) (ha : P a) (hP : ∀ x y, y ∈ nx s x → ¬ wo y → P x → P y) : P b := by
  induction h with
  | refl _ _ => exact ha
  | step h1 h2 h3 ih => exact hP _ _ h2 h3 ih
/-! The document's way: rounds. -/
def at_ (sn : List Bool) (i : Nat) : Bool := sn.getD i false
theorem at_set (sn : List Bool) (i j : Nat) (hi : i < sn.length) : at_ (sn.set i true) j = (decide (i = j) || at_ sn j) := by
  unfold at_
  rw [List.getD_eq_getElem?_getD, List.getD_eq_getElem?_getD, List.getElem?_set]
  by_cases h : i = j
  · subst h; simp [hi]
  · simp [h]
def mark (wo : Int) (sn : List Bool) (j : Nat) : List Bool := if (j : Int) = wo then sn else sn.set j true
def rel1 (s : Gr) (wo : Int) (sn : List Bool) (i : Nat) : List Bool := if at_ sn i = true then (nx s i).foldl (mark wo) sn else sn
def rnd (s : Gr) (wo : Int) (sn : List Bool) : List Bool := (List.range s.length).foldl (rel1 s wo) sn
def rnds (s : Gr) (wo : Int) : Nat → List Bool → List Bool
  | 0, sn => sn
  | n + 1, sn => rnds s wo n (rnd s wo sn)
/-- As many as the first, and whatever is in the first. -/
def Le (a b : List Bool) : Prop := a.length = b.length ∧ ∀ i, at_ a i = true → at_ b i = true
theorem Le.refl (a : List Bool) : Le a a := ⟨rfl, fun _ h => h⟩
theorem Le.trans {a b c : List Bool} (h : Le a b) (k : Le b c) : Le a c := ⟨h.1.trans k.1, fun i hi => k.2 i (h.2 i hi)⟩
theorem mark_le (wo : Int) (sn : List Bool) (j : Nat) : Le sn (mark wo sn j) := by
  unfold mark
  split
  · exact Le.refl _
  · refine ⟨by simp, fun i hi => ?_⟩
    by_cases hj : j < sn.length
    · rw [at_set sn j i hj, hi, Bool.or_true]
    · rw [List.set_eq_of_length_le (by omega)]; exact hi
theorem fold_le {α : Type} (f : List Bool → α → List Bool) (hf : ∀ sn x, Le sn (f sn x)) : ∀ (l : List α) (sn : List Bool), Le sn (l.foldl f sn)
  | [], sn => Le.refl sn
  | x :: l, sn => (hf sn x).trans (fold_le f hf l (f sn x))
theorem rel1_le (s : Gr) (wo : Int) (sn : List Bool) (i : Nat) : Le sn (rel1 s wo sn i) := by
  unfold rel1
  split
  · exact fold_le _ (mark_le wo) _ _
  · exact Le.refl _
theorem rnd_le (s : Gr) (wo : Int) (sn : List Bool) : Le sn (rnd s wo sn) := fold_le _ (rel1_le s wo) _ _
theorem rnds_le (s : Gr) (wo : Int) : ∀ (n : Nat) (sn : List Bool), Le sn (rnds s wo n sn)
  | 0, sn => Le.refl sn
  | n + 1, sn => (rnd_le s wo sn).trans (rnds_le s wo n _)
/-- A property of blocks that steps keep. -/
theorem fold_inv {α : Type} {P : List Bool → Prop} (f : List Bool → α → List Bool) : ∀ (l : List α) (sn : List Bool), (∀ x ∈ l, ∀ sn, P sn → P (f sn x)) → P sn → P (l.foldl f sn)
  | [], sn, _, h => h
  | x :: l, sn, hf, h => fold_inv f l (f sn x) (fun y hy => hf y (List.mem_cons_of_mem _ hy)) (hf x (List.mem_cons_self ..) sn h)
def Sound (s : Gr) (wo : Int) (a : Nat) (sn : List Bool) : Prop := sn.length = s.length ∧ ∀ i, at_ sn i = true → Rch s (fun k => (k : Int) = wo) a i
theorem rel1_sound {s : Gr} {wo : Int} {a : Nat} {sn : List Bool} (hs : Ok s) (h : Sound s wo a sn) (i : Nat) : Sound s wo a (rel1 s wo sn i) := by
  unfold rel1
  split
  · rename_i hi
    have hr := h.2 i hi
    refine fold_inv (P := Sound s wo a) (mark wo) (nx s i) sn (fun j hj sn' h' => ?_) h
    unfold mark
    split
    · exact h'
    · rename_i hw
      refine ⟨by simpa using h'.1, fun k hk => ?_⟩
      rw [at_set sn' j k (by rw [h'.1]; exact hs _ _ hj), Bool.or_eq_true, decide_eq_true_eq] at hk
      rcases hk with rfl | hk
      · exact .step hr hj hw
      · exact h'.2 k hk
  · exact h
theorem rnd_sound {s : Gr} {wo : Int} {a : Nat} {sn : List Bool} (hs : Ok s) (h : Sound s wo a sn) : Sound s wo a (rnd s wo sn) :=
  fold_inv (P := Sound s wo a) (rel1 s wo) (List.range s.length) sn (fun i _ sn' h' => rel1_sound hs h' i) h
theorem rnds_sound {s : Gr} {wo : Int} {a : Nat} (hs : Ok s) : ∀ (n : Nat) (sn : List Bool), Sound s wo a sn → Sound s wo a (rnds s wo n sn)
  | 0, _, h => h
  | n + 1, sn, h => rnds_sound hs n _ (rnd_sound hs h)
/-- How many are marked. -/
def cnt (sn : List Bool) : Nat := sn.countP fun x => x
theorem cnt_le (sn : List Bool) : cnt sn ≤ sn.length := List.countP_le_length
theorem le_cnt : ∀ (a b : List Bool), Le a b → cnt a ≤ cnt b ∧ (cnt a = cnt b → a = b)
  | [], [], _ => ⟨Nat.le_refl _, fun _ => rfl⟩
  | [], _ :: _, h => by cases h.1
  | _ :: _, [], h => by cases h.1
  | x :: a, y :: b, h => by
    have h0 := h.2 0
    have hr : Le a b := ⟨by have := h.1; simpa using this, fun i hi => by have := h.2 (i + 1); simpa [at_] using this (by simpa [at_] using hi)⟩
    have ih := le_cnt a b hr
    have hxy : x = true → y = true := by simpa [at_] using h0
    unfold cnt at *
    rw [List.countP_cons, List.countP_cons]
    cases x <;> cases y <;> simp at hxy ⊢
    · exact ⟨ih.1, fun e => ih.2 e⟩
    · exact ⟨by omega, fun e => by omega⟩
    · exact ⟨ih.1, fun e => ih.2 e⟩
/-- Nothing new comes of a round: so whatever is gone on with is marked. -/
theorem fold_stay {α : Type} (f : List Bool → α → List Bool) (hf : ∀ sn x, Le sn (f sn x)) : ∀ (l : List α) (sn : List Bool), l.foldl f sn = sn → ∀ x ∈ l, f sn x = sn
  | [], _, _, x, hx => by cases hx
  | y :: l, sn, h, x, hx => by
    have h1 := hf sn y
    have h2 := fold_le f hf l (f sn y)
    have e : f sn y = sn := by
      have h3 : l.foldl f (f sn y) = sn := h
      rw [h3] at h2
      have h4 := le_cnt _ _ h1
      have h5 := le_cnt _ _ h2
      exact h5.2 (by omega)
    rcases List.mem_cons.1 hx with rfl | hx
    · exact e
    · have h3 : l.foldl f (f sn y) = sn := h
      rw [e] at h3
      exact fold_stay f hf l sn h3 x hx
theorem stay_closed {s : Gr} {wo : Int} {sn : List Bool} (hs : Ok s) (hl : sn.length = s.length) (h : rnd s wo sn = sn) : ∀ x y, y ∈ nx s x → ¬ (y : Int) = wo → at_ sn x = true → at_ sn y = true := by
  intro x y hy hw hx
  have h1 := fold_stay (rel1 s wo) (rel1_le s wo) (List.range s.length) sn h x (List.mem_range.2 (nx_lt hy))
  unfold rel1 at h1
  rw [if_pos hx] at h1
  have h2 := fold_stay (mark wo) (mark_le wo) (nx s x) sn h1 y hy
  unfold mark at h2
  rw [if_neg hw] at h2
  have h3 := at_set sn y y (by rw [hl]; exact hs _ _ hy)
  rw [h2] at h3
  simpa using h3
theorem rnds_stay {s : Gr} {wo : Int} {sn : List Bool} (h : rnd s wo sn = sn) : ∀ n, rnds s wo n sn = sn
  | 0 => rfl
  | n + 1 => by show rnds s wo n (rnd s wo sn) = sn; rw [h]; exact rnds_stay h n
/-- So many rounds, and either each has brought one more, or nothing comes any more. -/
theorem rnds_end (s : Gr) (wo : Int) : ∀ (n : Nat) (sn : List Bool), cnt sn + n ≤ cnt (rnds s wo n sn) ∨ rnd s wo (rnds s wo n sn) = rnds s wo n sn
  | 0, sn => .inl (Nat.le_refl _)
  | n + 1, sn => by
    show cnt sn + (n + 1) ≤ cnt (rnds s wo n (rnd s wo sn)) ∨ rnd s wo (rnds s wo n (rnd s wo sn)) = rnds s wo n (rnd s wo sn)
    have h1 := le_cnt _ _ (rnd_le s wo sn)
    by_cases e : cnt sn = cnt (rnd s wo sn)
    · right
      have e2 := (h1.2 e).symm
      rw [e2, rnds_stay e2, e2]
    · rcases rnds_end s wo n (rnd s wo sn) with h | h
      · left; omega
      · exact .inr h
/-- Which are reached, as the document says it. -/
def reach (s : Gr) (a wo : Int) : List Bool :=
  if a < 0 ∨ (s.length : Int) ≤ a ∨ a = wo then List.replicate s.length false else rnds s wo s.length ((List.replicate s.length false).set a.toNat true)
theorem at_rep (n i : Nat) : at_ (List.replicate n false) i = false := by
  unfold at_
  rw [List.getD_eq_getElem?_getD, List.getElem?_replicate]
  split <;> rfl
theorem reach_len (s : Gr) (a wo : Int) : (reach s a wo).length = s.length := by
  unfold reach
  split
  · simp
  · rw [← (rnds_le s wo s.length _).1]; simp
theorem reach_iff {s : Gr} (hs : Ok s) (a : Nat) (wo : Int) (b : Nat) : at_ (reach s a wo) b = true ↔ Rch s (fun k => (k : Int) = wo) a b := by
  unfold reach
  split
  · rename_i h
    rw [at_rep]
    refine ⟨fun e => (by cases e), fun e => ?_⟩
    have := e.from_lt
    have h2 : ¬ (a : Int) = wo := this.2
    omega
  · rename_i h
    have ha : a < s.length := by omega
    have e : (a : Int).toNat = a := by omega
    rw [e]
    have h0 : Sound s wo a ((List.replicate s.length false).set a true) := by
      refine ⟨by simp, fun i hi => ?_⟩
      rw [at_set _ a i (by simpa using ha), at_rep, Bool.or_false, decide_eq_true_eq] at hi
      subst hi
      exact .refl ha (by show ¬ (a : Int) = wo; omega)
    have hsn := rnds_sound hs s.length _ h0
    refine ⟨fun e => hsn.2 b e, fun e => ?_⟩
    have hst : rnd s wo (rnds s wo s.length ((List.replicate s.length false).set a true)) = rnds s wo s.length ((List.replicate s.length false).set a true) := by
      rcases rnds_end s wo s.length ((List.replicate s.length false).set a true) with h1 | h1
      · exfalso
        have h2 := cnt_le (rnds s wo s.length ((List.replicate s.length false).set a true))
        rw [hsn.1] at h2
        have h3 : 0 < cnt ((List.replicate s.length false).set a true) := by
          unfold cnt
          refine List.countP_pos_iff.2 ⟨true, List.mem_iff_getElem?.2 ⟨a, ?_⟩, rfl⟩
          rw [List.getElem?_set]
          simp [ha]
        omega
      · exact h1
    refine e.along (P := fun i => at_ (rnds s wo s.length ((List.replicate s.length false).set a true)) i = true) ?_ (fun x y hy hw hx => stay_closed hs hsn.1 hst x y hy hw hx)
    refine (rnds_le s wo s.length _).2 a ?_
    rw [at_set _ a a (by simpa using ha)]
    simp
end Go.Proofs.Ytojfbcfbnadboaa.Gra
