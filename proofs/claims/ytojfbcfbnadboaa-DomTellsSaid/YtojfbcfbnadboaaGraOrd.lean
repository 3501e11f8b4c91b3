/- In which order blocks are left: by calls within calls, and by a row of blocks that were entered (plain). -/
import Derived.Test.YtojfbcfbnadboaaGraMath
namespace Go.Proofs.Ytojfbcfbnadboaa.Gra
set_option linter.unusedVariables false

/-- These are gone to, one behind the other; each that was not entered yet is entered, and left behind all that it enters. -/
inductive Wk (s : Gr) : List Nat → List Bool → List Nat → List Bool → List Nat → Prop
  | nil {sn : List Bool} {out : List Nat} : Wk s [] sn out sn out
  | skip {j : Nat} {l : List Nat} {sn sn' : List Bool} {out out' : List Nat} : at_ sn j = true → Wk s l sn out sn' out' → Wk s (j :: l) sn out sn' out'
  | go {j : Nat} {l : List Nat} {sn sn1 sn' : List Bool} {out out1 out' : List Nat} : at_ sn j = false → Wk s (nx s j) (sn.set j true) out sn1 out1 → Wk s l sn1 (out1 ++ [j]) sn' out' → Wk s (j :: l) sn out sn' out'
theorem Wk.det {s : Gr} {l : List Nat} {sn a b : List Bool} {out c d : List Nat} (h : Wk s l sn out a c) (k : Wk s l sn out b d) : a = b ∧ c = d := by
  induction h generalizing b d with
  | nil => cases k; exact ⟨rfl, rfl⟩
  | skip h1 h2 ih =>
    cases k with
    | skip k1 k2 => exact ih k2
    | go k1 k2 k3 => rw [h1] at k1; cases k1
  | go h1 h2 h3 ih1 ih2 =>
    cases k with
    | skip k1 k2 => rw [h1] at k1; cases k1
    | go k1 k2 k3 =>
      obtain ⟨rfl, rfl⟩ := ih1 k2
      exact ih2 k3
theorem set_le (sn : List Bool) (j : Nat) : Le sn (sn.set j true) := by
  have h := mark_le (-1) sn j
  unfold mark at h
  rw [if_neg (by omega)] at h
  exact h
theorem set_cnt {sn : List Bool} {j : Nat} (hj : j < sn.length) (h : at_ sn j = false) : cnt sn + 1 ≤ cnt (sn.set j true) := by
  have h1 := le_cnt _ _ (set_le sn j)
  by_cases e : cnt sn = cnt (sn.set j true)
  · have e2 := h1.2 e
    have h2 := at_set sn j j hj
    rw [← e2, h] at h2
    simp at h2
  · omega
theorem Wk.le {s : Gr} {l : List Nat} {sn sn' : List Bool} {out out' : List Nat} (h : Wk s l sn out sn' out') : Le sn sn' := by
  induction h with
  | nil => exact Le.refl _
  | skip _ _ ih => exact ih
  | go _ _ _ ih1 ih2 => exact ((set_le _ _).trans ih1).trans ih2
/-- There is such an end. -/
theorem wk_ex {s : Gr} (hs : Ok s) : ∀ (n : Nat) (l : List Nat) (sn : List Bool) (out : List Nat), sn.length = s.length → (∀ j ∈ l, j < s.length) → s.length ≤ cnt sn + n → ∃ sn' out', Wk s l sn out sn' out' := by
  intro n
  induction n with
  | zero =>
    intro l
    induction l with
    | nil => intro sn out _ _ _; exact ⟨sn, out, .nil⟩
    | cons j l ih =>
      intro sn out hl hj hc
      cases hq : at_ sn j with
      | true =>
        obtain ⟨a, b, h⟩ := ih sn out hl (fun x hx => hj x (List.mem_cons_of_mem _ hx)) hc
        exact ⟨a, b, .skip hq h⟩
      | false =>
        have h1 := set_cnt (by rw [hl]; exact hj j (List.mem_cons_self ..)) hq
        have h2 := cnt_le (sn.set j true)
        rw [List.length_set, hl] at h2
        omega
  | succ n ihn =>
    intro l
    induction l with
    | nil => intro sn out _ _ _; exact ⟨sn, out, .nil⟩
    | cons j l ih =>
      intro sn out hl hj hc
      cases hq : at_ sn j with
      | true =>
        obtain ⟨a, b, h⟩ := ih sn out hl (fun x hx => hj x (List.mem_cons_of_mem _ hx)) hc
        exact ⟨a, b, .skip hq h⟩
      | false =>
        have h1 := set_cnt (by rw [hl]; exact hj j (List.mem_cons_self ..)) hq
        obtain ⟨a, b, h⟩ := ihn (nx s j) (sn.set j true) out (by simpa using hl) (fun x hx => hs _ _ hx) (by omega)
        have h2 := h.le
        have h3 := (le_cnt _ _ h2).1
        obtain ⟨c, d, k⟩ := ih a (b ++ [j]) (by rw [← h2.1]; simpa using hl) (fun x hx => hj x (List.mem_cons_of_mem _ hx)) (by omega)
        exact ⟨c, d, .go hq h k⟩
/-- What is new in the row is what was entered. -/
theorem Wk.new {s : Gr} {l : List Nat} {sn sn' : List Bool} {out out' : List Nat} (hs : Ok s) (h : Wk s l sn out sn' out') (hl : sn.length = s.length) (hj : ∀ j ∈ l, j < s.length) : ∃ w, out' = out ++ w ∧ ∀ i, at_ sn' i = true ↔ at_ sn i = true ∨ i ∈ w := by
  induction h with
  | nil => exact ⟨[], by simp, by simp⟩
  | skip _ _ ih => exact ih hl (fun x hx => hj x (List.mem_cons_of_mem _ hx))
  | @go j l sn sn1 sn' out out1 out' h1 h2 h3 ih1 ih2 =>
    have hjl := hj j (List.mem_cons_self ..)
    obtain ⟨w1, rfl, e1⟩ := ih1 (by simpa using hl) (fun x hx => hs _ _ hx)
    have hl1 : sn1.length = s.length := by rw [← h2.le.1]; simpa using hl
    obtain ⟨w2, rfl, e2⟩ := ih2 hl1 (fun x hx => hj x (List.mem_cons_of_mem _ hx))
    refine ⟨w1 ++ [j] ++ w2, by simp, fun i => ?_⟩
    rw [e2, e1, at_set sn j i (by rw [hl]; exact hjl), Bool.or_eq_true, decide_eq_true_eq]
    simp only [List.mem_append, List.mem_singleton]
    constructor
    · rintro (((rfl | h) | h) | h)
      · exact .inr (.inl (.inr rfl))
      · exact .inl h
      · exact .inr (.inl (.inl h))
      · exact .inr (.inr h)
    · rintro (h | (h | rfl) | h)
      · exact .inl (.inl (.inr h))
      · exact .inl (.inr h)
      · exact .inl (.inl (.inl rfl))
      · exact .inr h
/-- What was entered is had from where it began. -/
theorem Wk.sound {s : Gr} {l : List Nat} {sn sn' : List Bool} {out out' : List Nat} {P : Nat → Prop} (h : Wk s l sn out sn' out') (hl : ∀ j ∈ l, P j) (hP : ∀ x y, y ∈ nx s x → P x → P y) (ho : ∀ x ∈ out, P x) : ∀ x ∈ out', P x := by
  induction h with
  | nil => exact ho
  | skip _ _ ih => exact ih (fun x hx => hl x (List.mem_cons_of_mem _ hx)) ho
  | @go j l sn sn1 sn' out out1 out' h1 h2 h3 ih1 ih2 =>
    have hj := hl j (List.mem_cons_self ..)
    refine ih2 (fun x hx => hl x (List.mem_cons_of_mem _ hx)) (fun x hx => ?_)
    rcases List.mem_append.1 hx with hx | hx
    · exact ih1 (fun y hy => hP j y hy hj) ho x hx
    · rw [List.mem_singleton] at hx; rw [hx]; exact hj
/-- Whoever was entered anew goes on with such as were entered. -/
theorem Wk.closed {s : Gr} {l : List Nat} {sn sn' : List Bool} {out out' : List Nat} (hs : Ok s) (h : Wk s l sn out sn' out') (hn : sn.length = s.length) (hj : ∀ j ∈ l, j < s.length) :
    (∀ j ∈ l, at_ sn' j = true) ∧ ∀ x, at_ sn' x = true → at_ sn x = false → ∀ y ∈ nx s x, at_ sn' y = true := by
  induction h with
  | nil => exact ⟨by simp, fun x h1 h2 => by rw [h1] at h2; cases h2⟩
  | skip h1 h2 ih =>
    have h3 := ih hn (fun x hx => hj x (List.mem_cons_of_mem _ hx))
    refine ⟨fun x hx => ?_, h3.2⟩
    rcases List.mem_cons.1 hx with rfl | hx
    · exact h2.le.2 _ h1
    · exact h3.1 x hx
  | @go j l sn sn1 sn' out out1 out' h1 h2 h3 ih1 ih2 =>
    have hjl := hj j (List.mem_cons_self ..)
    have a1 := ih1 (by simpa using hn) (fun x hx => hs _ _ hx)
    have hl1 : sn1.length = s.length := by rw [← h2.le.1]; simpa using hn
    have a2 := ih2 hl1 (fun x hx => hj x (List.mem_cons_of_mem _ hx))
    have hjj : at_ (sn.set j true) j = true := by rw [at_set sn j j (by rw [hn]; exact hjl)]; simp
    refine ⟨fun x hx => ?_, fun x hx hx0 y hy => ?_⟩
    · rcases List.mem_cons.1 hx with rfl | hx
      · exact h3.le.2 _ (h2.le.2 _ hjj)
      · exact a2.1 x hx
    · cases hq : at_ sn1 x with
      | false => exact a2.2 x hx hq y hy
      | true =>
        cases hr : at_ (sn.set j true) x with
        | false => exact h3.le.2 _ (a1.2 x hq hr y hy)
        | true =>
          rw [at_set sn j x (by rw [hn]; exact hjl), hx0, Bool.or_false, decide_eq_true_eq] at hr
          subst hr
          exact h3.le.2 _ (a1.1 y hy)
/-- Blocks as they are left. -/
def IsLeft (s : Gr) (R : List Nat) : Prop := (s = [] ∧ R = []) ∨ (0 < s.length ∧ ∃ sn', Wk s [0] (List.replicate s.length false) [] sn' R)
theorem isLeft_ex {s : Gr} (hs : Ok s) : ∃ R, IsLeft s R := by
  cases hq : s with
  | nil => exact ⟨[], .inl ⟨rfl, rfl⟩⟩
  | cons a l =>
    rw [← hq]
    have h0 : 0 < s.length := by rw [hq]; simp
    obtain ⟨sn', R, h⟩ := wk_ex hs s.length [0] (List.replicate s.length false) [] (by simp) (by simpa using h0) (by omega)
    exact ⟨R, .inr ⟨h0, sn', h⟩⟩
theorem IsLeft.det {s : Gr} {R Q : List Nat} (h : IsLeft s R) (k : IsLeft s Q) : R = Q := by
  rcases h with ⟨rfl, rfl⟩ | ⟨h0, sn, h⟩
  · rcases k with ⟨_, rfl⟩ | ⟨k0, _⟩
    · rfl
    · simp at k0
  · rcases k with ⟨rfl, _⟩ | ⟨_, sn2, k⟩
    · simp at h0
    · exact (h.det k).2
/-- Just those that are reached are left. -/
theorem IsLeft.mem {s : Gr} {R : List Nat} (hs : Ok s) (h : IsLeft s R) (b : Nat) : b ∈ R ↔ Rch s (fun _ => False) 0 b := by
  rcases h with ⟨rfl, rfl⟩ | ⟨h0, sn, h⟩
  · refine ⟨fun h => (by cases h), fun h => ?_⟩
    have := h.from_lt.1
    simp at this
  · have hj : ∀ j ∈ [0], j < s.length := by simpa using h0
    refine ⟨fun hb => h.sound (P := fun i => Rch s (fun _ => False) 0 i) (by simpa using Rch.refl h0 id) (fun x y hy hx => .step hx hy id) (by simp) b hb, fun hb => ?_⟩
    obtain ⟨w, e, hw⟩ := h.new hs (by simp) hj
    have hc := h.closed hs (by simp) hj
    have hb2 := hb.along (P := fun i => at_ sn i = true) (hc.1 0 (by simp)) (fun x y hy _ hx => hc.2 x hx (at_rep _ _) y hy)
    rw [hw, at_rep] at hb2
    rw [e]
    simpa using hb2
/-! By a row of blocks that were entered: what is still to come. -/
inductive Fin_ (s : Gr) : List (Nat × Nat) → List Bool → List Nat → List Nat → Prop
  | done {sn : List Bool} {R : List Nat} : Fin_ s [] sn R R
  | top {b k : Nat} {rest : List (Nat × Nat)} {sn sn1 : List Bool} {out out1 R : List Nat} : Wk s ((nx s b).drop k) sn out sn1 out1 → Fin_ s rest sn1 (out1 ++ [b]) R → Fin_ s ((b, k) :: rest) sn out R
theorem Fin_.pop {s : Gr} {b : Nat} {rest : List (Nat × Nat)} {sn : List Bool} {out R : List Nat} {k : Nat} (h : Fin_ s ((b, k) :: rest) sn out R) (hk : (nx s b).length ≤ k) : Fin_ s rest sn (out ++ [b]) R := by
  cases h with
  | top h1 h2 =>
    rw [List.drop_eq_nil_of_le hk] at h1
    cases h1
    exact h2
theorem Fin_.skip {s : Gr} {b j : Nat} {rest : List (Nat × Nat)} {sn : List Bool} {out R : List Nat} {k : Nat} (h : Fin_ s ((b, k) :: rest) sn out R) (hk : (nx s b)[k]? = some j) (hj : at_ sn j = true) : Fin_ s ((b, k + 1) :: rest) sn out R := by
  obtain ⟨hlt, he⟩ := List.getElem?_eq_some_iff.1 hk
  cases h with
  | top h1 h2 =>
    rw [List.drop_eq_getElem_cons hlt, he] at h1
    cases h1 with
    | skip _ h3 => exact .top h3 h2
    | go h3 _ _ => rw [hj] at h3; cases h3
theorem Fin_.push {s : Gr} {b j : Nat} {rest : List (Nat × Nat)} {sn : List Bool} {out R : List Nat} {k : Nat} (h : Fin_ s ((b, k) :: rest) sn out R) (hk : (nx s b)[k]? = some j) (hj : at_ sn j = false) : Fin_ s ((j, 0) :: (b, k + 1) :: rest) (sn.set j true) out R := by
  obtain ⟨hlt, he⟩ := List.getElem?_eq_some_iff.1 hk
  cases h with
  | top h1 h2 =>
    rw [List.drop_eq_getElem_cons hlt, he] at h1
    cases h1 with
    | skip h3 _ => rw [hj] at h3; cases h3
    | go _ h4 h5 => exact .top h4 (.top h5 h2)
theorem Fin_.end_ {s : Gr} {sn : List Bool} {out R : List Nat} (h : Fin_ s [] sn out R) : out = R := by cases h; rfl
theorem fin_start {s : Gr} {R : List Nat} (h : IsLeft s R) (h0 : 0 < s.length) : Fin_ s [(0, 0)] ((List.replicate s.length false).set 0 true) [] R := by
  rcases h with ⟨rfl, _⟩ | ⟨_, sn, h⟩
  · simp at h0
  · cases h with
    | skip h1 _ => rw [at_rep] at h1; cases h1
    | go _ h2 h3 =>
      cases h3
      exact .top h2 .done
/-- How many rounds there may be still. -/
def uw (s : Gr) (sn : List Bool) (n : Nat) : Nat := ((List.range n).map fun j => if at_ sn j = true then 0 else (nx s j).length + 2).sum
def ww (s : Gr) (way : List (Nat × Nat)) : Nat := (way.map fun p => (nx s p.1).length - p.2 + 1).sum
theorem uw_set {s : Gr} {sn : List Bool} {j : Nat} (hj : j < sn.length) (h : at_ sn j = false) : ∀ n, uw s (sn.set j true) n + (if j < n then (nx s j).length + 2 else 0) = uw s sn n := by
  intro n
  induction n with
  | zero => simp [uw]
  | succ n ih =>
    have e : ∀ sn : List Bool, uw s sn (n + 1) = uw s sn n + (if at_ sn n = true then 0 else (nx s n).length + 2) := fun sn => by
      unfold uw
      rw [List.range_succ, List.map_append, List.sum_append]
      simp
    rw [e, e, at_set sn j n hj]
    by_cases hjn : j = n
    · subst hjn
      rw [h]
      simp at ih ⊢
      omega
    · have h1 : (decide (j = n) || at_ sn n) = at_ sn n := by simp [hjn]
      rw [h1]
      by_cases hlt : j < n
      · rw [if_pos hlt] at ih
        rw [if_pos (show j < n + 1 by omega)]
        omega
      · rw [if_neg hlt] at ih
        rw [if_neg (show ¬ j < n + 1 by omega)]
        omega
end Go.Proofs.Ytojfbcfbnadboaa.Gra
