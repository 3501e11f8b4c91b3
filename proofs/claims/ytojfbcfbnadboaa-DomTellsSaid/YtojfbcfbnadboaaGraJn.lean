
/- Blocks are joined one behind the other: what is told of each then (plain). -/
import Derived.Test.YtojfbcfbnadboaaGraSuc
namespace Go.Proofs.Ytojfbcfbnadboaa.Gra
set_option linter.unusedVariables false

def upd {β : Type} (f : Nat → β) (i : Nat) (x : β) : Nat → β := fun k => if k = i then x else f k
theorem upd_same {β : Type} (f : Nat → β) (i : Nat) (x : β) : upd f i x i = x := if_pos rfl
theorem upd_else {β : Type} (f : Nat → β) {i k : Nat} (x : β) (h : k ≠ i) : upd f i x k = f k := if_neg h
/-- Just the blocks up to one were joined with others; and whom these go on with knows it. -/
structure JI (n i : Nat) (S P : Nat → List Nat) : Prop where
  hi : ∀ k, i < k → k < n → S k = []
  pr : ∀ t, t < n → P t = (List.range n).filter fun k => decide (t ∈ S k)
theorem range_cut {n i : Nat} (h : i < n) : List.range n = List.range i ++ i :: (List.range (n - i - 1)).map (fun k => i + 1 + k) := by
  have e : n = (i + 1) + (n - i - 1) := by omega
  have h1 : List.range ((i + 1) + (n - i - 1)) = List.range n := by rw [← e]
  rw [← h1, List.range_add, List.range_succ, List.append_assoc]
  rfl
theorem filt_none {l : List Nat} {p : Nat → Bool} (h : ∀ x ∈ l, p x = false) : l.filter p = [] := by
  rw [List.filter_eq_nil_iff]
  intro x hx hp
  rw [h x hx] at hp
  cases hp
theorem JI.start {n : Nat} {S P : Nat → List Nat} (hS : ∀ k, k < n → S k = []) (hP : ∀ t, t < n → P t = []) : JI n 0 S P :=
  ⟨fun k _ hk => hS k hk, fun t ht => by rw [hP t ht, filt_none]; intro x hx; rw [hS x (List.mem_range.1 hx)]; simp⟩
theorem JI.next {n i : Nat} {S P : Nat → List Nat} (h : JI n i S P) : JI n (i + 1) S P := ⟨fun k hk => h.hi k (by omega), h.pr⟩
theorem JI.same {n i : Nat} {S P S' P' : Nat → List Nat} (h : JI n i S P) (hS : ∀ k, k < n → S' k = S k) (hP : ∀ t, t < n → P' t = P t) : JI n i S' P' :=
  ⟨fun k hk hn => by rw [hS k hn]; exact h.hi k hk hn, fun t ht => by rw [hP t ht, h.pr t ht]; exact List.filter_congr fun x hx => by rw [hS x (List.mem_range.1 hx)]⟩
theorem JI.add {n i j : Nat} {S P S' P' : Nat → List Nat} (h : JI n i S P) (hin : i < n) (hj : j ∉ S i) (hjn : j < n) (hS : ∀ k, k < n → S' k = if k = i then S i ++ [j] else S k) (hP : ∀ t, t < n → P' t = if t = j then P j ++ [i] else P t) : JI n i S' P' := by
  have hhi : ∀ k, i < k → k < n → S' k = [] := fun k hk hn => by rw [hS k hn, if_neg (by omega)]; exact h.hi k hk hn
  refine ⟨hhi, fun t ht => ?_⟩
  have hr : ∀ S' : Nat → List Nat, (∀ k, i < k → k < n → S' k = []) → ((List.range (n - i - 1)).map (fun k => i + 1 + k)).filter (fun k => decide (t ∈ S' k)) = [] := fun S' hS => filt_none fun x hx => by
    obtain ⟨k, hk, rfl⟩ := List.mem_map.1 hx
    rw [hS _ (by omega) (by have := List.mem_range.1 hk; omega)]
    simp
  have hl : (List.range i).filter (fun k => decide (t ∈ S' k)) = (List.range i).filter (fun k => decide (t ∈ S k)) := List.filter_congr fun x hx => by
    have := List.mem_range.1 hx
    rw [hS x (by omega), if_neg (by omega)]
  rw [range_cut hin, List.filter_append, List.filter_cons, hr _ hhi, hl, hS i hin, if_pos rfl]
  have hPt := h.pr t ht
  rw [range_cut hin, List.filter_append, List.filter_cons, hr _ h.hi] at hPt
  rw [hP t ht]
  by_cases htj : t = j
  · subst htj
    rw [if_pos rfl, hPt]
    have e1 : decide (t ∈ S i) = false := by simpa using hj
    have e2 : decide (t ∈ S i ++ [t]) = true := by simp
    rw [e1, e2]
    simp
  · rw [if_neg htj, hPt]
    have e : decide (t ∈ S i ++ [j]) = decide (t ∈ S i) := by simp [htj]
    rw [e]
theorem addN_nodup {l : List Nat} {o : Option Nat} (h : l.Nodup) : (addN l o).Nodup := by
  unfold addN
  split
  · exact h
  · split
    · exact h
    · rename_i hn
      rw [List.nodup_append]
      refine ⟨h, by simp, fun a ha b hb => ?_⟩
      rw [List.mem_singleton] at hb
      subst hb
      exact fun e => hn (e ▸ ha)
theorem sucN_nodup (bs : List Blk) (us : List ByteArray) : (sucN bs us).Nodup := by
  unfold sucN
  have : ∀ (us : List ByteArray) (l : List Nat), l.Nodup → (us.foldl (fun l u => addN l (fnd bs u)) l).Nodup := by
    intro us
    induction us with
    | nil => intro l h; exact h
    | cons u us ih => intro l h; exact ih _ (addN_nodup h)
  exact this us [] (by simp)
theorem nodup_len {l : List Nat} {n : Nat} (h : l.Nodup) (hl : ∀ x ∈ l, x < n) : l.length ≤ n := by
  have h1 := List.Nodup.length_le_of_subset h (l₂ := List.range n) (fun x hx => List.mem_range.2 (hl x hx))
  simpa using h1
theorem sucN_lt {bs : List Blk} {us : List ByteArray} {x : Nat} (h : x ∈ sucN bs us) : x < bs.length := by
  rcases sucN_mem us [] h with h | h
  · cases h
  · exact h
theorem sucN_few (bs : List Blk) (us : List ByteArray) : (sucN bs us).length ≤ bs.length := nodup_len (sucN_nodup bs us) fun _ h => sucN_lt h
theorem sucs_few (bs : List Blk) (k : Nat) : (nx (sucs bs) k).length ≤ bs.length ∧ (nx (sucs bs) k).Nodup := by
  by_cases hk : k < bs.length
  · rw [sucs_at (List.getElem?_eq_getElem hk)]
    exact ⟨sucN_few _ _, sucN_nodup _ _⟩
  · have e : nx (sucs bs) k = [] := by
      unfold nx
      rw [List.getD_eq_getElem?_getD, List.getElem?_eq_none (by rw [sucs_len]; omega)]
      rfl
    rw [e]
    exact ⟨by simp, by simp⟩
/-- The list of whom each block is gone on with from. -/
def prs (s : Gr) : Gr := (List.range s.length).map (preds s)
theorem prs_len (s : Gr) : (prs s).length = s.length := by unfold prs; simp
theorem prs_at (s : Gr) {t : Nat} (h : t < s.length) : nx (prs s) t = preds s t := by
  unfold nx prs
  rw [List.getD_eq_getElem?_getD, List.getElem?_map, List.getElem?_range h]
  rfl
theorem preds_mem {s : Gr} {t k : Nat} : k ∈ preds s t ↔ t ∈ nx s k := by
  unfold preds
  rw [List.mem_filter, List.mem_range, decide_eq_true_eq]
  exact ⟨fun h => h.2, fun h => ⟨nx_lt h, h⟩⟩
theorem prs_mem {s : Gr} (hs : Ok s) {t k : Nat} : k ∈ nx (prs s) t ↔ t ∈ nx s k := by
  by_cases ht : t < s.length
  · rw [prs_at s ht]; exact preds_mem
  · refine ⟨fun h => ?_, fun h => (ht (hs _ _ h)).elim⟩
    have := nx_lt h
    rw [prs_len] at this
    exact (ht this).elim
theorem prs_ok {s : Gr} (hs : Ok s) : Ok (prs s) := fun i j hj => by
  rw [prs_len]
  exact nx_lt ((prs_mem hs).1 hj)
theorem prs_few (s : Gr) (t : Nat) : (nx (prs s) t).length ≤ s.length := by
  by_cases ht : t < s.length
  · rw [prs_at s ht]
    unfold preds
    have := List.length_filter_le (fun k => decide (t ∈ nx s k)) (List.range s.length)
    simpa using this
  · have e : nx (prs s) t = [] := by
      unfold nx
      rw [List.getD_eq_getElem?_getD, List.getElem?_eq_none (by rw [prs_len]; omega)]
      rfl
    rw [e]; simp
end Go.Proofs.Ytojfbcfbnadboaa.Gra
