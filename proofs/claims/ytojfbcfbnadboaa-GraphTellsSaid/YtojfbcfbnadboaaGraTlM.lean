
/- Where each pair of blocks stands among all (plain). -/
import Derived.Test.YtojfbcfbnadboaaGraEdg
namespace Go.Proofs.Ytojfbcfbnadboaa.Gra
set_option linter.unusedVariables false

/-- Which numbers below a bound are of a list. -/
def low (l : List Nat) (j : Nat) : List Nat := (List.range j).filter fun x => decide (x ∈ l)
theorem low_succ_in {l : List Nat} {j : Nat} (h : j ∈ l) : low l (j + 1) = low l j ++ [j] := by unfold low; rw [List.range_succ, List.filter_append]; simp [h]
theorem low_succ_out {l : List Nat} {j : Nat} (h : j ∉ l) : low l (j + 1) = low l j := by unfold low; rw [List.range_succ, List.filter_append]; simp [h]
theorem low_lt (l : List Nat) : ∀ j, (low l j).Pairwise (fun x y => x < y) := fun j => List.Pairwise.filter _ List.pairwise_lt_range
theorem low_mem {l : List Nat} {j x : Nat} : x ∈ low l j ↔ x < j ∧ x ∈ l := by unfold low; rw [List.mem_filter, List.mem_range, decide_eq_true_eq]
theorem lt_ext : ∀ {a b : List Nat}, a.Pairwise (fun x y => x < y) → b.Pairwise (fun x y => x < y) → (∀ x, x ∈ a ↔ x ∈ b) → a = b
  | [], [], _, _, _ => rfl
  | [], y :: b, _, _, h => by have := (h y).2 (by simp); cases this
  | x :: a, [], _, _, h => by have := (h x).1 (by simp); cases this
  | x :: a, y :: b, ha, hb, h => by
    rw [List.pairwise_cons] at ha hb
    have e : x = y := by
      have h1 := (h x).1 (by simp)
      have h2 := (h y).2 (by simp)
      rcases List.mem_cons.1 h1 with h1 | h1
      · exact h1
      · rcases List.mem_cons.1 h2 with h2 | h2
        · exact h2.symm
        · have := ha.1 y h2
          have := hb.1 x h1
          omega
    subst e
    rw [lt_ext ha.2 hb.2 fun z => ?_]
    have hz := h z
    constructor
    · intro hm
      rcases List.mem_cons.1 (hz.1 (by simp [hm])) with e | e
      · have := ha.1 z hm; omega
      · exact e
    · intro hm
      rcases List.mem_cons.1 (hz.2 (by simp [hm])) with e | e
      · have := hb.1 z hm; omega
      · exact e
theorem srt_low {l : List Nat} {n : Nat} (hn : l.Nodup) (hl : ∀ x ∈ l, x < n) : srt l = low l n := by
  have hp : (srt l).Perm l := List.mergeSort_perm _ _
  refine lt_ext ?_ (low_lt l n) fun x => ?_
  · have h1 : (srt l).Pairwise (fun x y => decide (x ≤ y) = true) := List.pairwise_mergeSort (fun a b c h1 h2 => by simp at *; omega) (fun a b => by simp; omega) l
    have h2 : (srt l).Nodup := hp.nodup_iff.2 hn
    exact (h1.and h2).imp fun {x y} h => by
      have h3 := h.1
      have h4 := h.2
      simp at h3
      omega
  · rw [hp.mem_iff, low_mem]
    exact ⟨fun h => ⟨hl x h, h⟩, fun h => h.2⟩
theorem low_at {l : List Nat} {j n : Nat} (hj : j ∈ l) (hn : j < n) : (low l n)[(low l j).length]? = some j := by
  have e : low l n = low l j ++ j :: ((List.range (n - j - 1)).map (fun k => j + 1 + k)).filter fun x => decide (x ∈ l) := by
    unfold low
    rw [range_cut hn, List.filter_append, List.filter_cons]
    simp [hj]
  rw [e, List.getElem?_append_right (Nat.le_refl _)]
  simp
theorem edg_at {s : Gr} {k j n : Nat} (hk : k < n) (hr : (nx s k).Nodup) (hl : ∀ x ∈ nx s k, x < n) (hj : j ∈ nx s k) : (edgK s n)[(edgK s k).length + (low (nx s k) j).length]? = some (k, j) := by
  have e : edgK s n = edgK s k ++ ((srt (nx s k)).map (fun j => (k, j)) ++ ((List.range (n - k - 1)).map (fun i => k + 1 + i)).flatMap fun i => (srt (nx s i)).map fun j => (i, j)) := by
    unfold edgK
    rw [range_cut hk, List.flatMap_append, List.flatMap_cons]
  have h1 := low_at hj (hl j hj)
  have h2 := (List.getElem?_eq_some_iff.1 h1).1
  rw [e, List.getElem?_append_right (by omega), List.getElem?_append_left (by rw [List.length_map, srt_low hr hl]; omega), List.getElem?_map, srt_low hr hl]
  rw [show (edgK s k).length + (low (nx s k) j).length - (edgK s k).length = (low (nx s k) j).length by omega, h1]
  rfl
theorem edg_next {s : Gr} {k n : Nat} (hr : (nx s k).Nodup) (hl : ∀ x ∈ nx s k, x < n) : (edgK s (k + 1)).length = (edgK s k).length + (low (nx s k) n).length := by
  rw [edgK_succ, List.length_append, List.length_map, srt_low hr hl]
theorem edg_mono {s : Gr} {k : Nat} : ∀ {n : Nat}, k ≤ n → (edgK s k).length ≤ (edgK s n).length
  | 0, h => by have : k = 0 := by omega
               subst this; exact Nat.le_refl _
  | n + 1, h => by
    by_cases e : k = n + 1
    · subst e; exact Nat.le_refl _
    · have := edg_mono (s := s) (show k ≤ n by omega)
      rw [edgK_succ, List.length_append]
      omega
end Go.Proofs.Ytojfbcfbnadboaa.Gra
