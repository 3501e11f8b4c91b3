
/- How places hang at first; the sum of what they hang below (plain). -/
import Derived.Test.YtojfbcfbnadboaaDomA
import Derived.Test.YtojfbcfbnadboaaGraJn
namespace Go.Proofs.Ytojfbcfbnadboaa.Gra
set_option linter.unusedVariables false

theorem put_self {ov : Nat → Nat} {t : Nat} : put ov t (ov t) = ov := by
  funext k
  unfold put
  split
  · rename_i e; rw [e]
  · rfl
def sm (m : Nat) (ov : Nat → Nat) : Nat := ((List.range m).map ov).sum
theorem sm_put {ov : Nat → Nat} {t c : Nat} : ∀ m, sm m (put ov t c) + (if t < m then ov t else 0) = sm m ov + (if t < m then c else 0)
  | 0 => by simp [sm]
  | m + 1 => by
    have e : ∀ f : Nat → Nat, sm (m + 1) f = sm m f + f m := fun f => by unfold sm; rw [List.range_succ, List.map_append, List.sum_append]; simp
    rw [e, e]
    have ih := sm_put (ov := ov) (t := t) (c := c) m
    by_cases h : t = m
    · subst h
      rw [put_same, if_pos (by omega), if_pos (by omega)]
      rw [if_neg (by omega), if_neg (by omega)] at ih
      omega
    · rw [put_else _ _ (fun q => h q.symm)]
      by_cases h2 : t < m
      · rw [if_pos h2, if_pos h2] at ih
        rw [if_pos (by omega), if_pos (by omega)]
        omega
      · rw [if_neg h2, if_neg h2] at ih
        rw [if_neg (by omega), if_neg (by omega)]
        omega
/-- How places hang at first: below the least one that goes on with each. -/
def ov0 (T : Gr) (t : Nat) : Nat := (nx (prs T) t).headD 0
section
variable {T : Gr} {m : Nat}
theorem prs_head (hT : T.length = m) {t i : Nat} (ht : t < m) (hi : t ∈ nx T i) : ∃ l, nx (prs T) t = ov0 T t :: l ∧ ov0 T t ≤ i ∧ t ∈ nx T (ov0 T t) := by
  have e : nx (prs T) t = preds T t := prs_at T (by omega)
  have hm : i ∈ preds T t := preds_mem.2 hi
  unfold ov0
  rw [e]
  cases hq : preds T t with
  | nil => rw [hq] at hm; cases hm
  | cons x l =>
    refine ⟨l, rfl, ?_, preds_mem.1 (by rw [hq]; exact List.mem_cons_self ..)⟩
    show x ≤ i
    have hp : (preds T t).Pairwise (fun x y => x < y) := List.Pairwise.filter _ List.pairwise_lt_range
    rw [hq] at hp hm
    rw [List.pairwise_cons] at hp
    rcases List.mem_cons.1 hm with rfl | h
    · exact Nat.le_refl _
    · exact Nat.le_of_lt (hp.1 i h)
theorem DI.start (hT : T.length = m) (hs : Ok T) (ha : ∀ t, 0 < t → t < m → ∃ i, i < t ∧ t ∈ nx T i) : DI T m (ov0 T) := by
  have hf : Fall (ov0 T) m := fun x h0 hx => by
    obtain ⟨i, h1, h2⟩ := ha x h0 hx
    obtain ⟨_, _, h3, _⟩ := prs_head hT hx h2
    omega
  have he : ∀ x, 0 < x → x < m → x ∈ nx T (ov0 T x) := fun x h0 hx => by
    obtain ⟨i, h1, h2⟩ := ha x h0 hx
    obtain ⟨_, _, _, h4⟩ := prs_head hT hx h2
    exact h4
  refine ⟨hf, fun x h0 hx => ?_, fun a x hx hd => ?_⟩
  · have hlt := hf x h0 hx
    refine .step (.refl (by omega) (fun h => h.2 rfl)) (he x h0 hx) (fun h => ?_)
    have := h.1.le hf (by omega)
    omega
  · by_cases h : An (ov0 T) a x
    · exact h
    · exfalso
      have hr : ∀ x, x < m → ¬ An (ov0 T) a x → Rch T (fun k => k = a) 0 x := by
        intro x
        induction x using Nat.strongRecOn with
        | _ x ih =>
          intro hx hn
          by_cases h0 : x = 0
          · subst h0
            exact .refl (by omega) (fun e => hn (e ▸ .refl))
          · have hlt := hf x (by omega) hx
            exact .step (ih _ hlt (by omega) (fun k => hn (.up (by omega) k))) (he x (by omega) hx) (fun e => hn (e ▸ .refl))
      rcases hd with e | hd
      · exact h (e ▸ .refl)
      · exact hd (hr x hx h)
end
end Go.Proofs.Ytojfbcfbnadboaa.Gra
