/- Blocks from which one is reached, found by going back (plain). -/
import Derived.Test.YtojfbcfbnadboaaGraOrd
namespace Go.Proofs.Ytojfbcfbnadboaa.Gra
set_option linter.unusedVariables false

/-- What holds while blocks wait: all that were entered reach the end; who goes on with one that waits no more was entered, too. -/
structure AI (s t : Gr) (wo : Int) (to : Nat) (sn : List Bool) (ws : List Nat) : Prop where
  len : sn.length = s.length
  sound : ∀ k, at_ sn k = true → Rch s (fun k => (k : Int) = wo) k to
  wait : ∀ k ∈ ws, at_ sn k = true
  to_ : at_ sn to = true
  done : ∀ x, at_ sn x = true → x ∉ ws → ∀ y, y ∈ nx t x → ¬ (y : Int) = wo → at_ sn y = true
/-- The same amid a block's row. -/
structure AJ (s t : Gr) (wo : Int) (to : Nat) (b r : Nat) (sn : List Bool) (ws : List Nat) : Prop where
  len : sn.length = s.length
  sound : ∀ k, at_ sn k = true → Rch s (fun k => (k : Int) = wo) k to
  wait : ∀ k ∈ ws, at_ sn k = true
  to_ : at_ sn to = true
  cur : at_ sn b = true
  done : ∀ x, at_ sn x = true → x ∉ ws → x ≠ b → ∀ y, y ∈ nx t x → ¬ (y : Int) = wo → at_ sn y = true
  here : ∀ y, y ∈ (nx t b).take r → ¬ (y : Int) = wo → at_ sn y = true
theorem AI.start {s t : Gr} {wo : Int} {to : Nat} (h : to < s.length) (hw : ¬ (to : Int) = wo) : AI s t wo to ((List.replicate s.length false).set to true) [to] := by
  have e : ∀ k, at_ ((List.replicate s.length false).set to true) k = decide (to = k) := fun k => by rw [at_set _ to k (by simpa using h), at_rep, Bool.or_false]
  refine ⟨by simp, fun k hk => ?_, fun k hk => ?_, by rw [e]; simp, fun x hx hxw => ?_⟩
  · rw [e, decide_eq_true_eq] at hk
    subst hk
    exact .refl h hw
  · rw [List.mem_singleton] at hk
    rw [e]; simp [hk]
  · rw [e, decide_eq_true_eq] at hx
    subst hx
    simp at hxw
theorem AI.pop {s t : Gr} {wo : Int} {to b : Nat} {sn : List Bool} {ws : List Nat} (h : AI s t wo to sn (ws ++ [b])) : AJ s t wo to b 0 sn ws :=
  ⟨h.len, h.sound, fun k hk => h.wait k (by simp [hk]), h.to_, h.wait b (by simp), fun x hx hxw hxb => h.done x hx (by simp [hxw, hxb]), fun y hy => by simp at hy⟩
theorem AJ.skip {s t : Gr} {wo : Int} {to b r y : Nat} {sn : List Bool} {ws : List Nat} (h : AJ s t wo to b r sn ws) (hy : (nx t b)[r]? = some y) (hq : (y : Int) = wo ∨ at_ sn y = true) : AJ s t wo to b (r + 1) sn ws :=
  ⟨h.len, h.sound, h.wait, h.to_, h.cur, h.done, fun z hz hw => by
    rw [List.take_add_one, hy] at hz
    rcases List.mem_append.1 hz with hz | hz
    · exact h.here z hz hw
    · rw [Option.toList_some, List.mem_singleton] at hz
      subst hz
      exact hq.resolve_left hw⟩
theorem AJ.push {s t : Gr} {wo : Int} {to b r y : Nat} {sn : List Bool} {ws : List Nat} (hst : ∀ x z, z ∈ nx t x → x ∈ nx s z) (h : AJ s t wo to b r sn ws) (hy : (nx t b)[r]? = some y) (hys : y < s.length) (hw : ¬ (y : Int) = wo) : AJ s t wo to b (r + 1) (sn.set y true) (ws ++ [y]) := by
  have e : ∀ k, at_ (sn.set y true) k = (decide (y = k) || at_ sn k) := fun k => at_set sn y k (by rw [h.len]; exact hys)
  have hm : ∀ k, at_ sn k = true → at_ (sn.set y true) k = true := fun k hk => by rw [e, hk, Bool.or_true]
  have hyb : b ∈ nx s y := hst b y (List.mem_of_getElem? hy)
  refine ⟨by simpa using h.len, fun k hk => ?_, fun k hk => ?_, hm _ h.to_, hm _ h.cur, fun x hx hxw hxb z hz hzw => ?_, fun z hz hzw => ?_⟩
  · rw [e, Bool.or_eq_true, decide_eq_true_eq] at hk
    rcases hk with rfl | hk
    · exact (h.sound b h.cur).head hyb hw
    · exact h.sound k hk
  · rcases List.mem_append.1 hk with hk | hk
    · exact hm _ (h.wait k hk)
    · rw [List.mem_singleton] at hk
      rw [e]; simp [hk]
  · rw [e, Bool.or_eq_true, decide_eq_true_eq] at hx
    rcases hx with rfl | hx
    · simp at hxw
    · exact hm _ (h.done x hx (fun h => hxw (by simp [h])) hxb z hz hzw)
  · rw [List.take_add_one, hy] at hz
    rcases List.mem_append.1 hz with hz | hz
    · exact hm _ (h.here z hz hzw)
    · rw [Option.toList_some, List.mem_singleton] at hz
      subst hz
      rw [e]; simp
theorem AJ.end_ {s t : Gr} {wo : Int} {to b r : Nat} {sn : List Bool} {ws : List Nat} (h : AJ s t wo to b r sn ws) (hr : (nx t b).length ≤ r) : AI s t wo to sn ws :=
  ⟨h.len, h.sound, h.wait, h.to_, fun x hx hxw y hy hyw => by
    by_cases e : x = b
    · subst e
      exact h.here y (by rw [List.take_of_length_le hr]; exact hy) hyw
    · exact h.done x hx hxw e y hy hyw⟩
theorem AI.all {s t : Gr} {wo : Int} {to : Nat} {sn : List Bool} (hst : ∀ x z, x ∈ nx s z → z ∈ nx t x) (h : AI s t wo to sn []) (k : Nat) : at_ sn k = true ↔ Rch s (fun k => (k : Int) = wo) k to :=
  ⟨h.sound k, fun hk => hk.back (P := fun i => at_ sn i = true) h.to_ fun x y hy hw hp => h.done y hp (by simp) x (hst y x hy) hw⟩
end Go.Proofs.Ytojfbcfbnadboaa.Gra
