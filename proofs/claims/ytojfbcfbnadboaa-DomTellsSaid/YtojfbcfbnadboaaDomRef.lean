
/- The document's answers, walked: which dominate one, how many, and the nearest. -/
import Derived.Test.YtojfbcfbnadboaaDomB
import Derived.Test.YtojfbcfbnadboaaGraRea
import Derived.Deep.CutRange
namespace Go.Proofs.Ytojfbcfbnadboaa.Gra
open Go.ChangeShapes Go.WideShapes Go.RowKit
set_option linter.unusedVariables false
set_option maxRecDepth 20000
set_option maxHeartbeats 4000000

section
variable (A : Option Addr) (n c : Nat) (s : Gr)
theorem ris_v (a b : Int) (w : World) (h : IsGr w A n s) (hs : Ok s) (hn : n ≤ 300) :
    Calls Try.prog 33 #[.slice A n c, .int .i64 a, .int .i64 b] w fun e w' => e = .returned (.bool (isT s a b)) ∧ Below w.heap.size w w' := by
  have hsl : s.length = n := h.1
  obtain ⟨x, hx⟩ : ∃ x, isT s a b = x := ⟨_, rfl⟩
  rw [hx]
  have H := Lib.hid (And.intro h (And.intro hs (And.intro hx hsl)))
  clear h hs hx hsl
  by_cases hout : a < 0 ∨ b < 0 ∨ a ≥ (n : Int) ∨ b ≥ (n : Int)
  · have hx : x = false := by
      rw [← H.out.2.2.1]
      unfold isT
      have := H.out.2.2.2
      rw [decide_eq_false (by omega), Bool.false_and]
    subst hx
    go_enter Try.func33, Try.ntmps33
    by_cases h1 : a < 0
    · clear hout
      go_wp2_with fail
      go_ret
      exact ⟨rfl, Below.refl _ _⟩
    · by_cases h2 : b < 0
      · clear hout
        go_wp2_with fail
        go_ret
        exact ⟨rfl, Below.refl _ _⟩
      · by_cases h3 : a ≥ (n : Int)
        · clear hout
          go_wp2_with fail
          go_ret
          exact ⟨rfl, Below.refl _ _⟩
        · have h4 : b ≥ (n : Int) := by omega
          clear hout
          go_wp2_with fail
          go_ret
          exact ⟨rfl, Below.refl _ _⟩
  · obtain ⟨a, rfl⟩ : ∃ k : Nat, a = (k : Int) := ⟨a.toNat, by omega⟩
    obtain ⟨b, rfl⟩ : ∃ k : Nat, b = (k : Int) := ⟨b.toNat, by omega⟩
    have ha : a < n := by omega
    have hb : b < n := by omega
    have h1 : ¬ (a : Int) < 0 := by omega
    have h2 : ¬ (b : Int) < 0 := by omega
    have h3 : ¬ (a : Int) ≥ (n : Int) := by omega
    have h4 : ¬ (b : Int) ≥ (n : Int) := by omega
    have h5 : (b : Int) < (n : Int) := by omega
    have hsl := H.out.2.2.2
    have hx : isB s a b = x := by rw [← isT_nat (by omega) (by omega)]; exact H.out.2.2.1
    have HR := Lib.hid (rreach_v A n c s 0 (-1) w H.out.1 H.out.2.1 (by omega))
    unfold isB at hx
    have HX := Lib.hid hx
    have hrl := reach_len s 0 (-1)
    clear hx hout
    go_enter Try.func33, Try.ntmps33
    go_wp2_with fail
    refine HR.out.mono ?_
    rintro e w1 ⟨⟨g, rfl, hbo⟩, hb1⟩
    have c0 := hbo.cell b (by omega)
    have H1 := Lib.hid hb1
    clear hbo hb1
    cases hq : at_ (reach s 0 (-1)) b with
    | false =>
      have hx : x = false := by rw [← HX.out, hq, Bool.false_and]
      subst hx
      rw [hq] at c0
      clear hq
      go_wp2_with fail
      go_ret
      exact ⟨rfl, H1.out⟩
    | true =>
      rw [hq] at c0
      have HX2 := Lib.hid (show (a == b || !at_ (reach s 0 (a : Int)) b) = x by rw [← HX.out, hq, Bool.true_and])
      by_cases hab : a = b
      · subst hab
        have hx : x = true := by rw [← HX2.out]; simp
        subst hx
        have e : ((a : Int) == (a : Int)) = true := by simp
        clear hq
        go_wp2_with fail
        go_ret
        exact ⟨rfl, H1.out⟩
      · have e : ((a : Int) == (b : Int)) = false := by rw [beq_eq_false_iff_ne]; omega
        have hx2 : x = !at_ (reach s 0 (a : Int)) b := by rw [← HX2.out, beq_eq_false_iff_ne.2 hab, Bool.false_or]
        have HR2 := Lib.hid (rreach_v A n c s 0 (a : Int) w1 (H.out.1.below H1.out) H.out.2.1 (by omega))
        have hrl2 := reach_len s 0 (a : Int)
        clear hq hab
        go_wp2_with fail
        refine HR2.out.mono ?_
        rintro e w2 ⟨⟨g2, rfl, hbo⟩, hb2⟩
        have d0 := hbo.cell b (by omega)
        obtain ⟨y, hy⟩ : ∃ y, at_ (reach s 0 (a : Int)) b = y := ⟨_, rfl⟩
        rw [hy] at d0 hx2
        subst hx2
        have H2 := Lib.hid (H1.out.trans (hb2.mono H1.out.size))
        clear hbo hb2 hy
        go_wp2_with fail
        go_ret
        exact ⟨rfl, H2.out⟩
theorem rcount_v (b : Int) (w : World) (h : IsGr w A n s) (hs : Ok s) (hn : n ≤ 300) :
    Calls Try.prog 29 #[.slice A n c, .int .i64 b] w fun e w' => e = .returned (.int .i64 (dpT s b : Int)) ∧ Below w.heap.size w w' := by
  have hsl : s.length = n := h.1
  have H := Lib.hid (And.intro h (And.intro hs hsl))
  have hfin : ((List.range n).filter fun (a : Nat) => isT s (a : Int) b).length = dpT s b := by
    unfold dpT
    by_cases e : 0 ≤ b ∧ b < (s.length : Int)
    · rw [if_pos e]
      unfold cntB
      rw [← hsl]
      refine congrArg List.length (List.filter_congr fun a ha => ?_)
      have := List.mem_range.1 ha
      obtain ⟨k, rfl⟩ : ∃ k : Nat, b = (k : Int) := ⟨b.toNat, by omega⟩
      rw [isT_nat this (by omega)]
      simp
    · rw [if_neg e, List.length_eq_zero_iff, List.filter_eq_nil_iff]
      intro a _ ha
      unfold isT at ha
      rw [Bool.and_eq_true, decide_eq_true_eq] at ha
      omega
  have HF := Lib.hid hfin
  clear h hs hfin hsl
  go_enter Try.func29, Try.ntmps29
  go_wp2_with fail
  go_loopg [5, 6] n (fun gk s5 s6 wr => ∃ k t : Nat, k + gk = n ∧ s5 = .int .i64 (t : Int) ∧ s6 = .int .i64 (k : Int) ∧ t ≤ k ∧ Hid (Below w.heap.size w wr ∧ ((List.range k).filter fun (a : Nat) => isT s (a : Int) b).length = t))
  case atStart => exact ⟨0, 0, by omega, rfl, rfl, by omega, Lib.hid ⟨Below.refl _ _, rfl⟩⟩
  case round =>
    obtain ⟨k, t, hk, rfl, rfl, htk, HK⟩ := hrel
    by_cases hkn : k < n
    · have t1 : (k : Int) < (n : Int) := by omega
      obtain ⟨x, hx⟩ : ∃ x, isT s (k : Int) b = x := ⟨_, rfl⟩
      have HI := Lib.hid (hx ▸ ris_v A n c s (k : Int) b wr (H.out.1.below HK.out.1) H.out.2.1 hn)
      have HX := Lib.hid hx
      clear hx
      go_wp2_with fail
      refine HI.out.mono ?_
      rintro e w1 ⟨rfl, hb⟩
      have H1 := Lib.hid (HK.out.1.trans (hb.mono HK.out.1.size))
      clear hb
      cases x with
      | true =>
        go_wp2_with fail
        go_roundg (n - k - 1)
        case measure => omega
        case rel => exact ⟨k + 1, t + 1, by omega, by go_num, by go_num, by omega, Lib.hid ⟨H1.out, by
          rw [List.range_succ, List.filter_append, List.length_append, HK.out.2, List.filter_cons, HX.out]
          rfl⟩⟩
      | false =>
        go_wp2_with fail
        go_roundg (n - k - 1)
        case measure => omega
        case rel => exact ⟨k + 1, t, by omega, rfl, by go_num, by omega, Lib.hid ⟨H1.out, by
          rw [List.range_succ, List.filter_append, List.length_append, HK.out.2, List.filter_cons, HX.out]
          rfl⟩⟩
    · obtain rfl : k = n := by omega
      have t1 : ¬ (k : Int) < (k : Int) := by omega
      have hdp := HK.out.2.symm.trans HF.out
      subst hdp
      go_wp2_with fail
      go_ret
      exact ⟨rfl, HK.out.1⟩
/-- The nearest one so far. -/
def bstT (s : Gr) (b : Int) (x : Int × Nat) (a : Nat) : Int × Nat := if (a : Int) ≠ b ∧ isT s (a : Int) b = true ∧ x.2 < dpT s (a : Int) then ((a : Int), dpT s (a : Int)) else x
theorem bstT_end (s : Gr) (b : Int) : ((List.range s.length).foldl (bstT s b) (-1, 0)).1 = idT s b := by
  by_cases e : 0 ≤ b ∧ b < (s.length : Int)
  · obtain ⟨k, rfl⟩ : ∃ k : Nat, b = (k : Int) := ⟨b.toNat, by omega⟩
    rw [idT_nat (by omega)]
    unfold idB
    have h1 : ∀ (l : List Nat) (x : Int × Nat), (∀ a ∈ l, a < s.length) → l.foldl (bstT s (k : Int)) x = l.foldl (bst s k) x := by
      intro l
      induction l with
      | nil => intro x _; rfl
      | cons a l ih =>
        intro x hl
        rw [List.foldl_cons, List.foldl_cons]
        have ha := hl a (by simp)
        have h2 : bstT s (k : Int) x a = bst s k x a := by
          unfold bstT bst
          rw [isT_nat ha (by omega), dpT_nat ha]
          by_cases h3 : a = k
          · subst h3; simp
          · have h4 : (a : Int) ≠ (k : Int) := by omega
            simp only [ne_eq, h3, h4, not_false_eq_true]
        rw [h2]
        exact ih _ (fun a ha => hl a (by simp [ha]))
    rw [h1 _ _ (fun a ha => List.mem_range.1 ha)]
  · have h1 : ∀ (l : List Nat) (x : Int × Nat), l.foldl (bstT s b) x = x := by
      intro l
      induction l with
      | nil => intro x; rfl
      | cons a l ih =>
        intro x
        rw [List.foldl_cons]
        have h2 : bstT s b x a = x := by
          unfold bstT
          rw [if_neg]
          rintro ⟨_, h3, _⟩
          unfold isT at h3
          rw [Bool.and_eq_true, decide_eq_true_eq] at h3
          omega
        rw [h2]
        exact ih _
    rw [h1]
    unfold idT
    rw [if_neg e]
theorem rdid_v (b : Int) (w : World) (h : IsGr w A n s) (hs : Ok s) (hn : n ≤ 300) :
    Calls Try.prog 27 #[.slice A n c, .int .i64 b] w fun e w' => e = .returned (.int .i64 (idT s b)) ∧ Below w.heap.size w w' := by
  have hsl : s.length = n := h.1
  have H := Lib.hid (And.intro h (And.intro hs hsl))
  have HF := Lib.hid (hsl ▸ bstT_end s b)
  clear h hs hsl
  go_enter Try.func27, Try.ntmps27
  go_wp2_with fail
  go_loopg [5, 6, 7] n (fun gk s5 s6 s7 wr => ∃ (k t : Nat) (q : Int), k + gk = n ∧ s5 = .int .i64 q ∧ s6 = .int .i64 (t : Int) ∧ s7 = .int .i64 (k : Int) ∧ t ≤ 300 ∧ Hid (Below w.heap.size w wr ∧ (List.range k).foldl (bstT s b) (-1, 0) = (q, t)))
  case atStart => exact ⟨0, 0, -1, by omega, rfl, rfl, rfl, by omega, Lib.hid ⟨Below.refl _ _, rfl⟩⟩
  case round =>
    obtain ⟨k, t, q, hk, rfl, rfl, rfl, htk, HK⟩ := hrel
    by_cases hkn : k < n
    · have t1 : (k : Int) < (n : Int) := by omega
      have hfs : (List.range (k + 1)).foldl (bstT s b) (-1, 0) = bstT s b (q, t) k := by rw [List.range_succ, List.foldl_append, HK.out.2]; rfl
      unfold bstT at hfs
      have HS := Lib.hid hfs
      clear hfs
      cases hq : ((k : Int) == b) with
      | true =>
        have e := eq_of_beq hq
        have hq2 : ((k : Int) != b) = false := by rw [bne, hq]; rfl
        have HN := Lib.hid (show (List.range (k + 1)).foldl (bstT s b) (-1, 0) = (q, t) by unfold bstT; rw [HS.out]; exact if_neg (fun h => h.1 e))
        clear e
        go_wp2_with fail
        go_roundg (n - k - 1)
        case measure => omega
        case rel => exact ⟨k + 1, t, q, by omega, rfl, rfl, by go_num, htk, Lib.hid ⟨HK.out.1, HN.out⟩⟩
      | false =>
        have hne := beq_eq_false_iff_ne.1 hq
        have hq2 : ((k : Int) != b) = true := by rw [bne, hq]; rfl
        obtain ⟨x, hx⟩ : ∃ x, isT s (k : Int) b = x := ⟨_, rfl⟩
        have HI := Lib.hid (hx ▸ ris_v A n c s (k : Int) b wr (H.out.1.below HK.out.1) H.out.2.1 hn)
        have HX := Lib.hid (And.intro hx hne)
        clear hx hne
        go_wp2_with fail
        refine HI.out.mono ?_
        rintro e w1 ⟨rfl, hb⟩
        have H1 := Lib.hid (HK.out.1.trans (hb.mono HK.out.1.size))
        clear hb
        cases x with
        | false =>
          have HN := Lib.hid (show (List.range (k + 1)).foldl (bstT s b) (-1, 0) = (q, t) by unfold bstT; rw [HS.out]; exact if_neg (fun h => by have := h.2.1; rw [HX.out.1] at this; cases this))
          go_wp2_with fail
          go_roundg (n - k - 1)
          case measure => omega
          case rel => exact ⟨k + 1, t, q, by omega, rfl, rfl, by go_num, htk, Lib.hid ⟨H1.out, HN.out⟩⟩
        | true =>
          obtain ⟨d, hd⟩ : ∃ d, dpT s (k : Int) = d := ⟨_, rfl⟩
          have hdl : d ≤ 300 := by
            have h1 := H.out.2.2
            have h2 : dpT s (k : Int) ≤ s.length := by
              unfold dpT cntB
              split
              · have h3 := List.length_filter_le (fun a => isB s a (k : Int).toNat) (List.range s.length)
                rw [List.length_range] at h3
                exact h3
              · exact Nat.zero_le _
            omega
          have HC := Lib.hid (hd ▸ rcount_v A n c s (k : Int) w1 (H.out.1.below H1.out) H.out.2.1 hn)
          have HD := Lib.hid hd
          clear hd
          go_wp2_with fail
          refine HC.out.mono ?_
          rintro e w2 ⟨rfl, hb⟩
          have H2 := Lib.hid (H1.out.trans (hb.mono H1.out.size))
          clear hb HC
          by_cases hlt : t < d
          · have t2 : (d : Int) > (t : Int) := by omega
            have HC2 := Lib.hid (HD.out ▸ rcount_v A n c s (k : Int) w2 (H.out.1.below H2.out) H.out.2.1 hn)
            have HN := Lib.hid (show (List.range (k + 1)).foldl (bstT s b) (-1, 0) = ((k : Int), d) by unfold bstT; rw [HS.out, HD.out]; exact if_pos ⟨HX.out.2, HX.out.1, hlt⟩)
            go_wp2_with fail
            refine HC2.out.mono ?_
            rintro e w3 ⟨rfl, hb⟩
            have H3 := Lib.hid (H2.out.trans (hb.mono H2.out.size))
            clear hb
            go_wp2_with fail
            go_roundg (n - k - 1)
            case measure => omega
            case rel => exact ⟨k + 1, d, (k : Int), by omega, rfl, rfl, by go_num, hdl, Lib.hid ⟨H3.out, HN.out⟩⟩
          · have t2 : ¬ (d : Int) > (t : Int) := by omega
            have HN := Lib.hid (show (List.range (k + 1)).foldl (bstT s b) (-1, 0) = (q, t) by unfold bstT; rw [HS.out, HD.out]; exact if_neg (fun h => hlt h.2.2))
            go_wp2_with fail
            go_roundg (n - k - 1)
            case measure => omega
            case rel => exact ⟨k + 1, t, q, by omega, rfl, rfl, by go_num, htk, Lib.hid ⟨H2.out, HN.out⟩⟩
    · obtain rfl : k = n := by omega
      have t1 : ¬ (k : Int) < (k : Int) := by omega
      have hdp : q = idT s b := by
        rw [← HF.out, HK.out.2]
      subst hdp
      go_wp2_with fail
      go_ret
      exact ⟨rfl, HK.out.1⟩
end
end Go.Proofs.Ytojfbcfbnadboaa.Gra
