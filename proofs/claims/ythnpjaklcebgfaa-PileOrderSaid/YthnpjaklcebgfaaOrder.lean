/- What is drained stands in order: what the statement on it answers. -/
import Derived.Test.YthnpjaklcebgfaaSame
import Derived.IntWalk
namespace Go.Proofs.Ythnpjaklcebgfaa
open Go.ChangeShapes Go.WideShapes Go.RowKit
set_option linter.unusedVariables false

/-- What is there behind the draining: the list that came in, and the drained one. -/
structure Or (w wr : World) (A D : Option Addr) (l out : List It) : Prop where
  l : Its wr A l
  out : Its wr D out
  gr : w.grownBy wr none
theorem Or.grow {w w1 w2 : World} {A D : Option Addr} {l out : List It} (h : Or w w1 A D l out) (hg : w1.grownBy w2 none) : Or w w2 A D l out := ⟨h.l.grow hg, h.out.grow hg, gtrans h.gr hg⟩
/-- How often, in the one less than in the other. -/
def df (l out : List It) (x : It) (k : Nat) : Int := ((out.take k).count x : Int) - ((l.take k).count x : Int)
theorem df_step {l out : List It} {x : It} {k : Nat} (h1 : k < l.length) (h2 : k < out.length) : df l out x (k + 1) = df l out x k + (if ia out k = x then 1 else 0) - (if ia l k = x then 1 else 0) := by
  unfold df
  rw [cnt_take x h1, cnt_take x h2]
  split <;> split <;> omega
theorem df_le (l out : List It) (x : It) (k : Nat) : -(k : Int) ≤ df l out x k ∧ df l out x k ≤ (k : Int) := by
  unfold df
  have h1 : (out.take k).count x ≤ k := Nat.le_trans List.count_le_length (List.length_take_le _ _)
  have h2 : (l.take k).count x ≤ k := Nat.le_trans List.count_le_length (List.length_take_le _ _)
  omega
theorem df_all {l out : List It} (x : It) {n : Nat} (h1 : l.length = n) (h2 : out.length = n) (hp : out.Perm l) : df l out x n = 0 := by
  unfold df
  rw [List.take_of_length_le (by omega), List.take_of_length_le (by omega), hp.count_eq x]
  omega
set_option maxHeartbeats 4000000 in
set_option maxRecDepth 100000 in
theorem order_v (A : Option Addr) (n c : Nat) (l : List It) (hn : l.length = n) (hnm : n ≤ 9223372036854775807) (hA : A = none → c = 0) (w : World) (h : Its w A l) :
    Calls Try.prog 4 #[.slice A n c] w fun e w' => e = .returned (.bool true) ∧ w.grownBy w' none := by
  obtain ⟨i0, hi0, hz0, hz1, hz2⟩ := info_parts info28
  have I0 := Lib.hid (And.intro hi0 (And.intro hz0 (And.intro hz1 hz2)))
  have H0 := Lib.hid (And.intro h (And.intro hn hA))
  clear hi0 hz0 hz1 hz2 h hn hA
  by_cases h60 : 60 < n
  · go_enter Try.func4, Try.ntmps4
    go_wp2_with fail
    refine (works_v _).mono ?_
    rintro e w1 ⟨rfl, hg⟩
    have H1 := Lib.hid hg
    clear hg
    go_wp2_with fail
    go_ret
    exact ⟨rfl, H1.out⟩
  · have h60' : ¬ (60 : Int) < (n : Int) := by omega
    have hn60 : n ≤ 60 := by omega
    have hA2 : A = none → n = 0 ∧ c = 0 ∧ cs l = [] := fun e => by
      obtain ⟨h, hn, hA⟩ := H0.out
      rcases h with h | ⟨b, o, e2, _⟩
      · subst h; exact ⟨by simpa using hn.symm, hA e, rfl⟩
      · rw [e] at e2; cases e2
    have HA := Lib.hid hA2
    clear hA2
    have own0 : (w.alloc (.cells #[] 28)).ownsRow w.heap.size 28 2 (.slice (some ⟨w.heap.size, 0, none⟩) 0 0) 0 [] := World.ownsRow_lit w #[] 0 (Nat.le_refl _) (by unfold maxLen; omega) rfl
    have HO := Lib.hid own0
    clear own0
    go_enter Try.func4, Try.ntmps4
    go_wp2_with (at_builtin; refine wpList_append_any rfl (.tmp 12) (.tmp 13) 22 rfl w.heap.size 28 i0 (.agg #[.int .i64 0, .int .i64 0]) 2 16 Try.underlying22 I0.out.1 I0.out.2.1 I0.out.2.2.1 I0.out.2.2.2 rfl (by decide) (.slice (some ⟨w.heap.size, 0, none⟩) 0 0) 0 [] rfl HO.out A n c (cs l) rfl HA.out (by rw [cs_len, H0.out.2.1]) (its_news (H0.out.1.grow (galloc _ _ _))) (cs_one _) (by unfold maxLen; omega) (by omega) (by simp) ?_)
    intro v' w1 hown hgrow
    obtain ⟨A1, c1, rfl, hO1⟩ : ∃ A1 c1, v' = .slice A1 n c1 ∧ OwnI w.heap.size w1 A1 c1 l := by
      have hn := H0.out.2.1
      have h1 := own_slice (l := l) (by rw [hn]; simpa using hown)
      rw [hn] at h1; exact h1
    have g1 : w.grownBy w1 none := gnew (galloc _ _ none) hgrow (Nat.le_refl _)
    have H1 := Lib.hid (And.intro hO1.its g1)
    clear hown hgrow hO1 g1
    go_wp2_with fail
    refine (new_v A1 n c1 l H0.out.2.1 (by omega) _ H1.out.1).mono ?_
    rintro e w2 ⟨p, q, g, cap, m, rfl, hp2, hm2, hg2⟩
    have H2 := Lib.hid (And.intro hp2 (And.intro hm2 hg2))
    clear hp2 hm2 hg2
    go_wp2_with fail
    refine (drain_v _ p q g cap m n _ H2.out.1).mono ?_
    rintro e w3 ⟨D, c3, out, m3, rfl, hd, hl⟩
    have hml : m.length = n := by rw [H2.out.2.1.length_eq]; exact H0.out.2.1
    have hol : out.length = n := by rw [hl, hml]; omega
    have hm3 : m3 = [] := List.eq_nil_of_length_eq_zero (by have := hd.len; omega)
    subst hm3
    have hpm : out.Perm l := by have := hd.drn.1; rw [List.append_nil] at this; exact this.trans H2.out.2.1
    have g3 : w.grownBy w3 none := hd.kp.new (gtrans H1.out.2 H2.out.2.2) (by have a1 := H2.out.1.at_.lo; have a2 := H1.out.2.size; omega) (by have a1 := H2.out.1.at_.log; have a2 := H1.out.2.size; omega)
    have g13 : w1.grownBy w3 none := hd.kp.new H2.out.2.2 H2.out.1.at_.lo H2.out.1.at_.log
    have H3 := Lib.hid (And.intro (Or.mk (H0.out.1.grow g3) hd.own.its g3) (And.intro hpm (And.intro hd.drn.2.1 (And.intro hol (H1.out.1.grow g13)))))
    rw [hol]
    clear hd hl hml hol hpm g3 g13
    have hneq : ((n : Int) != (n : Int)) = false := by simp
    go_wp2_with fail
    clear hneq
    refine (same_v A1 A n c1 c l H0.out.2.1 (by omega) _ H3.out.2.2.2.2 H3.out.1.l).mono ?_
    rintro e w4 ⟨rfl, hg4⟩
    have H4 := Lib.hid (H3.out.1.grow hg4)
    clear hg4
    go_wp2_with fail
    go_loopg [5] n (fun gk u wr => ∃ k : Nat, k + gk = n ∧ u = .int .i64 (k : Int) ∧ Hid (Or w wr A D l out))
    case atStart => exact ⟨0, by omega, rfl, H4.out⟩
    case round =>
      obtain ⟨k, hk, rfl, HH⟩ := hrel
      by_cases hlt : k < n
      · have hko : k < out.length := by rw [H3.out.2.2.2.1]; exact hlt
        rcases HH.out.out with h0 | ⟨b, o, rfl, hb, hc⟩
        · rw [h0] at hko; cases hko
        obtain ⟨x, hx⟩ : ∃ x, ia out k = x := ⟨_, rfl⟩
        obtain ⟨d1, d2⟩ := hc k hko
        rw [hx] at d1 d2
        have HX := Lib.hid (And.intro hx hko)
        obtain ⟨xa, xb⟩ := x
        have i1 : (k : Int) < (n : Int) := by omega
        clear hx
        by_cases k0 : k = 0
        · have g0 : decide ((0 : Int) < (k : Int)) = false := decide_eq_false (by omega)
          have g0' : decide (0 < k) = false := decide_eq_false (by omega)
          clear hc k0
          go_wp2_with fail
          go_quiet (fail)
          go_wp2_with fail
          clear g0 g0' d1 d2
          go_loopg [6, 7] n (fun gk u6 u7 wj => ∃ (j : Nat) (z : Int), j + gk = n ∧ u7 = .int .i64 (j : Int) ∧ u6 = .int .i64 z ∧ Hid (z = df l out (xa, xb) j ∧ Or w wj A (some ⟨b, o, none⟩) l out))
          case atStart => exact ⟨0, 0, by omega, rfl, rfl, rfl, HH.out.grow (quietN _ _ _)⟩
          case round =>
            obtain ⟨j, z, hj, rfl, rfl, HJ⟩ := hrel
            by_cases hjn : j < n
            · have hjl : j < l.length := by rw [H0.out.2.1]; exact hjn
              have hjo : j < out.length := by rw [H3.out.2.2.2.1]; exact hjn
              have hz := df_le l out (xa, xb) j
              rw [← HJ.out.1] at hz
              rcases HJ.out.2.out with h0 | ⟨b2, o2, e2, hb2, hc2⟩
              · rw [h0] at hjo; cases hjo
              simp only [Option.some.injEq, Addr.mk.injEq, and_true] at e2
              obtain ⟨rfl, rfl⟩ := e2
              obtain ⟨d1, d2⟩ := hc2 k HX.out.2
              obtain ⟨d3, d4⟩ := hc2 j hjo
              rw [HX.out.1] at d1 d2
              rcases HJ.out.2.l with h0 | ⟨b3, o3, rfl, hb3, hc3⟩
              · rw [h0] at hjl; cases hjl
              obtain ⟨d5, d6⟩ := hc3 j hjl
              obtain ⟨y, hy⟩ : ∃ y, ia out j = y := ⟨_, rfl⟩
              obtain ⟨t, ht⟩ : ∃ t, ia l j = t := ⟨_, rfl⟩
              rw [hy] at d3 d4
              rw [ht] at d5 d6
              have HY := Lib.hid (And.intro hy (And.intro ht (And.intro hjl hjo)))
              obtain ⟨ya, yb⟩ := y
              obtain ⟨ta, tb⟩ := t
              have i2 : (j : Int) < (n : Int) := by omega
              have ze : ∀ r1 r2 : Bool, decide ((ya, yb) = (xa, xb)) = r1 → decide ((ta, tb) = (xa, xb)) = r2 → z + (if r1 then 1 else 0) - (if r2 then 1 else 0) = df l out (xa, xb) (j + 1) := fun r1 r2 h1 h2 => by
                rw [df_step hjl hjo, hy, ht, HJ.out.1, ← h1, ← h2]
                by_cases e1 : (ya, yb) = (xa, xb) <;> by_cases e2 : (ta, tb) = (xa, xb) <;> simp [e1, e2]
              have ZE := Lib.hid ze
              clear hc2 hc3 hy ht hjl hjo ze
              obtain ⟨r1, hr1⟩ : ∃ r, decide ((ya, yb) = (xa, xb)) = r := ⟨_, rfl⟩
              obtain ⟨r2, hr2⟩ : ∃ r, decide ((ta, tb) = (xa, xb)) = r := ⟨_, rfl⟩
              have E1 := eqIn28 ya yb xa xb r1 hr1
              have E2 := eqIn28 ta tb xa xb r2 hr2
              have E3 := eql28 ya yb xa xb r1 hr1
              have E4 := eql28 ta tb xa xb r2 hr2
              have hz3 := ZE.out r1 r2 hr1 hr2
              have Z3 := Lib.hid hz3
              clear hr1 hr2 hz3
              cases r1 <;> cases r2
              all_goals
                go_wp2_with fail
                go_quiet (fail)
                go_wp2_with fail
                go_quiet (fail)
                go_wp2_with fail
                go_roundg (gk - 1)
                case measure => omega
                case rel =>
                  refine ⟨j + 1, _, by omega, by go_num, rfl, ?_, HJ.out.2.grow (quietN _ _ _)⟩
                  first | exact Z3.out | (have z3 := Z3.out; simp at z3; simp; omega) | (have z3 := Z3.out; simp at z3; omega)
            · obtain rfl : j = n := by omega
              have hz0 : z = 0 := by rw [HJ.out.1]; exact df_all _ H0.out.2.1 H3.out.2.2.2.1 H3.out.2.1
              subst hz0
              have hge : ¬ (j : Int) < (j : Int) := by omega
              go_wp2_with fail
              go_roundg (j - (k + 1))
              case measure => omega
              case rel => exact ⟨k + 1, by omega, by go_num, HJ.out.2⟩
        · obtain ⟨kp, hkp⟩ : ∃ kp, k = kp + 1 := ⟨k - 1, by omega⟩
          have hpo : kp < out.length := by omega
          obtain ⟨y, hy⟩ : ∃ y, ia out kp = y := ⟨_, rfl⟩
          obtain ⟨d3, d4⟩ := hc kp hpo
          rw [hy] at d3 d4
          obtain ⟨a, d⟩ := y
          have hnb : ¬ bef (xa, xb) (a, d) := by
            have := H3.out.2.2.1 kp k (by omega) hko
            rw [hy, HX.out.1] at this; exact this
          have e1 : (k : Int) - 1 = (kp : Int) := by omega
          have e2 : IntKind.i64.wrap (kp : Int) = (kp : Int) := IntWalk.i64_in _ (by omega)
          have g0 : (0 : Int) < (k : Int) := by omega
          have g0' : 0 < k := by omega
          have i3 : (kp : Int) < (n : Int) := by omega
          have i4 : (0 : Int) ≤ (kp : Int) := by omega
          unfold bef at hnb
          simp only at hnb
          have t1 : decide (a < xa) = false := decide_eq_false (by omega)
          by_cases hac : a = xa
          · subst hac
            have t2 : decide (xb < d) = false := decide_eq_false (by omega)
            have KP := Lib.hid hkp
            clear hc hy hpo hnb hkp
            go_wp2_with fail
            go_quiet (fail)
            go_wp2_with fail
            clear g0 g0' d1 d2 d3 d4 t1 t2 e1 e2 i3 i4
            go_loopg [6, 7] n (fun gk u6 u7 wj => ∃ (j : Nat) (z : Int), j + gk = n ∧ u7 = .int .i64 (j : Int) ∧ u6 = .int .i64 z ∧ Hid (z = df l out (a, xb) j ∧ Or w wj A (some ⟨b, o, none⟩) l out))
            case atStart => exact ⟨0, 0, by omega, rfl, rfl, rfl, HH.out.grow (quietN _ _ _)⟩
            case round =>
              obtain ⟨j, z, hj, rfl, rfl, HJ⟩ := hrel
              by_cases hjn : j < n
              · have hjl : j < l.length := by rw [H0.out.2.1]; exact hjn
                have hjo : j < out.length := by rw [H3.out.2.2.2.1]; exact hjn
                have hz := df_le l out (a, xb) j
                rw [← HJ.out.1] at hz
                rcases HJ.out.2.out with h0 | ⟨b2, o2, e2, hb2, hc2⟩
                · rw [h0] at hjo; cases hjo
                simp only [Option.some.injEq, Addr.mk.injEq, and_true] at e2
                obtain ⟨rfl, rfl⟩ := e2
                obtain ⟨d1, d2⟩ := hc2 k HX.out.2
                obtain ⟨d3, d4⟩ := hc2 j hjo
                rw [HX.out.1] at d1 d2
                rcases HJ.out.2.l with h0 | ⟨b3, o3, rfl, hb3, hc3⟩
                · rw [h0] at hjl; cases hjl
                obtain ⟨d5, d6⟩ := hc3 j hjl
                obtain ⟨y, hy⟩ : ∃ y, ia out j = y := ⟨_, rfl⟩
                obtain ⟨t, ht⟩ : ∃ t, ia l j = t := ⟨_, rfl⟩
                rw [hy] at d3 d4
                rw [ht] at d5 d6
                have HY := Lib.hid (And.intro hy (And.intro ht (And.intro hjl hjo)))
                obtain ⟨ya, yb⟩ := y
                obtain ⟨ta, tb⟩ := t
                have i2 : (j : Int) < (n : Int) := by omega
                have ze : ∀ r1 r2 : Bool, decide ((ya, yb) = (a, xb)) = r1 → decide ((ta, tb) = (a, xb)) = r2 → z + (if r1 then 1 else 0) - (if r2 then 1 else 0) = df l out (a, xb) (j + 1) := fun r1 r2 h1 h2 => by
                  rw [df_step hjl hjo, hy, ht, HJ.out.1, ← h1, ← h2]
                  by_cases e1 : (ya, yb) = (a, xb) <;> by_cases e2 : (ta, tb) = (a, xb) <;> simp [e1, e2]
                have ZE := Lib.hid ze
                clear hc2 hc3 hy ht hjl hjo ze
                obtain ⟨r1, hr1⟩ : ∃ r, decide ((ya, yb) = (a, xb)) = r := ⟨_, rfl⟩
                obtain ⟨r2, hr2⟩ : ∃ r, decide ((ta, tb) = (a, xb)) = r := ⟨_, rfl⟩
                have E1 := eqIn28 ya yb a xb r1 hr1
                have E2 := eqIn28 ta tb a xb r2 hr2
                have E3 := eql28 ya yb a xb r1 hr1
                have E4 := eql28 ta tb a xb r2 hr2
                have hz3 := ZE.out r1 r2 hr1 hr2
                have Z3 := Lib.hid hz3
                clear hr1 hr2 hz3
                cases r1 <;> cases r2
                all_goals
                  go_wp2_with fail
                  go_quiet (fail)
                  go_wp2_with fail
                  go_quiet (fail)
                  go_wp2_with fail
                  go_roundg (gk - 1)
                  case measure => omega
                  case rel =>
                    refine ⟨j + 1, _, by omega, by go_num, rfl, ?_, HJ.out.2.grow (quietN _ _ _)⟩
                    first | exact Z3.out | (have z3 := Z3.out; simp at z3; simp; omega) | (have z3 := Z3.out; simp at z3; omega)
              · obtain rfl : j = n := by omega
                have hz0 : z = 0 := by rw [HJ.out.1]; exact df_all _ H0.out.2.1 H3.out.2.2.2.1 H3.out.2.1
                subst hz0
                have hge : ¬ (j : Int) < (j : Int) := by omega
                go_wp2_with fail
                go_roundg (j - (k + 1))
                case measure => omega
                case rel => exact ⟨k + 1, by omega, by go_num, HJ.out.2⟩
          · have t2 : (a == xa) = false := by simpa using hac
            have KP := Lib.hid hkp
            clear hc hy hpo hnb hkp hac
            go_wp2_with fail
            go_quiet (fail)
            go_wp2_with fail
            clear g0 g0' d1 d2 d3 d4 t1 t2 e1 e2 i3 i4
            go_loopg [6, 7] n (fun gk u6 u7 wj => ∃ (j : Nat) (z : Int), j + gk = n ∧ u7 = .int .i64 (j : Int) ∧ u6 = .int .i64 z ∧ Hid (z = df l out (xa, xb) j ∧ Or w wj A (some ⟨b, o, none⟩) l out))
            case atStart => exact ⟨0, 0, by omega, rfl, rfl, rfl, HH.out.grow (quietN _ _ _)⟩
            case round =>
              obtain ⟨j, z, hj, rfl, rfl, HJ⟩ := hrel
              by_cases hjn : j < n
              · have hjl : j < l.length := by rw [H0.out.2.1]; exact hjn
                have hjo : j < out.length := by rw [H3.out.2.2.2.1]; exact hjn
                have hz := df_le l out (xa, xb) j
                rw [← HJ.out.1] at hz
                rcases HJ.out.2.out with h0 | ⟨b2, o2, e2, hb2, hc2⟩
                · rw [h0] at hjo; cases hjo
                simp only [Option.some.injEq, Addr.mk.injEq, and_true] at e2
                obtain ⟨rfl, rfl⟩ := e2
                obtain ⟨d1, d2⟩ := hc2 k HX.out.2
                obtain ⟨d3, d4⟩ := hc2 j hjo
                rw [HX.out.1] at d1 d2
                rcases HJ.out.2.l with h0 | ⟨b3, o3, rfl, hb3, hc3⟩
                · rw [h0] at hjl; cases hjl
                obtain ⟨d5, d6⟩ := hc3 j hjl
                obtain ⟨y, hy⟩ : ∃ y, ia out j = y := ⟨_, rfl⟩
                obtain ⟨t, ht⟩ : ∃ t, ia l j = t := ⟨_, rfl⟩
                rw [hy] at d3 d4
                rw [ht] at d5 d6
                have HY := Lib.hid (And.intro hy (And.intro ht (And.intro hjl hjo)))
                obtain ⟨ya, yb⟩ := y
                obtain ⟨ta, tb⟩ := t
                have i2 : (j : Int) < (n : Int) := by omega
                have ze : ∀ r1 r2 : Bool, decide ((ya, yb) = (xa, xb)) = r1 → decide ((ta, tb) = (xa, xb)) = r2 → z + (if r1 then 1 else 0) - (if r2 then 1 else 0) = df l out (xa, xb) (j + 1) := fun r1 r2 h1 h2 => by
                  rw [df_step hjl hjo, hy, ht, HJ.out.1, ← h1, ← h2]
                  by_cases e1 : (ya, yb) = (xa, xb) <;> by_cases e2 : (ta, tb) = (xa, xb) <;> simp [e1, e2]
                have ZE := Lib.hid ze
                clear hc2 hc3 hy ht hjl hjo ze
                obtain ⟨r1, hr1⟩ : ∃ r, decide ((ya, yb) = (xa, xb)) = r := ⟨_, rfl⟩
                obtain ⟨r2, hr2⟩ : ∃ r, decide ((ta, tb) = (xa, xb)) = r := ⟨_, rfl⟩
                have E1 := eqIn28 ya yb xa xb r1 hr1
                have E2 := eqIn28 ta tb xa xb r2 hr2
                have E3 := eql28 ya yb xa xb r1 hr1
                have E4 := eql28 ta tb xa xb r2 hr2
                have hz3 := ZE.out r1 r2 hr1 hr2
                have Z3 := Lib.hid hz3
                clear hr1 hr2 hz3
                cases r1 <;> cases r2
                all_goals
                  go_wp2_with fail
                  go_quiet (fail)
                  go_wp2_with fail
                  go_quiet (fail)
                  go_wp2_with fail
                  go_roundg (gk - 1)
                  case measure => omega
                  case rel =>
                    refine ⟨j + 1, _, by omega, by go_num, rfl, ?_, HJ.out.2.grow (quietN _ _ _)⟩
                    first | exact Z3.out | (have z3 := Z3.out; simp at z3; simp; omega) | (have z3 := Z3.out; simp at z3; omega)
              · obtain rfl : j = n := by omega
                have hz0 : z = 0 := by rw [HJ.out.1]; exact df_all _ H0.out.2.1 H3.out.2.2.2.1 H3.out.2.1
                subst hz0
                have hge : ¬ (j : Int) < (j : Int) := by omega
                go_wp2_with fail
                go_roundg (j - (k + 1))
                case measure => omega
                case rel => exact ⟨k + 1, by omega, by go_num, HJ.out.2⟩
      · obtain rfl : k = n := by omega
        have hge : ¬ (k : Int) < (k : Int) := by omega
        go_wp2_with fail
        refine (works_v _).mono ?_
        rintro e w6 ⟨rfl, hg6⟩
        have H6 := Lib.hid (gtrans HH.out.gr hg6)
        clear hg6
        go_wp2_with fail
        go_ret
        exact ⟨rfl, H6.out⟩
theorem order_walk (A : Option Addr) (n c : Nat) (l : List It) (hn : l.length = n) (hnm : n ≤ 9223372036854775807) (hA : A = none → c = 0) (w : World) (h : Its w A l) : Calls Try.prog 4 #[.slice A n c] w fun e w' => e = .returned (.bool true) ∧ Below w.heap.size w w' :=
  (order_v A n c l hn hnm hA w h).mono fun e w' ⟨h1, h2⟩ => ⟨h1, (Below.refl _ _).grown h2 (Nat.le_refl _) (by simp)⟩
end Go.Proofs.Ythnpjaklcebgfaa
