/- What Value answers, of tokens that are read on. -/
import Derived.Test.YtgjaajofhfhadaaDoorFoldFrame
import Derived.Test.YtgjaajofhfhadaaDoorFoldSteps
namespace Go.Proofs.YtgjaajofhfhadaaDoor.Fol
open Go.ChangeShapes Go.WideShapes Go.RowKit Lex
set_option linter.unusedVariables false
set_option maxRecDepth 20000

theorem w64 {n : Int} (h1 : -9223372036854775808 ≤ n) (h2 : n ≤ 9223372036854775807) : wrap64 n = n := IntWalk.wrap64_in n ⟨h1, h2⟩
theorem at_lt {l : List Tok} {a L : Nat} {t : Tok} (hL : l.length = L) (h : l[a]? = some t) : (a : Int) < (L : Int) := by
  have := (List.getElem?_eq_some_iff.1 h).1
  omega
theorem few_next {M : Nat} {m : Bool} (h : M ≤ 32) (hm : mayT M m = 0) : M + 1 ≤ 32 := by
  unfold mayT at hm
  by_cases h32 : M = 32
  · subst h32
    rw [if_neg (fun k => absurd k.1 (by decide)), if_pos rfl] at hm
    cases hm
  · omega
theorem value_is (l : List Tok) (N g c : Nat) (k : Nat) (R : Res) (hR : mach l k .fac 0 [] = some R) (ts : List Tok) (q : Nat) (hl : l = ts ++ [⟨0, [], 0, 0, q⟩]) (hs : l.length < 9223372036854775807) (w : World) (ho : OwnK N w (some ⟨g, 0, none⟩) c l) :
    Calls Tryd.prog 12 #[.slice (some ⟨g, 0, none⟩) l.length c, .int .i64 0] w fun e w' => e = resE R ∧ Below w.heap.size w w' := by
  obtain ⟨L, hL⟩ : ∃ L, l.length = L := ⟨_, rfl⟩
  have hL0 : 0 < L := by rw [← hL, hl]; simp
  have hlast : l[L - 1]? = some ⟨0, [], 0, 0, q⟩ := by rw [← hL, hl]; simp
  obtain ⟨d0, d1, d2, d3, d4⟩ := cells5t ho (L - 1) _ hlast
  have HO := Lib.hid ho
  have HL := Lib.hid hL
  have HR := Lib.hid hR
  clear hlast hl ho
  rw [hL] at hs ⊢
  clear hL hR
  have z1 : ((0 : Int) ≥ (L : Int)) = False := by simp only [ge_iff_le, eq_iff_iff, iff_false]; omega
  have z2 : wrap64 ((L : Int) - 1) = ((L - 1 : Nat) : Int) := (w64 (by omega) (by omega)).trans (by omega)
  go_enter Tryd.func12, Tryd.ntmps12
  go_wp2_with fail
  refine wp_scope_two (JF w R l (.slice (some ⟨g, 0, none⟩) L c)) (JB w R l (.slice (some ⟨g, 0, none⟩) L c)) rfl rfl ?pass1 ?pass0 ?first
  case first =>
    intro K0 K1 hp
    go_wp2_with fail
    rename_i K hK
    refine wp_label (hK _ _ (hp _ _ ⟨k, 0, none, 0, 0, [], undef, ⟨rfl, rfl, rfl, rfl, rfl, rfl, rfl, rfl, rfl⟩, ⟨HR.out, by omega, ⟨rfl, rfl, .inl ⟨rfl, rfl⟩⟩, Below.refl _ _⟩⟩))
  case pass1 =>
    clear z1 z2 d0 d1 d2 d3 d4
    rintro K0 K1 n h0 h1 act wr ⟨a, A, cs, M, stk, nv, hF, hrun, hfew, hstk, hbel⟩
    obtain ⟨f, rfl⟩ := hF.out
    clear hF
    obtain _ | n := n
    · cases hrun
    obtain _ | ⟨o, r⟩ := stk
    · have hM : M = 0 := hstk.1.symm
      subst hM
      have HB := Lib.hid hbel
      have hv := mach_top hrun
      subst hv
      clear hbel hstk hrun hfew h0 h1
      go_wp2_with fail
      refine two_ret ?_
      go_ret3
      exact ⟨rfl, HB.out⟩
    · obtain ⟨m, hm⟩ : ∃ m, M = m + 1 := ⟨M - 1, by have := hstk.1; simp at this; omega⟩
      rw [hm] at hstk
      obtain ⟨g2, rfl, hg2, hMc, hcm⟩ := hstk.form
      obtain ⟨hop, hfz⟩ := hstk.top
      have hn0 : ((M : Int) == 0) = false := by rw [beq_eq_false_iff_ne]; omega
      have hn1 : wrap64 ((M : Int) - 1) = (m : Int) := (w64 (by omega) (by omega)).trans (by omega)
      have hn2 : (m : Int) < (M : Int) := by omega
      have hn3 : (0 : Int) ≤ (m : Int) := by omega
      have hn4 : (m : Int) ≤ (cs : Int) := by omega
      obtain ⟨v, hv⟩ : ∃ v, reck 3 o.product nv = v := ⟨_, rfl⟩
      obtain ⟨t, ht, hcase⟩ := mach_beh hrun
      have a1 := at_lt HL.out ht
      have a0 : (0 : Int) ≤ (a : Int) := by omega
      have ap : wrap64 ((a : Int) + 1) = ((a + 1 : Nat) : Int) := (w64 (by omega) (by omega)).trans (by omega)
      have c3 := hop.c3
      have f3 := hfz (m * 4 + 3)
      have S1 := Lib.hid (hstk.times nv v hv)
      have B1 := Lib.hid (hbel.setCell (p := ⟨g2, m * 4 + 3, none⟩) hg2 (.int .i64 v))
      have HV := Lib.hid hv
      have HT := Lib.hid ht
      have HC := Lib.hid hcase
      have HH0 := Lib.hid h0
      have HH1 := Lib.hid h1
      have HF := Lib.hid hfew
      have HG := Lib.hid hg2
      have HM := Lib.hid hm
      have HK := Lib.hid (And.intro hMc hcm)
      clear hstk hbel hop hfz hrun hv ht hcase h0 h1 hfew hg2 hm hMc hcm
      go_wp2_with fail
      refine (times_v g2 (m * 4) o.product nv v HV.out wr c3 f3).mono ?_
      rintro e w1 ⟨rfl, rfl⟩
      clear c3 f3
      obtain ⟨d0, d1, d2, d3, d4⟩ := cells5t (HO.out.grow B1.out) a t HT.out
      go_wp2_with fail
      rcases HC.out with ⟨q1, hrun⟩ | ⟨q1, q2, hrun⟩ | ⟨q1, q2, q3, hrun⟩ | ⟨q1, q2, q3, q4, hrun⟩ | ⟨q1, q2, q3, q4, hrun⟩
      all_goals clear HC
      · refine (is_v t ⟨#[41]⟩ true q1 _).mono ?_
        rintro e w2 ⟨rfl, hb⟩
        clear d0 d1 d2 d3 d4
        have S2 := Lib.hid (S1.out.grow hb)
        have B2 := Lib.hid (B1.out.trans (hb.mono B1.out.size))
        clear hb S1 B1
        obtain ⟨v2, hv2⟩ : ∃ v2, (o.times nv).closed = v2 := ⟨_, rfl⟩
        rw [hv2] at hrun
        have HRun := Lib.hid hrun
        have HV2 := Lib.hid hv2
        clear hrun hv2 q1
        go_wp2_with fail
        refine (closed_v g2 (m * 4) _ v2 HV2.out w2 S2.out.top.1).mono ?_
        rintro e w3 ⟨rfl, hb⟩
        have S3 := Lib.hid (S2.out.grow hb).pop
        have B3 := Lib.hid (B2.out.trans (hb.mono B2.out.size))
        clear hb S2 B2
        go_wp2_with fail
        refine wp_goto ?_
        refine Or.inr ⟨rfl, HH1.out _ _ ⟨n, Nat.lt_succ_self _, a + 1, some ⟨g2, 0, none⟩, cs, m, r, v2, ⟨rfl, rfl, rfl, rfl, rfl, rfl, rfl, rfl, rfl⟩, HRun.out, ?_, S3.out, B3.out⟩⟩
        have := HF.out
        have := HM.out
        omega
      · refine (is_v t ⟨#[41]⟩ false q1 _).mono ?_
        rintro e w2 ⟨rfl, hb⟩
        clear d0 d1 d2 d3 d4
        have S2 := Lib.hid (S1.out.grow hb)
        have B2 := Lib.hid (B1.out.trans (hb.mono B1.out.size))
        clear hb S1 B1
        obtain ⟨d0, d1, d2, d3, d4⟩ := cells5t (HO.out.grow B2.out) a t HT.out
        go_wp2_with fail
        refine (is_v t ⟨#[42]⟩ true q2 _).mono ?_
        rintro e w3 ⟨rfl, hb⟩
        clear d0 d1 d2 d3 d4
        have S3 := Lib.hid (S2.out.grow hb)
        have B3 := Lib.hid (B2.out.trans (hb.mono B2.out.size))
        clear hb S2 B2
        have HRun := Lib.hid hrun
        clear hrun q1 q2
        go_wp2_with fail
        have hS := S3.out
        rw [← HM.out] at hS
        refine wp_goto ?_
        refine Or.inl ⟨rfl, HH0.out _ _ ⟨n, Nat.lt_succ_self _, a + 1, some ⟨g2, 0, none⟩, cs, M, o.times nv :: r, _, ⟨rfl, rfl, rfl, rfl, rfl, rfl, rfl, rfl, rfl⟩, HRun.out, HF.out, hS, B3.out⟩⟩
      · refine (is_v t ⟨#[41]⟩ false q1 _).mono ?_
        rintro e w2 ⟨rfl, hb⟩
        clear d0 d1 d2 d3 d4
        have S2 := Lib.hid (S1.out.grow hb)
        have B2 := Lib.hid (B1.out.trans (hb.mono B1.out.size))
        clear hb S1 B1
        obtain ⟨d0, d1, d2, d3, d4⟩ := cells5t (HO.out.grow B2.out) a t HT.out
        go_wp2_with fail
        refine (is_v t ⟨#[42]⟩ false q2 _).mono ?_
        rintro e w3 ⟨rfl, hb⟩
        clear d0 d1 d2 d3 d4
        have S3 := Lib.hid (S2.out.grow hb)
        have B3 := Lib.hid (B2.out.trans (hb.mono B2.out.size))
        clear hb S2 B2
        obtain ⟨d0, d1, d2, d3, d4⟩ := cells5t (HO.out.grow B3.out) a t HT.out
        go_wp2_with fail
        refine (is_v t ⟨#[43]⟩ true q3 _).mono ?_
        rintro e w4 ⟨rfl, hb⟩
        clear d0 d1 d2 d3 d4
        have S4 := Lib.hid (S3.out.grow hb)
        have B4 := Lib.hid (B3.out.trans (hb.mono B3.out.size))
        clear hb S3 B3
        have HRun := Lib.hid hrun
        clear hrun q1 q2 q3
        obtain ⟨v2, hv2⟩ : ∃ v2, (o.times nv).all = v2 := ⟨_, rfl⟩
        have HV2 := Lib.hid hv2
        clear hv2
        go_wp2_with fail
        refine (join_v g2 (m * 4) _ 1 v2 HV2.out w4 S4.out.top.1 (S4.out.top.2 _) (S4.out.top.2 _) (S4.out.top.2 _)).mono ?_
        rintro e w5 ⟨rfl, rfl⟩
        have hS := S4.out.join 1 v2 HV2.out
        have hB := ((((B4.out.setCell (p := ⟨g2, m * 4 + 1, none⟩) HG.out (.int .i64 v2)).setCell (p := ⟨g2, m * 4 + 2, none⟩) HG.out (.int .i64 1)).setCell (p := ⟨g2, m * 4 + 3, none⟩) HG.out (.int .i64 1))).drew
        rw [← HM.out] at hS
        have SJ := Lib.hid hS
        have BJ := Lib.hid hB
        clear hS hB S4 B4
        go_wp2_with fail
        refine wp_goto ?_
        refine Or.inl ⟨rfl, HH0.out _ _ ⟨n, Nat.lt_succ_self _, a + 1, some ⟨g2, 0, none⟩, cs, M, (o.times nv).join 1 :: r, _, ⟨rfl, rfl, rfl, rfl, rfl, rfl, rfl, rfl, rfl⟩, HRun.out, HF.out, SJ.out, BJ.out⟩⟩
      · refine (is_v t ⟨#[41]⟩ false q1 _).mono ?_
        rintro e w2 ⟨rfl, hb⟩
        clear d0 d1 d2 d3 d4
        have S2 := Lib.hid (S1.out.grow hb)
        have B2 := Lib.hid (B1.out.trans (hb.mono B1.out.size))
        clear hb S1 B1
        obtain ⟨d0, d1, d2, d3, d4⟩ := cells5t (HO.out.grow B2.out) a t HT.out
        go_wp2_with fail
        refine (is_v t ⟨#[42]⟩ false q2 _).mono ?_
        rintro e w3 ⟨rfl, hb⟩
        clear d0 d1 d2 d3 d4
        have S3 := Lib.hid (S2.out.grow hb)
        have B3 := Lib.hid (B2.out.trans (hb.mono B2.out.size))
        clear hb S2 B2
        obtain ⟨d0, d1, d2, d3, d4⟩ := cells5t (HO.out.grow B3.out) a t HT.out
        go_wp2_with fail
        refine (is_v t ⟨#[43]⟩ false q3 _).mono ?_
        rintro e w4 ⟨rfl, hb⟩
        clear d0 d1 d2 d3 d4
        have S4 := Lib.hid (S3.out.grow hb)
        have B4 := Lib.hid (B3.out.trans (hb.mono B3.out.size))
        clear hb S3 B3
        obtain ⟨d0, d1, d2, d3, d4⟩ := cells5t (HO.out.grow B4.out) a t HT.out
        go_wp2_with fail
        refine (is_v t ⟨#[45]⟩ true q4 _).mono ?_
        rintro e w5 ⟨rfl, hb⟩
        clear d0 d1 d2 d3 d4
        have S5 := Lib.hid (S4.out.grow hb)
        have B5 := Lib.hid (B4.out.trans (hb.mono B4.out.size))
        clear hb S4 B4
        have HRun := Lib.hid hrun
        clear hrun q1 q2 q3 q4
        obtain ⟨v2, hv2⟩ : ∃ v2, (o.times nv).all = v2 := ⟨_, rfl⟩
        have HV2 := Lib.hid hv2
        clear hv2
        go_wp2_with fail
        refine (join_v g2 (m * 4) _ 2 v2 HV2.out w5 S5.out.top.1 (S5.out.top.2 _) (S5.out.top.2 _) (S5.out.top.2 _)).mono ?_
        rintro e w6 ⟨rfl, rfl⟩
        have hS := S5.out.join 2 v2 HV2.out
        have hB := ((((B5.out.setCell (p := ⟨g2, m * 4 + 1, none⟩) HG.out (.int .i64 v2)).setCell (p := ⟨g2, m * 4 + 2, none⟩) HG.out (.int .i64 2)).setCell (p := ⟨g2, m * 4 + 3, none⟩) HG.out (.int .i64 1))).drew
        rw [← HM.out] at hS
        have SJ := Lib.hid hS
        have BJ := Lib.hid hB
        clear hS hB S5 B5
        go_wp2_with fail
        refine wp_goto ?_
        refine Or.inl ⟨rfl, HH0.out _ _ ⟨n, Nat.lt_succ_self _, a + 1, some ⟨g2, 0, none⟩, cs, M, (o.times nv).join 2 :: r, _, ⟨rfl, rfl, rfl, rfl, rfl, rfl, rfl, rfl, rfl⟩, HRun.out, HF.out, SJ.out, BJ.out⟩⟩
      · refine (is_v t ⟨#[41]⟩ false q1 _).mono ?_
        rintro e w2 ⟨rfl, hb⟩
        clear d0 d1 d2 d3 d4
        have S2 := Lib.hid (S1.out.grow hb)
        have B2 := Lib.hid (B1.out.trans (hb.mono B1.out.size))
        clear hb S1 B1
        obtain ⟨d0, d1, d2, d3, d4⟩ := cells5t (HO.out.grow B2.out) a t HT.out
        go_wp2_with fail
        refine (is_v t ⟨#[42]⟩ false q2 _).mono ?_
        rintro e w3 ⟨rfl, hb⟩
        clear d0 d1 d2 d3 d4
        have S3 := Lib.hid (S2.out.grow hb)
        have B3 := Lib.hid (B2.out.trans (hb.mono B2.out.size))
        clear hb S2 B2
        obtain ⟨d0, d1, d2, d3, d4⟩ := cells5t (HO.out.grow B3.out) a t HT.out
        go_wp2_with fail
        refine (is_v t ⟨#[43]⟩ false q3 _).mono ?_
        rintro e w4 ⟨rfl, hb⟩
        clear d0 d1 d2 d3 d4
        have S4 := Lib.hid (S3.out.grow hb)
        have B4 := Lib.hid (B3.out.trans (hb.mono B3.out.size))
        clear hb S3 B3
        obtain ⟨d0, d1, d2, d3, d4⟩ := cells5t (HO.out.grow B4.out) a t HT.out
        go_wp2_with fail
        refine (is_v t ⟨#[45]⟩ false q4 _).mono ?_
        rintro e w5 ⟨rfl, hb⟩
        clear d0 d1 d2 d3 d4
        have S5 := Lib.hid (S4.out.grow hb)
        have B5 := Lib.hid (B4.out.trans (hb.mono B4.out.size))
        clear hb S4 B4
        have HRun := Lib.hid hrun
        clear hrun q1 q2 q3 q4
        go_wp2_with fail
        have hw := wrong_v l N g c a 20 (by decide) t HT.out w5 (HO.out.grow B5.out)
        rw [HL.out] at hw
        refine hw.mono ?_
        rintro e w6 ⟨rfl, rfl⟩
        unfold Fau.bare
        go_wp2_with fail
        refine two_ret ?_
        go_ret3
        exact ⟨by rw [HRun.out]; rfl, B5.out⟩
  case pass0 =>
    clear z1 z2 d0 d1 d2 d3 d4
    obtain ⟨i0, hi0, hz0, hz1, hz2⟩ := info_parts info55z
    have I0 := Lib.hid (And.intro hi0 (And.intro hz0 (And.intro hz1 hz2)))
    clear hi0 hz0 hz1 hz2
    rintro K0 K1 n h0 h1 act wr ⟨a, A, cs, M, stk, nv, hF, hrun, hfew, hstk, hbel⟩
    obtain ⟨f, rfl⟩ := hF.out
    clear hF
    obtain _ | n := n
    · cases hrun
    obtain ⟨t0, t, ht0, hcase⟩ := mach_fac hrun
    have a1 := at_lt HL.out ht0
    have a0 : (0 : Int) ≤ (a : Int) := by omega
    have HM := Lib.hid hstk.1
    have HT0 := Lib.hid ht0
    have HC := Lib.hid hcase
    have S1 := Lib.hid hstk
    have B1 := Lib.hid hbel
    have HH0 := Lib.hid h0
    have HH1 := Lib.hid h1
    have HF := Lib.hid hfew
    clear hstk hbel hrun ht0 hcase h0 h1 hfew
    obtain ⟨d0, d1, d2, d3, d4⟩ := cells5t (HO.out.grow B1.out) a t0 HT0.out
    go_wp2_with fail
    rcases HC.out with ⟨hm, ht, hc⟩ | ⟨hm, ht, hc⟩
    all_goals clear HC
    · refine (is_v t0 ⟨#[45]⟩ true hm _).mono ?_
      rintro e w2 ⟨rfl, hb⟩
      clear d0 d1 d2 d3 d4
      have S2 := Lib.hid (S1.out.grow hb)
      have B2 := Lib.hid (B1.out.trans (hb.mono B1.out.size))
      clear hb S1 B1
      unfold FacP at hc
      have HT := Lib.hid ht
      obtain ⟨p, hp⟩ : ∃ p, a + 1 = p := ⟨_, rfl⟩
      rw [hp] at HT hc
      have p1 := at_lt HL.out HT.out
      have ap : (a : Int) + 1 = (p : Int) := by omega
      have p0 : (0 : Int) ≤ (p : Int) := by omega
      obtain ⟨p2, hp2⟩ : ∃ p2, p + 1 = p2 := ⟨_, rfl⟩
      rw [hp2] at hc
      have pp : (p : Int) + 1 = (p2 : Int) := by omega
      clear hp2 ht hm hp
      obtain ⟨d0, d1, d2, d3, d4⟩ := cells5t (HO.out.grow B2.out) p t HT.out
      go_wp2_with fail
      rcases hc with ⟨q1, q2, hrun⟩ | ⟨q1, q2, hrun⟩ | ⟨q1, n1, q2, hrun⟩ | ⟨q1, n1, c1, q2, q3, hrun⟩
      · refine (is_v t ⟨#[40]⟩ true q1 _).mono ?_
        rintro e w3 ⟨rfl, hb⟩
        clear d0 d1 d2 d3 d4
        have S3 := Lib.hid (S2.out.grow hb)
        have B3 := Lib.hid (B2.out.trans (hb.mono B2.out.size))
        clear hb S2 B2
        rw [HM.out] at q2
        have HRun := Lib.hid hrun
        have hM32 : M + 1 ≤ 32 := few_next HF.out q2
        have HQ := Lib.hid q2
        clear hrun q1 q2
        go_wp2_with fail
        refine (may_v M true 0 HQ.out _).mono ?_
        rintro e w4 ⟨rfl, rfl⟩
        go_wp2_with fail
        refine (opened_v true _).mono ?_
        rintro e w4 ⟨rfl, hb⟩
        have S4 := Lib.hid (S3.out.grow hb)
        have B4 := Lib.hid (B3.out.trans (hb.mono B3.out.size))
        clear hb S3 B3
        have HA := Lib.hid (And.intro (S4.out.2.alloc (.cells #[.bool true, .int .i64 0, .int .i64 1, .int .i64 1] 55)) (Nat.le_trans B4.out.size (by simp) : w.heap.size ≤ (w4.alloc (.cells #[.bool true, .int .i64 0, .int .i64 1, .int .i64 1] 55)).heap.size))
        go_wp2_with (at_builtin; refine wpList_append_lies _ rfl (.tmp 58) (.tmp 61) 50 rfl w.heap.size 55 i0 (.agg #[.bool false, .int .i64 0, .int .i64 0, .int .i64 0]) 4 32 Tryd.underlying50 I0.out.1 I0.out.2.1 I0.out.2.2.1 I0.out.2.2.2 rfl (by decide) (.slice A M cs) M (ocs stk.reverse) rfl HA.out.1 ⟨w4.heap.size, 0, none⟩ 1 1 (ocl (opened true)) rfl rfl (news_new w4 _ 55 _ rfl) (ocl_cell _) (by decide) (by unfold maxLen; omega) (by omega) HA.out.2 _ rfl ?_)
        intro g' cap' w5 hown hgrow _ _
        have H5 := Lib.hid (stk_step B4.out S4.out hown hgrow B4.out.size)
        clear hown hgrow
        go_wp2_with fail
        refine wp_goto ?_
        refine Or.inl ⟨rfl, HH0.out _ _ ⟨n, Nat.lt_succ_self _, p2, some ⟨g', 0, none⟩, cap', M + 1, opened true :: stk, _, ⟨rfl, rfl, rfl, rfl, rfl, rfl, rfl, rfl, rfl⟩, HRun.out, hM32, H5.out.2, H5.out.1⟩⟩
      · refine (is_v t ⟨#[40]⟩ true q1 _).mono ?_
        rintro e w3 ⟨rfl, hb⟩
        clear d0 d1 d2 d3 d4
        have S3 := Lib.hid (S2.out.grow hb)
        have B3 := Lib.hid (B2.out.trans (hb.mono B2.out.size))
        clear hb S2 B2
        rw [HM.out] at q2 hrun
        obtain ⟨v2, hv2⟩ : ∃ v2, mayT M true = v2 := ⟨_, rfl⟩
        rw [hv2] at q2 hrun
        have HRun := Lib.hid hrun
        have HV2 := Lib.hid hv2
        have HQ := Lib.hid q2
        have qz : (v2 == 0) = false := by rw [beq_eq_false_iff_ne]; exact q2
        clear hrun q1 q2 hv2
        go_wp2_with fail
        refine (may_v M true v2 HV2.out _).mono ?_
        rintro e w4 ⟨rfl, rfl⟩
        go_wp2_with fail
        have hw := wrong_v l N g c p v2 HQ.out t HT.out w3 (HO.out.grow B3.out)
        rw [HL.out] at hw
        refine hw.mono ?_
        rintro e w6 ⟨rfl, rfl⟩
        unfold Fau.bare
        go_wp2_with fail
        refine two_ret ?_
        go_ret3
        exact ⟨by rw [HRun.out]; rfl, B3.out⟩
      · refine (is_v t ⟨#[40]⟩ false q1 _).mono ?_
        rintro e w3 ⟨rfl, hb⟩
        clear d0 d1 d2 d3 d4
        have S3 := Lib.hid (S2.out.grow hb)
        have B3 := Lib.hid (B2.out.trans (hb.mono B2.out.size))
        clear hb S2 B2
        obtain ⟨d0, d1, d2, d3, d4⟩ := cells5t (HO.out.grow B3.out) p t HT.out
        have HRun := Lib.hid hrun
        have HQ := Lib.hid q2
        clear hrun q1 q2
        go_wp2_with fail
        refine (num_v t true n1 0 HQ.out _).mono ?_
        rintro e w4 ⟨rfl, hb⟩
        clear d0 d1 d2 d3 d4
        have S4 := Lib.hid (S3.out.grow hb)
        have B4 := Lib.hid (B3.out.trans (hb.mono B3.out.size))
        clear hb S3 B3
        go_wp2_with fail
        rename_i K hK
        refine wp_label (hK _ _ (HH1.out _ _ ⟨n, Nat.lt_succ_self _, p2, A, cs, M, stk, n1, ⟨rfl, rfl, rfl, rfl, rfl, rfl, rfl, rfl, rfl⟩, HRun.out, HF.out, S4.out, B4.out⟩))
      · refine (is_v t ⟨#[40]⟩ false q1 _).mono ?_
        rintro e w3 ⟨rfl, hb⟩
        clear d0 d1 d2 d3 d4
        have S3 := Lib.hid (S2.out.grow hb)
        have B3 := Lib.hid (B2.out.trans (hb.mono B2.out.size))
        clear hb S2 B2
        obtain ⟨d0, d1, d2, d3, d4⟩ := cells5t (HO.out.grow B3.out) p t HT.out
        have HRun := Lib.hid hrun
        have HQ := Lib.hid q2
        have HN := Lib.hid q3
        have qz : (c1 == 0) = false := by rw [beq_eq_false_iff_ne]; exact q3
        clear hrun q1 q2 q3
        go_wp2_with fail
        refine (num_v t true n1 c1 HQ.out _).mono ?_
        rintro e w4 ⟨rfl, hb⟩
        clear d0 d1 d2 d3 d4
        have B4 := Lib.hid (B3.out.trans (hb.mono B3.out.size))
        clear hb S3 B3
        go_wp2_with fail
        have hw := wrong_v l N g c p c1 HN.out t HT.out w4 (HO.out.grow B4.out)
        rw [HL.out] at hw
        refine hw.mono ?_
        rintro e w6 ⟨rfl, rfl⟩
        unfold Fau.bare
        go_wp2_with fail
        refine two_ret ?_
        go_ret3
        exact ⟨by rw [HRun.out]; rfl, B4.out⟩
    · refine (is_v t0 ⟨#[45]⟩ false hm _).mono ?_
      rintro e w2 ⟨rfl, hb⟩
      clear d0 d1 d2 d3 d4
      have S2 := Lib.hid (S1.out.grow hb)
      have B2 := Lib.hid (B1.out.trans (hb.mono B1.out.size))
      clear hb S1 B1
      unfold FacP at hc
      have HT := Lib.hid ht
      obtain ⟨p, hp⟩ : ∃ p, a = p := ⟨_, rfl⟩
      subst hp
      have p1 := at_lt HL.out HT.out
      have p0 : (0 : Int) ≤ (a : Int) := by omega
      obtain ⟨p2, hp2⟩ : ∃ p2, a + 1 = p2 := ⟨_, rfl⟩
      rw [hp2] at hc
      have pp : (a : Int) + 1 = (p2 : Int) := by omega
      clear hp2 ht hm
      obtain ⟨d0, d1, d2, d3, d4⟩ := cells5t (HO.out.grow B2.out) a t HT.out
      go_wp2_with fail
      rcases hc with ⟨q1, q2, hrun⟩ | ⟨q1, q2, hrun⟩ | ⟨q1, n1, q2, hrun⟩ | ⟨q1, n1, c1, q2, q3, hrun⟩
      · refine (is_v t ⟨#[40]⟩ true q1 _).mono ?_
        rintro e w3 ⟨rfl, hb⟩
        clear d0 d1 d2 d3 d4
        have S3 := Lib.hid (S2.out.grow hb)
        have B3 := Lib.hid (B2.out.trans (hb.mono B2.out.size))
        clear hb S2 B2
        rw [HM.out] at q2
        have HRun := Lib.hid hrun
        have hM32 : M + 1 ≤ 32 := few_next HF.out q2
        have HQ := Lib.hid q2
        clear hrun q1 q2
        go_wp2_with fail
        refine (may_v M false 0 HQ.out _).mono ?_
        rintro e w4 ⟨rfl, rfl⟩
        go_wp2_with fail
        refine (opened_v false _).mono ?_
        rintro e w4 ⟨rfl, hb⟩
        have S4 := Lib.hid (S3.out.grow hb)
        have B4 := Lib.hid (B3.out.trans (hb.mono B3.out.size))
        clear hb S3 B3
        have HA := Lib.hid (And.intro (S4.out.2.alloc (.cells #[.bool false, .int .i64 0, .int .i64 1, .int .i64 1] 55)) (Nat.le_trans B4.out.size (by simp) : w.heap.size ≤ (w4.alloc (.cells #[.bool false, .int .i64 0, .int .i64 1, .int .i64 1] 55)).heap.size))
        go_wp2_with (at_builtin; refine wpList_append_lies _ rfl (.tmp 58) (.tmp 61) 50 rfl w.heap.size 55 i0 (.agg #[.bool false, .int .i64 0, .int .i64 0, .int .i64 0]) 4 32 Tryd.underlying50 I0.out.1 I0.out.2.1 I0.out.2.2.1 I0.out.2.2.2 rfl (by decide) (.slice A M cs) M (ocs stk.reverse) rfl HA.out.1 ⟨w4.heap.size, 0, none⟩ 1 1 (ocl (opened false)) rfl rfl (news_new w4 _ 55 _ rfl) (ocl_cell _) (by decide) (by unfold maxLen; omega) (by omega) HA.out.2 _ rfl ?_)
        intro g' cap' w5 hown hgrow _ _
        have H5 := Lib.hid (stk_step B4.out S4.out hown hgrow B4.out.size)
        clear hown hgrow
        go_wp2_with fail
        refine wp_goto ?_
        refine Or.inl ⟨rfl, HH0.out _ _ ⟨n, Nat.lt_succ_self _, p2, some ⟨g', 0, none⟩, cap', M + 1, opened false :: stk, _, ⟨rfl, rfl, rfl, rfl, rfl, rfl, rfl, rfl, rfl⟩, HRun.out, hM32, H5.out.2, H5.out.1⟩⟩
      · refine (is_v t ⟨#[40]⟩ true q1 _).mono ?_
        rintro e w3 ⟨rfl, hb⟩
        clear d0 d1 d2 d3 d4
        have S3 := Lib.hid (S2.out.grow hb)
        have B3 := Lib.hid (B2.out.trans (hb.mono B2.out.size))
        clear hb S2 B2
        rw [HM.out] at q2 hrun
        obtain ⟨v2, hv2⟩ : ∃ v2, mayT M false = v2 := ⟨_, rfl⟩
        rw [hv2] at q2 hrun
        have HRun := Lib.hid hrun
        have HV2 := Lib.hid hv2
        have HQ := Lib.hid q2
        have qz : (v2 == 0) = false := by rw [beq_eq_false_iff_ne]; exact q2
        clear hrun q1 q2 hv2
        go_wp2_with fail
        refine (may_v M false v2 HV2.out _).mono ?_
        rintro e w4 ⟨rfl, rfl⟩
        go_wp2_with fail
        have hw := wrong_v l N g c a v2 HQ.out t HT.out w3 (HO.out.grow B3.out)
        rw [HL.out] at hw
        refine hw.mono ?_
        rintro e w6 ⟨rfl, rfl⟩
        unfold Fau.bare
        go_wp2_with fail
        refine two_ret ?_
        go_ret3
        exact ⟨by rw [HRun.out]; rfl, B3.out⟩
      · refine (is_v t ⟨#[40]⟩ false q1 _).mono ?_
        rintro e w3 ⟨rfl, hb⟩
        clear d0 d1 d2 d3 d4
        have S3 := Lib.hid (S2.out.grow hb)
        have B3 := Lib.hid (B2.out.trans (hb.mono B2.out.size))
        clear hb S2 B2
        obtain ⟨d0, d1, d2, d3, d4⟩ := cells5t (HO.out.grow B3.out) a t HT.out
        have HRun := Lib.hid hrun
        have HQ := Lib.hid q2
        clear hrun q1 q2
        go_wp2_with fail
        refine (num_v t false n1 0 HQ.out _).mono ?_
        rintro e w4 ⟨rfl, hb⟩
        clear d0 d1 d2 d3 d4
        have S4 := Lib.hid (S3.out.grow hb)
        have B4 := Lib.hid (B3.out.trans (hb.mono B3.out.size))
        clear hb S3 B3
        go_wp2_with fail
        rename_i K hK
        refine wp_label (hK _ _ (HH1.out _ _ ⟨n, Nat.lt_succ_self _, p2, A, cs, M, stk, n1, ⟨rfl, rfl, rfl, rfl, rfl, rfl, rfl, rfl, rfl⟩, HRun.out, HF.out, S4.out, B4.out⟩))
      · refine (is_v t ⟨#[40]⟩ false q1 _).mono ?_
        rintro e w3 ⟨rfl, hb⟩
        clear d0 d1 d2 d3 d4
        have S3 := Lib.hid (S2.out.grow hb)
        have B3 := Lib.hid (B2.out.trans (hb.mono B2.out.size))
        clear hb S2 B2
        obtain ⟨d0, d1, d2, d3, d4⟩ := cells5t (HO.out.grow B3.out) a t HT.out
        have HRun := Lib.hid hrun
        have HQ := Lib.hid q2
        have HN := Lib.hid q3
        have qz : (c1 == 0) = false := by rw [beq_eq_false_iff_ne]; exact q3
        clear hrun q1 q2 q3
        go_wp2_with fail
        refine (num_v t false n1 c1 HQ.out _).mono ?_
        rintro e w4 ⟨rfl, hb⟩
        clear d0 d1 d2 d3 d4
        have B4 := Lib.hid (B3.out.trans (hb.mono B3.out.size))
        clear hb S3 B3
        go_wp2_with fail
        have hw := wrong_v l N g c a c1 HN.out t HT.out w4 (HO.out.grow B4.out)
        rw [HL.out] at hw
        refine hw.mono ?_
        rintro e w6 ⟨rfl, rfl⟩
        unfold Fau.bare
        go_wp2_with fail
        refine two_ret ?_
        go_ret3
        exact ⟨by rw [HRun.out]; rfl, B4.out⟩
end Go.Proofs.YtgjaajofhfhadaaDoor.Fol
