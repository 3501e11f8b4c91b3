/- What Value answers, from any place of tokens that lie at the beginning of a block. -/
import Derived.Test.YtbpichjmkllfaaaGreatDoorPk14
import Derived.Test.YtbpichjmkllfaaaGreatDoorPk04
import Derived.Test.YtbpichjmkllfaaaGreatDoorProg
import Derived.WalkKit
import Derived.LaidEql
import Derived.RowKitTokens
import Derived.Below
import Derived.Deep.Light
import Derived.StillTailTactics
import Derived.Lib.Hide
namespace Go.Proofs.YtbpichjmkllfaaaGreatDoor.Fol
open Go.ChangeShapes Go.WideShapes Go.RowKit Lex
set_option linter.unusedVariables false
set_option maxRecDepth 20000

theorem w64 {n : Int} (h1 : -9223372036854775808 ≤ n) (h2 : n ≤ 9223372036854775807) : wrap64 n = n := IntWalk.wrap64_in n ⟨h1, h2⟩
theorem at_lt {l : List Tok} {a L : Nat} {t : Tok} (hL : l.length = L) (h : l[a]? = some t) : (a : Int) < (L : Int) := by
  have := (List.getElem?_eq_some_iff.1 h).1
  omega
theorem few_next {M : Nat} {m : Bool} (h : M ≤ 32) (hm : mayT M m = 0) : M + 1 ≤ 32 := by
  unfold mayT at hm
  by_cases h32 : M = 32
  · subst h32
    rw [if_neg (fun k => absurd k.1 (by decide)), if_pos rfl] at hm
    cases hm
  · omega
/-- Tokens that begin a block. -/
structure TkAt (w : World) (g : Nat) (l : List Tok) : Prop where
  lt : g < w.heap.size
  cells : ∀ k t, l[k]? = some t → w.cell? ⟨g, k * 5, none⟩ = some (.int .i64 t.kind) ∧ w.cell? ⟨g, k * 5 + 1, none⟩ = some (.string ⟨t.text.toArray⟩) ∧ w.cell? ⟨g, k * 5 + 2, none⟩ = some (.int .i64 t.n) ∧ w.cell? ⟨g, k * 5 + 3, none⟩ = some (.int .i64 t.cls) ∧ w.cell? ⟨g, k * 5 + 4, none⟩ = some (.int .i64 t.at_)
theorem TkAt.grow {w w' : World} {g : Nat} {l : List Tok} (h : TkAt w g l) (hb : Below w.heap.size w w') : TkAt w' g l := by
  refine ⟨Nat.lt_of_lt_of_le h.lt hb.size, fun k t ht => ?_⟩
  obtain ⟨c0, c1, c2, c3, c4⟩ := h.cells k t ht
  exact ⟨(hb.cell h.lt).trans c0, (hb.cell h.lt).trans c1, (hb.cell h.lt).trans c2, (hb.cell h.lt).trans c3, (hb.cell h.lt).trans c4⟩
theorem wrong_k (l : List Tok) (g c : Nat) (a : Nat) (code : Int) (hcode : ¬ code = 0) (t : Tok) (ht : l[a]? = some t) (w : World) (ho : TkAt w g l) :
    Calls Tryz.prog 175 #[.slice (some ⟨g, 0, none⟩) l.length c, .int .i64 (a : Int), .int .i64 code] w fun e w' => e = .returned (.tuple #[.int .i64 0, .int .i64 0, Fau.bare code (t.at_ : Int)]) ∧ w = w' := by
  obtain ⟨c0, c1, c2, c3, c4⟩ := ho.cells a t ht
  have hal : a < l.length := (List.getElem?_eq_some_iff.1 ht).1
  obtain ⟨L, hL⟩ : ∃ L, l.length = L := ⟨_, rfl⟩
  rw [hL] at hal ⊢
  have a1 : (a : Int) < (L : Int) := by omega
  have a0 : (0 : Int) ≤ (a : Int) := by omega
  have HC := Lib.hid hcode
  clear hcode c0 c1 c2 c3 ht hL ho
  go_enter Tryz.func175, Tryz.ntmps175
  go_wp2_with fail
  refine (Fau.new_v _ _ HC.out _).mono ?_
  rintro e w1 ⟨rfl, rfl⟩
  unfold Fau.bare
  go_wp2_with fail
  go_ret3
  exact ⟨rfl, rfl⟩
theorem value_at (l : List Tok) (g c a0 : Nat) (k : Nat) (R : Res) (hR : mach l k .fac a0 [] = some R) (ha0 : a0 < l.length) (ts : List Tok) (tl : Tok) (hk0 : tl.kind = 0) (hl : l = ts ++ [tl]) (hs : l.length < 9223372036854775807) (w : World) (ho : TkAt w g l) :
    Calls Tryz.prog 167 #[.slice (some ⟨g, 0, none⟩) l.length c, .int .i64 (a0 : Int)] w fun e w' => e = resE R ∧ Below w.heap.size w w' := by
  obtain ⟨L, hL⟩ : ∃ L, l.length = L := ⟨_, rfl⟩
  have hL0 : 0 < L := by rw [← hL, hl]; simp
  have hlast : l[L - 1]? = some tl := by rw [← hL, hl]; simp
  obtain ⟨d0, d1, d2, d3, d4⟩ := ho.cells (L - 1) _ hlast
  rw [hk0] at d0
  rw [hL] at ha0
  have HO := Lib.hid ho
  have HL := Lib.hid hL
  have HR := Lib.hid hR
  clear hlast hl ho hk0
  rw [hL] at hs ⊢
  clear hL hR
  have z1 : ((a0 : Int) ≥ (L : Int)) = False := by simp only [ge_iff_le, eq_iff_iff, iff_false]; omega
  have z0 : ((a0 : Int) < 0) = False := by simp only [eq_iff_iff, iff_false]; omega
  have z2 : wrap64 ((L : Int) - 1) = ((L - 1 : Nat) : Int) := (w64 (by omega) (by omega)).trans (by omega)
  go_enter Tryz.func167, Tryz.ntmps167
  go_wp2_with fail
  refine wp_scope_two (JF w R l (.slice (some ⟨g, 0, none⟩) L c)) (JB w R l (.slice (some ⟨g, 0, none⟩) L c)) rfl rfl ?pass1 ?pass0 ?first
  case first =>
    intro K0 K1 hp
    go_wp2_with fail
    rename_i K hK
    refine wp_label (hK _ _ (hp _ _ ⟨k, a0, none, 0, 0, [], undef, ⟨rfl, rfl, rfl, rfl, rfl, rfl, rfl, rfl, rfl⟩, ⟨HR.out, by omega, ⟨rfl, rfl, .inl ⟨rfl, rfl⟩⟩, Below.refl _ _⟩⟩))
  case pass1 =>
    clear z1 z2 z0 ha0 d0 d1 d2 d3 d4
    rintro K0 K1 n h0 h1 act wr ⟨a, A, cs, M, stk, nv, hF, hrun, hfew, hstk, hbel⟩
    obtain ⟨f, rfl⟩ := hF.out
    clear hF
    obtain _ | n := n
    · cases hrun
    obtain _ | ⟨o, r⟩ := stk
    · have hM : M = 0 := hstk.1.symm
      subst hM
      have HB := Lib.hid hbel
      have hv := mach_top hrun
      subst hv
      clear hbel hstk hrun hfew h0 h1
      go_wp2_with fail
      refine two_ret ?_
      go_ret3
      exact ⟨rfl, HB.out⟩
    · obtain ⟨m, hm⟩ : ∃ m, M = m + 1 := ⟨M - 1, by have := hstk.1; simp at this; omega⟩
      rw [hm] at hstk
      obtain ⟨g2, rfl, hg2, hMc, hcm⟩ := hstk.form
      obtain ⟨hop, hfz⟩ := hstk.top
      have hn0 : ((M : Int) == 0) = false := by rw [beq_eq_false_iff_ne]; omega
      have hn1 : wrap64 ((M : Int) - 1) = (m : Int) := (w64 (by omega) (by omega)).trans (by omega)
      have hn2 : (m : Int) < (M : Int) := by omega
      have hn3 : (0 : Int) ≤ (m : Int) := by omega
      have hn4 : (m : Int) ≤ (cs : Int) := by omega
      obtain ⟨v, hv⟩ : ∃ v, reck 3 o.product nv = v := ⟨_, rfl⟩
      obtain ⟨t, ht, hcase⟩ := mach_beh hrun
      have a1 := at_lt HL.out ht
      have a0 : (0 : Int) ≤ (a : Int) := by omega
      have ap : wrap64 ((a : Int) + 1) = ((a + 1 : Nat) : Int) := (w64 (by omega) (by omega)).trans (by omega)
      have c3 := hop.c3
      have f3 := hfz (m * 4 + 3)
      have S1 := Lib.hid (hstk.times nv v hv)
      have B1 := Lib.hid (hbel.setCell (p := ⟨g2, m * 4 + 3, none⟩) hg2 (.int .i64 v))
      have HV := Lib.hid hv
      have HT := Lib.hid ht
      have HC := Lib.hid hcase
      have HH0 := Lib.hid h0
      have HH1 := Lib.hid h1
      have HF := Lib.hid hfew
      have HG := Lib.hid hg2
      have HM := Lib.hid hm
      have HK := Lib.hid (And.intro hMc hcm)
      clear hstk hbel hop hfz hrun hv ht hcase h0 h1 hfew hg2 hm hMc hcm
      go_wp2_with fail
      refine (times_v g2 (m * 4) o.product nv v HV.out wr c3 f3).mono ?_
      rintro e w1 ⟨rfl, rfl⟩
      clear c3 f3
      obtain ⟨d0, d1, d2, d3, d4⟩ := (HO.out.grow B1.out).cells a t HT.out
      go_wp2_with fail
      rcases HC.out with ⟨q1, hrun⟩ | ⟨q1, q2, hrun⟩ | ⟨q1, q2, q3, hrun⟩ | ⟨q1, q2, q3, q4, hrun⟩ | ⟨q1, q2, q3, q4, hrun⟩
      all_goals clear HC
      · refine (is_v t ⟨#[41]⟩ true q1 _).mono ?_
        rintro e w2 ⟨rfl, hb⟩
        clear d0 d1 d2 d3 d4
        have S2 := Lib.hid (S1.out.grow hb)
        have B2 := Lib.hid (B1.out.trans (hb.mono B1.out.size))
        clear hb S1 B1
        obtain ⟨v2, hv2⟩ : ∃ v2, (o.times nv).closed = v2 := ⟨_, rfl⟩
        rw [hv2] at hrun
        have HRun := Lib.hid hrun
        have HV2 := Lib.hid hv2
        clear hrun hv2 q1
        go_wp2_with fail
        refine (closed_v g2 (m * 4) _ v2 HV2.out w2 S2.out.top.1).mono ?_
        rintro e w3 ⟨rfl, hb⟩
        have S3 := Lib.hid (S2.out.grow hb).pop
        have B3 := Lib.hid (B2.out.trans (hb.mono B2.out.size))
        clear hb S2 B2
        go_wp2_with fail
        refine wp_goto ?_
        refine Or.inr ⟨rfl, HH1.out _ _ ⟨n, Nat.lt_succ_self _, a + 1, some ⟨g2, 0, none⟩, cs, m, r, v2, ⟨rfl, rfl, rfl, rfl, rfl, rfl, rfl, rfl, rfl⟩, HRun.out, ?_, S3.out, B3.out⟩⟩
        have := HF.out
        have := HM.out
        omega
      · refine (is_v t ⟨#[41]⟩ false q1 _).mono ?_
        rintro e w2 ⟨rfl, hb⟩
        clear d0 d1 d2 d3 d4
        have S2 := Lib.hid (S1.out.grow hb)
        have B2 := Lib.hid (B1.out.trans (hb.mono B1.out.size))
        clear hb S1 B1
        obtain ⟨d0, d1, d2, d3, d4⟩ := (HO.out.grow B2.out).cells a t HT.out
        go_wp2_with fail
        refine (is_v t ⟨#[42]⟩ true q2 _).mono ?_
        rintro e w3 ⟨rfl, hb⟩
        clear d0 d1 d2 d3 d4
        have S3 := Lib.hid (S2.out.grow hb)
        have B3 := Lib.hid (B2.out.trans (hb.mono B2.out.size))
        clear hb S2 B2
        have HRun := Lib.hid hrun
        clear hrun q1 q2
        go_wp2_with fail
        have hS := S3.out
        rw [← HM.out] at hS
        refine wp_goto ?_
        refine Or.inl ⟨rfl, HH0.out _ _ ⟨n, Nat.lt_succ_self _, a + 1, some ⟨g2, 0, none⟩, cs, M, o.times nv :: r, _, ⟨rfl, rfl, rfl, rfl, rfl, rfl, rfl, rfl, rfl⟩, HRun.out, HF.out, hS, B3.out⟩⟩
      · refine (is_v t ⟨#[41]⟩ false q1 _).mono ?_
        rintro e w2 ⟨rfl, hb⟩
        clear d0 d1 d2 d3 d4
        have S2 := Lib.hid (S1.out.grow hb)
        have B2 := Lib.hid (B1.out.trans (hb.mono B1.out.size))
        clear hb S1 B1
        obtain ⟨d0, d1, d2, d3, d4⟩ := (HO.out.grow B2.out).cells a t HT.out
        go_wp2_with fail
        refine (is_v t ⟨#[42]⟩ false q2 _).mono ?_
        rintro e w3 ⟨rfl, hb⟩
        clear d0 d1 d2 d3 d4
        have S3 := Lib.hid (S2.out.grow hb)
        have B3 := Lib.hid (B2.out.trans (hb.mono B2.out.size))
        clear hb S2 B2
        obtain ⟨d0, d1, d2, d3, d4⟩ := (HO.out.grow B3.out).cells a t HT.out
        go_wp2_with fail
        refine (is_v t ⟨#[43]⟩ true q3 _).mono ?_
        rintro e w4 ⟨rfl, hb⟩
        clear d0 d1 d2 d3 d4
        have S4 := Lib.hid (S3.out.grow hb)
        have B4 := Lib.hid (B3.out.trans (hb.mono B3.out.size))
        clear hb S3 B3
        have HRun := Lib.hid hrun
        clear hrun q1 q2 q3
        obtain ⟨v2, hv2⟩ : ∃ v2, (o.times nv).all = v2 := ⟨_, rfl⟩
        have HV2 := Lib.hid hv2
        clear hv2
        go_wp2_with fail
        refine (join_v g2 (m * 4) _ 1 v2 HV2.out w4 S4.out.top.1 (S4.out.top.2 _) (S4.out.top.2 _) (S4.out.top.2 _)).mono ?_
        rintro e w5 ⟨rfl, rfl⟩
        have hS := S4.out.join 1 v2 HV2.out
        have hB := ((((B4.out.setCell (p := ⟨g2, m * 4 + 1, none⟩) HG.out (.int .i64 v2)).setCell (p := ⟨g2, m * 4 + 2, none⟩) HG.out (.int .i64 1)).setCell (p := ⟨g2, m * 4 + 3, none⟩) HG.out (.int .i64 1))).drew
        rw [← HM.out] at hS
        have SJ := Lib.hid hS
        have BJ := Lib.hid hB
        clear hS hB S4 B4
        go_wp2_with fail
        refine wp_goto ?_
        refine Or.inl ⟨rfl, HH0.out _ _ ⟨n, Nat.lt_succ_self _, a + 1, some ⟨g2, 0, none⟩, cs, M, (o.times nv).join 1 :: r, _, ⟨rfl, rfl, rfl, rfl, rfl, rfl, rfl, rfl, rfl⟩, HRun.out, HF.out, SJ.out, BJ.out⟩⟩
      · refine (is_v t ⟨#[41]⟩ false q1 _).mono ?_
        rintro e w2 ⟨rfl, hb⟩
        clear d0 d1 d2 d3 d4
        have S2 := Lib.hid (S1.out.grow hb)
        have B2 := Lib.hid (B1.out.trans (hb.mono B1.out.size))
        clear hb S1 B1
        obtain ⟨d0, d1, d2, d3, d4⟩ := (HO.out.grow B2.out).cells a t HT.out
        go_wp2_with fail
        refine (is_v t ⟨#[42]⟩ false q2 _).mono ?_
        rintro e w3 ⟨rfl, hb⟩
        clear d0 d1 d2 d3 d4
        have S3 := Lib.hid (S2.out.grow hb)
        have B3 := Lib.hid (B2.out.trans (hb.mono B2.out.size))
        clear hb S2 B2
        obtain ⟨d0, d1, d2, d3, d4⟩ := (HO.out.grow B3.out).cells a t HT.out
        go_wp2_with fail
        refine (is_v t ⟨#[43]⟩ false q3 _).mono ?_
        rintro e w4 ⟨rfl, hb⟩
        clear d0 d1 d2 d3 d4
        have S4 := Lib.hid (S3.out.grow hb)
        have B4 := Lib.hid (B3.out.trans (hb.mono B3.out.size))
        clear hb S3 B3
        obtain ⟨d0, d1, d2, d3, d4⟩ := (HO.out.grow B4.out).cells a t HT.out
        go_wp2_with fail
        refine (is_v t ⟨#[45]⟩ true q4 _).mono ?_
        rintro e w5 ⟨rfl, hb⟩
        clear d0 d1 d2 d3 d4
        have S5 := Lib.hid (S4.out.grow hb)
        have B5 := Lib.hid (B4.out.trans (hb.mono B4.out.size))
        clear hb S4 B4
        have HRun := Lib.hid hrun
        clear hrun q1 q2 q3 q4
        obtain ⟨v2, hv2⟩ : ∃ v2, (o.times nv).all = v2 := ⟨_, rfl⟩
        have HV2 := Lib.hid hv2
        clear hv2
        go_wp2_with fail
        refine (join_v g2 (m * 4) _ 2 v2 HV2.out w5 S5.out.top.1 (S5.out.top.2 _) (S5.out.top.2 _) (S5.out.top.2 _)).mono ?_
        rintro e w6 ⟨rfl, rfl⟩
        have hS := S5.out.join 2 v2 HV2.out
        have hB := ((((B5.out.setCell (p := ⟨g2, m * 4 + 1, none⟩) HG.out (.int .i64 v2)).setCell (p := ⟨g2, m * 4 + 2, none⟩) HG.out (.int .i64 2)).setCell (p := ⟨g2, m * 4 + 3, none⟩) HG.out (.int .i64 1))).drew
        rw [← HM.out] at hS
        have SJ := Lib.hid hS
        have BJ := Lib.hid hB
        clear hS hB S5 B5
        go_wp2_with fail
        refine wp_goto ?_
        refine Or.inl ⟨rfl, HH0.out _ _ ⟨n, Nat.lt_succ_self _, a + 1, some ⟨g2, 0, none⟩, cs, M, (o.times nv).join 2 :: r, _, ⟨rfl, rfl, rfl, rfl, rfl, rfl, rfl, rfl, rfl⟩, HRun.out, HF.out, SJ.out, BJ.out⟩⟩
      · refine (is_v t ⟨#[41]⟩ false q1 _).mono ?_
        rintro e w2 ⟨rfl, hb⟩
        clear d0 d1 d2 d3 d4
        have S2 := Lib.hid (S1.out.grow hb)
        have B2 := Lib.hid (B1.out.trans (hb.mono B1.out.size))
        clear hb S1 B1
        obtain ⟨d0, d1, d2, d3, d4⟩ := (HO.out.grow B2.out).cells a t HT.out
        go_wp2_with fail
        refine (is_v t ⟨#[42]⟩ false q2 _).mono ?_
        rintro e w3 ⟨rfl, hb⟩
        clear d0 d1 d2 d3 d4
        have S3 := Lib.hid (S2.out.grow hb)
        have B3 := Lib.hid (B2.out.trans (hb.mono B2.out.size))
        clear hb S2 B2
        obtain ⟨d0, d1, d2, d3, d4⟩ := (HO.out.grow B3.out).cells a t HT.out
        go_wp2_with fail
        refine (is_v t ⟨#[43]⟩ false q3 _).mono ?_
        rintro e w4 ⟨rfl, hb⟩
        clear d0 d1 d2 d3 d4
        have S4 := Lib.hid (S3.out.grow hb)
        have B4 := Lib.hid (B3.out.trans (hb.mono B3.out.size))
        clear hb S3 B3
        obtain ⟨d0, d1, d2, d3, d4⟩ := (HO.out.grow B4.out).cells a t HT.out
        go_wp2_with fail
        refine (is_v t ⟨#[45]⟩ false q4 _).mono ?_
        rintro e w5 ⟨rfl, hb⟩
        clear d0 d1 d2 d3 d4
        have S5 := Lib.hid (S4.out.grow hb)
        have B5 := Lib.hid (B4.out.trans (hb.mono B4.out.size))
        clear hb S4 B4
        have HRun := Lib.hid hrun
        clear hrun q1 q2 q3 q4
        go_wp2_with fail
        have hw := wrong_k l g c a 20 (by decide) t HT.out w5 (HO.out.grow B5.out)
        rw [HL.out] at hw
        refine hw.mono ?_
        rintro e w6 ⟨rfl, rfl⟩
        unfold Fau.bare
        go_wp2_with fail
        refine two_ret ?_
        go_ret3
        exact ⟨by rw [HRun.out]; rfl, B5.out⟩
  case pass0 =>
    clear z1 z2 z0 ha0 d0 d1 d2 d3 d4
    obtain ⟨i0, hi0, hz0, hz1, hz2⟩ := info_parts info55z
    have I0 := Lib.hid (And.intro hi0 (And.intro hz0 (And.intro hz1 hz2)))
    clear hi0 hz0 hz1 hz2
    rintro K0 K1 n h0 h1 act wr ⟨a, A, cs, M, stk, nv, hF, hrun, hfew, hstk, hbel⟩
    obtain ⟨f, rfl⟩ := hF.out
    clear hF
    obtain _ | n := n
    · cases hrun
    obtain ⟨t0, t, ht0, hcase⟩ := mach_fac hrun
    have a1 := at_lt HL.out ht0
    have a0 : (0 : Int) ≤ (a : Int) := by omega
    have HM := Lib.hid hstk.1
    have HT0 := Lib.hid ht0
    have HC := Lib.hid hcase
    have S1 := Lib.hid hstk
    have B1 := Lib.hid hbel
    have HH0 := Lib.hid h0
    have HH1 := Lib.hid h1
    have HF := Lib.hid hfew
    clear hstk hbel hrun ht0 hcase h0 h1 hfew
    obtain ⟨d0, d1, d2, d3, d4⟩ := (HO.out.grow B1.out).cells a t0 HT0.out
    go_wp2_with fail
    rcases HC.out with ⟨hm, ht, hc⟩ | ⟨hm, ht, hc⟩
    all_goals clear HC
    · refine (is_v t0 ⟨#[45]⟩ true hm _).mono ?_
      rintro e w2 ⟨rfl, hb⟩
      clear d0 d1 d2 d3 d4
      have S2 := Lib.hid (S1.out.grow hb)
      have B2 := Lib.hid (B1.out.trans (hb.mono B1.out.size))
      clear hb S1 B1
      unfold FacP at hc
      have HT := Lib.hid ht
      obtain ⟨p, hp⟩ : ∃ p, a + 1 = p := ⟨_, rfl⟩
      rw [hp] at HT hc
      have p1 := at_lt HL.out HT.out
      have ap : (a : Int) + 1 = (p : Int) := by omega
      have p0 : (0 : Int) ≤ (p : Int) := by omega
      obtain ⟨p2, hp2⟩ : ∃ p2, p + 1 = p2 := ⟨_, rfl⟩
      rw [hp2] at hc
      have pp : (p : Int) + 1 = (p2 : Int) := by omega
      clear hp2 ht hm hp
      obtain ⟨d0, d1, d2, d3, d4⟩ := (HO.out.grow B2.out).cells p t HT.out
      go_wp2_with fail
      rcases hc with ⟨q1, q2, hrun⟩ | ⟨q1, q2, hrun⟩ | ⟨q1, n1, q2, hrun⟩ | ⟨q1, n1, c1, q2, q3, hrun⟩
      · refine (is_v t ⟨#[40]⟩ true q1 _).mono ?_
        rintro e w3 ⟨rfl, hb⟩
        clear d0 d1 d2 d3 d4
        have S3 := Lib.hid (S2.out.grow hb)
        have B3 := Lib.hid (B2.out.trans (hb.mono B2.out.size))
        clear hb S2 B2
        rw [HM.out] at q2
        have HRun := Lib.hid hrun
        have hM32 : M + 1 ≤ 32 := few_next HF.out q2
        have HQ := Lib.hid q2
        clear hrun q1 q2
        go_wp2_with fail
        refine (may_v M true 0 HQ.out _).mono ?_
        rintro e w4 ⟨rfl, rfl⟩
        go_wp2_with fail
        refine (opened_v true _).mono ?_
        rintro e w4 ⟨rfl, hb⟩
        have S4 := Lib.hid (S3.out.grow hb)
        have B4 := Lib.hid (B3.out.trans (hb.mono B3.out.size))
        clear hb S3 B3
        have HA := Lib.hid (And.intro (S4.out.2.alloc (.cells #[.bool true, .int .i64 0, .int .i64 1, .int .i64 1] 241)) (Nat.le_trans B4.out.size (by simp) : w.heap.size ≤ (w4.alloc (.cells #[.bool true, .int .i64 0, .int .i64 1, .int .i64 1] 241)).heap.size))
        go_wp2_with (at_builtin; refine wpList_append_lies _ rfl (.tmp 58) (.tmp 61) 237 rfl w.heap.size 241 i0 (.agg #[.bool false, .int .i64 0, .int .i64 0, .int .i64 0]) 4 32 Tryz.underlying237 I0.out.1 I0.out.2.1 I0.out.2.2.1 I0.out.2.2.2 rfl (by decide) (.slice A M cs) M (ocs stk.reverse) rfl HA.out.1 ⟨w4.heap.size, 0, none⟩ 1 1 (ocl (opened true)) rfl rfl (news_new w4 _ 241 _ rfl) (ocl_cell _) (by decide) (by unfold maxLen; omega) (by omega) HA.out.2 _ rfl ?_)
        intro g' cap' w5 hown hgrow _ _
        have H5 := Lib.hid (stk_step B4.out S4.out hown hgrow B4.out.size)
        clear hown hgrow
        go_wp2_with fail
        refine wp_goto ?_
        refine Or.inl ⟨rfl, HH0.out _ _ ⟨n, Nat.lt_succ_self _, p2, some ⟨g', 0, none⟩, cap', M + 1, opened true :: stk, _, ⟨rfl, rfl, rfl, rfl, rfl, rfl, rfl, rfl, rfl⟩, HRun.out, hM32, H5.out.2, H5.out.1⟩⟩
      · refine (is_v t ⟨#[40]⟩ true q1 _).mono ?_
        rintro e w3 ⟨rfl, hb⟩
        clear d0 d1 d2 d3 d4
        have S3 := Lib.hid (S2.out.grow hb)
        have B3 := Lib.hid (B2.out.trans (hb.mono B2.out.size))
        clear hb S2 B2
        rw [HM.out] at q2 hrun
        obtain ⟨v2, hv2⟩ : ∃ v2, mayT M true = v2 := ⟨_, rfl⟩
        rw [hv2] at q2 hrun
        have HRun := Lib.hid hrun
        have HV2 := Lib.hid hv2
        have HQ := Lib.hid q2
        have qz : (v2 == 0) = false := by rw [beq_eq_false_iff_ne]; exact q2
        clear hrun q1 q2 hv2
        go_wp2_with fail
        refine (may_v M true v2 HV2.out _).mono ?_
        rintro e w4 ⟨rfl, rfl⟩
        go_wp2_with fail
        have hw := wrong_k l g c p v2 HQ.out t HT.out w3 (HO.out.grow B3.out)
        rw [HL.out] at hw
        refine hw.mono ?_
        rintro e w6 ⟨rfl, rfl⟩
        unfold Fau.bare
        go_wp2_with fail
        refine two_ret ?_
        go_ret3
        exact ⟨by rw [HRun.out]; rfl, B3.out⟩
      · refine (is_v t ⟨#[40]⟩ false q1 _).mono ?_
        rintro e w3 ⟨rfl, hb⟩
        clear d0 d1 d2 d3 d4
        have S3 := Lib.hid (S2.out.grow hb)
        have B3 := Lib.hid (B2.out.trans (hb.mono B2.out.size))
        clear hb S2 B2
        obtain ⟨d0, d1, d2, d3, d4⟩ := (HO.out.grow B3.out).cells p t HT.out
        have HRun := Lib.hid hrun
        have HQ := Lib.hid q2
        clear hrun q1 q2
        go_wp2_with fail
        refine (num_v t true n1 0 HQ.out _).mono ?_
        rintro e w4 ⟨rfl, hb⟩
        clear d0 d1 d2 d3 d4
        have S4 := Lib.hid (S3.out.grow hb)
        have B4 := Lib.hid (B3.out.trans (hb.mono B3.out.size))
        clear hb S3 B3
        go_wp2_with fail
        rename_i K hK
        refine wp_label (hK _ _ (HH1.out _ _ ⟨n, Nat.lt_succ_self _, p2, A, cs, M, stk, n1, ⟨rfl, rfl, rfl, rfl, rfl, rfl, rfl, rfl, rfl⟩, HRun.out, HF.out, S4.out, B4.out⟩))
      · refine (is_v t ⟨#[40]⟩ false q1 _).mono ?_
        rintro e w3 ⟨rfl, hb⟩
        clear d0 d1 d2 d3 d4
        have S3 := Lib.hid (S2.out.grow hb)
        have B3 := Lib.hid (B2.out.trans (hb.mono B2.out.size))
        clear hb S2 B2
        obtain ⟨d0, d1, d2, d3, d4⟩ := (HO.out.grow B3.out).cells p t HT.out
        have HRun := Lib.hid hrun
        have HQ := Lib.hid q2
        have HN := Lib.hid q3
        have qz : (c1 == 0) = false := by rw [beq_eq_false_iff_ne]; exact q3
        clear hrun q1 q2 q3
        go_wp2_with fail
        refine (num_v t true n1 c1 HQ.out _).mono ?_
        rintro e w4 ⟨rfl, hb⟩
        clear d0 d1 d2 d3 d4
        have B4 := Lib.hid (B3.out.trans (hb.mono B3.out.size))
        clear hb S3 B3
        go_wp2_with fail
        have hw := wrong_k l g c p c1 HN.out t HT.out w4 (HO.out.grow B4.out)
        rw [HL.out] at hw
        refine hw.mono ?_
        rintro e w6 ⟨rfl, rfl⟩
        unfold Fau.bare
        go_wp2_with fail
        refine two_ret ?_
        go_ret3
        exact ⟨by rw [HRun.out]; rfl, B4.out⟩
    · refine (is_v t0 ⟨#[45]⟩ false hm _).mono ?_
      rintro e w2 ⟨rfl, hb⟩
      clear d0 d1 d2 d3 d4
      have S2 := Lib.hid (S1.out.grow hb)
      have B2 := Lib.hid (B1.out.trans (hb.mono B1.out.size))
      clear hb S1 B1
      unfold FacP at hc
      have HT := Lib.hid ht
      obtain ⟨p, hp⟩ : ∃ p, a = p := ⟨_, rfl⟩
      subst hp
      have p1 := at_lt HL.out HT.out
      have p0 : (0 : Int) ≤ (a : Int) := by omega
      obtain ⟨p2, hp2⟩ : ∃ p2, a + 1 = p2 := ⟨_, rfl⟩
      rw [hp2] at hc
      have pp : (a : Int) + 1 = (p2 : Int) := by omega
      clear hp2 ht hm
      obtain ⟨d0, d1, d2, d3, d4⟩ := (HO.out.grow B2.out).cells a t HT.out
      go_wp2_with fail
      rcases hc with ⟨q1, q2, hrun⟩ | ⟨q1, q2, hrun⟩ | ⟨q1, n1, q2, hrun⟩ | ⟨q1, n1, c1, q2, q3, hrun⟩
      · refine (is_v t ⟨#[40]⟩ true q1 _).mono ?_
        rintro e w3 ⟨rfl, hb⟩
        clear d0 d1 d2 d3 d4
        have S3 := Lib.hid (S2.out.grow hb)
        have B3 := Lib.hid (B2.out.trans (hb.mono B2.out.size))
        clear hb S2 B2
        rw [HM.out] at q2
        have HRun := Lib.hid hrun
        have hM32 : M + 1 ≤ 32 := few_next HF.out q2
        have HQ := Lib.hid q2
        clear hrun q1 q2
        go_wp2_with fail
        refine (may_v M false 0 HQ.out _).mono ?_
        rintro e w4 ⟨rfl, rfl⟩
        go_wp2_with fail
        refine (opened_v false _).mono ?_
        rintro e w4 ⟨rfl, hb⟩
        have S4 := Lib.hid (S3.out.grow hb)
        have B4 := Lib.hid (B3.out.trans (hb.mono B3.out.size))
        clear hb S3 B3
        have HA := Lib.hid (And.intro (S4.out.2.alloc (.cells #[.bool false, .int .i64 0, .int .i64 1, .int .i64 1] 241)) (Nat.le_trans B4.out.size (by simp) : w.heap.size ≤ (w4.alloc (.cells #[.bool false, .int .i64 0, .int .i64 1, .int .i64 1] 241)).heap.size))
        go_wp2_with (at_builtin; refine wpList_append_lies _ rfl (.tmp 58) (.tmp 61) 237 rfl w.heap.size 241 i0 (.agg #[.bool false, .int .i64 0, .int .i64 0, .int .i64 0]) 4 32 Tryz.underlying237 I0.out.1 I0.out.2.1 I0.out.2.2.1 I0.out.2.2.2 rfl (by decide) (.slice A M cs) M (ocs stk.reverse) rfl HA.out.1 ⟨w4.heap.size, 0, none⟩ 1 1 (ocl (opened false)) rfl rfl (news_new w4 _ 241 _ rfl) (ocl_cell _) (by decide) (by unfold maxLen; omega) (by omega) HA.out.2 _ rfl ?_)
        intro g' cap' w5 hown hgrow _ _
        have H5 := Lib.hid (stk_step B4.out S4.out hown hgrow B4.out.size)
        clear hown hgrow
        go_wp2_with fail
        refine wp_goto ?_
        refine Or.inl ⟨rfl, HH0.out _ _ ⟨n, Nat.lt_succ_self _, p2, some ⟨g', 0, none⟩, cap', M + 1, opened false :: stk, _, ⟨rfl, rfl, rfl, rfl, rfl, rfl, rfl, rfl, rfl⟩, HRun.out, hM32, H5.out.2, H5.out.1⟩⟩
      · refine (is_v t ⟨#[40]⟩ true q1 _).mono ?_
        rintro e w3 ⟨rfl, hb⟩
        clear d0 d1 d2 d3 d4
        have S3 := Lib.hid (S2.out.grow hb)
        have B3 := Lib.hid (B2.out.trans (hb.mono B2.out.size))
        clear hb S2 B2
        rw [HM.out] at q2 hrun
        obtain ⟨v2, hv2⟩ : ∃ v2, mayT M false = v2 := ⟨_, rfl⟩
        rw [hv2] at q2 hrun
        have HRun := Lib.hid hrun
        have HV2 := Lib.hid hv2
        have HQ := Lib.hid q2
        have qz : (v2 == 0) = false := by rw [beq_eq_false_iff_ne]; exact q2
        clear hrun q1 q2 hv2
        go_wp2_with fail
        refine (may_v M false v2 HV2.out _).mono ?_
        rintro e w4 ⟨rfl, rfl⟩
        go_wp2_with fail
        have hw := wrong_k l g c a v2 HQ.out t HT.out w3 (HO.out.grow B3.out)
        rw [HL.out] at hw
        refine hw.mono ?_
        rintro e w6 ⟨rfl, rfl⟩
        unfold Fau.bare
        go_wp2_with fail
        refine two_ret ?_
        go_ret3
        exact ⟨by rw [HRun.out]; rfl, B3.out⟩
      · refine (is_v t ⟨#[40]⟩ false q1 _).mono ?_
        rintro e w3 ⟨rfl, hb⟩
        clear d0 d1 d2 d3 d4
        have S3 := Lib.hid (S2.out.grow hb)
        have B3 := Lib.hid (B2.out.trans (hb.mono B2.out.size))
        clear hb S2 B2
        obtain ⟨d0, d1, d2, d3, d4⟩ := (HO.out.grow B3.out).cells a t HT.out
        have HRun := Lib.hid hrun
        have HQ := Lib.hid q2
        clear hrun q1 q2
        go_wp2_with fail
        refine (num_v t false n1 0 HQ.out _).mono ?_
        rintro e w4 ⟨rfl, hb⟩
        clear d0 d1 d2 d3 d4
        have S4 := Lib.hid (S3.out.grow hb)
        have B4 := Lib.hid (B3.out.trans (hb.mono B3.out.size))
        clear hb S3 B3
        go_wp2_with fail
        rename_i K hK
        refine wp_label (hK _ _ (HH1.out _ _ ⟨n, Nat.lt_succ_self _, p2, A, cs, M, stk, n1, ⟨rfl, rfl, rfl, rfl, rfl, rfl, rfl, rfl, rfl⟩, HRun.out, HF.out, S4.out, B4.out⟩))
      · refine (is_v t ⟨#[40]⟩ false q1 _).mono ?_
        rintro e w3 ⟨rfl, hb⟩
        clear d0 d1 d2 d3 d4
        have S3 := Lib.hid (S2.out.grow hb)
        have B3 := Lib.hid (B2.out.trans (hb.mono B2.out.size))
        clear hb S2 B2
        obtain ⟨d0, d1, d2, d3, d4⟩ := (HO.out.grow B3.out).cells a t HT.out
        have HRun := Lib.hid hrun
        have HQ := Lib.hid q2
        have HN := Lib.hid q3
        have qz : (c1 == 0) = false := by rw [beq_eq_false_iff_ne]; exact q3
        clear hrun q1 q2 q3
        go_wp2_with fail
        refine (num_v t false n1 c1 HQ.out _).mono ?_
        rintro e w4 ⟨rfl, hb⟩
        clear d0 d1 d2 d3 d4
        have B4 := Lib.hid (B3.out.trans (hb.mono B3.out.size))
        clear hb S3 B3
        go_wp2_with fail
        have hw := wrong_k l g c a c1 HN.out t HT.out w4 (HO.out.grow B4.out)
        rw [HL.out] at hw
        refine hw.mono ?_
        rintro e w6 ⟨rfl, rfl⟩
        unfold Fau.bare
        go_wp2_with fail
        refine two_ret ?_
        go_ret3
        exact ⟨by rw [HRun.out]; rfl, B4.out⟩
end Go.Proofs.YtbpichjmkllfaaaGreatDoor.Fol

/- What the small functions of op answer: Is, Machine, Last, Labels, and what a place may have. -/
namespace Go.Proofs.YtbpichjmkllfaaaGreatDoor.Opr
open Go.ChangeShapes Go.WideShapes Go.RowKit
set_option linter.unusedVariables false
set_option maxRecDepth 20000

theorem is_v (n : Int) (b : Bool) (h : isOp n = b) (w : World) : Calls Tryz.prog 156 #[.int .i64 n] w fun e w' => e = .returned (.bool b) ∧ w = w' := by
  unfold isOp at h
  by_cases h1 : 1 ≤ n
  · have c1 : decide (1 ≤ n) = true := decide_eq_true h1
    by_cases h2 : n ≤ 27
    · have c2 : decide (n ≤ 27) = true := decide_eq_true h2
      have hb : b = true := by rw [← h, c1, c2]; rfl
      subst hb
      clear h
      go_enter Tryz.func156, Tryz.ntmps156
      go_wp2_with fail
      go_ret
      exact ⟨rfl, rfl⟩
    · have c2 : decide (n ≤ 27) = false := decide_eq_false h2
      have hb : b = false := by rw [← h, c1, c2]; rfl
      subst hb
      clear h h2
      go_enter Tryz.func156, Tryz.ntmps156
      go_wp2_with fail
      go_ret
      exact ⟨rfl, rfl⟩
  · have c1 : decide (1 ≤ n) = false := decide_eq_false h1
    have hb : b = false := by rw [← h, c1]; rfl
    subst hb
    clear h h1
    go_enter Tryz.func156, Tryz.ntmps156
    go_wp2_with fail
    go_ret
    exact ⟨rfl, rfl⟩
theorem reck_v (n : Int) (b : Bool) (h : isR n = b) (w : World) : Calls Tryz.prog 196 #[.int .i64 n] w fun e w' => e = .returned (.bool b) ∧ w = w' := by
  unfold isR at h
  by_cases h1 : 1 ≤ n
  · have c1 : decide (1 ≤ n) = true := decide_eq_true h1
    by_cases h2 : n ≤ 15
    · have c2 : decide (n ≤ 15) = true := decide_eq_true h2
      have hb : b = true := by rw [← h, c1, c2]; rfl
      subst hb
      clear h
      go_enter Tryz.func196, Tryz.ntmps196
      go_wp2_with fail
      go_ret
      exact ⟨rfl, rfl⟩
    · have c2 : decide (n ≤ 15) = false := decide_eq_false h2
      have hb : b = false := by rw [← h, c1, c2]; rfl
      subst hb
      clear h h2
      go_enter Tryz.func196, Tryz.ntmps196
      go_wp2_with fail
      go_ret
      exact ⟨rfl, rfl⟩
  · have c1 : decide (1 ≤ n) = false := decide_eq_false h1
    have hb : b = false := by rw [← h, c1]; rfl
    subst hb
    clear h h1
    go_enter Tryz.func196, Tryz.ntmps196
    go_wp2_with fail
    go_ret
    exact ⟨rfl, rfl⟩
def machOf (n : Int) : Bool := (n == 24) || (n == 25) || (n == 26) || (n == 27)
def lastOf (n : Int) : Bool := (n == 20) || (n == 21) || (n == 22) || (n == 23)
def labsOf (n cs : Int) : Int := if n = 20 then 1 else if n = 21 then 2 else if n = 22 then cs + 1 else 0
theorem to_16 (w : World) : Calls Tryz.prog 186 #[.int .i64 16] w fun e w' => e = .returned (.int .u8 3) ∧ w = w' := by
  go_enter Tryz.func186, Tryz.ntmps186
  go_wp2_with fail
  refine (reck_v 16 false rfl _).mono ?_
  rintro e w1 ⟨rfl, rfl⟩
  go_wp2_with fail
  go_ret
  exact ⟨rfl, rfl⟩
theorem to_17 (w : World) : Calls Tryz.prog 186 #[.int .i64 17] w fun e w' => e = .returned (.int .u8 1) ∧ w = w' := by
  go_enter Tryz.func186, Tryz.ntmps186
  go_wp2_with fail
  refine (reck_v 17 false rfl _).mono ?_
  rintro e w1 ⟨rfl, rfl⟩
  go_wp2_with fail
  go_ret
  exact ⟨rfl, rfl⟩
theorem to_19 (w : World) : Calls Tryz.prog 186 #[.int .i64 19] w fun e w' => e = .returned (.int .u8 17) ∧ w = w' := by
  go_enter Tryz.func186, Tryz.ntmps186
  go_wp2_with fail
  refine (reck_v 19 false rfl _).mono ?_
  rintro e w1 ⟨rfl, rfl⟩
  go_wp2_with fail
  go_ret
  exact ⟨rfl, rfl⟩
theorem to_24 (w : World) : Calls Tryz.prog 186 #[.int .i64 24] w fun e w' => e = .returned (.int .u8 3) ∧ w = w' := by
  go_enter Tryz.func186, Tryz.ntmps186
  go_wp2_with fail
  refine (reck_v 24 false rfl _).mono ?_
  rintro e w1 ⟨rfl, rfl⟩
  go_wp2_with fail
  go_ret
  exact ⟨rfl, rfl⟩
theorem to_25 (w : World) : Calls Tryz.prog 186 #[.int .i64 25] w fun e w' => e = .returned (.int .u8 8) ∧ w = w' := by
  go_enter Tryz.func186, Tryz.ntmps186
  go_wp2_with fail
  refine (reck_v 25 false rfl _).mono ?_
  rintro e w1 ⟨rfl, rfl⟩
  go_wp2_with fail
  go_ret
  exact ⟨rfl, rfl⟩
theorem to_26 (w : World) : Calls Tryz.prog 186 #[.int .i64 26] w fun e w' => e = .returned (.int .u8 3) ∧ w = w' := by
  go_enter Tryz.func186, Tryz.ntmps186
  go_wp2_with fail
  refine (reck_v 26 false rfl _).mono ?_
  rintro e w1 ⟨rfl, rfl⟩
  go_wp2_with fail
  go_ret
  exact ⟨rfl, rfl⟩
theorem to_two (n : Int) (h : isR n = true) (w : World) : Calls Tryz.prog 186 #[.int .i64 n] w fun e w' => e = .returned (.int .u8 1) ∧ w = w' := by
  have H := Lib.hid h
  clear h
  go_enter Tryz.func186, Tryz.ntmps186
  go_wp2_with fail
  refine (reck_v n true H.out _).mono ?_
  rintro e w1 ⟨rfl, rfl⟩
  go_wp2_with fail
  go_ret
  exact ⟨rfl, rfl⟩
theorem to_else (n : Int) (h : isR n = false) (h16 : n ≠ 16) (h17 : n ≠ 17) (h19 : n ≠ 19) (h24 : n ≠ 24) (h25 : n ≠ 25) (h26 : n ≠ 26) (w : World) : Calls Tryz.prog 186 #[.int .i64 n] w fun e w' => e = .returned (.int .u8 0) ∧ w = w' := by
  have c16 : (n == 16) = false := by rw [beq_eq_false_iff_ne]; omega
  have c17 : (n == 17) = false := by rw [beq_eq_false_iff_ne]; omega
  have c19 : (n == 19) = false := by rw [beq_eq_false_iff_ne]; omega
  have c24 : (n == 24) = false := by rw [beq_eq_false_iff_ne]; omega
  have c25 : (n == 25) = false := by rw [beq_eq_false_iff_ne]; omega
  have c26 : (n == 26) = false := by rw [beq_eq_false_iff_ne]; omega
  have H := Lib.hid h
  clear h
  clear h16 h17 h19 h24 h25 h26
  go_enter Tryz.func186, Tryz.ntmps186
  go_wp2_with fail
  refine (reck_v n false H.out _).mono ?_
  rintro e w1 ⟨rfl, rfl⟩
  go_wp2_with fail
  go_ret
  exact ⟨rfl, rfl⟩
theorem to_v (n : Int) (v : Int) (h : toR n = v) (w : World) : Calls Tryz.prog 186 #[.int .i64 n] w fun e w' => e = .returned (.int .u8 v) ∧ w = w' := by
  subst h
  by_cases h16 : n = 16
  · subst h16
    exact to_16 w
  by_cases h17 : n = 17
  · subst h17
    exact to_17 w
  by_cases h19 : n = 19
  · subst h19
    exact to_19 w
  by_cases h24 : n = 24
  · subst h24
    exact to_24 w
  by_cases h25 : n = 25
  · subst h25
    exact to_25 w
  by_cases h26 : n = 26
  · subst h26
    exact to_26 w
  by_cases hr : 1 ≤ n ∧ n ≤ 15
  · have e : toR n = 1 := by unfold toR; rw [if_pos hr]
    rw [e]
    exact to_two n (by unfold isR; simp [hr]) w
  have e : toR n = 0 := by
    unfold toR
    rw [if_neg hr]
    simp [h16, h17, h19, h24, h25, h26]
  rw [e]
  exact to_else n (by unfold isR; simpa using hr) h16 h17 h19 h24 h25 h26 w
theorem first_16 (w : World) : Calls Tryz.prog 197 #[.int .i64 16] w fun e w' => e = .returned (.int .u8 7) ∧ w = w' := by
  go_enter Tryz.func197, Tryz.ntmps197
  go_wp2_with fail
  refine (reck_v 16 false rfl _).mono ?_
  rintro e w1 ⟨rfl, rfl⟩
  go_wp2_with fail
  go_ret
  exact ⟨rfl, rfl⟩
theorem first_17 (w : World) : Calls Tryz.prog 197 #[.int .i64 17] w fun e w' => e = .returned (.int .u8 2) ∧ w = w' := by
  go_enter Tryz.func197, Tryz.ntmps197
  go_wp2_with fail
  refine (reck_v 17 false rfl _).mono ?_
  rintro e w1 ⟨rfl, rfl⟩
  go_wp2_with fail
  go_ret
  exact ⟨rfl, rfl⟩
theorem first_18 (w : World) : Calls Tryz.prog 197 #[.int .i64 18] w fun e w' => e = .returned (.int .u8 1) ∧ w = w' := by
  go_enter Tryz.func197, Tryz.ntmps197
  go_wp2_with fail
  refine (reck_v 18 false rfl _).mono ?_
  rintro e w1 ⟨rfl, rfl⟩
  go_wp2_with fail
  go_ret
  exact ⟨rfl, rfl⟩
theorem first_21 (w : World) : Calls Tryz.prog 197 #[.int .i64 21] w fun e w' => e = .returned (.int .u8 1) ∧ w = w' := by
  go_enter Tryz.func197, Tryz.ntmps197
  go_wp2_with fail
  refine (reck_v 21 false rfl _).mono ?_
  rintro e w1 ⟨rfl, rfl⟩
  go_wp2_with fail
  go_ret
  exact ⟨rfl, rfl⟩
theorem first_22 (w : World) : Calls Tryz.prog 197 #[.int .i64 22] w fun e w' => e = .returned (.int .u8 1) ∧ w = w' := by
  go_enter Tryz.func197, Tryz.ntmps197
  go_wp2_with fail
  refine (reck_v 22 false rfl _).mono ?_
  rintro e w1 ⟨rfl, rfl⟩
  go_wp2_with fail
  go_ret
  exact ⟨rfl, rfl⟩
theorem first_23 (w : World) : Calls Tryz.prog 197 #[.int .i64 23] w fun e w' => e = .returned (.int .u8 5) ∧ w = w' := by
  go_enter Tryz.func197, Tryz.ntmps197
  go_wp2_with fail
  refine (reck_v 23 false rfl _).mono ?_
  rintro e w1 ⟨rfl, rfl⟩
  go_wp2_with fail
  go_ret
  exact ⟨rfl, rfl⟩
theorem first_24 (w : World) : Calls Tryz.prog 197 #[.int .i64 24] w fun e w' => e = .returned (.int .u8 3) ∧ w = w' := by
  go_enter Tryz.func197, Tryz.ntmps197
  go_wp2_with fail
  refine (reck_v 24 false rfl _).mono ?_
  rintro e w1 ⟨rfl, rfl⟩
  go_wp2_with fail
  go_ret
  exact ⟨rfl, rfl⟩
theorem first_25 (w : World) : Calls Tryz.prog 197 #[.int .i64 25] w fun e w' => e = .returned (.int .u8 3) ∧ w = w' := by
  go_enter Tryz.func197, Tryz.ntmps197
  go_wp2_with fail
  refine (reck_v 25 false rfl _).mono ?_
  rintro e w1 ⟨rfl, rfl⟩
  go_wp2_with fail
  go_ret
  exact ⟨rfl, rfl⟩
theorem first_26 (w : World) : Calls Tryz.prog 197 #[.int .i64 26] w fun e w' => e = .returned (.int .u8 8) ∧ w = w' := by
  go_enter Tryz.func197, Tryz.ntmps197
  go_wp2_with fail
  refine (reck_v 26 false rfl _).mono ?_
  rintro e w1 ⟨rfl, rfl⟩
  go_wp2_with fail
  go_ret
  exact ⟨rfl, rfl⟩
theorem first_27 (w : World) : Calls Tryz.prog 197 #[.int .i64 27] w fun e w' => e = .returned (.int .u8 11) ∧ w = w' := by
  go_enter Tryz.func197, Tryz.ntmps197
  go_wp2_with fail
  refine (reck_v 27 false rfl _).mono ?_
  rintro e w1 ⟨rfl, rfl⟩
  go_wp2_with fail
  go_ret
  exact ⟨rfl, rfl⟩
theorem first_two (n : Int) (h : isR n = true) (w : World) : Calls Tryz.prog 197 #[.int .i64 n] w fun e w' => e = .returned (.int .u8 1) ∧ w = w' := by
  have H := Lib.hid h
  clear h
  go_enter Tryz.func197, Tryz.ntmps197
  go_wp2_with fail
  refine (reck_v n true H.out _).mono ?_
  rintro e w1 ⟨rfl, rfl⟩
  go_wp2_with fail
  go_ret
  exact ⟨rfl, rfl⟩
theorem first_else (n : Int) (h : isR n = false) (h16 : n ≠ 16) (h17 : n ≠ 17) (h18 : n ≠ 18) (h21 : n ≠ 21) (h22 : n ≠ 22) (h23 : n ≠ 23) (h24 : n ≠ 24) (h25 : n ≠ 25) (h26 : n ≠ 26) (h27 : n ≠ 27) (w : World) : Calls Tryz.prog 197 #[.int .i64 n] w fun e w' => e = .returned (.int .u8 0) ∧ w = w' := by
  have c16 : (n == 16) = false := by rw [beq_eq_false_iff_ne]; omega
  have c17 : (n == 17) = false := by rw [beq_eq_false_iff_ne]; omega
  have c18 : (n == 18) = false := by rw [beq_eq_false_iff_ne]; omega
  have c21 : (n == 21) = false := by rw [beq_eq_false_iff_ne]; omega
  have c22 : (n == 22) = false := by rw [beq_eq_false_iff_ne]; omega
  have c23 : (n == 23) = false := by rw [beq_eq_false_iff_ne]; omega
  have c24 : (n == 24) = false := by rw [beq_eq_false_iff_ne]; omega
  have c25 : (n == 25) = false := by rw [beq_eq_false_iff_ne]; omega
  have c26 : (n == 26) = false := by rw [beq_eq_false_iff_ne]; omega
  have c27 : (n == 27) = false := by rw [beq_eq_false_iff_ne]; omega
  have H := Lib.hid h
  clear h
  clear h16 h17 h18 h21 h22 h23 h24 h25 h26 h27
  go_enter Tryz.func197, Tryz.ntmps197
  go_wp2_with fail
  refine (reck_v n false H.out _).mono ?_
  rintro e w1 ⟨rfl, rfl⟩
  go_wp2_with fail
  go_ret
  exact ⟨rfl, rfl⟩
theorem first_v (n : Int) (v : Int) (h : firstR n = v) (w : World) : Calls Tryz.prog 197 #[.int .i64 n] w fun e w' => e = .returned (.int .u8 v) ∧ w = w' := by
  subst h
  by_cases h16 : n = 16
  · subst h16
    exact first_16 w
  by_cases h17 : n = 17
  · subst h17
    exact first_17 w
  by_cases h18 : n = 18
  · subst h18
    exact first_18 w
  by_cases h21 : n = 21
  · subst h21
    exact first_21 w
  by_cases h22 : n = 22
  · subst h22
    exact first_22 w
  by_cases h23 : n = 23
  · subst h23
    exact first_23 w
  by_cases h24 : n = 24
  · subst h24
    exact first_24 w
  by_cases h25 : n = 25
  · subst h25
    exact first_25 w
  by_cases h26 : n = 26
  · subst h26
    exact first_26 w
  by_cases h27 : n = 27
  · subst h27
    exact first_27 w
  by_cases hr : 1 ≤ n ∧ n ≤ 15
  · have e : firstR n = 1 := by unfold firstR; rw [if_pos hr]
    rw [e]
    exact first_two n (by unfold isR; simp [hr]) w
  have e : firstR n = 0 := by
    unfold firstR
    rw [if_neg hr]
    simp [h16, h17, h18, h21, h22, h23, h24, h25, h26, h27]
  rw [e]
  exact first_else n (by unfold isR; simpa using hr) h16 h17 h18 h21 h22 h23 h24 h25 h26 h27 w
theorem second_18 (w : World) : Calls Tryz.prog 198 #[.int .i64 18] w fun e w' => e = .returned (.int .u8 2) ∧ w = w' := by
  go_enter Tryz.func198, Tryz.ntmps198
  go_wp2_with fail
  refine (reck_v 18 false rfl _).mono ?_
  rintro e w1 ⟨rfl, rfl⟩
  go_wp2_with fail
  go_ret
  exact ⟨rfl, rfl⟩
theorem second_27 (w : World) : Calls Tryz.prog 198 #[.int .i64 27] w fun e w' => e = .returned (.int .u8 11) ∧ w = w' := by
  go_enter Tryz.func198, Tryz.ntmps198
  go_wp2_with fail
  refine (reck_v 27 false rfl _).mono ?_
  rintro e w1 ⟨rfl, rfl⟩
  go_wp2_with fail
  go_ret
  exact ⟨rfl, rfl⟩
theorem second_two (n : Int) (h : isR n = true) (w : World) : Calls Tryz.prog 198 #[.int .i64 n] w fun e w' => e = .returned (.int .u8 5) ∧ w = w' := by
  have H := Lib.hid h
  clear h
  go_enter Tryz.func198, Tryz.ntmps198
  go_wp2_with fail
  refine (reck_v n true H.out _).mono ?_
  rintro e w1 ⟨rfl, rfl⟩
  go_wp2_with fail
  go_ret
  exact ⟨rfl, rfl⟩
theorem second_else (n : Int) (h : isR n = false) (h18 : n ≠ 18) (h27 : n ≠ 27) (w : World) : Calls Tryz.prog 198 #[.int .i64 n] w fun e w' => e = .returned (.int .u8 0) ∧ w = w' := by
  have c18 : (n == 18) = false := by rw [beq_eq_false_iff_ne]; omega
  have c27 : (n == 27) = false := by rw [beq_eq_false_iff_ne]; omega
  have H := Lib.hid h
  clear h
  clear h18 h27
  go_enter Tryz.func198, Tryz.ntmps198
  go_wp2_with fail
  refine (reck_v n false H.out _).mono ?_
  rintro e w1 ⟨rfl, rfl⟩
  go_wp2_with fail
  go_ret
  exact ⟨rfl, rfl⟩
theorem second_v (n : Int) (v : Int) (h : secondR n = v) (w : World) : Calls Tryz.prog 198 #[.int .i64 n] w fun e w' => e = .returned (.int .u8 v) ∧ w = w' := by
  subst h
  by_cases h18 : n = 18
  · subst h18
    exact second_18 w
  by_cases h27 : n = 27
  · subst h27
    exact second_27 w
  by_cases hr : 1 ≤ n ∧ n ≤ 15
  · have e : secondR n = 5 := by unfold secondR; rw [if_pos hr]
    rw [e]
    exact second_two n (by unfold isR; simp [hr]) w
  have e : secondR n = 0 := by
    unfold secondR
    rw [if_neg hr]
    simp [h18, h27]
  rw [e]
  exact second_else n (by unfold isR; simpa using hr) h18 h27 w
theorem from_call (i : Int) (h0 : 0 ≤ i) (h8 : i < 8) (w : World) : Calls Tryz.prog 187 #[.int .i64 19, .int .i64 i] w fun e w' => e = .returned (.int .u8 13) ∧ w = w' := by
  have c0 : decide (0 ≤ i) = true := decide_eq_true h0
  have c8 : decide (i < 8) = true := decide_eq_true h8
  go_enter Tryz.func187, Tryz.ntmps187
  go_wp2_with fail
  go_ret
  exact ⟨rfl, rfl⟩
theorem from_low (i : Int) (h0 : ¬ 0 ≤ i) (w : World) : Calls Tryz.prog 187 #[.int .i64 19, .int .i64 i] w fun e w' => e = .returned (.int .u8 0) ∧ w = w' := by
  have c0 : decide (0 ≤ i) = false := decide_eq_false h0
  have d0 : (i == 0) = false := by rw [beq_eq_false_iff_ne]; omega
  have d1 : (i == 1) = false := by rw [beq_eq_false_iff_ne]; omega
  clear h0
  go_enter Tryz.func187, Tryz.ntmps187
  go_wp2_with fail
  go_ret
  exact ⟨rfl, rfl⟩
theorem from_high (i : Int) (h0 : 0 ≤ i) (h8 : ¬ i < 8) (w : World) : Calls Tryz.prog 187 #[.int .i64 19, .int .i64 i] w fun e w' => e = .returned (.int .u8 0) ∧ w = w' := by
  have c0 : decide (0 ≤ i) = true := decide_eq_true h0
  have c8 : decide (i < 8) = false := decide_eq_false h8
  have d0 : (i == 0) = false := by rw [beq_eq_false_iff_ne]; omega
  have d1 : (i == 1) = false := by rw [beq_eq_false_iff_ne]; omega
  clear h8
  go_enter Tryz.func187, Tryz.ntmps187
  go_wp2_with fail
  go_ret
  exact ⟨rfl, rfl⟩
theorem from_first (n : Int) (hn : n ≠ 19) (v : Int) (h : firstR n = v) (w : World) : Calls Tryz.prog 187 #[.int .i64 n, .int .i64 0] w fun e w' => e = .returned (.int .u8 v) ∧ w = w' := by
  have c : (n == 19) = false := by rw [beq_eq_false_iff_ne]; exact hn
  have H := Lib.hid h
  clear h hn
  go_enter Tryz.func187, Tryz.ntmps187
  go_wp2_with fail
  refine (first_v n v H.out _).mono ?_
  rintro e w1 ⟨rfl, rfl⟩
  go_wp2_with fail
  go_ret
  exact ⟨rfl, rfl⟩
theorem from_second (n : Int) (hn : n ≠ 19) (v : Int) (h : secondR n = v) (w : World) : Calls Tryz.prog 187 #[.int .i64 n, .int .i64 1] w fun e w' => e = .returned (.int .u8 v) ∧ w = w' := by
  have c : (n == 19) = false := by rw [beq_eq_false_iff_ne]; exact hn
  have H := Lib.hid h
  clear h hn
  go_enter Tryz.func187, Tryz.ntmps187
  go_wp2_with fail
  refine (second_v n v H.out _).mono ?_
  rintro e w1 ⟨rfl, rfl⟩
  go_wp2_with fail
  go_ret
  exact ⟨rfl, rfl⟩
theorem from_none (n i : Int) (hn : n ≠ 19) (h0 : i ≠ 0) (h1 : i ≠ 1) (w : World) : Calls Tryz.prog 187 #[.int .i64 n, .int .i64 i] w fun e w' => e = .returned (.int .u8 0) ∧ w = w' := by
  have c : (n == 19) = false := by rw [beq_eq_false_iff_ne]; exact hn
  have d0 : (i == 0) = false := by rw [beq_eq_false_iff_ne]; exact h0
  have d1 : (i == 1) = false := by rw [beq_eq_false_iff_ne]; exact h1
  clear hn h0 h1
  go_enter Tryz.func187, Tryz.ntmps187
  go_wp2_with fail
  go_ret
  exact ⟨rfl, rfl⟩
theorem from_v (n i v : Int) (h : fromR n i = v) (w : World) : Calls Tryz.prog 187 #[.int .i64 n, .int .i64 i] w fun e w' => e = .returned (.int .u8 v) ∧ w = w' := by
  subst h
  by_cases hn : n = 19
  · subst hn
    by_cases h0 : 0 ≤ i
    · by_cases h8 : i < 8
      · have e : fromR 19 i = 13 := by unfold fromR; rw [if_pos ⟨rfl, h0, h8⟩]
        rw [e]; exact from_call i h0 h8 w
      · have e : fromR 19 i = 0 := by unfold fromR; rw [if_neg (by omega), if_neg (by omega), if_neg (by omega)]
        rw [e]; exact from_high i h0 h8 w
    · have e : fromR 19 i = 0 := by unfold fromR; rw [if_neg (by omega), if_neg (by omega), if_neg (by omega)]
      rw [e]; exact from_low i h0 w
  · have e0 : fromR n i = if i = 0 then firstR n else if i = 1 then secondR n else 0 := by unfold fromR; rw [if_neg (fun k => hn k.1)]
    rw [e0]
    by_cases h0 : i = 0
    · subst h0; rw [if_pos rfl]; exact from_first n hn _ rfl w
    · rw [if_neg h0]
      by_cases h1 : i = 1
      · subst h1; rw [if_pos rfl]; exact from_second n hn _ rfl w
      · rw [if_neg h1]; exact from_none n i hn h0 h1 w
theorem at_to (n v : Int) (h : toR n = v) (w : World) : Calls Tryz.prog 181 #[.int .i64 n, .int .i64 (-1)] w fun e w' => e = .returned (.int .u8 v) ∧ w = w' := by
  have H := Lib.hid h
  clear h
  go_enter Tryz.func181, Tryz.ntmps181
  go_wp2_with fail
  refine (to_v n v H.out _).mono ?_
  rintro e w1 ⟨rfl, rfl⟩
  go_wp2_with fail
  go_ret
  exact ⟨rfl, rfl⟩
theorem at_from (n i v : Int) (hi : i ≠ -1) (h : fromR n i = v) (w : World) : Calls Tryz.prog 181 #[.int .i64 n, .int .i64 i] w fun e w' => e = .returned (.int .u8 v) ∧ w = w' := by
  have d : (i == -1) = false := by rw [beq_eq_false_iff_ne]; exact hi
  have H := Lib.hid h
  clear h hi
  go_enter Tryz.func181, Tryz.ntmps181
  go_wp2_with fail
  refine (from_v n i v H.out _).mono ?_
  rintro e w1 ⟨rfl, rfl⟩
  go_wp2_with fail
  go_ret
  exact ⟨rfl, rfl⟩
theorem at_v (n i v : Int) (h : atR n i = v) (w : World) : Calls Tryz.prog 181 #[.int .i64 n, .int .i64 i] w fun e w' => e = .returned (.int .u8 v) ∧ w = w' := by
  unfold atR at h
  by_cases hi : i = -1
  · subst hi
    rw [if_pos rfl] at h
    exact at_to n v h w
  · rw [if_neg hi] at h
    exact at_from n i v hi h w
end Go.Proofs.YtbpichjmkllfaaaGreatDoor.Opr

/- What Gives, Args and Fits of op answer. -/
namespace Go.Proofs.YtbpichjmkllfaaaGreatDoor.Opr
open Go.ChangeShapes Go.WideShapes Go.RowKit
set_option linter.unusedVariables false
set_option maxRecDepth 20000

theorem args_v (n : Int) (lo M : Nat) (hM : many n = M) (hlo : (if n = 19 then 0 else M) = lo) (w : World) : Calls Tryz.prog 168 #[.int .i64 n] w fun e w' => e = .returned (.tuple #[.int .i64 (lo : Int), .int .i64 (M : Int)]) ∧ w = w' := by
  have hm := many_at n
  rw [hM] at hm
  have HM := Lib.hid hm
  have hM8 : M ≤ 8 := hm.2.2
  clear hm hM
  have HL := Lib.hid hlo
  clear hlo
  go_enter Tryz.func168, Tryz.ntmps168
  go_wp2_with fail
  go_loopg [3] M (fun gk u wr => ∃ (k : Nat), k + gk = M ∧ u = .int .i64 (k : Int) ∧ wr = w)
  case atStart => exact ⟨0, by omega, rfl, rfl⟩
  case round =>
    obtain ⟨k, hk, rfl, rfl⟩ := hrel
    by_cases hlt : k < M
    · obtain ⟨v, hv⟩ : ∃ v, atR n (k : Int) = v := ⟨_, rfl⟩
      have h0 := HM.out.1 k hlt
      rw [hv] at h0
      have c0 : (v != 0) = true := by rw [bne_iff_ne]; exact h0
      have HV := Lib.hid hv
      clear hv h0
      go_wp2_with fail
      refine (at_v n (k : Int) v HV.out _).mono ?_
      rintro e w1 ⟨rfl, rfl⟩
      go_wp2_with fail
      go_roundg (gk - 1)
      case measure => omega
      case rel => exact ⟨k + 1, by omega, by go_num, rfl⟩
    · obtain rfl : k = M := by omega
      have HV := Lib.hid HM.out.2.1
      clear hlt
      go_wp2_with fail
      refine (at_v n (k : Int) 0 HV.out _).mono ?_
      rintro e w1 ⟨rfl, rfl⟩
      by_cases h19 : n = 19
      · subst h19
        have e0 : lo = 0 := HL.out.symm.trans (if_pos rfl)
        subst e0
        go_wp2_with fail
        go_ret2
        exact ⟨rfl, rfl⟩
      · have c19 : (n == 19) = false := by rw [beq_eq_false_iff_ne]; exact h19
        have e0 : lo = k := HL.out.symm.trans (if_neg h19)
        subst e0
        clear h19
        go_wp2_with fail
        go_ret2
        exact ⟨rfl, rfl⟩
/-- What Fits answers, by the bits. -/
def fitR (v c : Int) : Bool := if c = 0 then decide (v % 2 = 1) else if c = 1 then decide (v / 2 % 2 = 1) else false
theorem at_some (n i : Int) : atR n i = 0 ∨ atR n i = 1 ∨ atR n i = 2 ∨ atR n i = 3 ∨ atR n i = 5 ∨ atR n i = 7 ∨ atR n i = 8 ∨ atR n i = 11 ∨ atR n i = 13 ∨ atR n i = 17 := by
  unfold atR fromR toR firstR secondR
  repeat' split
  all_goals decide
end Go.Proofs.YtbpichjmkllfaaaGreatDoor.Opr
