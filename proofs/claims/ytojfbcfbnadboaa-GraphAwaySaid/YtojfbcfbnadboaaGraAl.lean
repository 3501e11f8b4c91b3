
/- GraphAway: the walk. -/
import Derived.Test.YtojfbcfbnadboaaGraTl
namespace Go.Proofs.Ytojfbcfbnadboaa.Gra
open Go.ChangeShapes Go.WideShapes Go.RowKit Par
set_option linter.unusedVariables false
set_option maxRecDepth 20000
set_option maxHeartbeats 8000000

theorem aways_v (f : Fun) (v : FunV) (tt wo : Int) (w : World) (hI : IsFun w f v) :
    Calls Try.prog 4 #[.agg (funR f v), .int .i64 tt, .int .i64 wo] w (EndB w) := by
  obtain ⟨w1, hw1⟩ : ∃ w1, w.alloc (.cells (funR f v) 26) = w1 := ⟨_, rfl⟩
  have nb := m_box w _ 26 hw1
  have HI := Lib.hid (And.intro (hI.below nb.1) nb)
  have HL := Lib.hid (large_v f v w1 HI.out.1)
  obtain ⟨bs, hbs⟩ : ∃ bs, f.blocks = bs := ⟨_, rfl⟩
  rw [hbs] at HL
  have HB := Lib.hid hbs
  have hbn : bs.length = v.bn := by rw [← hbs]; exact hI.blocks.1
  have hbm : v.bn ≤ 9223372036854775807 := hI.blocks.2.1
  have HBn := Lib.hid hbn
  have hfun := HI.out.2.2
  unfold funR at hfun HL
  obtain ⟨⟨x0, x1, x2, x3, x4⟩, -⟩ := mbox5 hfun
  unfold funR at hw1 ⊢
  clear nb hI hfun hbs hbn
  go_enter Try.func4, Try.ntmps4
  go_wp2_with fail
  try rw [hw1]
  clear hw1
  refine HL.out.mono ?_
  rintro e w2 ⟨⟨bl, rfl, hbl⟩, hb2⟩
  have H2 := Lib.hid (And.intro hb2 hbl)
  clear hb2 hbl
  have hbx := kept_box HI.out.2.2 H2.out.1
  unfold funR at hbx
  obtain ⟨⟨y0, y1, y2, y3, y4⟩, -⟩ := mbox5 hbx
  clear x0 x1 x2 x3 x4 hbx
  have wk : ∀ w3, Below w.heap.size w w3 → Calls Try.prog 8 #[] w3 fun e w' => e = .returned (.bool true) ∧ Below w.heap.size w w' := fun w3 hb => by
    refine (works19_v w3).mono ?_
    rintro e w' ⟨rfl, hb'⟩
    exact ⟨rfl, hb.trans (hb'.mono hb.size)⟩
  have HW := Lib.hid wk
  have B2 := Lib.hid (show Below w.heap.size w w2 from HI.out.2.1.trans (H2.out.1.mono HI.out.2.1.size))
  clear wk
  cases bl with
  | true =>
    go_wp2_with fail
    refine (HW.out w2 B2.out).mono ?_
    rintro e w3 ⟨rfl, hb3⟩
    have H3 := Lib.hid hb3
    clear hb3
    go_wp2_with fail
    go_ret
    exact ⟨rfl, H3.out⟩
  | false =>
    by_cases h30 : (v.bn : Int) > 30
    · go_wp2_with fail
      refine (HW.out w2 B2.out).mono ?_
      rintro e w3 ⟨rfl, hb3⟩
      have H3 := Lib.hid hb3
      clear hb3
      go_wp2_with fail
      go_ret
      exact ⟨rfl, H3.out⟩
    · have hn30 : v.bn ≤ 30 := by omega
      have HSu := Lib.hid (rsucc_v f v w2 (HI.out.1.below H2.out.1) (by rw [HB.out, HBn.out]; omega))
      unfold funR at HSu
      rw [HB.out] at HSu
      go_wp2_with fail
      refine HSu.out.mono ?_
      rintro e w3 ⟨⟨A, n, c, rfl, hgr⟩, hb3⟩
      obtain ⟨s, hs⟩ : ∃ s, sucs bs = s := ⟨_, rfl⟩
      rw [hs] at hgr
      have hsn : s.length = n := hgr.1
      have hnb : n = v.bn := by rw [← hsn, ← hs, sucs_len]; exact HBn.out
      have H3 := Lib.hid (And.intro hgr hb3)
      have hbx := kept_box HI.out.2.2 (H2.out.1.trans (hb3.mono H2.out.1.size))
      unfold funR at hbx
      obtain ⟨⟨x0, x1, x2, x3, x4⟩, -⟩ := mbox5 hbx
      have HN := Lib.hid (newg_v f v w3 ((HI.out.1.below H2.out.1).below hb3) (by rw [HB.out, HBn.out]; omega))
      unfold funR at HN
      rw [HB.out, hs] at HN
      have HF := Lib.hid (show Ok s ∧ s.length = n ∧ n ≤ 30 ∧ bs.length = n from ⟨by rw [← hs]; exact sucs_ok bs, hsn, by omega, by rw [HBn.out]; exact hnb.symm⟩)
      clear hgr hb3 hbx y0 y1 y2 y3 y4 hs h30 hsn hnb
      go_wp2_with fail
      refine HN.out.mono ?_
      rintro e w4 ⟨⟨p, rfl, q, hq, hg, -⟩, hb4⟩
      have hqn : q.n = n := by rw [hq]; exact HF.out.2.2.2
      have H4 := Lib.hid (And.intro hg (And.intro (H3.out.1.below hb4) (show Below w.heap.size w w4 from B2.out.trans ((H3.out.2.trans (hb4.mono H3.out.2.size)).mono B2.out.size))))
      have hn30 : n ≤ 30 := HF.out.2.2.1
      have HA := Lib.hid (away_v p q s (prs s) tt wo w4 hg (fun x z => prs_mem HF.out.1) (by omega))
      clear x0 x1 x2 x3 x4 hq hg hb4
      go_wp2_with fail
      refine HA.out.mono ?_
      rintro e w5 ⟨⟨ps, rfl, gs, sn, hset, haw⟩, hb5⟩
      rw [hqn] at haw
      have H5 := Lib.hid (show (Below w.heap.size w w5 ∧ IsGr w5 A n s ∧ Bit.SetAt w4.heap.size w5 ps gs sn) ∧ AwIs s n tt wo sn from ⟨⟨H4.out.2.2.trans (hb5.mono H4.out.2.2.size), H4.out.2.1.below hb5, hset⟩, haw⟩)
      clear hset haw hb5 HA HN HSu hqn
      go_wp2_with fail
      go_loopg [9] n (fun gk s9 wr => ∃ k : Nat, k + gk = n ∧ s9 = .int .i64 (k : Int) ∧ Hid (Below w.heap.size w wr ∧ IsGr wr A n s ∧ Bit.SetAt w4.heap.size wr ps gs sn))
      case atStart => exact ⟨0, by omega, rfl, Lib.hid H5.out.1⟩
      case round =>
        obtain ⟨k, hk, rfl, HK⟩ := hrel
        by_cases hkn : k < n
        · have t1 : (k : Int) < (n : Int) := by omega
          have HR := Lib.hid (rreach_v A n c s (k : Int) wo wr HK.out.2.1 HF.out.1 (by omega))
          go_wp2_with fail
          refine HR.out.mono ?_
          rintro e w6 ⟨⟨g, rfl, hbo⟩, hb6⟩
          have H6 := Lib.hid (show (Below w.heap.size w w6 ∧ IsGr w6 A n s ∧ Bit.SetAt w4.heap.size w6 ps gs sn) ∧ Bo wr.heap.size w6 g (reach s (k : Int) wo) from ⟨⟨HK.out.1.trans (hb6.mono HK.out.1.size), HK.out.2.1.below hb6, HK.out.2.2.grow ⟨hb6.os, hb6.tape, hb6.output, hb6.size, fun x hx _ => hb6.block x hx⟩⟩, hbo⟩)
          obtain ⟨bb, hbb⟩ : ∃ bb, at_ sn k = bb := ⟨_, rfl⟩
          have hh : Bit.hasI sn (k : Int) = bb := by
            show (decide (0 ≤ (k : Int)) && at_ sn ((k : Int)).toNat) = bb
            rw [decide_eq_true (by omega), Bool.true_and]
            exact hbb
          have HC := Lib.hid (hh ▸ Bit.has_v (k : Int) _ ps gs sn w6 H6.out.1.2.2)
          have hbq : (bb != bb) = false := by simp
          have HBb := Lib.hid hbb
          clear hbo hb6 hh hbb
          by_cases hin : 0 ≤ tt ∧ tt < (n : Int)
          · obtain ⟨T, rfl⟩ : ∃ T : Nat, tt = (T : Int) := ⟨tt.toNat, by omega⟩
            have hTn : T < n := by omega
            have hc := H6.out.2.cell T (by rw [reach_len, HF.out.2.1]; exact hTn)
            have hbe : at_ (reach s (k : Int) wo) T = bb := by
              have h1 := H5.out.2.2 k
              have h2 := reach_iff HF.out.1 k wo T
              have : ∀ b c : Bool, (b = true ↔ c = true) → b = c := by decide
              rw [← HBb.out]
              refine this _ _ (h2.trans ⟨fun h => h1.2 ⟨T, rfl, h⟩, fun h => ?_⟩)
              obtain ⟨T', h3, h4⟩ := h1.1 h
              have : T' = T := by omega
              subst this
              exact h4
            rw [hbe] at hc
            have u1 : (T : Int) ≥ 0 := by omega
            have u2 : (T : Int) < (n : Int) := by omega
            clear hin hbe
            go_wp2_with fail
            refine HC.out.mono ?_
            rintro e w7 ⟨rfl, nd, rfl⟩
            go_wp2_with fail
            go_roundg (n - k - 1)
            case measure => omega
            case rel => exact ⟨k + 1, by omega, by go_num, Lib.hid ⟨drewSB H6.out.1.1 nd, H6.out.1.2.1.below (drewSB (Below.refl _ w6) nd), H6.out.1.2.2.grow (Bit.drewN_grown w6 nd none)⟩⟩
          · have hbf : bb = false := by
              cases hx : bb with
              | false => rfl
              | true =>
                rw [hx] at HBb
                obtain ⟨T, h3, h4⟩ := (H5.out.2.2 k).1 HBb.out
                have h5 := h4.lt HF.out.1
                have h6 := HF.out.2.1
                omega
            subst hbf
            by_cases hneg : tt < 0
            · have u1 : ¬ tt ≥ 0 := by omega
              clear hin
              go_wp2_with fail
              refine HC.out.mono ?_
              rintro e w7 ⟨rfl, nd, rfl⟩
              go_wp2_with fail
              go_roundg (n - k - 1)
              case measure => omega
              case rel => exact ⟨k + 1, by omega, by go_num, Lib.hid ⟨drewSB H6.out.1.1 nd, H6.out.1.2.1.below (drewSB (Below.refl _ w6) nd), H6.out.1.2.2.grow (Bit.drewN_grown w6 nd none)⟩⟩
            · have u1 : tt ≥ 0 := by omega
              have u2 : ¬ tt < (n : Int) := by omega
              clear hin
              go_wp2_with fail
              refine HC.out.mono ?_
              rintro e w7 ⟨rfl, nd, rfl⟩
              go_wp2_with fail
              go_roundg (n - k - 1)
              case measure => omega
              case rel => exact ⟨k + 1, by omega, by go_num, Lib.hid ⟨drewSB H6.out.1.1 nd, H6.out.1.2.1.below (drewSB (Below.refl _ w6) nd), H6.out.1.2.2.grow (Bit.drewN_grown w6 nd none)⟩⟩
        · obtain rfl : k = n := by omega
          have t1 : ¬ (k : Int) < (k : Int) := by omega
          go_wp2_with fail
          refine (HW.out wr HK.out.1).mono ?_
          rintro e w7 ⟨rfl, hb7⟩
          have H7 := Lib.hid hb7
          clear hb7
          go_wp2_with fail
          go_ret
          exact ⟨rfl, H7.out⟩
end Go.Proofs.Ytojfbcfbnadboaa.Gra
