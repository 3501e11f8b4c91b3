
/- DomChain: the walk. -/
import Derived.Test.YtojfbcfbnadboaaDomCl
namespace Go.Proofs.Ytojfbcfbnadboaa.Gra
open Go.ChangeShapes Go.WideShapes Go.RowKit Par
set_option linter.unusedVariables false
set_option maxRecDepth 20000
set_option maxHeartbeats 8000000

theorem chain_v (f : Fun) (v : FunV) (b : Int) (w : World) (hI : IsFun w f v) :
    Calls Try.prog 6 #[.agg (funR f v), .int .i64 b] w (EndD w) := by
  obtain ⟨w1, hw1⟩ : ∃ w1, w.alloc (.cells (funR f v) 26) = w1 := ⟨_, rfl⟩
  have nb := m_box w _ 26 hw1
  have HI := Lib.hid (And.intro (hI.below nb.1) nb)
  have HL := Lib.hid (large_v f v w1 HI.out.1)
  obtain ⟨bs, hbs⟩ : ∃ bs, f.blocks = bs := ⟨_, rfl⟩
  rw [hbs] at HL
  have HB := Lib.hid hbs
  have hbn : bs.length = v.bn := by rw [← hbs]; exact hI.blocks.1
  have hbm : v.bn ≤ 9223372036854775807 := hI.blocks.2.1
  have HBn := Lib.hid hbn
  have hfun := HI.out.2.2
  unfold funR at hfun HL
  obtain ⟨⟨x0, x1, x2, x3, x4⟩, -⟩ := mbox5 hfun
  unfold funR at hw1 ⊢
  clear nb hI hfun hbs hbn
  go_enter Try.func6, Try.ntmps6
  go_wp2_with fail
  try rw [hw1]
  clear hw1
  refine HL.out.mono ?_
  rintro e w2 ⟨⟨bl, rfl, hbl⟩, hb2⟩
  have H2 := Lib.hid (And.intro hb2 hbl)
  clear hb2 hbl
  have hbx := kept_box HI.out.2.2 H2.out.1
  unfold funR at hbx
  obtain ⟨⟨y0, y1, y2, y3, y4⟩, -⟩ := mbox5 hbx
  clear x0 x1 x2 x3 x4 hbx
  have wk : ∀ w3, Below w.heap.size w w3 → Calls Try.prog 24 #[] w3 fun e w' => e = .returned (.bool true) ∧ Below w.heap.size w w' := fun w3 hb => by
    refine (works20_v w3).mono ?_
    rintro e w' ⟨rfl, hb'⟩
    exact ⟨rfl, hb.trans (hb'.mono hb.size)⟩
  have HW := Lib.hid wk
  have B2 := Lib.hid (show Below w.heap.size w w2 from HI.out.2.1.trans (H2.out.1.mono HI.out.2.1.size))
  clear wk
  cases bl with
  | true =>
    go_wp2_with fail
    refine (HW.out w2 B2.out).mono ?_
    rintro e w3 ⟨rfl, hb3⟩
    have H3 := Lib.hid hb3
    clear hb3
    go_wp2_with fail
    go_ret
    exact ⟨rfl, H3.out⟩
  | false =>
    by_cases h30 : (v.bn : Int) > 40
    · go_wp2_with fail
      refine (HW.out w2 B2.out).mono ?_
      rintro e w3 ⟨rfl, hb3⟩
      have H3 := Lib.hid hb3
      clear hb3
      go_wp2_with fail
      go_ret
      exact ⟨rfl, H3.out⟩
    · have hn30 : v.bn ≤ 40 := by omega
      have HN := Lib.hid (newg_v f v w2 (HI.out.1.below H2.out.1) (by rw [HB.out, HBn.out]; omega))
      unfold funR at HN
      obtain ⟨s, hs⟩ : ∃ s, sucs bs = s := ⟨_, rfl⟩
      have hsb : s.length = bs.length := by rw [← hs]; exact sucs_len bs
      have HF := Lib.hid (show Ok s ∧ s.length = v.bn ∧ v.bn ≤ 40 ∧ (∀ k, (nx s k).Nodup ∧ (nx s k).length ≤ 300) ∧ sucs bs = s from ⟨by rw [← hs]; exact sucs_ok bs, by rw [hsb]; exact HBn.out, hn30, fun k => by
        rw [← hs]
        have h1 := sucs_few bs k
        have h2 := HBn.out
        exact ⟨h1.2, by omega⟩, hs⟩)
      rw [HB.out, hs] at HN
      clear hs hsb h30
      go_wp2_with fail
      refine HN.out.mono ?_
      rintro e w3 ⟨⟨P, rfl, q, hq, hg, -⟩, hb3⟩
      have hqn : q.n = v.bn := by rw [hq]; exact HBn.out
      have H3 := Lib.hid (show Below w1.heap.size w1 w3 from H2.out.1.trans (hb3.mono H2.out.1.size))
      have HD := Lib.hid (dnew_v P q s w3 hg HF.out.1 (by rw [hqn]; omega) HF.out.2.2.2.1)
      clear hq hg hb3 HN y0 y1 y2 y3 y4
      go_wp2_with fail
      refine HD.out.mono ?_
      rintro e w4 ⟨⟨p, rfl, gI, gD, gK, hT, hd⟩, hb4⟩
      rw [hqn] at hT hd
      have H4 := Lib.hid (And.intro hT (And.intro hd (show Below w1.heap.size w1 w4 from H3.out.trans (hb4.mono H3.out.size))))
      have HO := Lib.hid (tover_v p gI gD gK v.bn s b w4 hT hd)
      have hml : dpT s b ≤ 40 := by
        have h1 := dpT_le s b
        have h2 := HF.out.2.1
        omega
      clear hT hd hb4 HD hqn
      go_wp2_with fail
      refine HO.out.mono ?_
      rintro e w5 ⟨⟨A, m, c, rfl, hm, ho⟩, hb5⟩
      have hb04 : Below w.heap.size w w4 := HI.out.2.1.trans (H4.out.2.2.mono HI.out.2.1.size)
      have HZ := Lib.hid (show Cz w w1 w5 p gI gD gK v.bn s A c ((List.range m).map (upN s b)) from ⟨hb04.trans (hb5.mono hb04.size), H4.out.2.2.trans (hb5.mono H4.out.2.2.size), H4.out.1.below hb5, OwnL.less ho hb04.size⟩)
      rw [hm] at hml
      have HM := Lib.hid hm
      clear ho hb5 hb04 HO hm
      go_wp2_with fail
      go_loopg [7] m (fun gk s7 wr => ∃ k : Nat, k + gk = m ∧ s7 = .int .i64 (k : Int) ∧ Hid (Cz w w1 wr p gI gD gK v.bn s A c ((List.range m).map (upN s b))))
      case atStart => exact ⟨0, by omega, rfl, HZ⟩
      case round =>
        clear HZ
        obtain ⟨k, hk, rfl, HK⟩ := hrel
        by_cases hkm : k < m
        · have t1 : (k : Int) < (m : Int) := by omega
          obtain ⟨m', rfl⟩ : ∃ m', m = m' + 1 := ⟨m - 1, by omega⟩
          obtain ⟨gA, rfl, -, -⟩ := OwnL.some_ (m := m') HK.out.row (by rw [List.length_map, List.length_range])
          have c0 := own_at HK.out.row (ups_at (s := s) (b := b) (k := 0) (by omega))
          change wr.cell? ⟨gA, 0, none⟩ = some (.int .i64 b) at c0
          have ck := own_at HK.out.row (ups_at (s := s) (b := b) hkm)
          have hn0 : 0 < v.bn := by
            refine Nat.pos_of_ne_zero fun e => ?_
            have h1 := HM.out
            rw [dpT_none (by rw [HF.out.2.1]; exact e)] at h1
            omega
          obtain ⟨O, ov, hdo⟩ := H4.out.2.1 hn0
          obtain ⟨y, hy, hyO, hyl, hyc, hyi⟩ := hdo.ups (i := b) k (by rw [HM.out]; exact hkm)
          rw [hy] at ck
          have K2 := Lib.hid (show ∀ nd, Calls Try.prog 32 #[.pointer (some ⟨p, 0, none⟩), .int .i64 (y : Int), .int .i64 b] (wr.drewN nd) fun e w' => e = .returned (.bool true) ∧ w' = wr.drewN nd from fun nd => (hyi ▸ tis_v p gI gD gK v.bn s (y : Int) b (wr.drewN nd) (HK.out.tr.below (drewB wr nd)) H4.out.2.1).mono fun e w' h => ⟨h.1, h.2.symm⟩)
          have u0 : (b != b) = false := by simp
          have ul : m' + 1 - 1 = m' := by omega
          have HDo := Lib.hid hdo
          have HY := Lib.hid hy
          have hm39 : m' ≤ 39 := by omega
          clear hdo hyO hyl hyc hyi hy hn0
          have hk0 : (k = 0 ∧ True) ∨ ∃ j, k = j + 1 := by rcases k with _ | j; exact .inl ⟨rfl, trivial⟩; exact .inr ⟨j, rfl⟩
          have HQ := Lib.hid (show k = m' → (y : Int) = 0 from fun e => by rw [← HY.out]; exact HDo.out.ups_last (i := b) (by rw [HM.out, e]))
          rcases hk0 with ⟨hk0, -⟩ | ⟨j, hj⟩
          · have e0 : ((k : Int) == 0) = true := by rw [hk0]; rfl
            have e1 : ¬ (k : Int) > 0 := by omega
            have e1' : decide (0 < k) = false := decide_eq_false (by omega)
            have e1'' : decide ((0 : Int) < (k : Int)) = false := decide_eq_false (by omega)
            by_cases hlast : k = m'
            · have e2 : ((k : Int) == (m' : Int)) = true := by rw [hlast]; simp
              have hz := HQ.out hlast
              rw [hz] at ck K2
              clear hlast hk0 hz
              go_wp2_with fail
              go_quiet (first | (go_at_call 32; exact Calls.quiet_of_same (K2.out _)))
              go_wp2_with fail
              go_roundg (m' + 1 - k - 1)
              case measure => omega
              case rel => exact ⟨k + 1, by omega, by go_num, Lib.hid (HK.out.below (drewB _ _))⟩
            · have e2 : ((k : Int) == (m' : Int)) = false := by rw [beq_eq_false_iff_ne]; omega
              clear hk0
              go_wp2_with fail
              go_quiet (first | (go_at_call 32; exact Calls.quiet_of_same (K2.out _)))
              go_wp2_with fail
              go_roundg (m' + 1 - k - 1)
              case measure => omega
              case rel => exact ⟨k + 1, by omega, by go_num, Lib.hid (HK.out.below (drewB _ _))⟩
          · subst hj
            obtain ⟨x, hx, -, hxl, -⟩ := HDo.out.ups (i := b) j (by rw [HM.out]; omega)
            have cj := own_at HK.out.row (ups_at (s := s) (b := b) (k := j) (m := m' + 1) (by omega))
            rw [hx] at cj
            have hxy : idT s (x : Int) = (y : Int) := by rw [← HY.out, ← hx]; rfl
            have K1 := Lib.hid (show ∀ nd, Calls Try.prog 26 #[.pointer (some ⟨p, 0, none⟩), .int .i64 (x : Int)] (wr.drewN nd) fun e w' => e = .returned (.int .i64 (y : Int)) ∧ w' = wr.drewN nd from fun nd => (hxy ▸ tidom_v p gI gD gK v.bn s (x : Int) (wr.drewN nd) (HK.out.tr.below (drewB wr nd))).mono fun e w' h => ⟨h.1, h.2.symm⟩)
            have e0 : ((j : Int) + 1 == 0) = false := by rw [beq_eq_false_iff_ne]; omega
            have e0' : decide ((0 : Int) < (j : Int) + 1) = true := decide_eq_true (by omega)
            have ey : ((y : Int) != (y : Int)) = false := by simp
            have hjm : (j : Int) < (m' : Int) + 1 := by omega
            have hjb : j ≤ 40 := by omega
            clear hx hxl hxy
            by_cases hlast : j + 1 = m'
            · have e2 : ((j : Int) + 1 == (m' : Int)) = true := by rw [← hlast]; simp
              have hz := HQ.out hlast
              have hy0 : y = 0 := by omega
              subst hy0
              clear hlast hz
              go_wp2_with fail
              go_quiet (first | (go_at_call 26; exact Calls.quiet_of_same (K1.out _)) | (go_at_call 32; exact Calls.quiet_of_same (K2.out _)))
              go_wp2_with fail
              go_roundg (m' + 1 - (j + 1) - 1)
              case measure => omega
              case rel => exact ⟨j + 1 + 1, by omega, by go_num, Lib.hid (HK.out.below (drewB _ _))⟩
            · have e2 : ((j : Int) + 1 == (m' : Int)) = false := by rw [beq_eq_false_iff_ne]; omega
              clear hlast
              go_wp2_with fail
              go_quiet (first | (go_at_call 26; exact Calls.quiet_of_same (K1.out _)) | (go_at_call 32; exact Calls.quiet_of_same (K2.out _)))
              go_wp2_with fail
              go_roundg (m' + 1 - (j + 1) - 1)
              case measure => omega
              case rel => exact ⟨j + 1 + 1, by omega, by go_num, Lib.hid (HK.out.below (drewB _ _))⟩
        · obtain rfl : k = m := by omega
          have t1 : ¬ (k : Int) < (k : Int) := by omega
          have hbx := kept_box HI.out.2.2 HK.out.b1
          unfold funR at hbx
          obtain ⟨⟨x0, x1, x2, x3, x4⟩, -⟩ := mbox5 hbx
          have HSu := Lib.hid (rsucc_v f v wr (HI.out.1.below HK.out.b1) (by rw [HB.out, HBn.out]; omega))
          unfold funR at HSu
          rw [HB.out, HF.out.2.2.2.2] at HSu
          clear hbx
          go_wp2_with fail
          refine HSu.out.mono ?_
          rintro e w6 ⟨⟨A2, n2, c2, rfl, hgr⟩, hb6⟩
          have H6 := Lib.hid (show IsGr w6 A2 n2 s ∧ Below w.heap.size w w6 from ⟨hgr, HK.out.b0.trans (hb6.mono HK.out.b0.size)⟩)
          have hn2 : n2 = v.bn := by rw [← hgr.1]; exact HF.out.2.1
          subst hn2
          have HR := Lib.hid (rreach_v A2 v.bn c2 s 0 (-1) w6 H6.out.1 HF.out.1 (by omega))
          clear hgr hb6 x0 x1 x2 x3 x4 HSu
          go_wp2_with fail
          refine HR.out.mono ?_
          rintro e w7 ⟨⟨g, rfl, hbo⟩, hb7⟩
          have H7 := Lib.hid (show Below w.heap.size w w7 from H6.out.2.trans (hb7.mono H6.out.2.size))
          have HEnd := Lib.hid (HW.out w7 H7.out)
          have HBo := Lib.hid hbo
          clear hbo hb7 HR
          by_cases hin : 0 ≤ b ∧ b < (v.bn : Int)
          · obtain ⟨B, rfl⟩ : ∃ B : Nat, b = (B : Int) := ⟨b.toNat, by omega⟩
            have c0 := HBo.out.cell B (by rw [reach_len, HF.out.2.1]; omega)
            obtain ⟨O, ov, hdo⟩ := H4.out.2.1 (by omega)
            have hat : at_ (reach s 0 (-1)) B = decide (0 < k) := by
              refine beq_of ?_
              rw [← hdo.dp_reach B (by rw [HF.out.2.1]; omega), HM.out, decide_eq_true_eq]
            rw [hat] at c0
            have u1 : (B : Int) ≥ 0 := by omega
            have u2 : (B : Int) < (v.bn : Int) := by omega
            clear hin hdo hat
            cases k with
            | zero =>
              have c1 : w7.cell? ⟨g, B, none⟩ = some (.bool false) := c0
              clear c0
              go_wp2_with fail
              refine HEnd.out.mono ?_
              rintro e w8 ⟨rfl, hb8⟩
              have H8 := Lib.hid hb8
              clear hb8
              go_wp2_with fail
              go_ret
              exact ⟨rfl, H8.out⟩
            | succ m =>
              have c1 : w7.cell? ⟨g, B, none⟩ = some (.bool true) := by rw [c0, decide_eq_true (by omega)]
              clear c0
              go_wp2_with fail
              refine HEnd.out.mono ?_
              rintro e w8 ⟨rfl, hb8⟩
              have H8 := Lib.hid hb8
              clear hb8
              go_wp2_with fail
              go_ret
              exact ⟨rfl, H8.out⟩
          · have hk0 : k = 0 := by
              rw [← HM.out]
              unfold dpT
              rw [if_neg (by rw [HF.out.2.1]; exact hin)]
            subst hk0
            by_cases hneg : b < 0
            · have u1 : ¬ b ≥ 0 := by omega
              clear hin
              go_wp2_with fail
              refine HEnd.out.mono ?_
              rintro e w8 ⟨rfl, hb8⟩
              have H8 := Lib.hid hb8
              clear hb8
              go_wp2_with fail
              go_ret
              exact ⟨rfl, H8.out⟩
            · have u1 : b ≥ 0 := by omega
              have u2 : ¬ b < (v.bn : Int) := by omega
              clear hin
              go_wp2_with fail
              refine HEnd.out.mono ?_
              rintro e w8 ⟨rfl, hb8⟩
              have H8 := Lib.hid hb8
              clear hb8
              go_wp2_with fail
              go_ret
              exact ⟨rfl, H8.out⟩
end Go.Proofs.Ytojfbcfbnadboaa.Gra
