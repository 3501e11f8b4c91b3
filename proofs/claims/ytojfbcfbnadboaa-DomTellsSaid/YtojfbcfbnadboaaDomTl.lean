
/- DomTells: the walk. -/
import Derived.Test.YtojfbcfbnadboaaDomCl
import Derived.Test.YtojfbcfbnadboaaDomRef
namespace Go.Proofs.Ytojfbcfbnadboaa.Gra
open Go.ChangeShapes Go.WideShapes Go.RowKit Par
set_option linter.unusedVariables false
set_option maxRecDepth 20000
set_option maxHeartbeats 8000000

theorem filter_at {P : Nat → Bool} {n c : Nat} (hc : c < n) (hP : P c = true) : ((List.range n).filter P)[((List.range c).filter P).length]? = some c ∧ ((List.range c).filter P).length < ((List.range n).filter P).length := by
  induction n with
  | zero => omega
  | succ n ih =>
    rw [List.range_succ, List.filter_append]
    by_cases e : c = n
    · subst e
      rw [List.filter_cons, hP]
      refine ⟨by rw [List.getElem?_append_right (Nat.le_refl _)]; simp, by rw [List.length_append]; simp⟩
    · obtain ⟨h1, h2⟩ := ih (by omega)
      refine ⟨by rw [List.getElem?_append_left h2]; exact h1, by rw [List.length_append]; omega⟩
/-- What is told of the world while one block's rows are looked at. -/
structure Dz (w W : World) (p gI gD gK n : Nat) (s : Gr) (A : Option Addr) : Prop where
  b0 : Below w.heap.size w W
  gr : IsGr W A n s
  tr : IsT W p gI gD gK n s
theorem Dz.below {w W W' : World} {p gI gD gK n : Nat} {s : Gr} {A : Option Addr} (h : Dz w W p gI gD gK n s A) (hb : Below W.heap.size W W') : Dz w W' p gI gD gK n s A :=
  ⟨h.b0.trans (hb.mono h.b0.size), h.gr.below hb, h.tr.below hb⟩
structure Ez (w W : World) (p gI gD gK n : Nat) (s : Gr) (A : Option Addr) (ps gs : Nat) (sn : List Bool) (B : Option Addr) (m : Nat) (l : List Int) : Prop where
  d : Dz w W p gI gD gK n s A
  set : Bit.SetAt w.heap.size W ps gs sn
  row : IsInts W B m l
theorem Ez.below {w W W' : World} {p gI gD gK n ps gs m : Nat} {s : Gr} {A B : Option Addr} {sn : List Bool} {l : List Int} (h : Ez w W p gI gD gK n s A ps gs sn B m l) (hb : Below W.heap.size W W') : Ez w W' p gI gD gK n s A ps gs sn B m l :=
  ⟨h.d.below hb, gset_mv h.set (M := fun _ => False) (Mv.of hb) (fun h => h) (fun h => h), h.row.below hb⟩
theorem dtells_v (f : Fun) (v : FunV) (w : World) (hI : IsFun w f v) :
    Calls Try.prog 5 #[.agg (funR f v)] w (EndD w) := by
  obtain ⟨w1, hw1⟩ : ∃ w1, w.alloc (.cells (funR f v) 26) = w1 := ⟨_, rfl⟩
  have nb := m_box w _ 26 hw1
  have HI := Lib.hid (And.intro (hI.below nb.1) nb)
  have HL := Lib.hid (large_v f v w1 HI.out.1)
  obtain ⟨bs, hbs⟩ : ∃ bs, f.blocks = bs := ⟨_, rfl⟩
  rw [hbs] at HL
  have HB := Lib.hid hbs
  have hbn : bs.length = v.bn := by rw [← hbs]; exact hI.blocks.1
  have hbm : v.bn ≤ 9223372036854775807 := hI.blocks.2.1
  have HBn := Lib.hid hbn
  have hfun := HI.out.2.2
  unfold funR at hfun HL
  obtain ⟨⟨x0, x1, x2, x3, x4⟩, -⟩ := mbox5 hfun
  unfold funR at hw1 ⊢
  clear nb hI hfun hbs hbn
  go_enter Try.func5, Try.ntmps5
  go_wp2_with fail
  try rw [hw1]
  clear hw1
  refine HL.out.mono ?_
  rintro e w2 ⟨⟨bl, rfl, hbl⟩, hb2⟩
  have H2 := Lib.hid (And.intro hb2 hbl)
  clear hb2 hbl
  have hbx := kept_box HI.out.2.2 H2.out.1
  unfold funR at hbx
  obtain ⟨⟨y0, y1, y2, y3, y4⟩, -⟩ := mbox5 hbx
  clear x0 x1 x2 x3 x4 hbx
  have wk : ∀ w3, Below w.heap.size w w3 → Calls Try.prog 24 #[] w3 fun e w' => e = .returned (.bool true) ∧ Below w.heap.size w w' := fun w3 hb => by
    refine (works20_v w3).mono ?_
    rintro e w' ⟨rfl, hb'⟩
    exact ⟨rfl, hb.trans (hb'.mono hb.size)⟩
  have HW := Lib.hid wk
  have B2 := Lib.hid (show Below w.heap.size w w2 from HI.out.2.1.trans (H2.out.1.mono HI.out.2.1.size))
  clear wk
  cases bl with
  | true =>
    go_wp2_with fail
    refine (HW.out w2 B2.out).mono ?_
    rintro e w3 ⟨rfl, hb3⟩
    have H3 := Lib.hid hb3
    clear hb3
    go_wp2_with fail
    go_ret
    exact ⟨rfl, H3.out⟩
  | false =>
    by_cases h30 : (v.bn : Int) > 14
    · go_wp2_with fail
      refine (HW.out w2 B2.out).mono ?_
      rintro e w3 ⟨rfl, hb3⟩
      have H3 := Lib.hid hb3
      clear hb3
      go_wp2_with fail
      go_ret
      exact ⟨rfl, H3.out⟩
    · have hn30 : v.bn ≤ 14 := by omega
      obtain ⟨s, hs⟩ : ∃ s, sucs bs = s := ⟨_, rfl⟩
      have hsb : s.length = bs.length := by rw [← hs]; exact sucs_len bs
      have HF := Lib.hid (show Ok s ∧ s.length = v.bn ∧ v.bn ≤ 14 ∧ (∀ k, (nx s k).Nodup ∧ (nx s k).length ≤ 300) ∧ bs.length = v.bn ∧ sucs bs = s from ⟨by rw [← hs]; exact sucs_ok bs, by rw [hsb]; exact HBn.out, hn30, fun k => by
        rw [← hs]
        have h1 := sucs_few bs k
        have h2 := HBn.out
        exact ⟨h1.2, by omega⟩, HBn.out, hs⟩)
      have HSu := Lib.hid (rsucc_v f v w2 (HI.out.1.below H2.out.1) (by rw [HB.out, HBn.out]; omega))
      unfold funR at HSu
      rw [HB.out, hs] at HSu
      clear hsb h30 hs
      go_wp2_with fail
      refine HSu.out.mono ?_
      rintro e w3 ⟨⟨A, n', c, rfl, hgr⟩, hb3⟩
      have hnn' : n' = v.bn := by rw [← hgr.1]; exact HF.out.2.1
      subst hnn'
      have H3 := Lib.hid (And.intro hgr (show Below w1.heap.size w1 w3 from H2.out.1.trans (hb3.mono H2.out.1.size)))
      have HN := Lib.hid (newg_v f v w3 (HI.out.1.below H3.out.2) (by rw [HB.out, HBn.out]; omega))
      unfold funR at HN
      rw [HB.out, HF.out.2.2.2.2.2] at HN
      have hbx := kept_box HI.out.2.2 H3.out.2
      unfold funR at hbx
      obtain ⟨⟨x0, x1, x2, x3, x4⟩, -⟩ := mbox5 hbx
      have hn14 : v.bn ≤ 14 := HF.out.2.2.1
      clear hgr hb3 hbx y0 y1 y2 y3 y4 HSu
      go_wp2_with fail
      refine HN.out.mono ?_
      rintro e w4 ⟨⟨P, rfl, q, hq, hg, -⟩, hb4⟩
      have hqn : q.n = v.bn := by rw [hq]; exact HF.out.2.2.2.2.1
      have H4 := Lib.hid (show IsGr w4 A v.bn s ∧ Below w1.heap.size w1 w4 from ⟨H3.out.1.below hb4, H3.out.2.trans (hb4.mono H3.out.2.size)⟩)
      have HD := Lib.hid (dnew_v P q s w4 hg HF.out.1 (by rw [hqn]; omega) HF.out.2.2.2.1)
      clear hq hg hb4 HN x0 x1 x2 x3 x4
      go_wp2_with fail
      refine HD.out.mono ?_
      rintro e w5 ⟨⟨p, rfl, gI, gD, gK, hT, hd⟩, hb5⟩
      rw [hqn] at hT hd
      have H5 := Lib.hid (show Dz w w5 p gI gD gK v.bn s A ∧ (0 < v.bn → ∃ O ov, DO s O ov) from ⟨⟨HI.out.2.1.trans ((H4.out.2.trans (hb5.mono H4.out.2.size)).mono HI.out.2.1.size), H4.out.1.below hb5, hT⟩, hd⟩)
      clear hT hd hb5 HD hqn
      go_wp2_with fail
      go_loopg [5] v.bn (fun gk s5 wr => ∃ k : Nat, k + gk = v.bn ∧ s5 = .int .i64 (k : Int) ∧ Hid (Dz w wr p gI gD gK v.bn s A))
      case atStart => exact ⟨0, by omega, rfl, Lib.hid H5.out.1⟩
      case round =>
        obtain ⟨b, hk, rfl, HK⟩ := hrel
        by_cases hkm : b < v.bn
        · have t1 : (b : Int) < (v.bn : Int) := by omega
          obtain ⟨x, hx⟩ : ∃ x, idT s (b : Int) = x := ⟨_, rfl⟩
          obtain ⟨d, hd⟩ : ∃ d, dpT s (b : Int) = d := ⟨_, rfl⟩
          have HX := Lib.hid (And.intro hx hd)
          have K1 := Lib.hid (hx ▸ tidom_v p gI gD gK v.bn s (b : Int) wr HK.out.tr)
          have K2 := Lib.hid (hx ▸ rdid_v A v.bn c s (b : Int) wr HK.out.gr HF.out.1 (by omega))
          have ex : (x != x) = false := by simp
          have ed : ((d : Int) != (d : Int)) = false := by simp
          clear hx hd
          go_wp2_with fail
          refine K1.out.mono ?_
          rintro e w6 ⟨rfl, rfl⟩
          go_wp2_with fail
          refine K2.out.mono ?_
          rintro e w6 ⟨rfl, hb6⟩
          have H6 := Lib.hid (HK.out.below hb6)
          have K3 := Lib.hid (HX.out.2 ▸ tdep_v p gI gD gK v.bn s (b : Int) w6 H6.out.tr)
          have K4 := Lib.hid (HX.out.2 ▸ rcount_v A v.bn c s (b : Int) w6 H6.out.gr HF.out.1 (by omega))
          clear hb6 K1 K2
          go_wp2_with fail
          refine K3.out.mono ?_
          rintro e w7 ⟨rfl, rfl⟩
          go_wp2_with fail
          refine K4.out.mono ?_
          rintro e w7 ⟨rfl, hb7⟩
          have H7 := Lib.hid (H6.out.below hb7)
          have K5 := Lib.hid (tbelow_v p gI gD gK v.bn s (b : Int) w7 H7.out.tr H5.out.2)
          clear hb7 K3 K4
          go_wp2_with fail
          refine K5.out.mono ?_
          rintro e w8 ⟨⟨ps, rfl, gs, sn, hset, hsl, hat⟩, hb8⟩
          have H8 := Lib.hid (show Dz w w8 p gI gD gK v.bn s A ∧ Bit.SetAt w.heap.size w8 ps gs sn ∧ ∀ x : Nat, at_ sn x = isT s (b : Int) (x : Int) from ⟨H7.out.below hb8, hset.mono H7.out.b0.size, hat⟩)
          have K6 := Lib.hid (tkids_v p gI gD gK v.bn s (b : Int) w8 H8.out.1.tr)
          clear hset hsl hat hb8 K5
          go_wp2_with fail
          refine K6.out.mono ?_
          rintro e w9 ⟨⟨B, m, dd, rfl, hm, ho⟩, hb9⟩
          have hrow : rowI (kd s) (b : Int) = kidsB s b := by
            unfold rowI
            have h1 : (kd s).length = s.length := by unfold kd; rw [List.length_map, List.length_range]
            have h2 := HF.out.2.1
            rw [if_pos (by omega)]
            show nx (kd s) ((b : Int)).toNat = _
            rw [Int.toNat_natCast]
            exact kd_at (by omega)
          rw [hrow] at hm ho
          have hin : IsInts w9 B m (nn (kidsB s b)) := by
            have h1 := ho.ints
            rw [nn_len, hm] at h1
            exact h1
          have hmn : m ≤ 14 := by
            rw [← hm]
            unfold kidsB
            have h2 := List.length_filter_le (fun z => decide (idB s z = (b : Int))) (List.range s.length)
            rw [List.length_range] at h2
            have h3 := HF.out.2.1
            have h4 := HF.out.2.2.1
            omega
          have H9 := Lib.hid (show Ez w w9 p gI gD gK v.bn s A ps gs sn B m (nn (kidsB s b)) from ⟨H8.out.1.below hb9, gset_mv H8.out.2.1 (M := fun _ => False) (Mv.of hb9) (fun h => h) (fun h => h), hin⟩)
          have HM := Lib.hid (show (kidsB s b).length = m ∧ kidsB s b = (List.range v.bn).filter (fun z => decide (idB s z = (b : Int))) from ⟨hm, by unfold kidsB; rw [HF.out.2.1]⟩)
          clear hm ho hb9 hrow hin K6
          go_wp2_with fail
          go_loopg [8, 9] v.bn (fun gk' s8 s9 wr => ∃ c' k : Nat, c' + gk' = v.bn ∧ s8 = .int .i64 (k : Int) ∧ s9 = .int .i64 (c' : Int) ∧ k ≤ c' ∧ Hid (Ez w wr p gI gD gK v.bn s A ps gs sn B m (nn (kidsB s b)) ∧ ((List.range c').filter (fun z => decide (idB s z = (b : Int)))).length = k))
          case atStart => exact ⟨0, 0, by omega, rfl, rfl, by omega, Lib.hid ⟨H9.out, rfl⟩⟩
          case round =>
            obtain ⟨c', k, hc', rfl, rfl, hkc, HC⟩ := hrel
            by_cases hcn : c' < v.bn
            · have t2 : (c' : Int) < (v.bn : Int) := by omega
              obtain ⟨z, hz⟩ : ∃ z, isT s (c' : Int) (b : Int) = z := ⟨_, rfl⟩
              obtain ⟨z2, hz2⟩ : ∃ z, isT s (b : Int) (c' : Int) = z := ⟨_, rfl⟩
              obtain ⟨y, hy⟩ : ∃ y, idT s (c' : Int) = y := ⟨_, rfl⟩
              have HZ := Lib.hid (And.intro hz2 (And.intro hy (show idB s c' = y by rw [← hy, idT_nat (by have := HF.out.2.1; omega)])))
              have K1 := Lib.hid (hz ▸ tis_v p gI gD gK v.bn s (c' : Int) (b : Int) wr HC.out.1.d.tr H5.out.2)
              have K2 := Lib.hid (hz ▸ ris_v A v.bn c s (c' : Int) (b : Int) wr HC.out.1.d.gr HF.out.1 (by omega))
              have ez : (z != z) = false := by simp
              have ez2 : (z2 != z2) = false := by simp
              clear hz hz2 hy
              go_wp2_with fail
              refine K1.out.mono ?_
              rintro e v6 ⟨rfl, rfl⟩
              go_wp2_with fail
              refine K2.out.mono ?_
              rintro e v6 ⟨rfl, hb6⟩
              have V6 := Lib.hid (HC.out.1.below hb6)
              have hh : Bit.hasI sn (c' : Int) = z2 := by
                show (decide (0 ≤ (c' : Int)) && at_ sn ((c' : Int)).toNat) = z2
                rw [decide_eq_true (by omega), Bool.true_and, Int.toNat_natCast, H8.out.2.2]
                exact HZ.out.1
              have K3 := Lib.hid (hh ▸ Bit.has_v (c' : Int) w.heap.size ps gs sn v6 V6.out.set)
              clear hb6 hh K1 K2
              go_wp2_with fail
              refine K3.out.mono ?_
              rintro e v7 ⟨rfl, nd, rfl⟩
              have V7 := Lib.hid (V6.out.below (drewB v6 nd))
              have K4 := Lib.hid (HZ.out.1 ▸ ris_v A v.bn c s (b : Int) (c' : Int) (v6.drewN nd) V7.out.d.gr HF.out.1 (by omega))
              clear K3
              go_wp2_with fail
              refine K4.out.mono ?_
              rintro e v8 ⟨rfl, hb8⟩
              have V8 := Lib.hid (V7.out.below hb8)
              have K5 := Lib.hid (HZ.out.2.1 ▸ rdid_v A v.bn c s (c' : Int) v8 V8.out.d.gr HF.out.1 (by omega))
              clear hb8 K4
              cases hyb : (y == (b : Int)) with
              | true =>
                have hP : decide (idB s c' = (b : Int)) = true := by rw [HZ.out.2.2, decide_eq_true_eq]; exact eq_of_beq hyb
                obtain ⟨h1, h2⟩ := filter_at (P := fun z => decide (idB s z = (b : Int))) hcn hP
                rw [← HM.out.2, HC.out.2] at h1 h2
                rw [HM.out.1] at h2
                have hkm2 : ¬ (k : Int) ≥ (m : Int) := by omega
                have hkm3 : (k : Int) < (m : Int) := by omega
                have HP := Lib.hid (show ((List.range (c' + 1)).filter (fun z => decide (idB s z = (b : Int)))).length = k + 1 by
                  rw [List.range_succ, List.filter_append, List.length_append, HC.out.2, List.filter_cons, hP]
                  rfl)
                have hyb2 := eq_of_beq hyb
                subst hyb2
                have ec : ((c' : Int) != (c' : Int)) = false := by simp
                have HH1 := Lib.hid h1
                clear hP h1 h2 hyb
                go_wp2_with fail
                refine K5.out.mono ?_
                rintro e v9 ⟨rfl, hb9⟩
                have V9 := Lib.hid (V8.out.below hb9)
                obtain ⟨vb, vo, rfl, -, yy, hyy, v0⟩ := V9.out.row.at (k := k) (by omega)
                have hyc : yy = (c' : Int) := by
                  unfold nn at hyy
                  rw [List.getElem?_map, HH1.out] at hyy
                  injection hyy with hyy
                  exact hyy.symm
                subst hyc
                clear hyy hb9 K5
                go_wp2_with fail
                go_roundg (v.bn - c' - 1)
                case measure => omega
                case rel => exact ⟨c' + 1, k + 1, by omega, by go_num, by go_num, by omega, Lib.hid ⟨V9.out, HP.out⟩⟩
              | false =>
                have hP : decide (idB s c' = (b : Int)) = false := by rw [HZ.out.2.2, decide_eq_false_iff_not]; exact beq_eq_false_iff_ne.1 hyb
                have HP := Lib.hid (show ((List.range (c' + 1)).filter (fun z => decide (idB s z = (b : Int)))).length = k by
                  rw [List.range_succ, List.filter_append, List.length_append, HC.out.2, List.filter_cons, hP]
                  rfl)
                clear hP
                go_wp2_with fail
                refine K5.out.mono ?_
                rintro e v9 ⟨rfl, hb9⟩
                have V9 := Lib.hid (V8.out.below hb9)
                clear hb9 K5
                go_wp2_with fail
                go_roundg (v.bn - c' - 1)
                case measure => omega
                case rel => exact ⟨c' + 1, k, by omega, rfl, by go_num, by omega, Lib.hid ⟨V9.out, HP.out⟩⟩
            · obtain rfl : c' = v.bn := by omega
              have t2 : ¬ (v.bn : Int) < (v.bn : Int) := by omega
              have hkm3 : k = m := by rw [← HC.out.2, ← HM.out.2]; exact HM.out.1
              subst hkm3
              have ek : ((k : Int) != (k : Int)) = false := by simp
              go_wp2_with fail
              go_roundg (v.bn - b - 1)
              case measure => omega
              case rel => exact ⟨b + 1, by omega, by go_num, Lib.hid HC.out.1.d⟩
        · obtain rfl : b = v.bn := by omega
          have t1 : ¬ (v.bn : Int) < (v.bn : Int) := by omega
          go_wp2_with fail
          refine (HW.out wr HK.out.b0).mono ?_
          rintro e w6 ⟨rfl, hb6⟩
          have H6 := Lib.hid hb6
          clear hb6
          go_wp2_with fail
          go_ret
          exact ⟨rfl, H6.out⟩
end Go.Proofs.Ytojfbcfbnadboaa.Gra
