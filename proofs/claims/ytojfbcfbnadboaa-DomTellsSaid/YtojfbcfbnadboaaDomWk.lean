
/- The small check of layer 20's statements. -/
import Derived.Test.YtojfbcfbnadboaaGraWk0
import Derived.Test.YtojfbcfbnadboaaDomB
namespace Go.Proofs.Ytojfbcfbnadboaa.Gra
open Go.ChangeShapes Go.WideShapes Go.RowKit
set_option linter.unusedVariables false
set_option maxRecDepth 20000
set_option maxHeartbeats 4000000

def b20 : List Blk := [⟨⟨#[97]⟩, false, [], [brI [⟨#[98]⟩, ⟨#[99]⟩]]⟩, ⟨⟨#[98]⟩, false, [], [brI [⟨#[100]⟩]]⟩, ⟨⟨#[99]⟩, false, [], [brI [⟨#[100]⟩]]⟩, ⟨⟨#[100]⟩, false, [], []⟩, ⟨⟨#[101]⟩, false, [], []⟩]
def s20 : Gr := [[1, 2], [3], [3], [], []]
theorem sucs20 : sucs b20 = s20 := by decide +kernel
theorem ok20 : Ok s20 := by rw [← sucs20]; exact sucs_ok b20
theorem nd20 (k : Nat) : (nx s20 k).Nodup ∧ (nx s20 k).length ≤ 300 := by
  have h1 := sucs_few b20 k
  rw [sucs20] at h1
  have h5 : b20.length = 5 := rfl
  exact ⟨h1.2, by omega⟩
theorem kid20 : (rowI (kd s20) 0).length = 3 := by decide +kernel
theorem up20 : (List.range 2).map (upN s20 3) = nn [3, 0] := by decide +kernel
theorem dp20 : dpT s20 3 = 2 := by decide +kernel
theorem bel20 {sn : List Bool} (h : sn.length = 5) (hs : ∀ x : Nat, at_ sn x = isT s20 0 (x : Int)) : (Bit.all sn).length = 4 := by
  have e : sn = [true, true, true, true, false] := by
    refine at_ext (by rw [h]; rfl) fun k hk => ?_
    have hk : k < 5 := by omega
    refine (hs k).trans ?_
    rcases k with _ | _ | _ | _ | _ | k
    · decide +kernel
    · decide +kernel
    · decide +kernel
    · decide +kernel
    · decide +kernel
    · omega
  rw [e]
  decide
theorem works20_v (w : World) : Calls Try.prog 24 #[] w fun e w' => e = .returned (.bool true) ∧ Below w.heap.size w w' := by
  go_enter Try.func24, Try.ntmps24
  obtain ⟨wa1, hwa1⟩ : ∃ wa, w.alloc (.cells #[.string ⟨#[98]⟩, .string ⟨#[99]⟩] 9) = wa := ⟨_, rfl⟩
  have mb := m_box w _ 9 hwa1
  have HS1 := Lib.hid (And.intro (strs_box ([⟨#[98]⟩, ⟨#[99]⟩] : List ByteArray) mb.2 (by show 2 ≤ 1000000; decide)) mb.1)
  clear mb
  go_wp2_with fail
  try rw [hwa1]
  clear hwa1
  refine (br20_v _ _ _ [⟨#[98]⟩, ⟨#[99]⟩] wa1 HS1.out.1).mono ?_
  rintro e wb1 ⟨g1, rfl, hc, hb⟩
  have HC1 := Lib.hid (And.intro hc hb)
  clear hc hb
  obtain ⟨wa2, hwa2⟩ : ∃ wa, wb1.alloc (.cells #[.string ⟨#[100]⟩] 9) = wa := ⟨_, rfl⟩
  have mb := m_box wb1 _ 9 hwa2
  have HS2 := Lib.hid (And.intro (strs_box ([⟨#[100]⟩] : List ByteArray) mb.2 (by show 1 ≤ 1000000; decide)) mb.1)
  clear mb
  go_wp2_with fail
  try rw [hwa2]
  clear hwa2
  refine (br20_v _ _ _ [⟨#[100]⟩] wa2 HS2.out.1).mono ?_
  rintro e wb2 ⟨g2, rfl, hc, hb⟩
  have HC2 := Lib.hid (And.intro hc hb)
  clear hc hb
  obtain ⟨wa3, hwa3⟩ : ∃ wa, wb2.alloc (.cells #[.string ⟨#[100]⟩] 9) = wa := ⟨_, rfl⟩
  have mb := m_box wb2 _ 9 hwa3
  have HS3 := Lib.hid (And.intro (strs_box ([⟨#[100]⟩] : List ByteArray) mb.2 (by show 1 ≤ 1000000; decide)) mb.1)
  clear mb
  go_wp2_with fail
  try rw [hwa3]
  clear hwa3
  refine (br20_v _ _ _ [⟨#[100]⟩] wa3 HS3.out.1).mono ?_
  rintro e wb3 ⟨g3, rfl, hc, hb⟩
  have HC3 := Lib.hid (And.intro hc hb)
  clear hc hb
  obtain ⟨wc, hwc⟩ : ∃ wc, wb3.alloc (.cells #[.string ⟨#[97]⟩, .bool false, .slice none 0 0, .slice (some ⟨g1, 0, none⟩) 1 1, .string ⟨#[98]⟩, .bool false, .slice none 0 0, .slice (some ⟨g2, 0, none⟩) 1 1, .string ⟨#[99]⟩, .bool false, .slice none 0 0, .slice (some ⟨g3, 0, none⟩) 1 1, .string ⟨#[100]⟩, .bool false, .slice none 0 0, .slice none 0 0, .string ⟨#[101]⟩, .bool false, .slice none 0 0, .slice none 0 0] 61) = wc := ⟨_, rfl⟩
  have mc := m_box wb3 _ 61 hwc
  have BC : Below wb3.heap.size wb3 wc := mc.1
  have D3 : Below wb3.heap.size wb3 wc := BC
  have D2 : Below wb2.heap.size wb2 wc := (HS3.out.2.trans (HC3.out.2.mono HS3.out.2.size)).trans (D3.mono (Nat.le_trans HS3.out.2.size HC3.out.2.size))
  have D1 : Below wb1.heap.size wb1 wc := (HS2.out.2.trans (HC2.out.2.mono HS2.out.2.size)).trans (D2.mono (Nat.le_trans HS2.out.2.size HC2.out.2.size))
  have DW : Below w.heap.size w wc := (HS1.out.2.trans (HC1.out.2.mono HS1.out.2.size)).trans (D1.mono (Nat.le_trans HS1.out.2.size HC1.out.2.size))
  have HB := Lib.hid (OwnL.blks (l := [((⟨⟨#[97]⟩, false, [], [brI [⟨#[98]⟩, ⟨#[99]⟩]]⟩ : Blk), (⟨none, 0, 0, some ⟨g1, 0, none⟩, 1, 1, viewI [(brI [⟨#[98]⟩, ⟨#[99]⟩], brV (some ⟨w.heap.size, 0, none⟩) 2 2)]⟩ : BlkV)), ((⟨⟨#[98]⟩, false, [], [brI [⟨#[100]⟩]]⟩ : Blk), (⟨none, 0, 0, some ⟨g2, 0, none⟩, 1, 1, viewI [(brI [⟨#[100]⟩], brV (some ⟨wb1.heap.size, 0, none⟩) 1 1)]⟩ : BlkV)), ((⟨⟨#[99]⟩, false, [], [brI [⟨#[100]⟩]]⟩ : Blk), (⟨none, 0, 0, some ⟨g3, 0, none⟩, 1, 1, viewI [(brI [⟨#[100]⟩], brV (some ⟨wb2.heap.size, 0, none⟩) 1 1)]⟩ : BlkV)), ((⟨⟨#[100]⟩, false, [], []⟩ : Blk), (⟨none, 0, 0, none, 0, 0, viewI []⟩ : BlkV)), ((⟨⟨#[101]⟩, false, [], []⟩ : Blk), (⟨none, 0, 0, none, 0, 0, viewI []⟩ : BlkV))]) (mfirst mBlk (N := 0) (l := [((⟨⟨#[97]⟩, false, [], [brI [⟨#[98]⟩, ⟨#[99]⟩]]⟩ : Blk), (⟨none, 0, 0, some ⟨g1, 0, none⟩, 1, 1, viewI [(brI [⟨#[98]⟩, ⟨#[99]⟩], brV (some ⟨w.heap.size, 0, none⟩) 2 2)]⟩ : BlkV)), ((⟨⟨#[98]⟩, false, [], [brI [⟨#[100]⟩]]⟩ : Blk), (⟨none, 0, 0, some ⟨g2, 0, none⟩, 1, 1, viewI [(brI [⟨#[100]⟩], brV (some ⟨wb1.heap.size, 0, none⟩) 1 1)]⟩ : BlkV)), ((⟨⟨#[99]⟩, false, [], [brI [⟨#[100]⟩]]⟩ : Blk), (⟨none, 0, 0, some ⟨g3, 0, none⟩, 1, 1, viewI [(brI [⟨#[100]⟩], brV (some ⟨wb2.heap.size, 0, none⟩) 1 1)]⟩ : BlkV)), ((⟨⟨#[100]⟩, false, [], []⟩ : Blk), (⟨none, 0, 0, none, 0, 0, viewI []⟩ : BlkV)), ((⟨⟨#[101]⟩, false, [], []⟩ : Blk), (⟨none, 0, 0, none, 0, 0, viewI []⟩ : BlkV))]) mc.2 (Nat.zero_le _) rfl (by show 5 ≤ 1000000; decide)) (by
    intro x hx
    simp only [List.mem_cons, List.not_mem_nil, or_false] at hx
    rcases hx with rfl | rfl | rfl | rfl | rfl
    · exact ⟨⟨rfl, Nat.zero_le _, .inl rfl⟩, HC1.out.1.below D1⟩
    · exact ⟨⟨rfl, Nat.zero_le _, .inl rfl⟩, HC2.out.1.below D2⟩
    · exact ⟨⟨rfl, Nat.zero_le _, .inl rfl⟩, HC3.out.1.below D3⟩
    · exact ⟨⟨rfl, Nat.zero_le _, .inl rfl⟩, ⟨rfl, Nat.zero_le _, .inl rfl, fun k hk => by cases hk⟩⟩
    · exact ⟨⟨rfl, Nat.zero_le _, .inl rfl⟩, ⟨rfl, Nat.zero_le _, .inl rfl, fun k hk => by cases hk⟩⟩))
  have HF := Lib.hid (show IsFun wc ⟨false, ⟨#[]⟩, [], [], b20⟩ ⟨none, 0, 0, none, 0, 0, some ⟨wb3.heap.size, 0, none⟩, 5, 5, viewB [((⟨⟨#[97]⟩, false, [], [brI [⟨#[98]⟩, ⟨#[99]⟩]]⟩ : Blk), (⟨none, 0, 0, some ⟨g1, 0, none⟩, 1, 1, viewI [(brI [⟨#[98]⟩, ⟨#[99]⟩], brV (some ⟨w.heap.size, 0, none⟩) 2 2)]⟩ : BlkV)), ((⟨⟨#[98]⟩, false, [], [brI [⟨#[100]⟩]]⟩ : Blk), (⟨none, 0, 0, some ⟨g2, 0, none⟩, 1, 1, viewI [(brI [⟨#[100]⟩], brV (some ⟨wb1.heap.size, 0, none⟩) 1 1)]⟩ : BlkV)), ((⟨⟨#[99]⟩, false, [], [brI [⟨#[100]⟩]]⟩ : Blk), (⟨none, 0, 0, some ⟨g3, 0, none⟩, 1, 1, viewI [(brI [⟨#[100]⟩], brV (some ⟨wb2.heap.size, 0, none⟩) 1 1)]⟩ : BlkV)), ((⟨⟨#[100]⟩, false, [], []⟩ : Blk), (⟨none, 0, 0, none, 0, 0, viewI []⟩ : BlkV)), ((⟨⟨#[101]⟩, false, [], []⟩ : Blk), (⟨none, 0, 0, none, 0, 0, viewI []⟩ : BlkV))]⟩ from ⟨⟨rfl, Nat.zero_le _, .inl rfl⟩, ⟨rfl, Nat.zero_le _, .inl rfl⟩, HB.out⟩)
  have HW := Lib.hid (show Below w.heap.size w wc from DW)
  have HNg := Lib.hid (newg_v _ _ wc HF.out (by show 5 ≤ 300; decide))
  rw [show sucs (⟨false, ⟨#[]⟩, [], [], b20⟩ : Fun).blocks = s20 from sucs20] at HNg
  unfold funR at HNg
  dsimp only at HNg
  clear mc BC D1 D2 D3 DW
  go_wp2_with fail
  try rw [hwc]
  clear hwc
  refine HNg.out.mono ?_
  rintro e w1 ⟨⟨p, rfl, q, hq, hg, -⟩, hb⟩
  have hqn : q.n = 5 := hq
  have HG := Lib.hid (And.intro hg (And.intro (HW.out.trans (hb.mono HW.out.size)) hqn))
  clear hg hb hq hqn
  clear HF HW HNg HB HC1 HC2 HC3 HS1 HS2 HS3
  have HN := Lib.hid (dnew_v p q s20 w1 HG.out.1 ok20 (by rw [HG.out.2.2]; decide) nd20)
  go_wp2_with fail
  refine HN.out.mono ?_
  rintro e w2 ⟨⟨pT, rfl, gI, gD, gK, hT, hd⟩, hb⟩
  have H2 := Lib.hid (And.intro hT (And.intro hd (HG.out.2.1.trans (hb.mono HG.out.2.1.size))))
  have HQ := Lib.hid HG.out.2.2
  have e1 : idT s20 3 = 0 := by decide +kernel
  have e2 : idT s20 0 = -1 := by decide +kernel
  have e3 : isT s20 0 3 = true := by decide +kernel
  have e4 : isT s20 1 3 = false := by decide +kernel
  have e6 : dpT s20 4 = 0 := by decide +kernel
  have K1 := Lib.hid (e1 ▸ tidom_v pT gI gD gK q.n s20 3 w2 hT)
  have K2 := Lib.hid (e2 ▸ tidom_v pT gI gD gK q.n s20 0 w2 hT)
  have K3 := Lib.hid (e3 ▸ tis_v pT gI gD gK q.n s20 0 3 w2 hT hd)
  have K4 := Lib.hid (e4 ▸ tis_v pT gI gD gK q.n s20 1 3 w2 hT hd)
  have K5 := Lib.hid (dp20 ▸ tdep_v pT gI gD gK q.n s20 3 w2 hT)
  have K6 := Lib.hid (e6 ▸ tdep_v pT gI gD gK q.n s20 4 w2 hT)
  have K7 := Lib.hid (tkids_v pT gI gD gK q.n s20 0 w2 hT)
  clear hT hd hb e1 e2 e3 e4 e6 HN
  go_wp2_with fail
  refine K1.out.mono ?_
  rintro e w3 ⟨rfl, rfl⟩
  go_wp2_with fail
  refine K2.out.mono ?_
  rintro e w3 ⟨rfl, rfl⟩
  go_wp2_with fail
  refine K3.out.mono ?_
  rintro e w3 ⟨rfl, rfl⟩
  go_wp2_with fail
  refine K4.out.mono ?_
  rintro e w3 ⟨rfl, rfl⟩
  go_wp2_with fail
  refine K5.out.mono ?_
  rintro e w3 ⟨rfl, rfl⟩
  go_wp2_with fail
  refine K6.out.mono ?_
  rintro e w3 ⟨rfl, rfl⟩
  go_wp2_with fail
  refine K7.out.mono ?_
  rintro e w3 ⟨⟨B, m, d, rfl, hm, -⟩, hb⟩
  have hm3 : m = 3 := by rw [← hm]; exact kid20
  subst hm3
  have H3 := Lib.hid (show IsT w3 pT gI gD gK q.n s20 ∧ Below w.heap.size w w3 from ⟨H2.out.1.below hb, H2.out.2.2.trans (hb.mono H2.out.2.2.size)⟩)
  have K8 := Lib.hid (tover_v pT gI gD gK q.n s20 3 w3 H3.out.1 H2.out.2.1)
  clear hm hb K1 K2 K3 K4 K5 K6 K7
  go_wp2_with fail
  refine K8.out.mono ?_
  rintro e w4 ⟨⟨B4, m, d4, rfl, hm, ho⟩, hb⟩
  have hm2 : m = 2 := by rw [← hm]; exact dp20
  subst hm2
  rw [up20] at ho
  obtain ⟨v4, hv⟩ : ∃ v, w4.alloc (.cells #[.int .i64 3, .int .i64 0] 3) = v := ⟨_, rfl⟩
  have mb := m_box w4 _ 3 hv
  have HI4 := Lib.hid (show IsInts v4 B4 2 (nn [3, 0]) ∧ IsInts v4 (some ⟨w4.heap.size, 0, none⟩) 2 (nn [3, 0]) from ⟨ho.ints.below mb.1, (mfirst mInt (N := 0) (l := nn [3, 0]) mb.2 (Nat.zero_le _) rfl (by show 2 ≤ 1000000; decide)).ints⟩)
  have HX4 := Lib.hid (show IsT v4 pT gI gD gK q.n s20 ∧ Below w.heap.size w v4 from ⟨(H3.out.1.below hb).below mb.1, H3.out.2.trans ((hb.trans (mb.1.mono hb.size)).mono H3.out.2.size)⟩)
  clear hm ho hb mb K8
  go_wp2_with fail
  try rw [hv]
  clear hv
  refine (rints_v _ _ _ _ _ _ [3, 0] [3, 0] v4 HI4.out.1 HI4.out.2).mono ?_
  rintro e w5 ⟨rfl, hb⟩
  rw [decide_eq_true rfl]
  have HX5 := Lib.hid (show IsT w5 pT gI gD gK q.n s20 ∧ Below w.heap.size w w5 from ⟨HX4.out.1.below hb, HX4.out.2.trans (hb.mono HX4.out.2.size)⟩)
  have K9 := Lib.hid (tbelow_v pT gI gD gK q.n s20 0 w5 HX5.out.1 H2.out.2.1)
  clear hb
  go_wp2_with fail
  refine K9.out.mono ?_
  rintro e w6 ⟨⟨ps, rfl, gs, sn, hset, hsl, hat⟩, hb⟩
  have HX6 := Lib.hid (HX5.out.2.trans (hb.mono HX5.out.2.size))
  have HC := Lib.hid (Bit.count_v _ ps gs sn 4 (bel20 (by rw [hsl]; exact HQ.out) hat) w6 hset)
  clear hset hsl hat hb K9
  go_wp2_with fail
  refine HC.out.mono ?_
  rintro e w7 ⟨rfl, rfl⟩
  go_wp2_with fail
  go_ret
  exact ⟨rfl, HX6.out⟩
end Go.Proofs.Ytojfbcfbnadboaa.Gra
