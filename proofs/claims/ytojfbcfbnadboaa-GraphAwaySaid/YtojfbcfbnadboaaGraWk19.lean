
/- The small check of layer 19's statements. -/
import Derived.Test.YtojfbcfbnadboaaGraWk0
namespace Go.Proofs.Ytojfbcfbnadboaa.Gra
open Go.ChangeShapes Go.WideShapes Go.RowKit
set_option linter.unusedVariables false
set_option maxRecDepth 20000
set_option maxHeartbeats 4000000

def b19 : List Blk := [⟨⟨#[97]⟩, false, [], [brI [⟨#[99]⟩, ⟨#[98]⟩, ⟨#[99]⟩]]⟩, ⟨⟨#[98]⟩, false, [], [brI [⟨#[100]⟩, ⟨#[98]⟩]]⟩, ⟨⟨#[99]⟩, false, [], [brI [⟨#[100]⟩]]⟩, ⟨⟨#[100]⟩, false, [], []⟩, ⟨⟨#[101]⟩, false, [], [brI [⟨#[100]⟩]]⟩]
def s19 : Gr := [[2, 1], [3, 1], [3], [], [3]]
theorem sucs19 : sucs b19 = s19 := by decide +kernel
theorem ok19 : Ok s19 := by rw [← sucs19]; exact sucs_ok b19
theorem left19 : IsLeft s19 [3, 2, 1, 0] := .inr ⟨by decide, _, .go rfl (.go rfl (.go rfl .nil .nil) (.go rfl (.skip rfl (.skip rfl .nil)) .nil)) .nil⟩
theorem edg19 : (edgK s19 5).length = 6 := by
  unfold edgK
  rw [List.length_flatMap]
  have : ∀ l : List Nat, (l.map fun i => ((srt (nx s19 i)).map fun j => (i, j)).length) = l.map fun i => (nx s19 i).length := fun l => List.map_congr_left fun i _ => by rw [List.length_map, srt_len]
  rw [this]
  decide
theorem rch19 {sn : List Bool} (h : sn.length = 5) (hs : ∀ k, at_ sn k = true ↔ k ∈ [3, 2, 1, 0]) : (Bit.all sn).length = 4 := by
  have e : sn = [true, true, true, true, false] := by
    refine at_ext (by rw [h]; rfl) fun k hk => ?_
    have h1 := hs k
    have hk : k < 5 := by omega
    have : ∀ b c : Bool, (b = true ↔ c = true) → b = c := by decide
    refine this _ _ (h1.trans ?_)
    rcases k with _ | _ | _ | _ | _ | k
    · decide
    · decide
    · decide
    · decide
    · decide
    · omega
  rw [e]
  decide
theorem away19 {sn : List Bool} (h : AwIs s19 5 3 1 sn) : (Bit.all sn).length = 4 := by
  have hr : ∀ k, at_ sn k = true ↔ at_ (reach s19 (k : Int) 1) 3 = true := fun k => by
    rw [h.2 k, reach_iff ok19]
    exact ⟨fun ⟨T, hT, hr⟩ => by
      have e : T = 3 := by omega
      subst e
      exact hr, fun hr => ⟨3, rfl, hr⟩⟩
  have e : sn = [true, false, true, true, true] := by
    refine at_ext (by rw [h.1]; rfl) fun k hk => ?_
    have h1 := hr k
    have hk : k < 5 := by rw [h.1] at hk; exact hk
    have : ∀ b c : Bool, (b = true ↔ c = true) → b = c := by decide
    refine this _ _ (h1.trans ?_)
    rcases k with _ | _ | _ | _ | _ | k
    · decide +kernel
    · decide +kernel
    · decide +kernel
    · decide +kernel
    · decide +kernel
    · omega
  rw [e]
  decide
theorem works19_v (w : World) : Calls Try.prog 8 #[] w fun e w' => e = .returned (.bool true) ∧ Below w.heap.size w w' := by
  go_enter Try.func8, Try.ntmps8
  obtain ⟨wa1, hwa1⟩ : ∃ wa, w.alloc (.cells #[.string ⟨#[99]⟩, .string ⟨#[98]⟩, .string ⟨#[99]⟩] 9) = wa := ⟨_, rfl⟩
  have mb := m_box w _ 9 hwa1
  have HS1 := Lib.hid (And.intro (strs_box ([⟨#[99]⟩, ⟨#[98]⟩, ⟨#[99]⟩] : List ByteArray) mb.2 (by show 3 ≤ 1000000; decide)) mb.1)
  clear mb
  go_wp2_with fail
  try rw [hwa1]
  clear hwa1
  refine (br19_v _ _ _ [⟨#[99]⟩, ⟨#[98]⟩, ⟨#[99]⟩] wa1 HS1.out.1).mono ?_
  rintro e wb1 ⟨g1, rfl, hc, hb⟩
  have HC1 := Lib.hid (And.intro hc hb)
  clear hc hb
  obtain ⟨wa2, hwa2⟩ : ∃ wa, wb1.alloc (.cells #[.string ⟨#[100]⟩, .string ⟨#[98]⟩] 9) = wa := ⟨_, rfl⟩
  have mb := m_box wb1 _ 9 hwa2
  have HS2 := Lib.hid (And.intro (strs_box ([⟨#[100]⟩, ⟨#[98]⟩] : List ByteArray) mb.2 (by show 2 ≤ 1000000; decide)) mb.1)
  clear mb
  go_wp2_with fail
  try rw [hwa2]
  clear hwa2
  refine (br19_v _ _ _ [⟨#[100]⟩, ⟨#[98]⟩] wa2 HS2.out.1).mono ?_
  rintro e wb2 ⟨g2, rfl, hc, hb⟩
  have HC2 := Lib.hid (And.intro hc hb)
  clear hc hb
  obtain ⟨wa3, hwa3⟩ : ∃ wa, wb2.alloc (.cells #[.string ⟨#[100]⟩] 9) = wa := ⟨_, rfl⟩
  have mb := m_box wb2 _ 9 hwa3
  have HS3 := Lib.hid (And.intro (strs_box ([⟨#[100]⟩] : List ByteArray) mb.2 (by show 1 ≤ 1000000; decide)) mb.1)
  clear mb
  go_wp2_with fail
  try rw [hwa3]
  clear hwa3
  refine (br19_v _ _ _ [⟨#[100]⟩] wa3 HS3.out.1).mono ?_
  rintro e wb3 ⟨g3, rfl, hc, hb⟩
  have HC3 := Lib.hid (And.intro hc hb)
  clear hc hb
  obtain ⟨wa4, hwa4⟩ : ∃ wa, wb3.alloc (.cells #[.string ⟨#[100]⟩] 9) = wa := ⟨_, rfl⟩
  have mb := m_box wb3 _ 9 hwa4
  have HS4 := Lib.hid (And.intro (strs_box ([⟨#[100]⟩] : List ByteArray) mb.2 (by show 1 ≤ 1000000; decide)) mb.1)
  clear mb
  go_wp2_with fail
  try rw [hwa4]
  clear hwa4
  refine (br19_v _ _ _ [⟨#[100]⟩] wa4 HS4.out.1).mono ?_
  rintro e wb4 ⟨g4, rfl, hc, hb⟩
  have HC4 := Lib.hid (And.intro hc hb)
  clear hc hb
  obtain ⟨wc, hwc⟩ : ∃ wc, wb4.alloc (.cells #[.string ⟨#[97]⟩, .bool false, .slice none 0 0, .slice (some ⟨g1, 0, none⟩) 1 1, .string ⟨#[98]⟩, .bool false, .slice none 0 0, .slice (some ⟨g2, 0, none⟩) 1 1, .string ⟨#[99]⟩, .bool false, .slice none 0 0, .slice (some ⟨g3, 0, none⟩) 1 1, .string ⟨#[100]⟩, .bool false, .slice none 0 0, .slice none 0 0, .string ⟨#[101]⟩, .bool false, .slice none 0 0, .slice (some ⟨g4, 0, none⟩) 1 1] 61) = wc := ⟨_, rfl⟩
  have mc := m_box wb4 _ 61 hwc
  have BC : Below wb4.heap.size wb4 wc := mc.1
  have D4 : Below wb4.heap.size wb4 wc := BC
  have D3 : Below wb3.heap.size wb3 wc := (HS4.out.2.trans (HC4.out.2.mono HS4.out.2.size)).trans (D4.mono (Nat.le_trans HS4.out.2.size HC4.out.2.size))
  have D2 : Below wb2.heap.size wb2 wc := (HS3.out.2.trans (HC3.out.2.mono HS3.out.2.size)).trans (D3.mono (Nat.le_trans HS3.out.2.size HC3.out.2.size))
  have D1 : Below wb1.heap.size wb1 wc := (HS2.out.2.trans (HC2.out.2.mono HS2.out.2.size)).trans (D2.mono (Nat.le_trans HS2.out.2.size HC2.out.2.size))
  have DW : Below w.heap.size w wc := (HS1.out.2.trans (HC1.out.2.mono HS1.out.2.size)).trans (D1.mono (Nat.le_trans HS1.out.2.size HC1.out.2.size))
  have HB := Lib.hid (OwnL.blks (l := [((⟨⟨#[97]⟩, false, [], [brI [⟨#[99]⟩, ⟨#[98]⟩, ⟨#[99]⟩]]⟩ : Blk), (⟨none, 0, 0, some ⟨g1, 0, none⟩, 1, 1, viewI [(brI [⟨#[99]⟩, ⟨#[98]⟩, ⟨#[99]⟩], brV (some ⟨w.heap.size, 0, none⟩) 3 3)]⟩ : BlkV)), ((⟨⟨#[98]⟩, false, [], [brI [⟨#[100]⟩, ⟨#[98]⟩]]⟩ : Blk), (⟨none, 0, 0, some ⟨g2, 0, none⟩, 1, 1, viewI [(brI [⟨#[100]⟩, ⟨#[98]⟩], brV (some ⟨wb1.heap.size, 0, none⟩) 2 2)]⟩ : BlkV)), ((⟨⟨#[99]⟩, false, [], [brI [⟨#[100]⟩]]⟩ : Blk), (⟨none, 0, 0, some ⟨g3, 0, none⟩, 1, 1, viewI [(brI [⟨#[100]⟩], brV (some ⟨wb2.heap.size, 0, none⟩) 1 1)]⟩ : BlkV)), ((⟨⟨#[100]⟩, false, [], []⟩ : Blk), (⟨none, 0, 0, none, 0, 0, viewI []⟩ : BlkV)), ((⟨⟨#[101]⟩, false, [], [brI [⟨#[100]⟩]]⟩ : Blk), (⟨none, 0, 0, some ⟨g4, 0, none⟩, 1, 1, viewI [(brI [⟨#[100]⟩], brV (some ⟨wb3.heap.size, 0, none⟩) 1 1)]⟩ : BlkV))]) (mfirst mBlk (N := 0) (l := [((⟨⟨#[97]⟩, false, [], [brI [⟨#[99]⟩, ⟨#[98]⟩, ⟨#[99]⟩]]⟩ : Blk), (⟨none, 0, 0, some ⟨g1, 0, none⟩, 1, 1, viewI [(brI [⟨#[99]⟩, ⟨#[98]⟩, ⟨#[99]⟩], brV (some ⟨w.heap.size, 0, none⟩) 3 3)]⟩ : BlkV)), ((⟨⟨#[98]⟩, false, [], [brI [⟨#[100]⟩, ⟨#[98]⟩]]⟩ : Blk), (⟨none, 0, 0, some ⟨g2, 0, none⟩, 1, 1, viewI [(brI [⟨#[100]⟩, ⟨#[98]⟩], brV (some ⟨wb1.heap.size, 0, none⟩) 2 2)]⟩ : BlkV)), ((⟨⟨#[99]⟩, false, [], [brI [⟨#[100]⟩]]⟩ : Blk), (⟨none, 0, 0, some ⟨g3, 0, none⟩, 1, 1, viewI [(brI [⟨#[100]⟩], brV (some ⟨wb2.heap.size, 0, none⟩) 1 1)]⟩ : BlkV)), ((⟨⟨#[100]⟩, false, [], []⟩ : Blk), (⟨none, 0, 0, none, 0, 0, viewI []⟩ : BlkV)), ((⟨⟨#[101]⟩, false, [], [brI [⟨#[100]⟩]]⟩ : Blk), (⟨none, 0, 0, some ⟨g4, 0, none⟩, 1, 1, viewI [(brI [⟨#[100]⟩], brV (some ⟨wb3.heap.size, 0, none⟩) 1 1)]⟩ : BlkV))]) mc.2 (Nat.zero_le _) rfl (by show 5 ≤ 1000000; decide)) (by
    intro x hx
    simp only [List.mem_cons, List.not_mem_nil, or_false] at hx
    rcases hx with rfl | rfl | rfl | rfl | rfl
    · exact ⟨⟨rfl, Nat.zero_le _, .inl rfl⟩, HC1.out.1.below D1⟩
    · exact ⟨⟨rfl, Nat.zero_le _, .inl rfl⟩, HC2.out.1.below D2⟩
    · exact ⟨⟨rfl, Nat.zero_le _, .inl rfl⟩, HC3.out.1.below D3⟩
    · exact ⟨⟨rfl, Nat.zero_le _, .inl rfl⟩, ⟨rfl, Nat.zero_le _, .inl rfl, fun k hk => by cases hk⟩⟩
    · exact ⟨⟨rfl, Nat.zero_le _, .inl rfl⟩, HC4.out.1.below D4⟩))
  obtain ⟨wd, hwd⟩ : ∃ wd, wc.alloc (.cells #[.bool false, .string ⟨#[]⟩, .slice none 0 0, .slice none 0 0, .slice none 0 0] 26) = wd := ⟨_, rfl⟩
  have nd := m_box wc _ 26 hwd
  obtain ⟨we, hwe⟩ : ∃ we, mset5 wd wc.heap.size (.bool false) (.string ⟨#[]⟩) (.slice none 0 0) (.slice none 0 0) (.slice (some ⟨wb4.heap.size, 0, none⟩) 5 5) = we := ⟨_, rfl⟩
  have b5 : Below wc.heap.size wc we := by rw [← hwe]; exact mset5_below nd.1 (Nat.le_refl _)
  have h5 : we.heap[wc.heap.size]? = some (.cells #[.bool false, .string ⟨#[]⟩, .slice none 0 0, .slice none 0 0, .slice (some ⟨wb4.heap.size, 0, none⟩) 5 5] 26 (0, 0)) := by rw [← hwe]; exact mset5_heap nd.2
  obtain ⟨⟨e0, e1, e2, e3, e4⟩, f0, f1, f2, f3, f4⟩ := mbox5 nd.2
  obtain ⟨⟨g0', g1', g2', g3', g4'⟩, _⟩ := mbox5 h5
  unfold mset5 at hwe
  have HF := Lib.hid (show IsFun we ⟨false, ⟨#[]⟩, [], [], b19⟩ ⟨none, 0, 0, none, 0, 0, some ⟨wb4.heap.size, 0, none⟩, 5, 5, viewB [((⟨⟨#[97]⟩, false, [], [brI [⟨#[99]⟩, ⟨#[98]⟩, ⟨#[99]⟩]]⟩ : Blk), (⟨none, 0, 0, some ⟨g1, 0, none⟩, 1, 1, viewI [(brI [⟨#[99]⟩, ⟨#[98]⟩, ⟨#[99]⟩], brV (some ⟨w.heap.size, 0, none⟩) 3 3)]⟩ : BlkV)), ((⟨⟨#[98]⟩, false, [], [brI [⟨#[100]⟩, ⟨#[98]⟩]]⟩ : Blk), (⟨none, 0, 0, some ⟨g2, 0, none⟩, 1, 1, viewI [(brI [⟨#[100]⟩, ⟨#[98]⟩], brV (some ⟨wb1.heap.size, 0, none⟩) 2 2)]⟩ : BlkV)), ((⟨⟨#[99]⟩, false, [], [brI [⟨#[100]⟩]]⟩ : Blk), (⟨none, 0, 0, some ⟨g3, 0, none⟩, 1, 1, viewI [(brI [⟨#[100]⟩], brV (some ⟨wb2.heap.size, 0, none⟩) 1 1)]⟩ : BlkV)), ((⟨⟨#[100]⟩, false, [], []⟩ : Blk), (⟨none, 0, 0, none, 0, 0, viewI []⟩ : BlkV)), ((⟨⟨#[101]⟩, false, [], [brI [⟨#[100]⟩]]⟩ : Blk), (⟨none, 0, 0, some ⟨g4, 0, none⟩, 1, 1, viewI [(brI [⟨#[100]⟩], brV (some ⟨wb3.heap.size, 0, none⟩) 1 1)]⟩ : BlkV))]⟩ from ⟨⟨rfl, Nat.zero_le _, .inl rfl⟩, ⟨rfl, Nat.zero_le _, .inl rfl⟩, HB.out.below b5⟩)
  have HW := Lib.hid (show Below w.heap.size w we from DW.trans (b5.mono DW.size))
  have HNg := Lib.hid (newg_v _ _ we HF.out (by show 5 ≤ 300; decide))
  rw [show sucs (⟨false, ⟨#[]⟩, [], [], b19⟩ : Fun).blocks = s19 from sucs19] at HNg
  unfold funR at HNg
  dsimp only at HNg
  clear mc BC D1 D2 D3 D4 DW b5 h5 nd
  go_wp2_with fail
  try rw [hwc]
  try rw [hwd]
  try rw [hwe]
  clear hwc hwd hwe e0 e1 e2 e3 e4 f0 f1 f2 f3 f4
  refine HNg.out.mono ?_
  rintro e w1 ⟨⟨p, rfl, q, hq, hg, -⟩, hb⟩
  have hqn : q.n = 5 := hq
  have HG := Lib.hid (And.intro hg (And.intro (HW.out.trans (hb.mono HW.out.size)) hqn))
  have hrow : ∀ k, (nx s19 k).length ≤ 300 := fun k => by have := (sucs_few b19 k).1; rw [sucs19] at this; have h5 : b19.length = 5 := rfl; omega
  have HR := Lib.hid hrow
  clear hg hb hq hrow hqn g0' g1' g2' g3' g4'
  clear HF HW HNg HB HC1 HC2 HC3 HC4 HS1 HS2 HS3 HS4
  have HE19 := Lib.hid edg19
  go_wp2_with fail
  have HG1 := Lib.hid (show IsG w1 p q s19 (prs s19) ∧ Below w.heap.size w w1 from ⟨HG.out.1, HG.out.2.1⟩)
  have hqn := HG.out.2.2
  refine (gsucc_v p q s19 (prs s19) 0 w1 HG1.out.1 (fun k => by have := HR.out k; omega)).mono ?_
  rintro e u2 ⟨⟨B, m, d, rfl, hm, ho⟩, hb⟩
  obtain ⟨v2, hv⟩ : ∃ v, u2.alloc (.cells #[.int .i64 2, .int .i64 1] 3) = v := ⟨_, rfl⟩
  have mb := m_box u2 _ 3 hv
  have HI2 := Lib.hid (show IsInts v2 B m (nn [2, 1]) ∧ IsInts v2 (some ⟨u2.heap.size, 0, none⟩) 2 (nn [2, 1]) from ⟨(by
    have h1 := ho.ints
    rw [nn_len, hm] at h1
    exact h1.below mb.1), (mfirst mInt (N := 0) (l := nn [2, 1]) mb.2 (Nat.zero_le _) rfl (by show 2 ≤ 1000000; decide)).ints⟩)
  have HX2 := Lib.hid (show IsG v2 p q s19 (prs s19) ∧ Below w.heap.size w v2 from ⟨(HG1.out.1.below hb).below mb.1, HG1.out.2.trans ((hb.trans (mb.1.mono hb.size)).mono HG1.out.2.size)⟩)
  clear hm ho hb mb
  go_wp2_with fail
  try rw [hv]
  clear hv
  refine (rints_v _ _ _ _ _ _ [2, 1] [2, 1] v2 HI2.out.1 HI2.out.2).mono ?_
  rintro e w2 ⟨rfl, hb⟩
  rw [decide_eq_true rfl]
  have HG2 := Lib.hid (show IsG w2 p q s19 (prs s19) ∧ Below w.heap.size w w2 from ⟨HX2.out.1.below hb, HX2.out.2.trans (hb.mono HX2.out.2.size)⟩)
  clear hb
  go_wp2_with fail
  refine (gpred_v p q s19 (prs s19) 3 w2 HG2.out.1 (fun k => by have := prs_few s19 k; have h5 : s19.length = 5 := rfl; omega)).mono ?_
  rintro e u3 ⟨⟨B, m, d, rfl, hm, ho⟩, hb⟩
  obtain ⟨v3, hv⟩ : ∃ v, u3.alloc (.cells #[.int .i64 1, .int .i64 2, .int .i64 4] 3) = v := ⟨_, rfl⟩
  have mb := m_box u3 _ 3 hv
  have HI3 := Lib.hid (show IsInts v3 B m (nn [1, 2, 4]) ∧ IsInts v3 (some ⟨u3.heap.size, 0, none⟩) 3 (nn [1, 2, 4]) from ⟨(by
    have h1 := ho.ints
    rw [nn_len, hm, show rowI (prs s19) 3 = [1, 2, 4] from by decide] at h1
    exact h1.below mb.1), (mfirst mInt (N := 0) (l := nn [1, 2, 4]) mb.2 (Nat.zero_le _) rfl (by show 3 ≤ 1000000; decide)).ints⟩)
  have HX3 := Lib.hid (show IsG v3 p q s19 (prs s19) ∧ Below w.heap.size w v3 from ⟨(HG2.out.1.below hb).below mb.1, HG2.out.2.trans ((hb.trans (mb.1.mono hb.size)).mono HG2.out.2.size)⟩)
  clear hm ho hb mb
  go_wp2_with fail
  try rw [hv]
  clear hv
  refine (rints_v _ _ _ _ _ _ [1, 2, 4] [1, 2, 4] v3 HI3.out.1 HI3.out.2).mono ?_
  rintro e w3 ⟨rfl, hb⟩
  rw [decide_eq_true rfl]
  have HG3 := Lib.hid (show IsG w3 p q s19 (prs s19) ∧ Below w.heap.size w w3 from ⟨HX3.out.1.below hb, HX3.out.2.trans (hb.mono HX3.out.2.size)⟩)
  clear hb
  go_wp2_with fail
  refine (gorder_v p q s19 (prs s19) [3, 2, 1, 0] w3 HG3.out.1 ok19 (by omega) left19).mono ?_
  rintro e u4 ⟨⟨B, m, d, rfl, hm, ho, -⟩, hb⟩
  obtain ⟨v4, hv⟩ : ∃ v, u4.alloc (.cells #[.int .i64 0, .int .i64 1, .int .i64 2, .int .i64 3] 3) = v := ⟨_, rfl⟩
  have mb := m_box u4 _ 3 hv
  have HI4 := Lib.hid (show IsInts v4 B m (nn [0, 1, 2, 3]) ∧ IsInts v4 (some ⟨u4.heap.size, 0, none⟩) 4 (nn [0, 1, 2, 3]) from ⟨(by
    have h1 := ho.ints
    rw [nn_len, show ([3, 2, 1, 0] : List Nat).reverse.length = m from hm] at h1
    exact h1.below mb.1), (mfirst mInt (N := 0) (l := nn [0, 1, 2, 3]) mb.2 (Nat.zero_le _) rfl (by show 4 ≤ 1000000; decide)).ints⟩)
  have HX4 := Lib.hid (show IsG v4 p q s19 (prs s19) ∧ Below w.heap.size w v4 from ⟨(HG3.out.1.below hb).below mb.1, HG3.out.2.trans ((hb.trans (mb.1.mono hb.size)).mono HG3.out.2.size)⟩)
  clear hm ho hb mb
  go_wp2_with fail
  try rw [hv]
  clear hv
  refine (rints_v _ _ _ _ _ _ [0, 1, 2, 3] [0, 1, 2, 3] v4 HI4.out.1 HI4.out.2).mono ?_
  rintro e w4 ⟨rfl, hb⟩
  rw [decide_eq_true rfl]
  have HG4 := Lib.hid (show IsG w4 p q s19 (prs s19) ∧ Below w.heap.size w w4 from ⟨HX4.out.1.below hb, HX4.out.2.trans (hb.mono HX4.out.2.size)⟩)
  clear hb
  go_wp2_with fail
  refine (reached_v p q s19 (prs s19) [3, 2, 1, 0] w4 HG4.out.1 ok19 (by omega) left19).mono ?_
  rintro e w5 ⟨⟨ps, rfl, gs, sn, hset, hsl, hsk⟩, hb⟩
  have HG5 := Lib.hid (show IsG w5 p q s19 (prs s19) ∧ Below w.heap.size w w5 from ⟨HG4.out.1.below hb, HG4.out.2.trans (hb.mono HG4.out.2.size)⟩)
  have HC5 := Lib.hid (Bit.count_v _ ps gs sn 4 (rch19 (by omega) hsk) w5 hset)
  clear hset hsl hsk hb
  go_wp2_with fail
  refine HC5.out.mono ?_
  rintro e w6 ⟨rfl, rfl⟩
  go_wp2_with fail
  refine (edges_v p q s19 (prs s19) w6 HG5.out.1 (by omega) HR.out).mono ?_
  rintro e w7 ⟨⟨A, n, c, rfl, hm, ho⟩, hb⟩
  have hn6 : n = 6 := by rw [← hm]; exact edg19
  subst hn6
  have HG7 := Lib.hid (show IsG w7 p q s19 (prs s19) ∧ Below w.heap.size w w7 from ⟨HG5.out.1.below hb, HG5.out.2.trans (hb.mono HG5.out.2.size)⟩)
  clear hm ho hb
  go_wp2_with fail
  refine (glen_v p q s19 (prs s19) w7 HG7.out.1).mono ?_
  rintro e w8 ⟨rfl, rfl⟩
  have HQ := Lib.hid hqn
  rw [hqn]
  clear hqn
  go_wp2_with fail
  refine (away_v p q s19 (prs s19) 3 1 w7 HG7.out.1 (fun x z => prs_mem ok19) (by have := HQ.out; omega)).mono ?_
  rintro e w9 ⟨⟨pa, rfl, ga, sa, hset, haw⟩, hb⟩
  have HG9 := Lib.hid (show Below w.heap.size w w9 from HG7.out.2.trans (hb.mono HG7.out.2.size))
  have HC9 := Lib.hid (Bit.count_v _ pa ga sa 4 (away19 (by rw [HQ.out] at haw; exact haw)) w9 hset)
  clear hset haw hb
  go_wp2_with fail
  refine HC9.out.mono ?_
  rintro e w10 ⟨rfl, rfl⟩
  go_wp2_with fail
  go_ret
  exact ⟨rfl, HG9.out⟩
end Go.Proofs.Ytojfbcfbnadboaa.Gra
