/- The statement on telling again: the walk. -/
import Derived.Test.YtmckplgbaalpbaaDoorLexAgain
import Derived.BigRegion
namespace Go.Proofs.YtmckplgbaalpbaaDoor.Lex
open Go.ChangeShapes Go.WideShapes Go.RowKit
set_option linter.unusedVariables false
set_option maxRecDepth 20000

theorem back_big (s r : ByteArray) (h : 1000 < s.size ∨ 40 < r.size) (w : World) (hg : Fau.Glob w) : Calls Tryd.prog 4 #[.string s, .string r] w fun e w' => e = .returned (.bool true) ∧ Below w.heap.size w w' := by
  have HG := Lib.hid hg
  clear hg
  by_cases h1 : 1000 < s.size
  · have h1' : (1000 : Int) < (s.size : Int) := by omega
    clear h h1
    go_enter Tryd.func4, Tryd.ntmps4
    go_wp2_with fail
    refine (works_v _ HG.out).mono ?_
    rintro e w1 ⟨rfl, hb⟩
    have H1 := Lib.hid hb
    clear hb
    go_wp2_with fail
    go_ret
    exact ⟨rfl, H1.out⟩
  · have h1' : (s.size : Int) ≤ 1000 := by omega
    have h2 : (40 : Int) < (r.size : Int) := by omega
    clear h h1
    go_enter Tryd.func4, Tryd.ntmps4
    go_wp2_with fail
    refine (works_v _ HG.out).mono ?_
    rintro e w1 ⟨rfl, hb⟩
    have H1 := Lib.hid hb
    clear hb
    go_wp2_with fail
    go_ret
    exact ⟨rfl, H1.out⟩
/-- What is so while the text is told: T stands for the tokens ahead of i. -/
structure Told (w wr : World) (r : ByteArray) (g c : Nat) (m : List Tok) (i : Nat) (T : ByteArray) : Prop where
  text : T.data.toList ++ glue r.data.toList i (m.drop i) = glue r.data.toList 0 m
  size : T.size ≤ i * 6000
  below : Below w.heap.size w wr
  own : OwnK w.heap.size wr (some ⟨g, 0, none⟩) c m
theorem told_step {w wr w1 : World} {r : ByteArray} {g c : Nat} {m : List Tok} {i : Nat} {T A T2 : ByteArray} (h : Told w wr r g c m i T) (hb : Below wr.heap.size wr w1) {t : Tok} (ht : m[i]? = some t) (h3 : ¬ i % 3 = 1) (hA : (⟨(again t).toArray⟩ : ByteArray) = A) (hs : A.size ≤ 5000)
    (h2 : T ++ A ++ ⟨#[32]⟩ = T2) : Told w w1 r g c m (i + 1) T2 := by
  obtain ⟨hi, rfl⟩ := List.getElem?_eq_some_iff.1 ht
  refine ⟨?_, ?_, h.below.trans (hb.mono h.below.size), h.own.grow hb⟩
  · have := h.text
    rw [glue_at _ i m hi, if_neg h3] at this
    rw [← this, ← h2, ← hA, ByteArray.data_append, ByteArray.data_append]
    simp
  · have := h.size
    rw [← h2, ByteArray.size_append, ByteArray.size_append]
    show T.size + A.size + 1 ≤ _
    omega
theorem told_step3 {w wr w1 : World} {r : ByteArray} {g c : Nat} {m : List Tok} {i : Nat} {T A T2 T5 : ByteArray} (h : Told w wr r g c m i T) (hb : Below wr.heap.size wr w1) {t : Tok} (ht : m[i]? = some t) (h3 : i % 3 = 1) (hA : (⟨(again t).toArray⟩ : ByteArray) = A) (hs : A.size ≤ 5000)
    (hr : r.size ≤ 40) (h2 : T ++ A ++ ⟨#[32]⟩ = T2) (h5 : T2 ++ ⟨#[47, 47]⟩ ++ r ++ ⟨#[10]⟩ = T5) : Told w w1 r g c m (i + 1) T5 := by
  obtain ⟨hi, rfl⟩ := List.getElem?_eq_some_iff.1 ht
  refine ⟨?_, ?_, h.below.trans (hb.mono h.below.size), h.own.grow hb⟩
  · have := h.text
    rw [glue_at _ i m hi, if_pos h3] at this
    rw [← this, ← h5, ← h2, ← hA]
    simp only [ByteArray.data_append, Array.toList_append]
    simp
  · have := h.size
    rw [← h5, ← h2]
    simp only [ByteArray.size_append]
    show T.size + A.size + 1 + 2 + r.size + 1 ≤ _
    omega
/-- What is so while both are compared. -/
structure Both (w wr : World) (g c g2 c2 : Nat) (m m2 : List Tok) : Prop where
  below : Below w.heap.size w wr
  own : OwnK w.heap.size wr (some ⟨g, 0, none⟩) c m
  own2 : OwnK w.heap.size wr (some ⟨g2, 0, none⟩) c2 m2
theorem Both.next {w wr w1 : World} {g c g2 c2 : Nat} {m m2 : List Tok} (h : Both w wr g c g2 c2 m m2) (hb : Below wr.heap.size wr w1) : Both w w1 g c g2 c2 m m2 := ⟨h.below.trans (hb.mono h.below.size), h.own.grow hb, h.own2.grow hb⟩
theorem OwnK.mono {N N' : Nat} {w : World} {A : Option Addr} {c : Nat} {l : List Tok} (h : OwnK N w A c l) (hb : N' ≤ N) : OwnK N' w A c l :=
  ⟨h.1, h.2.imp id fun ⟨g, cap, cur, h1, h2, h3⟩ => ⟨g, cap, cur, h1, Nat.le_trans hb h2, h3⟩⟩
theorem OwnK.lt {N : Nat} {w : World} {g c : Nat} {l : List Tok} (h : OwnK N w (some ⟨g, 0, none⟩) c l) : g < w.heap.size := (h.lo g rfl).2
theorem cat_sizes {T A T1 T2 : ByteArray} {i : Nat} (h1 : T ++ A = T1) (h2 : T1 ++ ⟨#[32]⟩ = T2) (hT : T.size ≤ i * 6000) (hA : A.size ≤ 5000) (hi : i ≤ 2000) : T.size + A.size ≤ 13000000 ∧ T1.size ≤ 13000000 ∧ T2.size ≤ 13000001 := by
  have e1 : T1.size = T.size + A.size := by rw [← h1, ByteArray.size_append]
  have e2 : T2.size = T1.size + 1 := by rw [← h2, ByteArray.size_append]; rfl
  omega
set_option maxHeartbeats 4000000 in
theorem back_main (s r : ByteArray) (hs : s.size ≤ 1000) (hr : r.size ≤ 40) (w : World) (hg : Fau.Glob w) : Calls Tryd.prog 4 #[.string s, .string r] w fun e w' => e = .returned (.bool true) ∧ Below w.heap.size w w' := by
  have HG := Lib.hid hg
  have h1 : (s.size : Int) ≤ 1000 := by omega
  have h2 : (r.size : Int) ≤ 40 := by omega
  have d1 : decide ((1000 : Int) < (s.size : Int)) = false := by rw [decide_eq_false_iff_not]; omega
  have d2 : decide ((40 : Int) < (r.size : Int)) = false := by rw [decide_eq_false_iff_not]; omega
  clear hg
  go_enter Tryd.func4, Tryd.ntmps4
  go_wp2_with fail
  clear d1 d2
  go_loopg [5] r.size (fun gk x wr => ∃ n : Nat, n ≤ r.size ∧ x = .int .i64 (n : Int) ∧ Hid (gk = r.size - n ∧ (∀ j (h : j < r.size), j < n → r[j].toNat ≠ 10) ∧ w = wr))
  case atStart => exact ⟨0, Nat.zero_le _, rfl, rfl, (fun j _ h => absurd h (Nat.not_lt_zero _)), rfl⟩
  case round =>
    obtain ⟨n, hn, rfl, HH⟩ := hrel
    obtain rfl := HH.out.2.2
    by_cases hl : n < r.size
    · have hl' : (n : Int) < (r.size : Int) := by omega
      by_cases h10 : r[n].toNat = 10
      · have c1 : ((r[n].toNat : Int) == 10) = true := by rw [beq_iff_eq]; omega
        clear h10
        go_wp2_with fail
        refine (works_v _ HG.out).mono ?_
        rintro e w1 ⟨rfl, hb⟩
        have H1 := Lib.hid hb
        clear hb
        go_wp2_with fail
        go_ret
        exact ⟨rfl, H1.out⟩
      · have c1 : ((r[n].toNat : Int) == 10) = false := by rw [beq_eq_false_iff_ne]; omega
        have H10 := Lib.hid h10
        clear h10
        go_wp2_with fail
        go_roundg (r.size - (n + 1))
        case measure => have := HH.out.1; omega
        case rel =>
          refine ⟨n + 1, by omega, by go_num, rfl, fun j hj hlt => ?_, rfl⟩
          by_cases e : j = n
          · subst e; exact H10.out
          · exact HH.out.2.1 j hj (by omega)
    · obtain rfl : n = r.size := by omega
      have hno : (10 : UInt8) ∉ r.data.toList := by
        intro hm
        obtain ⟨j, hj, e⟩ := List.getElem_of_mem hm
        have hj' : j < r.size := by rw [Nam.len_list] at hj; exact hj
        rw [Nam.at_list r j hj'] at e
        exact HH.out.2.1 j hj' hj' (by rw [e]; rfl)
      have HNO := Lib.hid hno
      clear hn hno
      go_wp2_with fail
      refine (all_v s _).mono ?_
      rintro e w1 hP
      obtain ⟨m, code, q, hm⟩ : ∃ m code q, all s.data.toList = (m, code, q) := ⟨_, _, _, rfl⟩
      by_cases hc : code = 0
      · subst hc
        obtain ⟨A, c, rfl, ho, hb1⟩ := hP.good hm
        have hne : 0 < m.length := by
          cases m with
          | nil =>
            obtain ⟨ts, e, _⟩ : ∃ ts, ([] : List Tok) = ts ++ [⟨0, [], 0, 0, 0 + s.data.toList.length⟩] ∧ ∀ t ∈ ts, Snd t := by
              unfold all at hm
              split at hm
              · cases hm
              · exact go_sound _ _ _ _ _ _ _ (Nat.le_refl _) (Nat.lt_succ_self _) (by intro t ht; cases ht) hm
            exact absurd e.symm (by simp)
          | cons => simp
        obtain ⟨tx, tm⟩ := all_text hm
        rw [Nam.len_list] at tx tm
        obtain ⟨g, rfl, hgl, hgs, hcell⟩ := ho.form hne
        obtain ⟨M, hM⟩ : ∃ M, m.length = M := ⟨_, rfl⟩
        rw [hM]
        have hMs : M ≤ 1001 := by omega
        have T0 : Hid (Told w w1 r g c m 0 ⟨#[]⟩) := ⟨by simp, by show 0 ≤ _; omega, hb1, ho⟩
        have HM := Lib.hid (And.intro hM (And.intro hm tx))
        have hM0 : 0 < M := by omega
        clear hP hb1 hm tx tm hgl hgs hcell ho hne hM hl
        go_wp2_with fail
        go_loopg [8, 9] M (fun gk u x wr => ∃ (i : Nat) (T : ByteArray), i ≤ M ∧ u = .string T ∧ x = .int .i64 (i : Int) ∧ gk = M - i ∧ Hid (Told w wr r g c m i T))
        case atStart => exact ⟨0, ⟨#[]⟩, Nat.zero_le _, rfl, rfl, rfl, T0.out⟩
        case round =>
          obtain ⟨i, T, hi, rfl, rfl, hgk, HT⟩ := hrel
          by_cases hlt : i < M
          · have hlt' : (i : Int) < (M : Int) := by omega
            obtain ⟨t, ht⟩ : ∃ t, m[i]? = some t := ⟨_, List.getElem?_eq_getElem (by rw [HM.out.1]; exact hlt)⟩
            obtain ⟨x0, x1, x2, x3, x4⟩ := cells5t HT.out.own i t ht
            obtain ⟨A, hA⟩ : ∃ A : ByteArray, (⟨(again t).toArray⟩ : ByteArray) = A := ⟨_, rfl⟩
            have htx : t.text.length ≤ s.size + 64 := HM.out.2.2 t (List.mem_of_getElem? ht)
            have hAs : A.size ≤ 5000 := by
              have := again_len t
              rw [← hA]; show (again t).length ≤ _; omega
            obtain ⟨T1, hT1⟩ : ∃ T1, T ++ A = T1 := ⟨_, rfl⟩
            obtain ⟨T2, hT2⟩ : ∃ T2 : ByteArray, T1 ++ ⟨#[32]⟩ = T2 := ⟨_, rfl⟩
            obtain ⟨z1, z2, z3⟩ := cat_sizes hT1 hT2 HT.out.size hAs (by omega)
            have r1 := add_run T A T1 (by omega) hT1
            have r2 := add_run T1 ⟨#[32]⟩ T2 (by show T1.size + 1 ≤ _; omega) hT2
            have HA := Lib.hid (And.intro (again_v t A hA (by omega)) (And.intro ht (And.intro hA (And.intro hAs (show T ++ A ++ ⟨#[32]⟩ = T2 by rw [hT1, hT2])))))
            by_cases h3 : i % 3 = 1
            · have e3 : (((i : Int) % 3) == 1) = true := by rw [beq_iff_eq]; omega
              have e3' : (((i : Int).tmod 3) == 1) = true := by rw [Int.tmod_eq_emod_of_nonneg (by omega)]; exact e3
              obtain ⟨T3, hT3⟩ : ∃ T3 : ByteArray, T2 ++ ⟨#[47, 47]⟩ = T3 := ⟨_, rfl⟩
              obtain ⟨T4, hT4⟩ : ∃ T4 : ByteArray, T3 ++ r = T4 := ⟨_, rfl⟩
              obtain ⟨T5, hT5⟩ : ∃ T5 : ByteArray, T4 ++ ⟨#[10]⟩ = T5 := ⟨_, rfl⟩
              have y3 : T3.size = T2.size + 2 := by rw [← hT3, ByteArray.size_append]; rfl
              have y4 : T4.size = T3.size + r.size := by rw [← hT4, ByteArray.size_append]
              have r3 := add_run T2 ⟨#[47, 47]⟩ T3 (by show T2.size + 2 ≤ _; omega) hT3
              have r4 := add_run T3 r T4 (by omega) hT4
              have r5 := add_run T4 ⟨#[10]⟩ T5 (by show T4.size + 1 ≤ _; omega) hT5
              have H3 := Lib.hid (And.intro h3 (show T2 ++ ⟨#[47, 47]⟩ ++ r ++ ⟨#[10]⟩ = T5 by rw [hT3, hT4, hT5]))
              clear hA hAs hT1 hT2 z1 z2 z3 htx ht h3 hT3 hT4 hT5 y3 y4
              go_wp2_with fail
              refine (HA.out.1 _).mono ?_
              rintro e w2 ⟨rfl, hb2⟩
              have HN := Lib.hid (told_step3 HT.out hb2 HA.out.2.1 H3.out.1 HA.out.2.2.1 HA.out.2.2.2.1 hr HA.out.2.2.2.2 H3.out.2)
              clear hb2
              go_wp2_with fail
              go_roundg (M - (i + 1))
              case measure => omega
              case rel => exact ⟨i + 1, T5, by omega, rfl, by go_num, rfl, HN.out⟩
            · have e3 : (((i : Int) % 3) == 1) = false := by rw [beq_eq_false_iff_ne]; omega
              have e3' : (((i : Int).tmod 3) == 1) = false := by rw [Int.tmod_eq_emod_of_nonneg (by omega)]; exact e3
              have H3 := Lib.hid h3
              clear hA hAs hT1 hT2 z1 z2 z3 htx ht h3
              go_wp2_with fail
              refine (HA.out.1 _).mono ?_
              rintro e w2 ⟨rfl, hb2⟩
              have HN := Lib.hid (told_step HT.out hb2 HA.out.2.1 H3.out HA.out.2.2.1 HA.out.2.2.2.1 HA.out.2.2.2.2)
              clear hb2
              go_wp2_with fail
              go_roundg (M - (i + 1))
              case measure => omega
              case rel => exact ⟨i + 1, T2, by omega, rfl, by go_num, rfl, HN.out⟩
          · obtain rfl : i = M := by omega
            have hgl : T.data.toList = glue r.data.toList 0 m := by
              have := HT.out.text
              rw [glue_end _ _ _ (by rw [HM.out.1]; exact Nat.le_refl _), List.append_nil] at this
              exact this
            by_cases hT : T.size ≤ 65536
            · have hT' : (T.size : Int) ≤ 65536 := by omega
              obtain ⟨m2, hm2, hbb⟩ := all_again (rem := r.data.toList) HM.out.2.1 HNO.out (by rw [← hgl, Nam.len_list]; exact hT)
              rw [← hgl] at hm2
              have hl2 : m2.length = i := by
                have := congrArg List.length hbb
                rw [List.length_map, List.length_map, HM.out.1] at this
                exact this
              have HM2 := Lib.hid (And.intro hm2 (And.intro hbb hl2))
              clear hm2 hbb hl2 hgl hlt hi hgk
              go_wp2_with fail
              refine (all_v T _).mono ?_
              rintro e w2 hP
              obtain ⟨A2, c2, rfl, ho2, hb2⟩ := hP.good HM2.out.1
              obtain ⟨g2, rfl, _, _, _⟩ := ho2.form (by rw [HM2.out.2.2]; exact hM0)
              have HB0 : Hid (Both w w2 g c g2 c2 m m2) := ⟨HT.out.below.trans (hb2.mono HT.out.below.size), HT.out.own.grow hb2, OwnK.mono ho2 HT.out.below.size⟩
              rw [HM2.out.2.2]
              have hii : ((i : Int) != (i : Int)) = false := by simp
              clear hP ho2 hb2
              go_wp2_with fail
              go_loopg [12] i (fun gk x wr => ∃ k : Nat, k ≤ i ∧ x = .int .i64 (k : Int) ∧ gk = i - k ∧ Hid (Both w wr g c g2 c2 m m2))
              case atStart => exact ⟨0, Nat.zero_le _, rfl, rfl, HB0.out⟩
              case round =>
                obtain ⟨k, hk, rfl, hgk, HB⟩ := hrel
                by_cases hlt : k < i
                · have hlt' : (k : Int) < (i : Int) := by omega
                  obtain ⟨t, ht⟩ : ∃ t, m[k]? = some t := ⟨_, List.getElem?_eq_getElem (by rw [HM.out.1]; exact hlt)⟩
                  obtain ⟨u, hu, hbu⟩ := map_at HM2.out.2.1 k t ht
                  obtain ⟨x0, x1, x2, x3, x4⟩ := cells5t HB.out.own k t ht
                  obtain ⟨y0, y1, y2, y3, y4⟩ := cells5t HB.out.own2 k u hu
                  have hne := neq37 t.kind ⟨t.text.toArray⟩ t.n t.cls 0 u.kind ⟨u.text.toArray⟩ u.n u.cls 0 false (bare_teq hbu)
                  unfold tc at hne
                  have lg1 := HB.out.own.lt
                  have lg2 := HB.out.own2.lt
                  clear ht hu hbu
                  go_wp2_with fail
                  go_region
                  · go_wp2_with fail
                    go_roundg (i - (k + 1))
                    case measure => omega
                    case rel => exact ⟨k + 1, by omega, by go_num, rfl, HB.out.next (((Below.refl _ wr).alloc (Nat.le_refl _) _).alloc (by simp) _).drew⟩
                  · go_wp2_with fail
                    go_roundg (i - (k + 1))
                    case measure => omega
                    case rel => exact ⟨k + 1, by omega, by go_num, rfl, HB.out.next (((Below.refl _ wr).alloc (Nat.le_refl _) _).alloc (by simp) _).drew⟩
                · obtain rfl : k = i := by omega
                  go_wp2_with fail
                  refine (works_v _ (HG.out.below HB.out.below HG.out.pos)).mono ?_
                  rintro e w3 ⟨rfl, hb⟩
                  have H3 := Lib.hid (HB.out.below.trans (hb.mono HB.out.below.size))
                  clear hb
                  go_wp2_with fail
                  go_ret
                  exact ⟨rfl, H3.out⟩
            · have hT' : (65536 : Int) < (T.size : Int) := by omega
              clear hgl hlt hi hgk hT
              go_wp2_with fail
              refine (works_v _ (HG.out.below HT.out.below HG.out.pos)).mono ?_
              rintro e w2 ⟨rfl, hb⟩
              have H2 := Lib.hid (HT.out.below.trans (hb.mono HT.out.below.size))
              clear hb
              go_wp2_with fail
              go_ret
              exact ⟨rfl, H2.out⟩
      · obtain ⟨rfl, hb1⟩ := hP.bad hm hc
        have B1 := Lib.hid hb1
        clear hP hb1 hm
        unfold Fau.bare
        go_wp2_with fail
        refine (works_v _ (HG.out.below B1.out HG.out.pos)).mono ?_
        rintro e w2 ⟨rfl, hb⟩
        have H2 := Lib.hid (B1.out.trans (hb.mono B1.out.size))
        clear hb
        go_wp2_with fail
        go_ret
        exact ⟨rfl, H2.out⟩
theorem back_all (s r : ByteArray) (w : World) (hg : Fau.Glob w) : Calls Tryd.prog 4 #[.string s, .string r] w fun e w' => e = .returned (.bool true) ∧ Below w.heap.size w w' := by
  by_cases h : 1000 < s.size ∨ 40 < r.size
  · exact back_big s r h w hg
  · exact back_main s r (by omega) (by omega) w hg
end Go.Proofs.YtmckplgbaalpbaaDoor.Lex
