/- What the program's Scan answers where a quote stands, and Get. -/
import Derived.Test.YtmckplgbaalpbaaDoorQuoScan
namespace Go.Proofs.YtmckplgbaalpbaaDoor.Quo
open Go.ChangeShapes Go.WideShapes Go.RowKit
set_option linter.unusedVariables false

set_option maxHeartbeats 1000000 in
theorem scan_v (s : ByteArray) (a : Nat) (x : List UInt8) (y : Nat) (e : Int) (hs : s.size ≤ 100000) (ha : a < s.size) (hq : s[a].toNat = 34) (hR : scan s.size (s.data.toList.drop (a + 1)) (a + 1) [] = (x, y, e)) (w : World) :
    Calls Tryd.prog 52 #[.string s, .int .i64 (a : Int)] w fun e1 w' => e1 = E3 x y e ∧ Below w.heap.size w w' := by
  obtain ⟨i0, hi0, hz0, hz1, hz2⟩ := info_parts info5
  have I0 := Lib.hid (And.intro hi0 (And.intro hz0 (And.intro hz1 hz2)))
  clear hi0 hz0 hz1 hz2
  have h1 : ((s[a].toNat : Int) == 34) = true := nat_beq hq
  have h2 : ((s[a].toNat : Int) != 34) = false := by rw [bne, h1]; rfl
  have h3 : (a : Int) < (s.size : Int) := by omega
  have h4 : decide (s.size ≤ a) = false := by rw [decide_eq_false_iff_not]; omega
  have h5 : decide ((a : Int) < 0) = false := by rw [decide_eq_false_iff_not]; omega
  obtain ⟨fr, hfr⟩ : ∃ fr, a + 1 = fr := ⟨_, rfl⟩
  rw [hfr] at hR
  have hfr' : (a : Int) + 1 = (fr : Int) := by omega
  have hfl : fr ≤ s.size := by omega
  have HF := Lib.hid hfr
  have HR : Hid (Sc s w w fr none 0 [] x y e) := ⟨⟨s.size, by omega, hR⟩, World.ownsRow_nil _ _ _ _, Below.refl _ _⟩
  clear hq hR hfr
  obtain ⟨N, hN⟩ : ∃ N, s.size = fr + N := ⟨s.size - fr, by omega⟩
  have hN2 : (s.size : Int) - (fr : Int) = (N : Int) := by omega
  have HN := Lib.hid hN
  clear hN
  go_enter Tryd.func52, Tryd.ntmps52
  go_wp2_with fail
  clear h1 h2 h4 h5 hN2 hfr'
  go_loopg [8, 9, 35] N (fun gk nx v i wr => ∃ (k n : Nat) (A : Option Addr) (c : Nat) (t : List UInt8), k + gk = N ∧ fr + k ≤ n ∧ n ≤ s.size ∧ t.length ≤ 64 ∧ nx = .int .i64 (n : Int) ∧ v = .slice A t.length c ∧ i = .int .i64 (k : Int) ∧
    Hid (Sc s w wr n A c t x y e))
  case atStart => exact ⟨0, fr, none, 0, [], by omega, by omega, hfl, by simp, rfl, rfl, rfl, HR.out⟩
  case round =>
    obtain ⟨k, n, A, c, t, hk, hkn, hns, htl, rfl, rfl, rfl, HH⟩ := hrel
    by_cases hg : gk = 0
    · subst hg
      obtain rfl : k = N := by omega
      obtain rfl : n = s.size := by have := HN.out; omega
      obtain ⟨rfl, rfl, rfl⟩ := HH.out.fin
      clear hk
      go_wp2_with fail
      go_ret3
      exact ⟨rfl, HH.out.2.2⟩
    · obtain ⟨q, rfl⟩ : ∃ q, gk = q + 1 := ⟨gk - 1, by omega⟩
      have hkN : (k : Int) < (N : Int) := by omega
      have hkN' : k < N := by omega
      have HK := Lib.hid hk
      have hfk : fr + k < s.size := by have := HN.out; omega
      clear hg hk
      by_cases hp : fr + k < n
      · have hp' : (fr : Int) + (k : Int) < (n : Int) := by omega
        have hd : decide ((fr : Int) + (k : Int) < (n : Int)) = true := by rw [decide_eq_true_iff]; exact hp'
        go_wp2_with fail
        go_roundg q
        case measure => omega
        case rel => exact ⟨k + 1, n, A, c, t, by have := HK.out; omega, by omega, hns, htl, rfl, rfl, by go_num, HH.out⟩
      · have hn : fr + k = n := by omega
        have hpl : (fr : Int) + (k : Int) = (n : Int) := by omega
        have hns' : n < s.size := by omega
        have hns2 : (n : Int) < (s.size : Int) := by omega
        have HN2 := Lib.hid hn
        clear hp hkn hn hfk
        by_cases q34 : s[n].toNat = 34
        · obtain ⟨rfl, rfl, rfl⟩ := HH.out.quote hns' q34
          have c1 : ((s[n].toNat : Int) == 34) = true := nat_beq q34
          have hconv := own_convert HH.out.2.1
          clear q34
          go_wp2_with fail
          go_ret3
          exact ⟨ret_E3 rfl (by omega) rfl, HH.out.2.2⟩
        · have c1 : ((s[n].toNat : Int) == 34) = false := nat_bne q34
          by_cases q10 : s[n].toNat = 10
          · obtain ⟨rfl, rfl, rfl⟩ := HH.out.line hns' q10
            have c2 : ((s[n].toNat : Int) == 10) = true := nat_beq q10
            clear q34 q10
            go_wp2_with fail
            go_ret3
            exact ⟨ret_E3 rfl (by omega) rfl, HH.out.2.2⟩
          · have c2 : ((s[n].toNat : Int) == 10) = false := nat_bne q10
            by_cases q64 : t.length = 64
            · obtain ⟨rfl, rfl, rfl⟩ := HH.out.long hns' q34 q10 q64
              have c3 : ((t.length : Int) == 64) = true := by rw [beq_iff_eq]; omega
              clear q34 q10 q64
              go_wp2_with fail
              go_ret3
              exact ⟨ret_E3 rfl (by omega) rfl, HH.out.2.2⟩
            · have c3 : ((t.length : Int) == 64) = false := by rw [beq_eq_false_iff_ne]; omega
              obtain ⟨b, m, hp⟩ : ∃ b m, piece (s.data.toList.drop n) = (b, m) := ⟨_, _, rfl⟩
              obtain ⟨z, hz⟩ : ∃ z : Int, (m : Int) = z := ⟨_, rfl⟩
              have hm2 : m ≤ s.size - n := by
                have := piece_size (s.data.toList.drop n)
                rw [hp, List.length_drop, len_list] at this; exact this
              have hsl := from_run s n (by omega)
              have HP := Lib.hid (And.intro hp hz)
              have Q := Lib.hid (And.intro q34 (And.intro q10 q64))
              clear q34 q10 q64
              by_cases hm : m = 0
              · subst hm
                obtain rfl : z = 0 := by omega
                obtain ⟨rfl, rfl, rfl⟩ := HH.out.bad hns' Q.out.1 Q.out.2.1 Q.out.2.2 hp
                clear hp hz
                go_wp2_with fail
                refine (piece_z s n 0 hns' b 0 rfl HP.out.1 _).mono ?_
                rintro e w' ⟨rfl, rfl⟩
                go_wp2_with fail
                go_ret3
                exact ⟨ret_E3 rfl (by omega) rfl, HH.out.2.2⟩
              · have c4 : (z == 0) = false := by rw [beq_eq_false_iff_ne]; omega
                have hz0 : 0 < z := by omega
                have hz1 : z ≤ 100000 := by omega
                obtain ⟨n', hn'⟩ : ∃ n', n + m = n' := ⟨_, rfl⟩
                have hzn : (n : Int) + z = (n' : Int) := by omega
                have HM := Lib.hid (And.intro hm (And.intro hm2 hn'))
                clear hp hz hm hm2 hn'
                go_wp2_with fail
                refine (piece_z s n z hns' b m HP.out.2 HP.out.1 _).mono ?_
                rintro e w' ⟨rfl, rfl⟩
                go_wp2_with (at_builtin; refine wpList_append_own _ rfl _ _ 60 rfl w.heap.size 5 i0 (.int .u8 0) 1 1 Tryd.underlying60 I0.out.1 I0.out.2.1 I0.out.2.2.1 I0.out.2.2.2 rfl (by decide) _ _ _ rfl (HH.out.2.1.alloc _) ⟨wr.heap.size, 0, none⟩ 1 1 _ rfl rfl (news_new _ _ _ _ rfl) (by intro x hx; simp at hx; subst hx; rfl) (by unfold maxLen; omega) (by omega) (by have := HH.out.2.2.size; simp; omega) ?_)
                intro v' w3 hown' hgrow _
                obtain ⟨A3, c3, rfl, h2, h3⟩ := own_next (m := 1) (x := [b]) hown' rfl rfl (by omega) hgrow HH.out.2.1 HH.out.2.2 HH.out.2.2.size
                obtain ⟨t', ht'⟩ : ∃ t', t ++ [b] = t' := ⟨_, rfl⟩
                rw [ht'] at h2 ⊢
                have H3 := Lib.hid (And.intro h2 (And.intro h3 ht'))
                clear hown' hgrow h2 h3 ht'
                go_wp2_with fail
                go_roundg q
                case measure => omega
                case rel => exact ⟨k + 1, n', A3, c3, t', by have := HK.out; omega, by have := HN2.out; have := HM.out; omega, by have := HM.out; omega, by rw [← H3.out.2.2]; have := Q.out.2.2; simp; omega, by go_num, rfl, by go_num, HH.out.step hns' Q.out.1 Q.out.2.1 Q.out.2.2 HP.out.1 HM.out.1 HM.out.2.2.symm H3.out.2.2.symm H3.out.1 H3.out.2.1⟩
end Go.Proofs.YtmckplgbaalpbaaDoor.Quo
