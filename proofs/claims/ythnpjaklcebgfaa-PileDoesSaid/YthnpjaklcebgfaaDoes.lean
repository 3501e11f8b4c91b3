/- Whatever is done with a pile: what the statement on it answers. -/
import Derived.Test.YthnpjaklcebgfaaState
import Derived.Deep.CutRange
import Derived.Deep.CutBlock
namespace Go.Proofs.Ythnpjaklcebgfaa
open Go.ChangeShapes Go.WideShapes Go.RowKit
set_option linter.unusedVariables false

set_option maxHeartbeats 40000000 in
set_option maxRecDepth 100000 in
theorem does_v (A0 : Option Addr) (n c0 : Nat) (l : List It) (hn : l.length = n) (hnm : n ≤ 9223372036854775807) (hA : A0 = none → c0 = 0) (B0 : Option Addr) (M d0 : Nat) (ds : List Dd) (hM : ds.length = M) (hMm : M ≤ 9223372036854775807) (w : World) (h : Its w A0 l) (hd : Deeds w B0 ds) :
    Calls Try.prog 3 #[.slice A0 n c0, .slice B0 M d0] w fun e w' => e = .returned (.bool true) ∧ w.grownBy w' none := by
  obtain ⟨i0, hi0, hz0, hz1, hz2⟩ := info_parts info28
  have I0 := Lib.hid (And.intro hi0 (And.intro hz0 (And.intro hz1 hz2)))
  have H0 := Lib.hid (And.intro h (And.intro hn (And.intro hA (And.intro hd hM))))
  clear hi0 hz0 hz1 hz2 h hn hA hd hM
  by_cases hbig : 60 < n ∨ 80 < M
  · by_cases hb : 60 < n
    · clear hbig
      go_enter Try.func3, Try.ntmps3
      go_wp2_with fail
      refine (works_v _).mono ?_
      rintro e w1 ⟨rfl, hg⟩
      have H1 := Lib.hid hg
      clear hg
      go_wp2_with fail
      go_ret
      exact ⟨rfl, H1.out⟩
    · have h80 : 80 < M := by omega
      have hb' : decide ((60 : Int) < (n : Int)) = false := decide_eq_false (by omega)
      have h80' : (80 : Int) < (M : Int) := by omega
      clear hbig
      go_enter Try.func3, Try.ntmps3
      go_wp2_with fail
      refine (works_v _).mono ?_
      rintro e w1 ⟨rfl, hg⟩
      have H1 := Lib.hid hg
      clear hg
      go_wp2_with fail
      go_ret
      exact ⟨rfl, H1.out⟩
  · have h60' : ¬ (60 : Int) < (n : Int) := by omega
    have hn60 : n ≤ 60 := by omega
    have h80' : ¬ (80 : Int) < (M : Int) := by omega
    have hM80 : M ≤ 80 := by omega
    clear hbig
    have hA2 : A0 = none → n = 0 ∧ c0 = 0 ∧ cs l = [] := fun e => by
      obtain ⟨h, hn, hA, _⟩ := H0.out
      rcases h with h | ⟨b, o, e2, _⟩
      · subst h; exact ⟨by simpa using hn.symm, hA e, rfl⟩
      · rw [e] at e2; cases e2
    have HA := Lib.hid hA2
    clear hA2
    go_enter Try.func3, Try.ntmps3
    go_wp2_with fail
    refine (new_v A0 n c0 l H0.out.2.1 (by omega) _ H0.out.1).mono ?_
    rintro e w1 ⟨p, q, g, cap, m, rfl, hp1, hm1, hg1⟩
    have own0 : (w1.alloc (.cells #[] 28)).ownsRow w1.heap.size 28 2 (.slice (some ⟨w1.heap.size, 0, none⟩) 0 0) 0 [] := World.ownsRow_lit w1 #[] 0 (Nat.le_refl _) (by unfold maxLen; omega) rfl
    have H1 := Lib.hid (And.intro hp1 (And.intro hm1 (And.intro hg1 own0)))
    clear hp1 hm1 hg1 own0
    go_wp2_with (at_builtin; refine wpList_append_any rfl (.tmp 36) (.tmp 37) 22 rfl w1.heap.size 28 i0 (.agg #[.int .i64 0, .int .i64 0]) 2 16 Try.underlying22 I0.out.1 I0.out.2.1 I0.out.2.2.1 I0.out.2.2.2 rfl (by decide) (.slice (some ⟨w1.heap.size, 0, none⟩) 0 0) 0 [] rfl H1.out.2.2.2 A0 n c0 (cs l) rfl HA.out (by rw [cs_len, H0.out.2.1]) (its_news ((H0.out.1.grow H1.out.2.2.1).grow (galloc _ _ _))) (cs_one _) (by unfold maxLen; omega) (by omega) (by simp) ?_)
    intro v2 w2 hown hgrow
    obtain ⟨A, c, rfl, hO⟩ : ∃ A c, v2 = .slice A n c ∧ OwnI w1.heap.size w2 A c l := by
      have hn := H0.out.2.1
      have h1 := own_slice (l := l) (by rw [hn]; simpa using hown)
      rw [hn] at h1; exact h1
    have H2 := Lib.hid (st_start H1.out.1 H1.out.2.1 H1.out.2.2.1 hO (gnew (galloc _ _ none) hgrow (Nat.le_refl _)))
    clear hown hgrow hO
    go_wp2_with fail
    go_loopg [6, 7] M (fun gk u6 u7 wr => ∃ (k N c : Nat) (A : Option Addr), k + gk = M ∧ u7 = .int .i64 (k : Int) ∧ u6 = .slice A N c ∧ N ≤ 60 + k ∧ Hid (Sx w wr p q A N c))
    case atStart => exact ⟨0, n, c, A, by omega, rfl, rfl, by omega, ⟨g, cap, m, l, H2.out, H0.out.2.1⟩⟩
    case round =>
      obtain ⟨k, N, c, A, hk, rfl, rfl, hN, HH⟩ := hrel
      by_cases hlt : k < M
      · have hkd : k < ds.length := by rw [H0.out.2.2.2.2]; exact hlt
        obtain ⟨gB, capB, mB, xB, hsB, hxB⟩ := HH.out.ex
        rcases H0.out.2.2.2.1.grow hsB.gr with h0 | ⟨b, o, rfl, hb, hc⟩
        · rw [h0] at hkd; cases hkd
        obtain ⟨dd, hdd⟩ : ∃ dd, ds[k] = dd := ⟨_, rfl⟩
        have hcells : ∀ W, w.grownBy W none → W.cell? ⟨b, o + k * 4, none⟩ = some (.int .u8 (dd.kind : Nat)) ∧ W.cell? ⟨b, o + k * 4 + 1, none⟩ = some (.int .i64 dd.x.1) ∧ W.cell? ⟨b, o + k * 4 + 2, none⟩ = some (.int .i64 dd.x.2) ∧ W.cell? ⟨b, o + k * 4 + 3, none⟩ = some (.int .i64 dd.n) := fun W hW => by
          rcases H0.out.2.2.2.1 with h0 | ⟨b', o', e', hb', hc'⟩
          · rw [h0] at hkd; cases hkd
          simp only [Option.some.injEq, Addr.mk.injEq, and_true] at e'
          obtain ⟨rfl, rfl⟩ := e'
          obtain ⟨u1, u2, u3, u4⟩ := hc' k hkd
          rw [hdd] at u1 u2 u3 u4
          exact ⟨(hW.cell_far _ hb' (by simp)).trans u1, (hW.cell_far _ hb' (by simp)).trans u2, (hW.cell_far _ hb' (by simp)).trans u3, (hW.cell_far _ hb' (by simp)).trans u4⟩
        obtain ⟨kd, ⟨a, d⟩, nn⟩ := dd
        obtain ⟨c1, c2, c3, c4⟩ := hcells _ hsB.gr
        have HD := Lib.hid hcells
        clear hc hdd hkd hsB hxB gB capB mB xB hcells
        have i1 : (k : Int) < (M : Int) := by omega
        go_upto_block 2 with fail
        go_cut [6] from 39 to 174 (fun s6 wx => ∃ (N c : Nat) (A : Option Addr), s6 = .slice A N c ∧ N ≤ 60 + (k + 1) ∧ Hid (Sx w wx p q A N c))
        case first =>
          by_cases k0 : kd = 0
          · have t0 : ((kd : Int) == 0) = true := by simpa using k0
            obtain ⟨g, cap, m, x, hs, hx⟩ := HH.out.ex
            have hml : m.length = N := by rw [hs.perm.length_eq]; exact hx
            have H3 := Lib.hid (And.intro hs (And.intro hx hml))
            clear hs hx hml
            clear k0
            go_wp2_with fail
            refine (ppush_v _ p q g cap m a d (by rw [H3.out.2.2]; omega) _ H3.out.1.pl H3.out.1.gr.size).mono ?_
            rintro e w3 ⟨g1, cap1, m1, rfl, hp1, hm1, hk1, hg1⟩
            have H4 := Lib.hid (And.intro hp1 (And.intro hm1 (And.intro hk1 (And.intro hg1 (H3.out.1.kp hk1)))))
            clear hp1 hm1 hk1 hg1
            obtain ⟨e1, e2, e3, e4⟩ := HD.out _ H4.out.2.2.2.2.2
            have ho : w3.ownsRow w.heap.size 28 2 (.slice A N c) N (cs x) := by
              have h1 := H4.out.2.2.2.2.1
              unfold OwnI at h1
              rw [H3.out.2.1] at h1; exact h1
            have hnw : ∀ j u, (cs [(a, d)])[j]? = some u → (w3.alloc (.cells #[.int .i64 a, .int .i64 d] 28)).cell? ((⟨w3.heap.size, 0, none⟩ : Addr).add j) = some u := news_new w3 #[.int .i64 a, .int .i64 d] 28 (cs [(a, d)]) rfl
            have hba : w.heap.size ≤ (w3.alloc (.cells #[.int .i64 a, .int .i64 d] 28)).heap.size := by
              have h1 := H4.out.2.2.2.2.2.size
              simp; omega
            have HO := Lib.hid (And.intro ho (And.intro hnw hba))
            clear ho hnw hba
            go_wp2_with (at_builtin; refine wpList_append_lies _ rfl (.tmp 59) (.tmp 65) 22 rfl w.heap.size 28 i0 (.agg #[.int .i64 0, .int .i64 0]) 2 16 Try.underlying22 I0.out.1 I0.out.2.1 I0.out.2.2.1 I0.out.2.2.2 rfl (by decide) (.slice A N c) N (cs x) rfl (HO.out.1.alloc _) ⟨w3.heap.size, 0, none⟩ 1 1 (cs [(a, d)]) rfl rfl HO.out.2.1 (cs_one _) (by decide) (by unfold maxLen; omega) (by omega) HO.out.2.2 _ rfl ?_)
            intro g' cap' w4 hown hgrow hat _
            have H5 := Lib.hid (H3.out.1.push H3.out.2.1 H4.out.1 H4.out.2.1 H4.out.2.2.1 H4.out.2.2.2.1 (galloc w3 (.cells #[.int .i64 a, .int .i64 d] 28) none) hown hgrow (by simpa using hat))
            clear hown hgrow hat
            go_wp2_with fail
            go_meet
            exact ⟨N + 1, cap', some ⟨g', 0, none⟩, rfl, by omega, ⟨g1, cap1, m1, _, H5.out, by simp [H3.out.2.1]⟩⟩
          · by_cases k1 : kd = 1
            · have t0 : ((kd : Int) == 0) = false := by rw [beq_eq_false_iff_ne]; omega
              have t1 : ((kd : Int) == 1) = true := by rw [beq_iff_eq]; omega
              obtain ⟨g, cap, m, x, hs, hx⟩ := HH.out.ex
              have hml : m.length = N := by rw [hs.perm.length_eq]; exact hx
              have H3 := Lib.hid (And.intro hs (And.intro hx hml))
              clear hs hx hml
              clear k0 k1
              by_cases hN0 : N = 0
              · subst hN0
                obtain rfl : m = [] := List.eq_nil_of_length_eq_zero H3.out.2.2
                have E1 := eqIn28 0 0 0 0 true rfl
                go_wp2_with fail
                refine (pop_none _ p q g cap _ H3.out.1.pl).mono ?_
                rintro e w3 ⟨rfl, hg3⟩
                have H4 := Lib.hid (H3.out.1.grow (gtrans hg3 (galloc w3 (.cells #[.int .i64 0, .int .i64 0] 28) none)))
                clear hg3
                go_wp2_with fail
                refine (rpop_none A c _).mono ?_
                rintro e w4 ⟨rfl, hg4⟩
                have z1 := (hg4.cell_far ⟨w3.heap.size, 0, none⟩ (by simp) (by simp)).trans (box_new w3 28 (.int .i64 0) (.int .i64 0)).1
                have z2 := (hg4.cell_far ⟨w3.heap.size, 1, none⟩ (by simp) (by simp)).trans (box_new w3 28 (.int .i64 0) (.int .i64 0)).2
                have s4 : w3.heap.size < w4.heap.size := Nat.lt_of_lt_of_le (by simp) hg4.size
                have H5 := Lib.hid (H4.out.grow (gtrans hg4 (galloc w4 (.cells #[.int .i64 0, .int .i64 0] 28) none)))
                clear hg4
                go_wp2_with fail
                go_meet
                exact ⟨0, c, A, rfl, by omega, ⟨g, cap, [], x, H5.out, H3.out.2.1⟩⟩
              · have hN1 : 0 < N := by omega
                obtain ⟨b2, rfl, hcb⟩ := H3.out.1.own.form (by rw [H3.out.2.1]; exact hN1)
                have hcb2 : N ≤ c := by rw [← H3.out.2.1]; exact hcb
                have HC := Lib.hid hcb2
                clear hcb hcb2 hN0
                go_wp2_with fail
                refine (pop_some _ p q g cap m (by rw [H3.out.2.2]; exact hN1) _ H3.out.1.pl).mono ?_
                rintro e w3 ⟨m2, rfl, hp2, hm2, hk2⟩
                obtain ⟨y, hy⟩ : ∃ y, ia m 0 = y := ⟨_, rfl⟩
                have HY := Lib.hid hy
                rw [hy] at hm2 ⊢
                clear hy
                obtain ⟨ya, yb⟩ := y
                have gA := galloc w3 (.cells #[.int .i64 ya, .int .i64 yb] 28) none
                obtain ⟨o2, gr2⟩ := H3.out.1.kp hk2
                have H4 := Lib.hid (And.intro (hp2.grow gA) (And.intro hm2 (And.intro (o2.grow gA) (gtrans gr2 gA))))
                clear hp2 hm2 hk2 o2 gr2 gA
                go_wp2_with fail
                refine (rpop_some _ N b2 c x H3.out.2.1 hN1 (by omega) HC.out _ H4.out.2.2.1).mono ?_
                rintro e w4 ⟨kk, A', c', rfl, hF, hO, hg4⟩
                have hyk : ia x kk = (ya, yb) := by rw [← HY.out]; exact (hF.eq H3.out.1.pl.hp H3.out.1.perm).symm
                rw [hyk]
                have hel : (x.eraseIdx kk).length = N - 1 := er_len H3.out.2.1 (by have := hF.1; rw [H3.out.2.1] at this; exact this)
                have hpm : m2.Perm (x.eraseIdx kk) := by
                  have h1 := H4.out.2.1.symm.trans (H3.out.1.perm.trans (perm_erase hF.1))
                  rw [hyk] at h1
                  exact h1.cons_inv
                rw [hel]
                have z1 := (hg4.cell_far ⟨w3.heap.size, 0, none⟩ (by simp) (by simp)).trans (box_new w3 28 (.int .i64 ya) (.int .i64 yb)).1
                have z2 := (hg4.cell_far ⟨w3.heap.size, 1, none⟩ (by simp) (by simp)).trans (box_new w3 28 (.int .i64 ya) (.int .i64 yb)).2
                have s4 : w3.heap.size < w4.heap.size := Nat.lt_of_lt_of_le (by simp) hg4.size
                have H5 := Lib.hid (And.intro ((st_start H4.out.1 hpm H4.out.2.2.2 hO hg4).grow (galloc w4 (.cells #[.int .i64 ya, .int .i64 yb] 28) none)) hel)
                clear hg4 hF hO hyk hpm hel
                have E1 := eqIn28 ya yb ya yb true (by simp)
                go_wp2_with fail
                go_meet
                exact ⟨N - 1, c', A', rfl, by omega, ⟨g, cap, m2, _, H5.out.1, H5.out.2⟩⟩
            · by_cases k2 : kd = 2
              · have t0 : ((kd : Int) == 0) = false := by rw [beq_eq_false_iff_ne]; omega
                have t1 : ((kd : Int) == 1) = false := by rw [beq_eq_false_iff_ne]; omega
                have t2 : ((kd : Int) == 2) = true := by rw [beq_iff_eq]; omega
                obtain ⟨g, cap, m, x, hs, hx⟩ := HH.out.ex
                have hml : m.length = N := by rw [hs.perm.length_eq]; exact hx
                have H3 := Lib.hid (And.intro hs (And.intro hx hml))
                clear hs hx hml
                clear k0 k1 k2
                have RC := rchange_v A N c x H3.out.2.1 (by omega) d a
                have PC := pchange_v w.heap.size p q g cap m d a
                obtain ⟨z, hz⟩ : ∃ z, cnt x d = z := ⟨_, rfl⟩
                have hz2 : cnt m d = z := by rw [← hz]; exact cnt_perm H3.out.1.perm d
                have HZ := Lib.hid (And.intro hz hz2)
                have RCH := Lib.hid RC
                have PCH := Lib.hid PC
                clear hz hz2 RC PC
                go_wp2_with fail
                go_region_with ((refine (RCH.out _ (H3.out.1.own.grow (gdrew _ none)).its).mono ?_); rintro e w3 ⟨A', c', rfl, ho3, hg3⟩; rw [H3.out.2.1, HZ.out.1]; have H4 := Lib.hid (And.intro ho3 (gtrans (gdrew _ none) hg3)); clear ho3 hg3)
                all_goals
                  obtain ⟨e1, e2, e3, e4⟩ := HD.out _ (gtrans H3.out.1.gr H4.out.2)
                  have nz : ((z : Int) != (z : Int)) = false := by simp
                  go_wp2_with fail
                  go_region_with ((refine (PCH.out _ ((H3.out.1.pl.grow H4.out.2).grow (gdrew _ none))).mono ?_); rintro e w4 ⟨m1, rfl, hp4, hm4, hk4⟩; rw [HZ.out.2]; have H5 := Lib.hid (H3.out.1.change H4.out.1 H4.out.2 hp4 hm4 ((Kp.nil (gdrew _ none)).trans hk4 (.inl rfl))); clear hp4 hm4 hk4)
                  all_goals
                    go_wp2_with fail
                    go_meet
                    exact ⟨N, c', A', rfl, by omega, ⟨g, cap, m1, _, H5.out, by simp [H3.out.2.1]⟩⟩
              · by_cases k3 : kd = 3
                · have t0 : ((kd : Int) == 0) = false := by rw [beq_eq_false_iff_ne]; omega
                  have t1 : ((kd : Int) == 1) = false := by rw [beq_eq_false_iff_ne]; omega
                  have t2 : ((kd : Int) == 2) = false := by rw [beq_eq_false_iff_ne]; omega
                  have t3 : ((kd : Int) == 3) = true := by rw [beq_iff_eq]; omega
                  obtain ⟨g, cap, m, x, hs, hx⟩ := HH.out.ex
                  have hml : m.length = N := by rw [hs.perm.length_eq]; exact hx
                  have H3 := Lib.hid (And.intro hs (And.intro hx hml))
                  clear hs hx hml
                  clear k0 k1 k2 k3
                  go_wp2_with fail
                  refine (drain_v _ p q g cap m nn _ H3.out.1.pl).mono ?_
                  rintro e w3 ⟨A3, c3, out, m3, rfl, hd3, hl3⟩
                  have H4 := Lib.hid (And.intro hd3 (And.intro hl3 (H3.out.1.kp hd3.kp)))
                  clear hd3 hl3
                  obtain ⟨ol, hol⟩ : ∃ ol, out.length = ol := ⟨_, rfl⟩
                  have hol2 : ol ≤ 100000 := by have := H4.out.2.1; have := H3.out.2.2; omega
                  have HL := Lib.hid hol
                  rw [hol]
                  clear hol
                  obtain ⟨e1, e2, e3, e4⟩ := HD.out _ H4.out.2.2.2
                  go_wp2_with fail
                  refine (ldrain_v w.heap.size A N c x H3.out.2.1 (by omega) nn _ H4.out.2.2.1 H4.out.2.2.2.size).mono ?_
                  rintro e w4 ⟨A1, c1', m4, A2, c2', out2, rfl, hL4, hl4⟩
                  obtain ⟨hS, rfl, hI1, hI2⟩ := H3.out.1.drain H4.out.1 H4.out.2.1 hL4 hl4
                  have hlm : m4.length ≤ N := by have := hL4.len; have := H3.out.2.1; omega
                  have H5 := Lib.hid (And.intro hS (And.intro hI1 hI2))
                  clear hS hI1 hI2 hL4 hl4
                  rw [HL.out]
                  obtain ⟨rl, hrl⟩ : ∃ rl, m4.length = rl := ⟨_, rfl⟩
                  have HR := Lib.hid hrl
                  rw [hrl] at hlm ⊢
                  clear hrl
                  go_wp2_with fail
                  refine (same_v A3 A2 ol c3 c2' out2 HL.out hol2 _ H5.out.2.1 H5.out.2.2).mono ?_
                  rintro e w5 ⟨rfl, hg5⟩
                  have H6 := Lib.hid (H5.out.1.grow hg5)
                  clear hg5
                  go_wp2_with fail
                  go_meet
                  exact ⟨rl, c1', A1, rfl, by omega, ⟨g, cap, m3, m4, H6.out, HR.out⟩⟩
                · have t0 : ((kd : Int) == 0) = false := by rw [beq_eq_false_iff_ne]; omega
                  have t1 : ((kd : Int) == 1) = false := by rw [beq_eq_false_iff_ne]; omega
                  have t2 : ((kd : Int) == 2) = false := by rw [beq_eq_false_iff_ne]; omega
                  have t3 : ((kd : Int) == 3) = false := by rw [beq_eq_false_iff_ne]; omega
                  clear k0 k1 k2 k3
                  go_wp2_with fail
                  go_meet
                  exact ⟨N, c, A, rfl, by omega, HH.out⟩
        case rest =>
          obtain ⟨N, c, A, rfl, hN, HH⟩ := hcut
          obtain ⟨g, cap, m, x, hs, hx⟩ := HH.out.ex
          have H3 := Lib.hid (And.intro hs hx)
          have hml : m.length = N := by rw [hs.perm.length_eq]; exact hx
          have HM := Lib.hid hml
          clear HH hs hx hml i1 c1 c2 c3 c4
          by_cases hN0 : N = 0
          · subst hN0
            obtain rfl : m = [] := List.eq_nil_of_length_eq_zero HM.out
            have E1 := eqIn28 0 0 0 0 true rfl
            go_wp2_with fail
            refine (peek_none _ p q g cap _ H3.out.1.pl).mono ?_
            rintro e w3 ⟨rfl, hg3⟩
            have H4 := Lib.hid (H3.out.1.grow (gtrans hg3 (galloc w3 (.cells #[.int .i64 0, .int .i64 0] 28) none)))
            clear hg3
            go_wp2_with fail
            refine (rpop_none A c _).mono ?_
            rintro e w4 ⟨rfl, hg4⟩
            have z1 := (hg4.cell_far ⟨w3.heap.size, 0, none⟩ (by simp) (by simp)).trans (box_new w3 28 (.int .i64 0) (.int .i64 0)).1
            have z2 := (hg4.cell_far ⟨w3.heap.size, 1, none⟩ (by simp) (by simp)).trans (box_new w3 28 (.int .i64 0) (.int .i64 0)).2
            have s4 : w3.heap.size < w4.heap.size := Nat.lt_of_lt_of_le (by simp) hg4.size
            have H5 := Lib.hid (H4.out.grow (gtrans hg4 (galloc w4 (.cells #[.int .i64 0, .int .i64 0] 28) none)))
            clear hg4
            go_wp2_with fail
            refine (plen_v _ p q g cap 0 [] rfl _ H5.out.pl).mono ?_
            rintro e w5 ⟨rfl, rfl⟩
            clear E1 z1 z2
            go_wp2_with fail
            go_roundg (gk - 1)
            case measure => omega
            case rel => exact ⟨k + 1, 0, c, A, by omega, by go_num, rfl, by omega, ⟨g, cap, [], x, H5.out, H3.out.2⟩⟩
          · have hN1 : 0 < N := by omega
            obtain ⟨b2, rfl, hcb⟩ := H3.out.1.own.form (by rw [H3.out.2]; exact hN1)
            have hcb2 : N ≤ c := by rw [← H3.out.2]; exact hcb
            have HC := Lib.hid hcb2
            clear hcb hcb2 hN0
            go_wp2_with fail
            refine (peek_some _ p q g cap m (by rw [HM.out]; exact hN1) _ H3.out.1.pl).mono ?_
            rintro e w3 ⟨rfl, hg3⟩
            obtain ⟨y, hy⟩ : ∃ y, ia m 0 = y := ⟨_, rfl⟩
            have HY := Lib.hid hy
            rw [hy]
            clear hy
            obtain ⟨ya, yb⟩ := y
            have H4 := Lib.hid (H3.out.1.grow (gtrans hg3 (galloc w3 (.cells #[.int .i64 ya, .int .i64 yb] 28) none)))
            clear hg3
            go_wp2_with fail
            refine (rpop_some _ N b2 c x H3.out.2 hN1 (by omega) HC.out _ H4.out.own).mono ?_
            rintro e w4 ⟨kk, A', c', rfl, hF, hO, hg4⟩
            have hyk : ia x kk = (ya, yb) := by rw [← HY.out]; exact (hF.eq H4.out.pl.hp H4.out.perm).symm
            rw [hyk]
            have z1 := (hg4.cell_far ⟨w3.heap.size, 0, none⟩ (by simp) (by simp)).trans (box_new w3 28 (.int .i64 ya) (.int .i64 yb)).1
            have z2 := (hg4.cell_far ⟨w3.heap.size, 1, none⟩ (by simp) (by simp)).trans (box_new w3 28 (.int .i64 ya) (.int .i64 yb)).2
            have s4 : w3.heap.size < w4.heap.size := Nat.lt_of_lt_of_le (by simp) hg4.size
            have H5 := Lib.hid (H4.out.grow (gtrans hg4 (galloc w4 (.cells #[.int .i64 ya, .int .i64 yb] 28) none)))
            clear hg4 hF hO hyk
            have E1 := eqIn28 ya yb ya yb true (by simp)
            go_wp2_with fail
            refine (plen_v _ p q g cap N m HM.out _ H5.out.pl).mono ?_
            rintro e w5 ⟨rfl, rfl⟩
            clear E1 z1 z2
            have nn0 : ((N : Int) != (N : Int)) = false := by simp
            go_wp2_with fail
            go_roundg (gk - 1)
            case measure => omega
            case rel => exact ⟨k + 1, N, c, some ⟨b2, 0, none⟩, by omega, by go_num, rfl, by omega, ⟨g, cap, m, x, H5.out, H3.out.2⟩⟩
      · obtain rfl : k = M := by omega
        have hge : ¬ (k : Int) < (k : Int) := by omega
        obtain ⟨g, cap, m, x, hs, hx⟩ := HH.out.ex
        have H3 := Lib.hid hs
        clear hs hx
        go_wp2_with fail
        refine (works_v _).mono ?_
        rintro e w6 ⟨rfl, hg6⟩
        have H6 := Lib.hid (gtrans H3.out.gr hg6)
        clear hg6
        go_wp2_with fail
        go_ret
        exact ⟨rfl, H6.out⟩
theorem does_walk (A0 : Option Addr) (n c0 : Nat) (l : List It) (hn : l.length = n) (hnm : n ≤ 9223372036854775807) (hA : A0 = none → c0 = 0) (B0 : Option Addr) (M d0 : Nat) (ds : List Dd) (hM : ds.length = M) (hMm : M ≤ 9223372036854775807) (w : World) (h : Its w A0 l) (hd : Deeds w B0 ds) :
    Calls Try.prog 3 #[.slice A0 n c0, .slice B0 M d0] w fun e w' => e = .returned (.bool true) ∧ Below w.heap.size w w' :=
  (does_v A0 n c0 l hn hnm hA B0 M d0 ds hM hMm w h hd).mono fun e w' ⟨h1, h2⟩ => ⟨h1, (Below.refl _ _).grown h2 (Nat.le_refl _) (by simp)⟩
end Go.Proofs.Ythnpjaklcebgfaa
