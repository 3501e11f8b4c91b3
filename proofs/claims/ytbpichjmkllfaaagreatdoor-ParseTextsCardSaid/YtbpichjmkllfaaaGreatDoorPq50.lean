/- Packed texts of one proof. Conditions: none. -/
import Derived.Test.YtbpichjmkllfaaaGreatDoorPq49
import Derived.Test.YtbpichjmkllfaaaGreatDoorPq30
import Derived.Test.YtbpichjmkllfaaaGreatDoorPq41
import Derived.Test.YtbpichjmkllfaaaGreatDoorPq44
import Derived.Lib.LaidTab
import Derived.LaidLaws
namespace Go.Proofs.YtbpichjmkllfaaaGreatDoor.Lex
open Go.ChangeShapes Go.WideShapes Go.RowKit
set_option linter.unusedVariables false
set_option maxRecDepth 20000
def DocP (s : ByteArray) (w : World) (e : Ending) (w' : World) : Prop :=
 ∃ m code q, all s.data.toList = (m, code, q) ∧ Below w.heap.size w w' ∧
  ((code = 0 ∧ ∃ A c, e = .returned (.tuple #[.slice A m.length c, .int .i64 0, .int .i64 0]) ∧ OwnK w.heap.size w' A c m) ∨ (code ≠ 0 ∧ e = .returned (.tuple #[.slice none 0 0, .int .i64 code, .int .i64 (q : Int)])))
theorem doc_long (s : ByteArray) (h : 65536 < s.size) (w : World) : Calls Tryz.prog 18 #[.string s] w (DocP s w) := by
 have h1 : (65536 : Int) < (s.size : Int) := by omega
 have HA : Hid (all s.data.toList = ([], 3, 0)) := all_long (by rw [Nam.len_list]; exact h)
 clear h
 go_enter Tryz.func18, Tryz.ntmps18
 go_wp2_with fail
 go_ret3
 exact ⟨[], 3, 0, HA.out, Below.refl _ _, .inr ⟨by decide, rfl⟩⟩
theorem tw_stop (l : List UInt8) (n : Nat) (h : n < l.length) (hd : l[n] = 10) : (l.drop n).takeWhile (· != 10) = [] := by
 rw [List.drop_eq_getElem_cons h, List.takeWhile_cons_of_neg (by simp [hd])]
theorem tw_step (l : List UInt8) (n : Nat) (h : n < l.length) (hd : l[n] ≠ 10) : ((l.drop n).takeWhile (· != 10)).length = ((l.drop (n + 1)).takeWhile (· != 10)).length + 1 := by
 rw [List.drop_eq_getElem_cons h, List.takeWhile_cons_of_pos (p := (· != 10)) (by simp [hd])]; simp
theorem tw_end (l : List UInt8) (n : Nat) (h : l.length ≤ n) : (l.drop n).takeWhile (· != 10) = [] := by rw [List.drop_eq_nil_of_le h]; rfl
theorem one_news (w : World) (cs : Array Value) (l : List Value) (hl : cs.toList = l) : ∀ j u, l[j]? = some u → (w.alloc (.cells cs 72)).cell? ((⟨w.heap.size, 0, none⟩ : Addr).add j) = some u := news_new w cs 72 l hl
theorem tok_step1 {w wr w2 w3 : World} {A : Option Addr} {c N g' cap' : Nat} {out : List Tok} {t : Tok} {D : Obj} (hb : Below w.heap.size w wr) (ho : OwnK w.heap.size wr A c out) (hN : out.length = N) (h2 : Below wr.heap.size wr w2)
  (hown : w3.ownsRow w.heap.size 72 5 (.slice (some ⟨g', 0, none⟩) (N + 1) cap') (N + 1) (tcs out ++ tcs [t])) (hg : (w2.alloc D).grownBy w3 (Value.ownBlock (.slice A N c))) :
  Below w.heap.size w w3 ∧ OwnK w.heap.size w3 (some ⟨g', 0, none⟩) cap' (out ++ [t]) := by
 have hr : ∀ k, Value.ownBlock (.slice A N c) = some k → w.heap.size ≤ k := fun k e => (ho.lo k (by rw [hN]; exact e)).1
 have h3 : Below w.heap.size w w2 := hb.trans (h2.mono hb.size)
 refine ⟨(h3.alloc h3.size D).grown hg (by have := h3.size; simp; omega) hr, ?_⟩
 unfold OwnK
 have e1 : (out ++ [t]).length = N + 1 := by simp [hN]
 rw [e1, tcs_append]; exact hown
theorem plain_bad_at {c : UInt8} {r : List UInt8} {a p : Nat} {e : Int} (h : plain c r a = .bad e p) : p = a := by
 have hn : ∀ {kind cls top : Nat} {pre r : List UInt8}, numb kind cls top pre r a = .bad e p → p = a := by
  intro kind cls top pre r h
  unfold numb at h
  split at h
  ·cases h
  ·injection h with _ h; exact h.symm
 unfold plain at h
 repeat' split at h
 all_goals first | exact hn h | (cases h; done) | (injection h with _ h; exact h.symm)
set_option maxHeartbeats 4000000 in
theorem doc_is (s : ByteArray) (h : s.size ≤ 65536) (w : World) : Calls Tryz.prog 18 #[.string s] w (DocP s w) := by
 obtain ⟨i0, hi0, hz0, hz1, hz2⟩ := info_parts info37z
 have I0 := Hh (Ai hi0 (Ai hz0 (Ai hz1 hz2)))
 have h1 : (s.size : Int) ≤ (65536 : Int) := by omega
 have HA : Hid (all s.data.toList = rest s.data.toList 0 []) := rest_start (by rw [Nam.len_list]; exact h)
 clear hi0 hz0 hz1 hz2
 go_enter Tryz.func18, Tryz.ntmps18
 go_wp2_with fail
 go_loopg [5, 6] (s.size + 1) (fun gk u x wr => ∃ (n : Nat) (A : Option Addr) (c N : Nat) (out : List Tok), u = .slice A N c ∧ x = .int .i64 (n : Int) ∧ gk = s.size + 1 - n ∧ n ≤ s.size ∧ N ≤ n ∧ Hid (Sofar s w wr n A c out ∧ out.length = N))
 case atStart => exact ⟨0, none, 0, 0, [], rfl, rfl, rfl, Nat.zero_le _, Nat.le_refl _, ⟨Nat.zero_le _, Nat.le_refl _, HA.out, Below.refl _ _, World.ownsRow_nil _ _ _ _⟩, rfl⟩
 case round =>
  obtain ⟨n, A, c, N, out, rfl, rfl, hk, hn, hN, HH⟩ := hrel
  by_cases hl : n < s.size
  ·have hl' : (n : Int) < (s.size : Int) := by omega
   have hd := Quo.drop_cons s n hl
   have HD := Hh hd
   clear hd
   obtain ⟨p, hp⟩ : ∃ p, n + 1 = p := ⟨_, rfl⟩
   have ip : (n : Int) + 1 = (p : Int) := by omega
   rw [hp] at HD
   by_cases hb : blank s[n] = true
   ·rw [blank_iff] at hb
    have hw : s[n].toNat = 32 ∨ s[n].toNat = 9 ∨ s[n].toNat = 13 ∨ s[n].toNat = 10 := by simpa [or_assoc] using hb
    rw [← blank_iff] at hb
    by_cases q32 : s[n].toNat = 32
    ·have f32 : ((s[n].toNat : Int) == 32) = true := by rw [beq_iff_eq]; omega
     have HBL := Hh hb
     clear hb hw q32
     go_wp2_with fail
     go_roundg (s.size + 1 - p)
     case measure => omega
     case rel =>
      have hr := rest_skip (s := s.data.toList) (at_ := n) out (by rw [HD.out]; exact nx_blank HBL.out)
      refine ⟨p, A, c, N, out, rfl, rfl, rfl, by omega, by omega, ⟨by omega, by have := HH.out.1.few; omega, ?_, HH.out.1.below, HH.out.1.own⟩, HH.out.2⟩
      rw [HH.out.1.same, hr.1, hp]
    ·have dummy0 : True := trivial
     by_cases q9 : s[n].toNat = 9
     ·have f32 : ((s[n].toNat : Int) == 32) = false := by rw [Bqf]; omega
      have f9 : ((s[n].toNat : Int) == 9) = true := by rw [beq_iff_eq]; omega
      have HBL := Hh hb
      clear hb hw q32 q9
      go_wp2_with fail
      go_roundg (s.size + 1 - p)
      case measure => omega
      case rel =>
       have hr := rest_skip (s := s.data.toList) (at_ := n) out (by rw [HD.out]; exact nx_blank HBL.out)
       refine ⟨p, A, c, N, out, rfl, rfl, rfl, by omega, by omega, ⟨by omega, by have := HH.out.1.few; omega, ?_, HH.out.1.below, HH.out.1.own⟩, HH.out.2⟩
       rw [HH.out.1.same, hr.1, hp]
     ·have dummy1 : True := trivial
      by_cases q13 : s[n].toNat = 13
      ·have f32 : ((s[n].toNat : Int) == 32) = false := by rw [Bqf]; omega
       have f9 : ((s[n].toNat : Int) == 9) = false := by rw [Bqf]; omega
       have f13 : ((s[n].toNat : Int) == 13) = true := by rw [beq_iff_eq]; omega
       have HBL := Hh hb
       clear hb hw q32 q9 q13
       go_wp2_with fail
       go_roundg (s.size + 1 - p)
       case measure => omega
       case rel =>
        have hr := rest_skip (s := s.data.toList) (at_ := n) out (by rw [HD.out]; exact nx_blank HBL.out)
        refine ⟨p, A, c, N, out, rfl, rfl, rfl, by omega, by omega, ⟨by omega, by have := HH.out.1.few; omega, ?_, HH.out.1.below, HH.out.1.own⟩, HH.out.2⟩
        rw [HH.out.1.same, hr.1, hp]
      ·have dummy2 : True := trivial
       have q10 : s[n].toNat = 10 := by omega
       have f32 : ((s[n].toNat : Int) == 32) = false := by rw [Bqf]; omega
       have f9 : ((s[n].toNat : Int) == 9) = false := by rw [Bqf]; omega
       have f13 : ((s[n].toNat : Int) == 13) = false := by rw [Bqf]; omega
       have f10 : ((s[n].toNat : Int) == 10) = true := by rw [beq_iff_eq]; omega
       have HBL := Hh hb
       clear hb hw q32 q9 q13 q10
       go_wp2_with fail
       go_roundg (s.size + 1 - p)
       case measure => omega
       case rel =>
        have hr := rest_skip (s := s.data.toList) (at_ := n) out (by rw [HD.out]; exact nx_blank HBL.out)
        refine ⟨p, A, c, N, out, rfl, rfl, rfl, by omega, by omega, ⟨by omega, by have := HH.out.1.few; omega, ?_, HH.out.1.below, HH.out.1.own⟩, HH.out.2⟩
        rw [HH.out.1.same, hr.1, hp]
   ·have hbf : blank s[n] = false := by simpa using hb
    have f4 := hbf
    rw [blank_iff] at f4
    have f32 : ((s[n].toNat : Int) == 32) = false := by rw [Bqf]; intro k; have : s[n].toNat = 32 := (by omega); simp [this] at f4
    have f9 : ((s[n].toNat : Int) == 9) = false := by rw [Bqf]; intro k; have : s[n].toNat = 9 := (by omega); simp [this] at f4
    have f13 : ((s[n].toNat : Int) == 13) = false := by rw [Bqf]; intro k; have : s[n].toNat = 13 := (by omega); simp [this] at f4
    have f10 : ((s[n].toNat : Int) == 10) = false := by rw [Bqf]; intro k; have : s[n].toNat = 10 := (by omega); simp [this] at f4
    have HBF := Hh hbf
    clear hb hbf f4
    by_cases q47 : s[n].toNat = 47
    ·have c47 : ((s[n].toNat : Int) == 47) = true := by rw [beq_iff_eq]; omega
     have c34 : ((s[n].toNat : Int) == 34) = false := by rw [Bqf]; omega
     have e47 : s[n] = 47 := (u8_eq (n := 47) (by omega)).2 q47
     by_cases hps : p < s.size
     ·have hps' : (p : Int) < (s.size : Int) := by omega
      have hdp := Quo.drop_cons s p hps
      by_cases q2 : s[p].toNat = 47
      ·have c2 : ((s[p].toNat : Int) == 47) = true := by rw [beq_iff_eq]; omega
       have hsk : nx (s.data.toList.drop n) n = .skip ((s.data.toList.drop n).takeWhile (· != 10)).length := by
        rw [HD.out]; exact nx_rem HBF.out ⟨e47, by rw [hdp, (u8_eq (n := 47) (by omega)).2 q2]; rfl⟩
       have hr := rest_skip (s := s.data.toList) (at_ := n) out hsk
       obtain ⟨m, hm⟩ : ∃ m, n + ((s.data.toList.drop n).takeWhile (· != 10)).length = m := ⟨_, rfl⟩
       rw [hm, Nam.len_list] at hr
       have HR := Hh hr
       have HM := Hh hm
       clear hsk hr hm hdp q2 e47 q47
       go_wp2_with fail
       go_loopg [6] (s.size - n) (fun g2 x wr2 => ∃ j : Nat, n ≤ j ∧ j ≤ s.size ∧ x = .int .i64 (j : Int) ∧ g2 = s.size - j ∧ Hid (j + ((s.data.toList.drop j).takeWhile (· != 10)).length = m ∧ wr = wr2))
       case atStart => exact ⟨n, Nat.le_refl _, hn, rfl, rfl, HM.out, rfl⟩
       case round =>
        obtain ⟨j, hnj, hj, rfl, hg2, HJ⟩ := hrel
        by_cases hjl : j < s.size
        ·have hjl' : (j : Int) < (s.size : Int) := by omega
         by_cases q10 : s[j].toNat = 10
         ·have d1 : ((s[j].toNat : Int) == 10) = true := by rw [beq_iff_eq]; omega
          have d2 : ((s[j].toNat : Int) != 10) = false := by rw [bne, d1]; rfl
          have hjm : j = m := by
           have := HJ.out.1
           rw [tw_stop _ j (by rw [Nam.len_list]; exact hjl) (by rw [Nam.at_list s j hjl]; exact (u8_eq (n := 10) (by omega)).2 q10)] at this
           simpa using this
          have HJM := Hh hjm
          clear q10 hjm
          go_wp2_with fail
          go_roundg (s.size + 1 - j)
          case measure => have := HR.out.2.1; have := HM.out; have := HJM.out; omega
          case rel =>
           obtain rfl := HJ.out.2
           refine ⟨j, A, c, N, out, rfl, rfl, rfl, by omega, by omega, ⟨by omega, by have := HH.out.1.few; omega, ?_, HH.out.1.below, HH.out.1.own⟩, HH.out.2⟩
           rw [HH.out.1.same, HR.out.1, HJM.out]
         ·have d1 : ((s[j].toNat : Int) == 10) = false := by rw [Bqf]; omega
          have d2 : ((s[j].toNat : Int) != 10) = true := by rw [bne, d1]; rfl
          have hst := tw_step s.data.toList j (by rw [Nam.len_list]; exact hjl) (by rw [Nam.at_list s j hjl]; exact u8n (n := 10) q10 (by omega))
          have HST := Hh hst
          clear q10 hst
          go_wp2_with fail
          go_roundg (s.size - (j + 1))
          case measure => omega
          case rel => exact ⟨j + 1, by omega, by omega, by go_num, rfl, by have := HJ.out.1; have := HST.out; omega, HJ.out.2⟩
        ·obtain rfl : j = s.size := by omega
         have hjm : s.size = m := by
          have := HJ.out.1
          rw [tw_end _ _ (by rw [Nam.len_list]; exact Nat.le_refl _)] at this
          simpa using this
         have HJM := Hh hjm
         clear hjm hj hjl
         go_wp2_with fail
         go_roundg (s.size + 1 - s.size)
         case measure => omega
         case rel =>
          obtain rfl := HJ.out.2
          refine ⟨s.size, A, c, N, out, rfl, rfl, rfl, by omega, by omega, ⟨by omega, by have := HH.out.1.few; omega, ?_, HH.out.1.below, HH.out.1.own⟩, HH.out.2⟩
          rw [HH.out.1.same, HR.out.1, HJM.out]
      ·have c2 : ((s[p].toNat : Int) == 47) = false := by rw [Bqf]; omega
       have hnx : nx (s.data.toList.drop n) n = plain s[n] (s.data.toList.drop p) n := by
        rw [HD.out, nx_cons, if_neg (by rw [HBF.out]; decide), if_neg (fun k => q2 (by have := k.2; rw [hdp] at this; injection this with this; rw [this]; rfl)), if_neg (by rw [e47]; decide)]
       clear hdp q2 e47 q47
       have hov := one_v s n (by omega) hl
       rw [hp] at hov
       cases hx : plain s[n] (s.data.toList.drop p) n with
       | skip j => exact absurd hx plain_skip
       | bad e q =>
        rw [hx] at hov hnx
        have he := nx_bad_code hnx
        have hqn : q = n := plain_bad_at hx
        have z1 : (e != 0) = true := by rw [bne_iff_ne]; exact he
        have z2 : (e == 0) = false := by rw [Bqf]; exact he
        have HX := Hh (Ai hnx (Ai hqn hov))
        clear hnx hx hqn hov
        go_wp2_with fail
        refine (HX.out.2.2 _).mono ?_
        rintro e1 w2 ⟨⟨k0, s0, n0, c0, a0, z0, rfl⟩, hb2⟩
        have HO := Hh hb2
        clear hb2
        unfold tk tc
        go_wp2_with fail
        go_ret3
        have h3 : Below w.heap.size w w2 := HH.out.1.below.trans (HO.out.mono HH.out.1.below.size)
        refine ⟨[], e, n, ?_, h3.alloc h3.size _, .inr ⟨he, rfl⟩⟩
        rw [HH.out.1.same]; have := HX.out.1; rw [HX.out.2.1] at this; exact rest_bad _ (by rw [Nam.len_list]; exact hl) this
       | tok t j =>
        rw [hx] at hov hnx
        have hr := rest_tok (s := s.data.toList) (at_ := n) out hnx
        rw [Nam.len_list] at hr
        obtain ⟨q, hq⟩ : ∃ q, n + j = q := ⟨_, rfl⟩
        have iq : (n : Int) + (j : Int) = (q : Int) := by omega
        have hqs : q ≤ s.size := by omega
        have hqb : n < q := by omega
        have HX := Hh (Ai hr (Ai hq hov))
        clear hnx hx hr hq hov
        go_wp2_with fail
        refine (HX.out.2.2 _).mono ?_
        rintro e1 w2 ⟨rfl, hb2⟩
        have ho : w2.ownsRow w.heap.size 72 5 (.slice A N c) N (tcs out) := by
         have h1 := HH.out.1.own.grow hb2
         unfold OwnK at h1
         rw [HH.out.2] at h1; exact h1
        have hba : w.heap.size ≤ ((w2.alloc (.cells (tcl t) 72)).alloc (.cells (tcl t) 72)).heap.size := by
         have h1 := HH.out.1.below.size
         have h2 := hb2.size
         simp; omega
        have HO := Hh (Ai hb2 (Ai ho hba))
        clear hb2 ho hba
        unfold oneGood tkv tk tc
        go_wp2_with (at_builtin; refine wpList_append_lies _ rfl (.tmp 99) (.tmp 101) 48 rfl w.heap.size 72 i0 (.agg t0) 5 48 Tryz.underlying48 I0.out.1 I0.out.2.1 I0.out.2.2.1 I0.out.2.2.2 rfl (by decide) (.slice A N c) N (tcs out) rfl ((HO.out.2.1.alloc _).alloc _) ⟨w2.heap.size + 1, 0, none⟩ 1 1 (tcs [t]) rfl rfl (two_news w2 (tcl t) _ (tcs_one t).symm) (tcs_cell _) (by decide) (by unfold maxLen; omega) (by omega) HO.out.2.2 _ rfl ?_)
        intro g' cap' w3 hown hgrow _ _
        have H3 := Hh (tok_step HH.out.1.below HH.out.1.own HH.out.2 HO.out.1 hown hgrow)
        clear hown hgrow
        go_wp2_with fail
        go_roundg (s.size + 1 - q)
        case measure => omega
        case rel =>
         refine ⟨q, _, _, N + 1, out ++ [t], rfl, rfl, rfl, hqs, by omega, ⟨hqs, ?_, ?_, H3.out.1, H3.out.2⟩, by simp [HH.out.2]⟩
         ·have := HH.out.2; simp; omega
         ·rw [HH.out.1.same, HX.out.1.1, HX.out.2.1]
     ·have hpe : (p : Int) = (s.size : Int) := by omega
      have hnx : nx (s.data.toList.drop n) n = plain s[n] (s.data.toList.drop p) n := by
       rw [HD.out, nx_cons, if_neg (by rw [HBF.out]; decide), if_neg (fun k => by have := k.2; rw [List.drop_eq_nil_of_le (by rw [Nam.len_list]; omega)] at this; cases this), if_neg (by rw [e47]; decide)]
      have hpe2 : decide ((p : Int) < (s.size : Int)) = false := by rw [decide_eq_false_iff_not]; omega
      clear e47 q47
      have hov := one_v s n (by omega) hl
      rw [hp] at hov
      cases hx : plain s[n] (s.data.toList.drop p) n with
      | skip j => exact absurd hx plain_skip
      | bad e q =>
       rw [hx] at hov hnx
       have he := nx_bad_code hnx
       have hqn : q = n := plain_bad_at hx
       have z1 : (e != 0) = true := by rw [bne_iff_ne]; exact he
       have z2 : (e == 0) = false := by rw [Bqf]; exact he
       have HX := Hh (Ai hnx (Ai hqn hov))
       clear hnx hx hqn hov
       go_wp2_with fail
       refine (HX.out.2.2 _).mono ?_
       rintro e1 w2 ⟨⟨k0, s0, n0, c0, a0, z0, rfl⟩, hb2⟩
       have HO := Hh hb2
       clear hb2
       unfold tk tc
       go_wp2_with fail
       go_ret3
       have h3 : Below w.heap.size w w2 := HH.out.1.below.trans (HO.out.mono HH.out.1.below.size)
       refine ⟨[], e, n, ?_, h3.alloc h3.size _, .inr ⟨he, rfl⟩⟩
       rw [HH.out.1.same]; have := HX.out.1; rw [HX.out.2.1] at this; exact rest_bad _ (by rw [Nam.len_list]; exact hl) this
      | tok t j =>
       rw [hx] at hov hnx
       have hr := rest_tok (s := s.data.toList) (at_ := n) out hnx
       rw [Nam.len_list] at hr
       obtain ⟨q, hq⟩ : ∃ q, n + j = q := ⟨_, rfl⟩
       have iq : (n : Int) + (j : Int) = (q : Int) := by omega
       have hqs : q ≤ s.size := by omega
       have hqb : n < q := by omega
       have HX := Hh (Ai hr (Ai hq hov))
       clear hnx hx hr hq hov
       go_wp2_with fail
       refine (HX.out.2.2 _).mono ?_
       rintro e1 w2 ⟨rfl, hb2⟩
       have ho : w2.ownsRow w.heap.size 72 5 (.slice A N c) N (tcs out) := by
        have h1 := HH.out.1.own.grow hb2
        unfold OwnK at h1
        rw [HH.out.2] at h1; exact h1
       have hba : w.heap.size ≤ ((w2.alloc (.cells (tcl t) 72)).alloc (.cells (tcl t) 72)).heap.size := by
        have h1 := HH.out.1.below.size
        have h2 := hb2.size
        simp; omega
       have HO := Hh (Ai hb2 (Ai ho hba))
       clear hb2 ho hba
       unfold oneGood tkv tk tc
       go_wp2_with (at_builtin; refine wpList_append_lies _ rfl (.tmp 99) (.tmp 101) 48 rfl w.heap.size 72 i0 (.agg t0) 5 48 Tryz.underlying48 I0.out.1 I0.out.2.1 I0.out.2.2.1 I0.out.2.2.2 rfl (by decide) (.slice A N c) N (tcs out) rfl ((HO.out.2.1.alloc _).alloc _) ⟨w2.heap.size + 1, 0, none⟩ 1 1 (tcs [t]) rfl rfl (two_news w2 (tcl t) _ (tcs_one t).symm) (tcs_cell _) (by decide) (by unfold maxLen; omega) (by omega) HO.out.2.2 _ rfl ?_)
       intro g' cap' w3 hown hgrow _ _
       have H3 := Hh (tok_step HH.out.1.below HH.out.1.own HH.out.2 HO.out.1 hown hgrow)
       clear hown hgrow
       go_wp2_with fail
       go_roundg (s.size + 1 - q)
       case measure => omega
       case rel =>
        refine ⟨q, _, _, N + 1, out ++ [t], rfl, rfl, rfl, hqs, by omega, ⟨hqs, ?_, ?_, H3.out.1, H3.out.2⟩, by simp [HH.out.2]⟩
        ·have := HH.out.2; simp; omega
        ·rw [HH.out.1.same, HX.out.1.1, HX.out.2.1]
    ·have c47 : ((s[n].toNat : Int) == 47) = false := by rw [Bqf]; omega
     have n47 : s[n] ≠ 47 := u8n (n := 47) q47 (by omega)
     by_cases q34 : s[n].toNat = 34
     ·have c34 : ((s[n].toNat : Int) == 34) = true := by rw [beq_iff_eq]; omega
      have e34 : s[n] = 34 := (u8_eq (n := 34) (by omega)).2 q34
      obtain ⟨x, y, e, hsc⟩ : ∃ x y e, Quo.scan ((s.data.toList.drop p).length + 1) (s.data.toList.drop p) p [] = (x, y, e) := ⟨_, _, _, rfl⟩
      have hsq : Sq s p [] x y e := by
       unfold Sq
       rw [← hsc]
       exact scan_fuel _ _ _ _ _ _ (Nat.le_refl _) (by rw [List.length_drop, Nam.len_list]; omega) (by omega)
      have hnx : nx (s.data.toList.drop n) n = if e = 0 then .tok ⟨3, x, 0, 0, n⟩ (y - n) else .bad e y := by
       rw [HD.out, nx_cons, if_neg (by rw [HBF.out]; decide), if_neg (fun k => n47 k.1), if_pos e34, hp, hsc]
      have HS := Hh (Ai q34 hsq)
      clear hsq n47 q47 e34 q34
      by_cases he : e = 0
      ·subst he
       rw [if_pos rfl] at hnx
       have hpl := scan_place _ _ _ _ _ _ hsc
       rw [List.length_drop, Nam.len_list] at hpl
       have hr := rest_tok (s := s.data.toList) (at_ := n) out hnx
       rw [show n + (y - n) = y by omega] at hr
       have HR := Hh hr
       clear hr hnx hsc
       go_wp2_with fail
       refine (dscan_v s n p x y 0 (by omega) hl HS.out.1 hp HS.out.2 _).mono ?_
       rintro e1 w2 ⟨rfl, hb2⟩
       have ho : w2.ownsRow w.heap.size 72 5 (.slice A N c) N (tcs out) := by
        have h1 := HH.out.1.own.grow hb2
        unfold OwnK at h1
        rw [HH.out.2] at h1; exact h1
       have hba : w.heap.size ≤ (w2.alloc (.cells (tcl ⟨3, x, 0, 0, n⟩) 72)).heap.size := by
        have h1 := HH.out.1.below.size
        have h2 := hb2.size
        simp; omega
       have HO := Hh (Ai hb2 (Ai ho hba))
       clear hb2 ho hba
       unfold Quo.E3
       go_wp2_with (at_builtin; refine wpList_append_lies _ rfl (.tmp 81) (.tmp 85) 48 rfl w.heap.size 72 i0 (.agg t0) 5 48 Tryz.underlying48 I0.out.1 I0.out.2.1 I0.out.2.2.1 I0.out.2.2.2 rfl (by decide) (.slice A N c) N (tcs out) rfl (HO.out.2.1.alloc _) ⟨w2.heap.size, 0, none⟩ 1 1 (tcs [⟨3, x, 0, 0, n⟩]) rfl rfl (one_news w2 _ _ rfl) (tcs_cell _) (by decide) (by unfold maxLen; omega) (by omega) HO.out.2.2 _ rfl ?_)
       intro g' cap' w3 hown hgrow _ _
       have H3 := Hh (tok_step1 HH.out.1.below HH.out.1.own HH.out.2 HO.out.1 hown hgrow)
       clear hown hgrow
       go_wp2_with fail
       go_roundg (s.size + 1 - y)
       case measure => omega
       case rel =>
        refine ⟨y, _, _, N + 1, out ++ [⟨3, x, 0, 0, n⟩], rfl, rfl, rfl, by omega, by omega, ⟨by omega, ?_, ?_, H3.out.1, H3.out.2⟩, by simp [HH.out.2]⟩
        ·have := HH.out.2; simp; omega
        ·rw [HH.out.1.same, HR.out.1]
      ·rw [if_neg he] at hnx
       have z1 : (e != 0) = true := by rw [bne_iff_ne]; exact he
       have z2 : (e == 0) = false := by rw [Bqf]; exact he
       have HX := Hh hnx
       clear hnx hsc
       go_wp2_with fail
       refine (dscan_v s n p x y e (by omega) hl HS.out.1 hp HS.out.2 _).mono ?_
       rintro e1 w2 ⟨rfl, hb2⟩
       have HO := Hh hb2
       clear hb2
       unfold Quo.E3
       go_wp2_with fail
       go_ret3
       have h3 : Below w.heap.size w w2 := HH.out.1.below.trans (HO.out.mono HH.out.1.below.size)
       refine ⟨[], e, y, ?_, h3, .inr ⟨he, rfl⟩⟩
       rw [HH.out.1.same]; exact rest_bad _ (by rw [Nam.len_list]; exact hl) HX.out
     ·have c34 : ((s[n].toNat : Int) == 34) = false := by rw [Bqf]; omega
      have n34 : s[n] ≠ 34 := u8n (n := 34) q34 (by omega)
      have hnx : nx (s.data.toList.drop n) n = plain s[n] (s.data.toList.drop p) n := by
       rw [HD.out, nx_cons, if_neg (by rw [HBF.out]; decide), if_neg (fun k => n47 k.1), if_neg n34]
      clear n34 n47 q34 q47
      have hov := one_v s n (by omega) hl
      rw [hp] at hov
      cases hx : plain s[n] (s.data.toList.drop p) n with
      | skip j => exact absurd hx plain_skip
      | bad e q =>
       rw [hx] at hov hnx
       have he := nx_bad_code hnx
       have hqn : q = n := plain_bad_at hx
       have z1 : (e != 0) = true := by rw [bne_iff_ne]; exact he
       have z2 : (e == 0) = false := by rw [Bqf]; exact he
       have HX := Hh (Ai hnx (Ai hqn hov))
       clear hnx hx hqn hov
       go_wp2_with fail
       refine (HX.out.2.2 _).mono ?_
       rintro e1 w2 ⟨⟨k0, s0, n0, c0, a0, z0, rfl⟩, hb2⟩
       have HO := Hh hb2
       clear hb2
       unfold tk tc
       go_wp2_with fail
       go_ret3
       have h3 : Below w.heap.size w w2 := HH.out.1.below.trans (HO.out.mono HH.out.1.below.size)
       refine ⟨[], e, n, ?_, h3.alloc h3.size _, .inr ⟨he, rfl⟩⟩
       rw [HH.out.1.same]; have := HX.out.1; rw [HX.out.2.1] at this; exact rest_bad _ (by rw [Nam.len_list]; exact hl) this
      | tok t j =>
       rw [hx] at hov hnx
       have hr := rest_tok (s := s.data.toList) (at_ := n) out hnx
       rw [Nam.len_list] at hr
       obtain ⟨q, hq⟩ : ∃ q, n + j = q := ⟨_, rfl⟩
       have iq : (n : Int) + (j : Int) = (q : Int) := by omega
       have hqs : q ≤ s.size := by omega
       have hqb : n < q := by omega
       have HX := Hh (Ai hr (Ai hq hov))
       clear hnx hx hr hq hov
       go_wp2_with fail
       refine (HX.out.2.2 _).mono ?_
       rintro e1 w2 ⟨rfl, hb2⟩
       have ho : w2.ownsRow w.heap.size 72 5 (.slice A N c) N (tcs out) := by
        have h1 := HH.out.1.own.grow hb2
        unfold OwnK at h1
        rw [HH.out.2] at h1; exact h1
       have hba : w.heap.size ≤ ((w2.alloc (.cells (tcl t) 72)).alloc (.cells (tcl t) 72)).heap.size := by
        have h1 := HH.out.1.below.size
        have h2 := hb2.size
        simp; omega
       have HO := Hh (Ai hb2 (Ai ho hba))
       clear hb2 ho hba
       unfold oneGood tkv tk tc
       go_wp2_with (at_builtin; refine wpList_append_lies _ rfl (.tmp 99) (.tmp 101) 48 rfl w.heap.size 72 i0 (.agg t0) 5 48 Tryz.underlying48 I0.out.1 I0.out.2.1 I0.out.2.2.1 I0.out.2.2.2 rfl (by decide) (.slice A N c) N (tcs out) rfl ((HO.out.2.1.alloc _).alloc _) ⟨w2.heap.size + 1, 0, none⟩ 1 1 (tcs [t]) rfl rfl (two_news w2 (tcl t) _ (tcs_one t).symm) (tcs_cell _) (by decide) (by unfold maxLen; omega) (by omega) HO.out.2.2 _ rfl ?_)
       intro g' cap' w3 hown hgrow _ _
       have H3 := Hh (tok_step HH.out.1.below HH.out.1.own HH.out.2 HO.out.1 hown hgrow)
       clear hown hgrow
       go_wp2_with fail
       go_roundg (s.size + 1 - q)
       case measure => omega
       case rel =>
        refine ⟨q, _, _, N + 1, out ++ [t], rfl, rfl, rfl, hqs, by omega, ⟨hqs, ?_, ?_, H3.out.1, H3.out.2⟩, by simp [HH.out.2]⟩
        ·have := HH.out.2; simp; omega
        ·rw [HH.out.1.same, HX.out.1.1, HX.out.2.1]
  ·obtain rfl : n = s.size := by omega
   have ho : wr.ownsRow w.heap.size 72 5 (.slice A N c) N (tcs out) := by
    have h1 := HH.out.1.own
    unfold OwnK at h1
    rw [HH.out.2] at h1; exact h1
   have hba : w.heap.size ≤ (wr.alloc (.cells (tcl ⟨0, [], 0, 0, s.size⟩) 72)).heap.size := by
    have h1 := HH.out.1.below.size
    simp; omega
   have HO := Hh (Ai ho hba)
   clear ho hba hn hl
   go_wp2_with (at_builtin; refine wpList_append_lies _ rfl (.tmp 106) (.tmp 110) 48 rfl w.heap.size 72 i0 (.agg t0) 5 48 Tryz.underlying48 I0.out.1 I0.out.2.1 I0.out.2.2.1 I0.out.2.2.2 rfl (by decide) (.slice A N c) N (tcs out) rfl (HO.out.1.alloc _) ⟨wr.heap.size, 0, none⟩ 1 1 (tcs [⟨0, [], 0, 0, s.size⟩]) rfl rfl (one_news wr _ _ rfl) (tcs_cell _) (by decide) (by unfold maxLen; omega) (by omega) HO.out.2 _ rfl ?_)
   intro g' cap' w3 hown hgrow _ _
   have H3 := Hh (tok_step1 HH.out.1.below HH.out.1.own HH.out.2 (Below.refl _ _) hown hgrow)
   clear hown hgrow
   go_wp2_with fail
   go_ret3
   refine ⟨out ++ [⟨0, [], 0, 0, s.size⟩], 0, 0, ?_, H3.out.1, .inl ⟨rfl, _, _, ?_, H3.out.2⟩⟩
   ·rw [HH.out.1.same]; exact rest_end _ _
   ·simp [HH.out.2]
theorem doc_v (s : ByteArray) (w : World) : Calls Tryz.prog 18 #[.string s] w (DocP s w) := by
 by_cases h : s.size ≤ 65536
 ·exact doc_is s h w
 ·exact doc_long s (by omega) w
end Go.Proofs.YtbpichjmkllfaaaGreatDoor.Lex
namespace Go.Proofs.YtbpichjmkllfaaaGreatDoor.Par
open Go.ChangeShapes Go.WideShapes Go.RowKit
open Lex (Tok tcl tkv tk tc)
set_option linter.unusedVariables false
set_option maxRecDepth 20000
theorem laid {w w1 w2 : World} {x0 x1 x2 x3 x4 : Value} (h1 : w.alloc (.cells #[.bool false, .string ⟨#[]⟩, .slice none 0 0, .slice none 0 0, .slice none 0 0] 27) = w1) (h2 : Lex.five w1 w.heap.size x0 x1 x2 x3 x4 = w2) :
  Below w.heap.size w w2 ∧ w2.heap[w.heap.size]? = some (.cells #[x0, x1, x2, x3, x4] 27 (0, 0)) ∧ w1.heap[w.heap.size]? = some (.cells #[.bool false, .string ⟨#[]⟩, .slice none 0 0, .slice none 0 0, .slice none 0 0] 27 (0, 0)) := by
 have nb := new_box w _ 27 h1
 refine ⟨nb.1.trans (h2 ▸ Lex.five_below (Below.refl _ w1) (Nat.le_refl _)), h2 ▸ Lex.five_heap nb.2, nb.2⟩
def fun0 : Fun := ⟨false, ⟨#[]⟩, [], [], []⟩
def fun0V : FunV := ⟨none, 0, 0, none, 0, 0, none, 0, 0, fun _ => ⟨none, 0, 0, none, 0, 0, fun _ => insR0⟩⟩
theorem fun0_is (w : World) : IsFun w fun0 fun0V :=
 ⟨(OwnL.nil (T := 81) (sz := 2) (cs := Rg.cs) (N := 0) (w := w)).rgs, (OwnL.nil (T := 64) (sz := 4) (cs := Opn.cs) (N := 0) (w := w)).ops, IsBlks.nil w none _⟩
theorem path_one {w : World} {N0 : Nat} {A : Option Addr} {c : Nat} {t : ByteArray} (h : Flt.Owns N0 w A c [t]) : ∃ g, A = some ⟨g, 0, none⟩ ∧ g < w.heap.size ∧ w.cell? ⟨g, 0, none⟩ = some (.string t) := by
 have h' : OwnL 9 1 strC N0 w A c [t] := h
 obtain ⟨_, h1 | ⟨g, h1, _, h3, h4⟩⟩ := h'.form (fun x => rfl)
 ·cases h1
 ·exact ⟨g, h1, h3, h4 0 0 (by simp) (by decide)⟩
section
variable {w : World} {p : Nat} {A : Option Addr} {n cp : Nat} {ts : List Tok} {s : St}
theorem rnew_v (hT : IsToks w A n ts) (hE : Ends ts) (hW : ∀ t ∈ ts, Wf t) : Calls Tryz.prog 20 #[.slice A n cp] w fun e w' => e = .returned (.pointer (some ⟨w.heap.size, 0, none⟩)) ∧ Below w.heap.size w w' ∧ Rd w' w.heap.size A n cp ts ⟨0, 0, 0⟩ := by
 obtain ⟨w1, hw1⟩ : ∃ w1, w.alloc (.cells #[.slice A n cp, .int .i64 0, .int .i64 0, .int .i64 0] 57) = w1 := ⟨_, rfl⟩
 have nb := new_box w _ 57 hw1
 have hl : 0 < n := by
  have := List.length_pos_iff.2 hE.ne
  rw [hT.1] at this
  exact this
 have hR : Rd w1 w.heap.size A n cp ts ⟨0, 0, 0⟩ := by
  refine ⟨nb.2, hT.below nb.1, hl, fun b o e => ?_, hE, hW⟩
  rcases hT.2.2 with g | ⟨b', o', e', hlt, _⟩
  ·exact absurd g hE.ne
  ·rw [e] at e'
   injection e' with e'
   injection e' with e1 _
   omega
 have HR := Hh (Ai nb.1 hR)
 clear nb hl hR hT hE hW
 go_enter Tryz.func20, Tryz.ntmps20
 go_wp2_with fail
 try rw [hw1]
 go_ret
 exact ⟨rfl, HR.out⟩
end
theorem step_below' {B p N0 : Nat} {W W' : World} (h : Step B p W W') (h1 : N0 ≤ B) (h2 : N0 ≤ p) : Below N0 W W' := ⟨h.1, h.2.1, h.2.2.1, h.2.2.2.1, fun k hk => h.2.2.2.2 k (by omega) (by omega)⟩
theorem five_agree (W : World) (b : Nat) (x0 x1 x2 x3 x4 : Value) : Agree (fun k => k ≠ b) W (Lex.five W b x0 x1 x2 x3 x4) :=
 ⟨(Lex.five_below (Below.refl b W) (Nat.le_refl _)).size, fun k _ hk => by unfold Lex.five; simp [World.setCell, Array.getElem?_modify, Ne.symm hk]⟩
end Go.Proofs.YtbpichjmkllfaaaGreatDoor.Par
namespace Go.Proofs.YtbpichjmkllfaaaGreatDoor.Opr
open Go.ChangeShapes Go.WideShapes Go.RowKit
set_option linter.unusedVariables false
set_option maxRecDepth 20000
def strData {H : Type} (ss : List ByteArray) : DataW H := .agg (ss.map fun s => .lit (.string s.data.toList))
theorem cells_of_strs {H : Type} {enc : TypeId × Value → H} {P : Program} {w : World} {base : Nat} {sp : Nat → Bool} {held : Bool} {fuel : Nat} {t e : TypeId} {n : Nat} {cs : List Value} {ss : List ByteArray} {p : List MemPlace}
  (ht : P.underlying t = some (.array n e)) (he : P.underlying e = some .string) (hce : P.cellsOf e = 1) (hct : P.cellsOf t = n)
  (h : DataW.trod enc P w base sp held fuel t cs = some (strData ss, p)) : cs = ss.map Value.string := by
 cases fuel with
 | zero => simp [DataW.trod] at h
 | succ fuel =>
  simp only [DataW.trod, ht, hce, hct, Nat.mul_one] at h
  split at h
  ·rename_i hl
   obtain ⟨xs, hm, hx⟩ := Option.map_eq_some_iff.1 h
   have hxs : xs.map (·.1) = ss.map fun s => (DataW.lit (.string s.data.toList) : DataW H) := by
    have := congrArg Prod.fst hx
    simpa [strData] using this
   have hxl : xs.length = n := by simpa using Lib.mapM_length hm
   have hzl : ss.length = n := by
    have := congrArg List.length hxs
    simp at this
    omega
   apply List.ext_getElem?
   intro i
   by_cases hi : i < n
   ·obtain ⟨b, hb, hf⟩ := Lib.mapM_at hm i i (by simp [hi])
    obtain ⟨s, hc, hb2, _⟩ := DataW.trod_string he hf
    subst hb2
    have h1 : cs[i]? = some (.string s) := by
     have := congrArg (·[0]?) hc
     simpa [List.getElem?_take, List.getElem?_drop] using this
    have h2 : (xs.map (·.1))[i]? = some (DataW.lit (.string s.data.toList) : DataW H) := by simp [hb]
    rw [hxs] at h2
    simp only [List.getElem?_map, Option.map_eq_some_iff, DataW.lit.injEq, Lit.string.injEq] at h2
    obtain ⟨s', hs', e⟩ := h2
    have : s' = s := ByteArray.ext (Array.ext' e)
    subst this
    simp [h1, hs']
   ·rw [List.getElem?_eq_none (by omega), List.getElem?_eq_none (by simp; omega)]
  ·cases h
def nameList : List ByteArray := ⟨#[]⟩ :: tab.map Rw.nm
theorem glob_of_laid {W : World} (hL : laidMet Tryz.prog [("dyehouse/op.names", Rows.laid_dyehouse_op_names)] W) : Glob W := by
 have e : (Rows.laid_dyehouse_op_names : DataW Unit) = strData nameList := by rfl
 rw [e] at hL
 have hg : Tryz.prog.globalNamed "dyehouse/op.names" = some 1 := by kernel_rfl
 obtain ⟨ps, ⟨g', t', cs, fuel, p, q, hg', ht', hvar, hd, _, _⟩, _⟩ := hL
 obtain rfl := Option.some.inj (hg.symm.trans hg')
 have hty : (Tryz.prog.globals[1]?).map (·.type) = some 220 := by kernel_rfl
 obtain rfl := Option.some.inj (hty.symm.trans ht')
 have hcs := cells_of_strs Tryz.underlying220 Tryz.underlying9 (by kernel_rfl) (by kernel_rfl) hd
 have hn : nameList.map Value.string = nameRow.toList := by rfl
 rw [hn] at hcs
 have hc : ∀ j v, nameRow.toList[j]? = some v → W.cell? ⟨1, j, none⟩ = some v := fun j v hj => by
  have h1 := World.var?_cell hg hvar j
  rw [← Array.getElem?_toList, hcs] at h1
  exact h1.trans hj
 have h0 := hc 0 (.string ⟨#[]⟩) rfl
 refine ⟨?_, fun j v hj => by rw [Nat.zero_add]; exact hc j v hj⟩
 unfold World.cell? at h0
 cases hb : W.heap[1]? with
 | none => simp [hb] at h0
 | some c => exact (Array.getElem?_eq_some_iff.1 hb).1
end Go.Proofs.YtbpichjmkllfaaaGreatDoor.Opr
