/- Packed texts of one proof. Conditions: none. -/
import Derived.Test.YtbpichjmkllfaaaGreatDoorPq48
namespace Go.Proofs.YtbpichjmkllfaaaGreatDoor.Lex
open Go.ChangeShapes Go.WideShapes Go.RowKit
set_option linter.unusedVariables false
set_option maxRecDepth 20000
def Sq (s : ByteArray) (n : Nat) (t x : List UInt8) (y : Nat) (e : Int) : Prop := Quo.scan (s.size + 1) (s.data.toList.drop n) n t = (x, y, e)
theorem Sq.fin {s : ByteArray} {t x : List UInt8} {y : Nat} {e : Int} (h : Sq s s.size t x y e) : [] = x ∧ s.size = y ∧ 11 = e := by
 unfold Sq at h
 rw [List.drop_eq_nil_of_le (by rw [Nam.len_list]; exact Nat.le_refl _)] at h
 injection h with h1 h; injection h with h2 h3
 exact ⟨h1, h2, h3⟩
theorem Sq.quote {s : ByteArray} {n : Nat} {t x : List UInt8} {y : Nat} {e : Int} (h : Sq s n t x y e) (hn : n < s.size) (hq : s[n].toNat = 34) : t = x ∧ n + 1 = y ∧ 0 = e := by
 unfold Sq at h
 have e34 : s[n] = 34 := (u8_eq (n := 34) (by omega)).2 hq
 rw [Quo.drop_cons s n hn, Quo.scan, if_pos e34] at h
 injection h with h1 h; injection h with h2 h3
 exact ⟨h1, h2, h3⟩
theorem Sq.line {s : ByteArray} {n : Nat} {t x : List UInt8} {y : Nat} {e : Int} (h : Sq s n t x y e) (hn : n < s.size) (hq : s[n].toNat = 10) : [] = x ∧ n = y ∧ 11 = e := by
 unfold Sq at h
 have e10 : s[n] = 10 := (u8_eq (n := 10) (by omega)).2 hq
 rw [Quo.drop_cons s n hn, Quo.scan, if_neg (by rw [e10]; decide), if_pos e10] at h
 injection h with h1 h; injection h with h2 h3
 exact ⟨h1, h2, h3⟩
theorem Sq.long {s : ByteArray} {n : Nat} {t x : List UInt8} {y : Nat} {e : Int} (h : Sq s n t x y e) (hn : n < s.size) (q34 : s[n].toNat ≠ 34) (q10 : s[n].toNat ≠ 10) (q64 : t.length = 64) : [] = x ∧ n = y ∧ 3 = e := by
 unfold Sq at h
 have n34 : s[n] ≠ 34 := u8n (n := 34) q34 (by omega)
 have n10 : s[n] ≠ 10 := u8n (n := 10) q10 (by omega)
 rw [Quo.drop_cons s n hn, Quo.scan, if_neg n34, if_neg n10, if_pos q64] at h
 injection h with h1 h; injection h with h2 h3
 exact ⟨h1, h2, h3⟩
theorem Sq.bad {s : ByteArray} {n : Nat} {t x : List UInt8} {y : Nat} {e : Int} (h : Sq s n t x y e) (hn : n < s.size) (q34 : s[n].toNat ≠ 34) (q10 : s[n].toNat ≠ 10) (q64 : t.length ≠ 64) (hp : (Quo.piece (s.data.toList.drop n)).2 = 0) : [] = x ∧ n = y ∧ 11 = e := by
 unfold Sq at h
 have n34 : s[n] ≠ 34 := u8n (n := 34) q34 (by omega)
 have n10 : s[n] ≠ 10 := u8n (n := 10) q10 (by omega)
 rw [Quo.drop_cons s n hn] at hp h
 rw [Quo.scan, if_neg n34, if_neg n10, if_neg q64, if_pos hp] at h
 injection h with h1 h; injection h with h2 h3
 exact ⟨h1, h2, h3⟩
theorem Sq.step {s : ByteArray} {n n' m : Nat} {b : UInt8} {t x : List UInt8} {y : Nat} {e : Int} (h : Sq s n t x y e) (hn : n < s.size) (q34 : s[n].toNat ≠ 34) (q10 : s[n].toNat ≠ 10) (q64 : t.length ≠ 64) (hp : Quo.piece (s.data.toList.drop n) = (b, m)) (hm : m ≠ 0) (hn' : n + m = n') : Sq s n' (t ++ [b]) x y e := by
 unfold Sq at h ⊢
 have n34 : s[n] ≠ 34 := u8n (n := 34) q34 (by omega)
 have n10 : s[n] ≠ 10 := u8n (n := 10) q10 (by omega)
 have hd := Quo.drop_cons s n hn
 rw [hd] at hp h
 rw [Quo.scan_step _ _ _ n t n34 n10 q64 b m hp hm, ← hd, List.drop_drop, hn'] at h
 rw [← h]
 exact scan_fuel _ _ _ _ _ _ (Nat.le_refl _) (by rw [List.length_drop, Nam.len_list]; omega) (by rw [List.length_drop, Nam.len_list]; omega)
theorem conv1 (b : UInt8) (W : World) (g : Nat) (h : W.cell? ⟨g, 0, none⟩ = some (.int .u8 (b.toNat : Int))) : (convert 148 9 (.slice (some ⟨g, 0, none⟩) 1 1)).run Tryz.prog W = .ok (.string ⟨[b].toArray⟩) W := by
 refine run_convert_bytes_back W 148 9 5 _ 1 [b] Tryz.underlying148 Tryz.underlying5 Tryz.underlying9 (fun j hj => ?_)
 simp at hj
 subst hj
 exact h
theorem cat_text (t : List UInt8) (b : UInt8) : (⟨t.toArray⟩ : ByteArray) ++ ⟨[b].toArray⟩ = ⟨(t ++ [b]).toArray⟩ := by rw [ByteArray.mk_append_mk]
theorem add_text (t : List UInt8) (b : UInt8) (T : ByteArray) (hT : (⟨(t ++ [b]).toArray⟩ : ByteArray) = T) (ht : t.length ≤ 64) (W : World) : (Op.stringOp .add ⟨t.toArray⟩ ⟨[b].toArray⟩).run Tryz.prog W = .ok (.string T) W :=
 add_run _ _ T (by show t.length + 1 ≤ _; omega) (by rw [← hT]; exact cat_text t b) W
theorem u8_wrap (n : Nat) (h : n < 256) : IntKind.u8.wrap (n : Int) = (n : Int) := by
 have hb : (2 : Int) ^ IntKind.u8.bits = 256 := by decide
 have hs : IntKind.u8.signed = false := rfl
 simp only [IntKind.wrap, hb, hs, Bool.false_and]
 simp only [Bool.false_eq_true, if_false]
 omega
theorem piece_plain (s : ByteArray) (n : Nat) (hn : n < s.size) (h92 : s[n].toNat ≠ 92) : Quo.piece (s.data.toList.drop n) = (s[n], 1) := by
 rw [Quo.drop_cons s n hn]
 have n92 : s[n] ≠ 92 := u8n (n := 92) h92 (by omega)
 show (if s[n] = 92 then _ else _) = _
 rw [if_neg n92]
theorem piece_esc (s : ByteArray) (n : Nat) (hn : n < s.size) (h92 : s[n].toNat = 92) : Quo.piece (s.data.toList.drop n) = Quo.esc (s.data.toList.drop (n + 1)) := by
 rw [Quo.drop_cons s n hn]
 have e92 : s[n] = 92 := (u8_eq (n := 92) (by omega)).2 h92
 show (if s[n] = 92 then _ else _) = _
 rw [if_pos e92]
theorem st_lt (d k : Nat) : (st d k).1 < 256 ∧ (st d k).2 ≤ 2 := by
 unfold st
 split <;> (repeat' split) <;> simp
set_option maxHeartbeats 4000000 in
theorem dscan_v (s : ByteArray) (a fr : Nat) (x : List UInt8) (y : Nat) (e : Int) (hs : s.size ≤ 100000) (ha : a < s.size) (hq : s[a].toNat = 34) (hfr : a + 1 = fr) (hR : Sq s fr [] x y e) (w : World) :
  Calls Tryz.prog 43 #[.string s, .int .i64 (a : Int)] w fun e1 w' => e1 = Quo.E3 x y e ∧ Below w.heap.size w w' := by
 have h1 : ((s[a].toNat : Int) == 34) = true := by rw [beq_iff_eq]; omega
 have h2 : ((s[a].toNat : Int) != 34) = false := by rw [bne, h1]; rfl
 have h3 : (a : Int) < (s.size : Int) := by omega
 have h4 : decide (s.size ≤ a) = false := by rw [decide_eq_false_iff_not]; omega
 have h5 : decide ((a : Int) < 0) = false := by rw [decide_eq_false_iff_not]; omega
 have h6 : (a : Int) + 1 = (fr : Int) := by omega
 have hfs : fr ≤ s.size := by omega
 have HR := Hh hR
 clear hq hR hfr
 go_enter Tryz.func43, Tryz.ntmps43
 go_wp2_with fail
 clear h1 h2 h4 h5 h6
 go_loopg [7, 8] (s.size - fr) (fun gk u v wr => ∃ (n : Nat) (t : List UInt8) (T : ByteArray), n ≤ s.size ∧ t.length ≤ 64 ∧ T.size = t.length ∧ u = .string T ∧ v = .int .i64 (n : Int) ∧ gk = s.size - n ∧ Hid (Sq s n t x y e ∧ (⟨t.toArray⟩ : ByteArray) = T ∧ Below w.heap.size w wr))
 case atStart => exact ⟨fr, [], ⟨#[]⟩, hfs, by simp, rfl, rfl, rfl, rfl, HR.out, rfl, Below.refl _ _⟩
 case round =>
  obtain ⟨n, t, T, hn, ht, hTs, rfl, rfl, hgk, HH⟩ := hrel
  by_cases hl : n < s.size
  ·have hl' : (n : Int) < (s.size : Int) := by omega
   have hnl : ((n : Int) == (s.size : Int)) = false := by rw [Bqf]; omega
   by_cases q34 : s[n].toNat = 34
   ·obtain ⟨rfl, rfl, rfl⟩ := HH.out.1.quote hl q34
    have c1 : ((s[n].toNat : Int) == 34) = true := by rw [beq_iff_eq]; omega
    have c1' : ((s[n].toNat : Int) != 34) = false := by rw [bne, c1]; rfl
    have c2 : ((s[n].toNat : Int) == 10) = false := by rw [Bqf]; omega
    clear q34
    go_wp2_with fail
    go_ret3
    refine ⟨?_, HH.out.2.2⟩
    rw [← HH.out.2.1]
    exact Quo.ret_E3 rfl (by omega) rfl
   ·have c1 : ((s[n].toNat : Int) == 34) = false := by rw [Bqf]; omega
    have c1' : ((s[n].toNat : Int) != 34) = true := by rw [bne, c1]; rfl
    by_cases q10 : s[n].toNat = 10
    ·obtain ⟨rfl, rfl, rfl⟩ := HH.out.1.line hl q10
     have c2 : ((s[n].toNat : Int) == 10) = true := by rw [beq_iff_eq]; omega
     have c2' : ((s[n].toNat : Int) != 10) = false := by rw [bne, c2]; rfl
     clear q34 q10
     go_wp2_with fail
     go_ret3
     exact ⟨Quo.ret_E3 rfl rfl rfl, HH.out.2.2⟩
    ·have c2 : ((s[n].toNat : Int) == 10) = false := by rw [Bqf]; omega
     have c2' : ((s[n].toNat : Int) != 10) = true := by rw [bne, c2]; rfl
     by_cases q64 : t.length = 64
     ·obtain ⟨rfl, rfl, rfl⟩ := HH.out.1.long hl q34 q10 q64
      have c3 : ((T.size : Int) == 64) = true := by rw [beq_iff_eq]; omega
      clear q34 q10 q64
      go_wp2_with fail
      go_ret3
      exact ⟨Quo.ret_E3 rfl rfl rfl, HH.out.2.2⟩
     ·have c3 : ((T.size : Int) == 64) = false := by rw [Bqf]; omega
      have Q := Hh (Ai q34 (Ai q10 q64))
      clear q34 q10
      by_cases q92 : s[n].toNat = 92
      ·have c4 : ((s[n].toNat : Int) == 92) = true := by rw [beq_iff_eq]; omega
       have hpe := piece_esc s n hl q92
       obtain ⟨p, hp⟩ : ∃ p, n + 1 = p := ⟨_, rfl⟩
       rw [hp] at hpe
       have e1 : (n : Int) + 1 = (p : Int) := by omega
       have hps : p ≤ s.size := by omega
       have hsl := Quo.from_run s p hps
       obtain ⟨R, hRR⟩ : ∃ R, s.extract p s.size = R := ⟨_, rfl⟩
       have hRs : R.size = s.size - p := by rw [← hRR, Quo.extract_size]
       have hRl : R.data.toList = s.data.toList.drop p := by rw [← hRR, Quo.extract_list]
       rw [hRR] at hsl
       have e92 : s[n].toNat = 92 := q92
       have HP := Hh (Ai hpe (Ai hRl (Ai hp e92)))
       clear hpe hRR hRl hp q92
       by_cases hR0 : R.size = 0
       ·have hbad : (Quo.piece (s.data.toList.drop n)).2 = 0 := by
         rw [HP.out.1, ← HP.out.2.1, List.eq_nil_of_length_eq_zero (l := R.data.toList) (by rw [Nam.len_list]; exact hR0)]; rfl
        obtain ⟨rfl, rfl, rfl⟩ := HH.out.1.bad hl Q.out.1 Q.out.2.1 Q.out.2.2 hbad
        have r0 : (R.size : Int) = 0 := by omega
        clear hbad
        go_wp2_with fail
        go_ret3
        exact ⟨Quo.ret_E3 rfl rfl rfl, HH.out.2.2⟩
       ·have r1 : (0 : Int) < (R.size : Int) := by omega
        have r1' : 0 < R.size := by omega
        obtain ⟨d, hd⟩ : ∃ d, R[0] = d := ⟨_, rfl⟩
        have hi0 : ∀ W : World, (Instr.index 9 (.string R) (.int .i64 0)).run Tryz.prog W = .ok (.int .u8 (d.toNat : Int)) W := fun W => by rw [← hd]; exact str_run R 0 r1' W
        have hdl : s.data.toList.drop p = d :: R.data.toList.drop 1 := by
         rw [← HP.out.2.1]
         have := Quo.drop_cons R 0 r1'
         rw [List.drop_zero, hd] at this
         exact this
        have HDL := Hh hdl
        clear hR0 hd hdl
        go_wp2_with fail
        go_loopg [9, 10, 12] 4 (fun g2 u v z wr2 => ∃ k : Nat, k ≤ 4 ∧ u = .int .i64 ((st d.toNat k).2 : Int) ∧ v = .int .u8 ((st d.toNat k).1 : Int) ∧ z = .int .i64 (k : Int) ∧ g2 = 4 - k ∧ Hid (Below w.heap.size w wr2))
        case atStart => exact ⟨0, by omega, rfl, rfl, rfl, rfl, HH.out.2.2⟩
        case round =>
         obtain ⟨k, hk, rfl, rfl, rfl, hg2, HB⟩ := hrel
         by_cases hk4 : k < 4
         ·have hk4' : (k : Int) < 4 := by omega
          have ra := ka_run k hk4
          have rb := kb_run k hk4
          have hst := st_next d.toNat k hk4
          obtain ⟨A, hA⟩ : ∃ A, ka k = A := ⟨_, rfl⟩
          obtain ⟨B, hB⟩ : ∃ B, kb k = B := ⟨_, rfl⟩
          rw [hA] at ra hst
          rw [hB] at rb hst
          obtain ⟨S1, hS1⟩ : ∃ S1, (st d.toNat k).1 = S1 := ⟨_, rfl⟩
          obtain ⟨S2, hS2⟩ : ∃ S2, (st d.toNat k).2 = S2 := ⟨_, rfl⟩
          rw [hS1, hS2]
          have HS := Hh (Ai hst (Ai hS1 hS2))
          clear hst hA hB hS1 hS2
          by_cases hm : d.toNat = A
          ·have cm : ((d.toNat : Int) == (A : Int)) = true := by rw [beq_iff_eq]; omega
           have HM := Hh hm
           clear hm
           go_wp2_with fail
           go_quiet (fail)
           go_wp2_with fail
           go_roundg (4 - (k + 1))
           case measure => omega
           case rel =>
            refine ⟨k + 1, by omega, ?_, ?_, by go_num, rfl, HB.out.trans (Quo.below_drewN _ _ _)⟩
            ·rw [HS.out.1, if_pos HM.out]; rfl
            ·rw [HS.out.1, if_pos HM.out]
          ·have cm : ((d.toNat : Int) == (A : Int)) = false := by rw [Bqf]; omega
           have HM := Hh hm
           clear hm
           go_wp2_with fail
           go_quiet (fail)
           go_wp2_with fail
           go_roundg (4 - (k + 1))
           case measure => omega
           case rel =>
            refine ⟨k + 1, by omega, ?_, ?_, by go_num, rfl, HB.out.trans (Quo.below_drewN _ _ _)⟩
            ·rw [HS.out.1, if_neg HM.out, HS.out.2.2]
            ·rw [HS.out.1, if_neg HM.out, HS.out.2.1]
         ·obtain rfl : k = 4 := by omega
          clear hk hk4 hg2
          by_cases q120 : d.toNat = 120
          ·have e120 : d = 120 := (u8_eq (n := 120) (by omega)).2 q120
           have cd : ((d.toNat : Int) == 120) = true := by rw [beq_iff_eq]; omega
           have hS : st d.toNat 4 = (92, 0) := by rw [q120]; rfl
           rw [hS]
           have hesc : Quo.piece (s.data.toList.drop n) = Quo.two (R.data.toList.drop 1) := by
            rw [HP.out.1, HDL.out, e120]; rfl
           by_cases hR2 : 2 < R.size
           ·have r2 : (2 : Int) < (R.size : Int) := by omega
            have l1 : 1 < R.size := by omega
            obtain ⟨d1, hd1⟩ : ∃ d1, R[1] = d1 := ⟨_, rfl⟩
            obtain ⟨d2, hd2⟩ : ∃ d2, R[2] = d2 := ⟨_, rfl⟩
            have hi1 : ∀ W : World, (Instr.index 9 (.string R) (.int .i64 1)).run Tryz.prog W = .ok (.int .u8 (d1.toNat : Int)) W := fun W => by rw [← hd1]; exact str_run R 1 l1 W
            have hi2 : ∀ W : World, (Instr.index 9 (.string R) (.int .i64 2)).run Tryz.prog W = .ok (.int .u8 (d2.toNat : Int)) W := fun W => by rw [← hd2]; exact str_run R 2 hR2 W
            have hdr : R.data.toList.drop 1 = d1 :: d2 :: R.data.toList.drop 3 := by
             rw [Quo.drop_cons R 1 l1, Quo.drop_cons R 2 hR2, hd1, hd2]
            obtain ⟨n1, hn1⟩ : ∃ n1, Quo.dig d1 = n1 := ⟨_, rfl⟩
            obtain ⟨n2, hn2⟩ : ∃ n2, Quo.dig d2 = n2 := ⟨_, rfl⟩
            have hpc : Quo.piece (s.data.toList.drop n) = if n1 < 16 ∧ n2 < 16 then (UInt8.ofNat (16 * n1 + n2), 4) else (0, 0) := by
             rw [hesc, hdr, ← hn1, ← hn2]; rfl
            have hx1 := hex_v d1 (n1 : Int) (by rw [hn1])
            have hx2 := hex_v d2 (n2 : Int) (by rw [hn2])
            have HX := Hh (Ai hx1 hx2)
            have HXQ := Hh (Ai (fun W => (hx1 W).mono fun _ _ ⟨p, q⟩ => Ai p q.symm) (fun W => (hx2 W).mono fun _ _ ⟨p, q⟩ => Ai p q.symm))
            clear hesc hdr hd1 hd2 hn1 hn2 hx1 hx2 hS q120 e120
            by_cases k1 : n1 < 16
            ·have k1' : (n1 : Int) < 16 := by omega
             by_cases k2 : n2 < 16
             ·have k2' : (n2 : Int) < 16 := by omega
              rw [if_pos ⟨k1, k2⟩] at hpc
              obtain ⟨b, hb⟩ : ∃ b, UInt8.ofNat (16 * n1 + n2) = b := ⟨_, rfl⟩
              have hbn : b.toNat = 16 * n1 + n2 := by rw [← hb]; simp; omega
              rw [hb] at hpc
              obtain ⟨p1, hp1⟩ : ∃ p1, 16 * n1 = p1 := ⟨_, rfl⟩
              have m1 : (16 : Int) * (n1 : Int) = (p1 : Int) := by omega
              have m2 : IntKind.i64.wrap (p1 : Int) = (p1 : Int) := IntWalk.i64_in _ (by omega)
              have m3 : (p1 : Int) + (n2 : Int) = (b.toNat : Int) := by omega
              have m4 : IntKind.i64.wrap (b.toNat : Int) = (b.toNat : Int) := IntWalk.i64_in _ (by omega)
              have m5 : IntKind.u8.wrap (b.toNat : Int) = (b.toNat : Int) := by
               have hbl : b.toNat < 256 := by omega
               exact u8_wrap _ hbl
              obtain ⟨n', hn'⟩ : ∃ n', n + 4 = n' := ⟨_, rfl⟩
              have e2 : (n : Int) + 4 = (n' : Int) := by omega
              have hn's : n' ≤ s.size := by
               have := Quo.piece_size (s.data.toList.drop n)
               rw [hpc, List.length_drop, Nam.len_list] at this
               simp at this; omega
              obtain ⟨T2, hT2⟩ : ∃ T2 : ByteArray, (⟨(t ++ [b]).toArray⟩ : ByteArray) = T2 := ⟨_, rfl⟩
              have hcv := conv1 b
              have hadd := add_text t b T2 hT2 ht
              rw [HH.out.2.1] at hadd
              have hcv2 : ∀ nq, (convert 148 9 (.slice (some ⟨wr.heap.size, 0, none⟩) 1 1)).run Tryz.prog ((wr.drewN nq).alloc (.cells #[.int .u8 (b.toNat : Int)] 5)) = .ok (.string ⟨[b].toArray⟩) ((wr.drewN nq).alloc (.cells #[.int .u8 (b.toNat : Int)] 5)) := fun nq => Quo.one_convert (wr.drewN nq) b
              have HP2 := Hh (Ai hpc (Ai hT2 hn'))
              clear hpc hT2 hn' hb hbn hp1 k1 k2
              go_wp2_with fail
              refine (HX.out.1 _).mono ?_
              rintro e1 w5 ⟨rfl, rfl⟩
              go_wp2_with fail
              refine (HX.out.2 _).mono ?_
              rintro e1 w5 ⟨rfl, rfl⟩
              go_wp2_with fail
              go_quiet (first | (go_at_call_of 71 (Value.int .u8 (d1.toNat : Int)); exact Calls.quiet_of_same (HXQ.out.1 _)) | (go_at_call_of 71 (Value.int .u8 (d2.toNat : Int)); exact Calls.quiet_of_same (HXQ.out.2 _)))
              go_wp2_with fail
              go_roundg (s.size - n')
              case measure => have := HP2.out.2.2; omega
              case rel => exact ⟨n', t ++ [b], T2, hn's, by simp; omega, by rw [← HP2.out.2.1]; rfl, rfl, rfl, rfl, HH.out.1.step hl Q.out.1 Q.out.2.1 Q.out.2.2 HP2.out.1 (by decide) HP2.out.2.2, HP2.out.2.1, ((HB.out.trans (Quo.below_drewN _ _ _)).alloc HB.out.size _)⟩
             ·have k2' : (16 : Int) ≤ (n2 : Int) := by omega
              rw [if_neg (fun h => k2 h.2)] at hpc
              obtain ⟨rfl, rfl, rfl⟩ := HH.out.1.bad hl Q.out.1 Q.out.2.1 Q.out.2.2 (by rw [hpc])
              clear hpc k1 k2
              go_wp2_with fail
              refine (HX.out.1 _).mono ?_
              rintro e1 w5 ⟨rfl, rfl⟩
              go_wp2_with fail
              refine (HX.out.2 _).mono ?_
              rintro e1 w5 ⟨rfl, rfl⟩
              go_wp2_with fail
              go_ret3
              exact ⟨Quo.ret_E3 rfl rfl rfl, HB.out⟩
            ·have k1' : (16 : Int) ≤ (n1 : Int) := by omega
             rw [if_neg (fun h => k1 h.1)] at hpc
             obtain ⟨rfl, rfl, rfl⟩ := HH.out.1.bad hl Q.out.1 Q.out.2.1 Q.out.2.2 (by rw [hpc])
             clear hpc k1
             go_wp2_with fail
             refine (HX.out.1 _).mono ?_
             rintro e1 w5 ⟨rfl, rfl⟩
             go_wp2_with fail
             go_ret3
             exact ⟨Quo.ret_E3 rfl rfl rfl, HB.out⟩
           ·have r2 : (R.size : Int) ≤ 2 := by omega
            have hbad : (Quo.piece (s.data.toList.drop n)).2 = 0 := by
             rw [hesc]
             have hlen : (R.data.toList.drop 1).length ≤ 1 := by rw [List.length_drop, Nam.len_list]; omega
             revert hlen
             generalize R.data.toList.drop 1 = L
             intro hlen
             match L, hlen with
             | [], _ => rfl
             | [_], _ => rfl
            obtain ⟨rfl, rfl, rfl⟩ := HH.out.1.bad hl Q.out.1 Q.out.2.1 Q.out.2.2 hbad
            clear q120 e120 hS hesc hbad hR2
            go_wp2_with fail
            go_ret3
            exact ⟨Quo.ret_E3 rfl rfl rfl, HB.out⟩
          ·have cd : ((d.toNat : Int) == 120) = false := by rw [Bqf]; omega
           have hesc := st_esc d (R.data.toList.drop 1) q120
           obtain ⟨S1, S2, hS⟩ : ∃ S1 S2, st d.toNat 4 = (S1, S2) := ⟨_, _, rfl⟩
           have hlt := st_lt d.toNat 4
           rw [hS] at hesc hlt ⊢
           have hpc : Quo.piece (s.data.toList.drop n) = if S2 = 0 then (0, 0) else (UInt8.ofNat S1, S2) := by rw [HP.out.1, HDL.out]; exact hesc
           have s1 : S1 < 256 := hlt.1
           have s2 : S2 ≤ 2 := hlt.2
           clear hesc hlt hS q120
           by_cases h0 : S2 = 0
           ·subst h0
            rw [if_pos rfl] at hpc
            obtain ⟨rfl, rfl, rfl⟩ := HH.out.1.bad hl Q.out.1 Q.out.2.1 Q.out.2.2 (by rw [hpc])
            clear hpc
            by_cases hR2 : 2 < R.size
            ·have r2 : (2 : Int) < (R.size : Int) := by omega
             go_wp2_with fail
             go_ret3
             exact ⟨Quo.ret_E3 rfl rfl rfl, HB.out⟩
            ·have r2 : (R.size : Int) ≤ 2 := by omega
             go_wp2_with fail
             go_ret3
             exact ⟨Quo.ret_E3 rfl rfl rfl, HB.out⟩
           ·rw [if_neg h0] at hpc
            have c0 : ((S2 : Int) == 0) = false := by rw [Bqf]; omega
            obtain ⟨b, hb⟩ : ∃ b, UInt8.ofNat S1 = b := ⟨_, rfl⟩
            have hbn : b.toNat = S1 := by rw [← hb]; simp; omega
            rw [hb] at hpc
            rw [← hbn]
            obtain ⟨n', hn'⟩ : ∃ n', n + S2 = n' := ⟨_, rfl⟩
            have e2 : (n : Int) + (S2 : Int) = (n' : Int) := by omega
            have hn's : n' ≤ s.size := by
             have := Quo.piece_size (s.data.toList.drop n)
             rw [hpc, List.length_drop, Nam.len_list] at this
             simp at this; omega
            obtain ⟨T2, hT2⟩ : ∃ T2 : ByteArray, (⟨(t ++ [b]).toArray⟩ : ByteArray) = T2 := ⟨_, rfl⟩
            have hcv := conv1 b
            have hadd := add_text t b T2 hT2 ht
            rw [HH.out.2.1] at hadd
            have HP2 := Hh (Ai hpc (Ai hT2 (Ai hn' h0)))
            clear hpc hT2 hn' h0 hb hbn
            by_cases hR2 : 2 < R.size
            ·have r2 : (2 : Int) < (R.size : Int) := by omega
             go_wp2_with fail
             go_roundg (s.size - n')
             case measure => have := HP2.out.2.2; omega
             case rel => exact ⟨n', t ++ [b], T2, hn's, by simp; omega, by rw [← HP2.out.2.1]; rfl, rfl, rfl, rfl, HH.out.1.step hl Q.out.1 Q.out.2.1 Q.out.2.2 HP2.out.1 HP2.out.2.2.2 HP2.out.2.2.1, HP2.out.2.1, HB.out.alloc HB.out.size _⟩
            ·have r2 : (R.size : Int) ≤ 2 := by omega
             go_wp2_with fail
             go_roundg (s.size - n')
             case measure => have := HP2.out.2.2; omega
             case rel => exact ⟨n', t ++ [b], T2, hn's, by simp; omega, by rw [← HP2.out.2.1]; rfl, rfl, rfl, rfl, HH.out.1.step hl Q.out.1 Q.out.2.1 Q.out.2.2 HP2.out.1 HP2.out.2.2.2 HP2.out.2.2.1, HP2.out.2.1, HB.out.alloc HB.out.size _⟩
      ·have c4 : ((s[n].toNat : Int) == 92) = false := by rw [Bqf]; omega
       obtain ⟨T2, hT2⟩ : ∃ T2 : ByteArray, (⟨(t ++ [s[n]]).toArray⟩ : ByteArray) = T2 := ⟨_, rfl⟩
       have hcv := conv1 s[n]
       have hadd := add_text t s[n] T2 hT2 ht
       rw [HH.out.2.1] at hadd
       have HP := Hh (Ai (piece_plain s n hl q92) hT2)
       clear q92 hT2
       go_wp2_with fail
       go_roundg (s.size - (n + 1))
       case measure => omega
       case rel => exact ⟨n + 1, t ++ [s[n]], T2, by omega, by simp; omega, by rw [← HP.out.2]; rfl, rfl, by go_num, rfl, HH.out.1.step hl Q.out.1 Q.out.2.1 Q.out.2.2 HP.out.1 (by decide) rfl, HP.out.2, HH.out.2.2.alloc HH.out.2.2.size _⟩
  ·obtain rfl : n = s.size := by omega
   obtain ⟨rfl, rfl, rfl⟩ := HH.out.1.fin
   clear hn
   go_wp2_with fail
   go_ret3
   exact ⟨Quo.ret_E3 rfl rfl rfl, HH.out.2.2⟩
end Go.Proofs.YtbpichjmkllfaaaGreatDoor.Lex
