
/- The registers that a call spoils, a target, a call that was made, written. -/
import Derived.Test.YtakfoncdiejhaaaNotLeaf
import Derived.Test.YtakfoncdiejhaaaNotSpo
namespace Go.Proofs.Ytakfoncdiejhaaa.Nt
open Go.ChangeShapes Go.WideShapes Go.RowKit
set_option linter.unusedVariables false
set_option maxRecDepth 20000

theorem LocsK.keeps {w w' : World} {A : Option Addr} {n : Nat} {l : List (Nat × Int)} (h : Sp.LocsK w A n l) (hk : Keeps w w') : Sp.LocsK w' A n l := by
  obtain ⟨h1, h2, h3 | ⟨g, cs, e, hg, hc⟩⟩ := h
  · exact ⟨h1, h2, .inl h3⟩
  · exact ⟨h1, h2, .inr ⟨g, cs, e, hk g cs _ (by decide) (by decide) hg, hc⟩⟩
def spsT (l : List (Nat × Int)) : List UInt8 := l.flatMap fun x => 32 :: Tg.nameOf 2 (x.1 : Int) x.2
def cloN (n : Nat) : List UInt8 := if n = 0 then [] else [32, 99, 108, 111, 98, 98, 101, 114]
theorem spsT_take (l : List (Nat × Int)) (k : Nat) (x : Nat × Int) (h : l[k]? = some x) : spsT (l.take (k + 1)) = spsT (l.take k) ++ (32 :: Tg.nameOf 2 (x.1 : Int) x.2) := flat_take (fun x : Nat × Int => 32 :: Tg.nameOf 2 (x.1 : Int) x.2) l k x h
theorem spsT_le (l : List (Nat × Int)) (k : Nat) : (spsT (l.take k)).length ≤ (spsT l).length := flat_le (fun x : Nat × Int => 32 :: Tg.nameOf 2 (x.1 : Int) x.2) l k
set_option maxHeartbeats 2000000 in
theorem spoilt_v (w0 : World) (b : Nat) (l t : List UInt8) (A : Option Addr) (n c : Nat) (list : List (Nat × Int)) (W : World) (h : Wr w0 b l W) (hl : Sp.LocsK W A n list) (hf : ∀ x ∈ list, Deci.fit x.2) (ht : l ++ (cloN n ++ spsT list) = t) (hlen : t.length ≤ big) :
    Calls Try.prog 23 #[.pointer (some ⟨b, 0, none⟩), .slice A n c] W fun e w' => e = .returned (.tuple #[]) ∧ Wrote w0 b t W w' := by
  by_cases hz : n = 0
  · subst hz
    have e : l = t := by rw [← ht, List.eq_nil_of_length_eq_zero hl.len]; simp [cloN, spsT]
    subst e
    have HP := Lib.hid h
    clear h hl hf ht hlen
    go_enter Try.func23, Try.ntmps23
    go_wp2_with fail
    refine bodyPost_ret (results_none rfl _ _ _) rfl ?_
    exact ⟨rfl, HP.out.wrote⟩
  · have z1 : ((n : Int) == 0) = false := by simp; omega
    have z2 : ¬ (n : Int) = 0 := by omega
    have hn := hl.most
    obtain ⟨T1, hT1⟩ : ∃ T, l ++ (ByteArray.mk #[32, 99, 108, 111, 98, 98, 101, 114]).data.toList = T := ⟨_, rfl⟩
    have t2 : T1 ++ spsT list = t := by rw [← ht, ← hT1]; simp [cloN, hz]
    have l2 := congrArg List.length t2
    simp only [List.length_append] at l2
    have hTl : ∀ k, (T1 ++ spsT (list.take k)).length ≤ big := fun k => by
      have h1 := spsT_le list k
      rw [List.length_append]
      omega
    have HP := Lib.hid (And.intro h (And.intro hl (And.intro hf (And.intro hTl (And.intro hT1 (And.intro t2 (show T1.length ≤ big by omega)))))))
    clear h hl hf hTl hT1 t2 ht hlen l2 hz
    go_enter Try.func23, Try.ntmps23
    go_wp2_with fail
    clear z1 z2
    refine (write_s w0 b l T1 _ _ HP.out.1 HP.out.2.2.2.2.1 HP.out.2.2.2.2.2.2).mono ?_
    rintro e w1 ⟨rfl, h1⟩
    have H1 := Lib.hid h1
    clear h1
    go_wp2_with fail
    go_loopg [15] n (fun gk u wr => ∃ k : Nat, k + gk = n ∧ u = .int .i64 (k : Int) ∧ Hid (Wrote w0 b (T1 ++ spsT (list.take k)) W wr))
    case atStart => exact ⟨0, by omega, rfl, H1.out.to (by simp [spsT])⟩
    case round =>
      obtain ⟨k, hk, rfl, HH⟩ := hrel
      by_cases hlt : k < n
      · obtain ⟨g, x, rfl, hx, c0, c1, c2⟩ := (LocsK.keeps HP.out.2.1 HH.out.2).at hlt
        have i1 : (k : Int) < (n : Int) := by omega
        have hnext := spsT_take list k x hx
        have hxf := HP.out.2.2.1 x (List.mem_of_getElem? hx)
        obtain ⟨xc, xn⟩ := x
        dsimp only at c0 c1 c2 hnext hxf
        have HX := Lib.hid (And.intro hnext hxf)
        clear hnext hxf hx
        have hal := heap_alloc_new wr (.cells #[.int .i64 2, .int .i64 (xc : Int), .int .i64 xn] 33)
        have HA := HH.out.1.alloc (.cells #[.int .i64 2, .int .i64 (xc : Int), .int .i64 xn] 33)
        have KA : Keeps W (wr.alloc (.cells #[.int .i64 2, .int .i64 (xc : Int), .int .i64 xn] 33)) := HH.out.2.trans (Keeps.below ((Below.refl _ wr).alloc (Nat.le_refl _) _))
        obtain ⟨wB, hwB⟩ : ∃ wB, wr.alloc (.cells #[.int .i64 2, .int .i64 (xc : Int), .int .i64 xn] 33) = wB := ⟨_, rfl⟩
        rw [hwB] at hal HA KA
        have H5 := Lib.hid (And.intro hal (And.intro HA KA))
        clear hal HA KA
        have hs : (T1 ++ spsT (list.take k) ++ [32]).length ≤ big := by
          have h1 := HP.out.2.2.2.1 (k + 1)
          rw [HX.out.1] at h1
          simp only [List.length_append, List.length_cons, List.length_nil] at h1 ⊢
          omega
        have HS := Lib.hid hs
        clear hs
        go_wp2_with fail
        clear hwB c0 c1 c2
        refine (write_b w0 b (T1 ++ spsT (list.take k)) _ 32 32 wB H5.out.2.1 rfl rfl HS.out).mono ?_
        rintro e w6 ⟨rfl, h6⟩
        obtain ⟨c0, c1, c2⟩ := three_in (h6.box H5.out.1 (by decide) (by decide))
        have H6 := Lib.hid h6
        clear h6
        go_wp2_with fail
        refine (place_v w0 b _ (T1 ++ spsT (list.take (k + 1))) 2 (xc : Int) xn w6 H6.out.1 HX.out.2 (by rw [HX.out.1]; simp) (HP.out.2.2.2.1 (k + 1))).mono ?_
        rintro e w7 ⟨rfl, h7⟩
        have H7 := Lib.hid (And.intro h7.1 ((H5.out.2.2.trans H6.out.2).trans h7.2))
        clear h7
        go_wp2_with fail
        go_roundg (gk - 1)
        case measure => omega
        case rel => exact ⟨k + 1, by omega, by go_num, H7.out⟩
      · obtain rfl : k = n := by omega
        have hge : ¬ (k : Int) < (k : Int) := by omega
        go_wp2_with fail
        go_end0
        refine ⟨rfl, HH.out.to ?_⟩
        rw [← HP.out.2.2.2.2.2.1, List.take_of_length_le (by rw [HP.out.2.1.len]; exact Nat.le_refl _)]
theorem two_in {W : World} {Q : Nat} {a0 a1 : Value} {t : TypeId} (h : W.heap[Q]? = some (.cells #[a0, a1] t (0, 0))) : W.cell? ⟨Q, 0, none⟩ = some a0 ∧ W.cell? ⟨Q, 1, none⟩ = some a1 := ⟨cell_in h 0, cell_in h 1⟩
theorem five_in {W : World} {Q : Nat} {a0 a1 a2 a3 a4 : Value} {t : TypeId} (h : W.heap[Q]? = some (.cells #[a0, a1, a2, a3, a4] t (0, 0))) : W.cell? ⟨Q, 0, none⟩ = some a0 ∧ W.cell? ⟨Q, 1, none⟩ = some a1 ∧ W.cell? ⟨Q, 2, none⟩ = some a2 ∧ W.cell? ⟨Q, 3, none⟩ = some a3 ∧ W.cell? ⟨Q, 4, none⟩ = some a4 := ⟨cell_in h 0, cell_in h 1, cell_in h 2, cell_in h 3, cell_in h 4⟩
theorem sps_spo (r0 r1 slots : Int) (c0 c1 : List Int) : spsT (Sp.spAll ⟨r0, r1, c0, c1, slots⟩) = spoT 0 c0 ++ spoT 1 c1 := by
  unfold spsT Sp.spAll Sp.spl spoT
  simp [List.flatMap_append, List.flatMap_map, Sp.Tgt.c]
theorem sp_len (r0 r1 slots : Int) (c0 c1 : List Int) : (Sp.spAll ⟨r0, r1, c0, c1, slots⟩).length = c0.length + c1.length := by
  unfold Sp.spAll Sp.spl
  simp [Sp.Tgt.c]
theorem sp_fit (r0 r1 slots : Int) (c0 c1 : List Int) (h0 : ∀ n ∈ c0, Deci.fit n) (h1 : ∀ n ∈ c1, Deci.fit n) : ∀ x ∈ Sp.spAll ⟨r0, r1, c0, c1, slots⟩, Deci.fit x.2 := by
  intro x hx
  unfold Sp.spAll Sp.spl at hx
  simp [Sp.Tgt.c] at hx
  rcases hx with ⟨a, ha, rfl⟩ | ⟨a, ha, rfl⟩
  · exact h0 a ha
  · exact h1 a ha
set_option maxHeartbeats 4000000 in
theorem target_v (w0 : World) (b : Nat) (l t : List UInt8) (r0 r1 : Int) (c0 c1 : List Int) (slots : Int) (a0 : Option Addr) (n0 p0 : Nat) (a1 : Option Addr) (n1 p1 : Nat) (W : World) (h : Wr w0 b l W) (h0 : IsInts w0 a0 n0 c0) (h1 : IsInts w0 a1 n1 c1)
    (f0 : Deci.fit r0) (f1 : Deci.fit r1) (f2 : Deci.fit slots) (g0 : ∀ n ∈ c0, Deci.fit n) (g1 : ∀ n ∈ c1, Deci.fit n) (s0 : n0 ≤ 1048576) (s1 : n1 ≤ 1048576) (ht : l ++ tgtT r0 r1 c0 c1 slots = t) (hlen : t.length ≤ big) :
    Calls Try.prog 13 #[.pointer (some ⟨b, 0, none⟩), .agg #[.int .i64 r0, .int .i64 r1, .slice a0 n0 p0, .slice a1 n1 p1, .int .i64 slots]] W fun e w' => e = .returned (.tuple #[]) ∧ Wrote w0 b t W w' := by
  have HA := Lib.hid (And.intro (h.alloc (.cells #[.int .i64 r0, .int .i64 r1, .slice a0 n0 p0, .slice a1 n1 p1, .int .i64 slots] 31)) (And.intro ((Below.refl _ W).alloc (Nat.le_refl _) (.cells #[.int .i64 r0, .int .i64 r1, .slice a0 n0 p0, .slice a1 n1 p1, .int .i64 slots] 31)) (heap_alloc_new W (.cells #[.int .i64 r0, .int .i64 r1, .slice a0 n0 p0, .slice a1 n1 p1, .int .i64 slots] 31))))
  obtain ⟨T0, hT0⟩ : ∃ T, l ++ (ByteArray.mk #[116, 97, 114, 103, 101, 116]).data.toList = T := ⟨_, rfl⟩
  obtain ⟨T1, hT1⟩ : ∃ T, T0 ++ (32 :: ((ByteArray.mk #[103]).data.toList ++ (32 :: Deci.txt r0))) = T := ⟨_, rfl⟩
  obtain ⟨T2, hT2⟩ : ∃ T, T1 ++ (32 :: ((ByteArray.mk #[120]).data.toList ++ (32 :: Deci.txt r1))) = T := ⟨_, rfl⟩
  obtain ⟨T3, hT3⟩ : ∃ T, T2 ++ (32 :: ((ByteArray.mk #[115, 108, 111, 116, 115]).data.toList ++ (32 :: Deci.txt slots))) = T := ⟨_, rfl⟩
  obtain ⟨N, hN⟩ : ∃ N, c0.length + c1.length = N := ⟨_, rfl⟩
  have hcl : cloT c0 c1 = cloN N := by unfold cloT cloN; rw [hN]
  obtain ⟨T4, hT4⟩ : ∃ T, T3 ++ (cloN N ++ spsT (Sp.spAll ⟨r0, r1, c0, c1, slots⟩)) = T := ⟨_, rfl⟩
  have t5 : T4 ++ (ByteArray.mk #[59, 10]).data.toList = t := by
    rw [← ht, ← hT4, sps_spo, ← hcl, ← hT3, ← hT2, ← hT1, ← hT0]; simp [tgtT, tgtT1]
  have l0 := congrArg List.length hT0
  have l1 := congrArg List.length hT1
  have l2 := congrArg List.length hT2
  have l3 := congrArg List.length hT3
  have l4 := congrArg List.length hT4
  have l5 := congrArg List.length t5
  rw [List.length_append] at l0 l1 l2 l3 l4 l5
  have HL := Lib.hid (And.intro (show T0.length ≤ big by omega) (And.intro (show T1.length ≤ big by omega) (And.intro (show T2.length ≤ big by omega) (And.intro (show T3.length ≤ big by omega) (And.intro (show T4.length ≤ big by omega) hlen)))))
  have HT := Lib.hid (And.intro hT0 (And.intro hT1 (And.intro hT2 (And.intro hT3 (And.intro hT4 t5)))))
  have HF := Lib.hid (And.intro f0 (And.intro f1 f2))
  have HI := Lib.hid (And.intro h0 (And.intro h1 (And.intro g0 (And.intro g1 (And.intro (show c0.length ≤ 1048576 by rw [h0.1]; exact s0) (show c1.length ≤ 1048576 by rw [h1.1]; exact s1))))))
  have HN := Lib.hid ((sp_len r0 r1 slots c0 c1).trans hN)
  clear h h0 h1 f0 f1 f2 g0 g1 s0 s1 ht hlen hT0 hT1 hT2 hT3 hT4 t5 l0 l1 l2 l3 l4 l5 hcl hN
  obtain ⟨wa, hwa⟩ : ∃ wa, W.alloc (.cells #[.int .i64 r0, .int .i64 r1, .slice a0 n0 p0, .slice a1 n1 p1, .int .i64 slots] 31) = wa := ⟨_, rfl⟩
  rw [hwa] at HA
  obtain ⟨P, hP⟩ : ∃ P, W.heap.size = P := ⟨_, rfl⟩
  have HB := Lib.hid (show wa.heap[P]? = some (.cells #[.int .i64 r0, .int .i64 r1, .slice a0 n0 p0, .slice a1 n1 p1, .int .i64 slots] 31 (0, 0)) from by rw [← hP]; exact HA.out.2.2)
  have HPP := Lib.hid hP
  clear hP
  go_enter Try.func13, Try.ntmps13
  go_wp2_with fail
  clear hwa
  rw [HPP.out]
  refine (write_s w0 b l T0 _ _ HA.out.1 HT.out.1 HL.out.1).mono ?_
  rintro e w1 ⟨rfl, h1⟩
  have H1 := Lib.hid h1
  clear h1
  go_wp2_with fail
  go_loopg [9] 2 (fun gk u wr => ∃ c : Nat, c + gk = 2 ∧ u = .int .i64 (c : Int) ∧ Hid (Wrote w0 b (if c = 0 then T0 else if c = 1 then T1 else T2) wa wr))
  case atStart => exact ⟨0, by omega, rfl, H1.out⟩
  case round =>
    obtain ⟨c, hk, rfl, HH⟩ := hrel
    rcases (by omega : c = 0 ∨ c = 1 ∨ c = 2) with rfl | rfl | rfl
    · obtain rfl : gk = 2 := by omega
      have iC : (0 : Int) < 2 := by omega
      have H2 := Lib.hid (Wrote.to (t := T0) HH.out (by simp))
      clear HH
      obtain ⟨k0, k1, k2, k3, k4⟩ := five_in (H2.out.box HB.out (by decide) (by decide))
      go_wp2_with fail
      go_region_held3 (fun w' => w'.cell? ⟨P, 0, none⟩ = some (.int .i64 r0))
        (first | exact S3.out | exact k0)
        (first
          | (go_at_call 21; (refine (has_v w0 b T0 T1 ⟨#[103]⟩ r0 _ H2.out.1.drew HF.out.1 HT.out.2.1 HL.out.2.1).mono ?_); rintro e w3 ⟨rfl, h3⟩; have H3 := Lib.hid (show Wrote w0 b T1 wa w3 from ⟨h3.1, (H2.out.2.trans Keeps.drew).trans h3.2⟩); have S3 := Lib.hid ((five_in (H3.out.box HB.out (by decide) (by decide))).1); clear h3)
          | (go_at_call 22; (refine (Tg.letter_v 0 ⟨#[103]⟩ rfl _).mono ?_); rintro e w2 ⟨rfl, rfl⟩))
      clear k0 k1 k2 k3 k4 S3
      go_wp2_with fail
      go_roundg 1
      case measure => omega
      case rel => exact ⟨1, by omega, by go_num, Wrote.to H3.out (by simp)⟩
    · obtain rfl : gk = 1 := by omega
      have iC : (1 : Int) < 2 := by omega
      have H2 := Lib.hid (Wrote.to (t := T1) HH.out (by simp))
      clear HH
      obtain ⟨k0, k1, k2, k3, k4⟩ := five_in (H2.out.box HB.out (by decide) (by decide))
      go_wp2_with fail
      go_region_held3 (fun w' => w'.cell? ⟨P, 1, none⟩ = some (.int .i64 r1))
        (first | exact S3.out | exact k1)
        (first
          | (go_at_call 21; (refine (has_v w0 b T1 T2 ⟨#[120]⟩ r1 _ H2.out.1.drew HF.out.2.1 HT.out.2.2.1 HL.out.2.2.1).mono ?_); rintro e w3 ⟨rfl, h3⟩; have H3 := Lib.hid (show Wrote w0 b T2 wa w3 from ⟨h3.1, (H2.out.2.trans Keeps.drew).trans h3.2⟩); have S3 := Lib.hid ((five_in (H3.out.box HB.out (by decide) (by decide))).2.1); clear h3)
          | (go_at_call 22; (refine (Tg.letter_v 1 ⟨#[120]⟩ rfl _).mono ?_); rintro e w2 ⟨rfl, rfl⟩))
      clear k0 k1 k2 k3 k4 S3
      go_wp2_with fail
      go_roundg 0
      case measure => omega
      case rel => exact ⟨2, by omega, by go_num, Wrote.to H3.out (by simp)⟩
    · have iC : ¬ (2 : Int) < 2 := by omega
      have H2 := Lib.hid (Wrote.to (t := T2) HH.out (by simp))
      clear HH
      obtain ⟨k0, k1, k2, k3, k4⟩ := five_in (H2.out.box HB.out (by decide) (by decide))
      go_wp2_with fail
      clear k0 k1 k2 k3 k4
      refine (has_v w0 b T2 T3 _ slots _ H2.out.1 HF.out.2.2 HT.out.2.2.2.1 HL.out.2.2.2.1).mono ?_
      rintro e w3 ⟨rfl, h3⟩
      have H3 := Lib.hid (show Wrote w0 b T3 wa w3 from ⟨h3.1, H2.out.2.trans h3.2⟩)
      clear h3
      obtain ⟨k0, k1, k2, k3, k4⟩ := five_in (H3.out.box HB.out (by decide) (by decide))
      go_wp2_with fail
      clear k0 k1 k2 k3 k4
      refine (Sp.spoilt_v ⟨r0, r1, c0, c1, slots⟩ ⟨a0, n0, p0, a1, n1, p1⟩ w3 ⟨HI.out.1.below H3.out.1.2, HI.out.2.1.below H3.out.1.2⟩ HI.out.2.2.2.2.1 HI.out.2.2.2.2.2).mono ?_
      rintro e w4 ⟨A, cp, rfl, hL, hb⟩
      rw [HN.out] at hL ⊢
      have H4 := Lib.hid (And.intro (show Wrote w0 b T3 wa w4 from ⟨H3.out.1.below hb, H3.out.2.trans (Keeps.below hb)⟩) hL)
      clear hb hL
      go_wp2_with fail
      refine (spoilt_v w0 b T3 T4 A N cp (Sp.spAll ⟨r0, r1, c0, c1, slots⟩) w4 H4.out.1.1 H4.out.2 (sp_fit r0 r1 slots c0 c1 HI.out.2.2.1 HI.out.2.2.2.1) HT.out.2.2.2.2.1 HL.out.2.2.2.2.1).mono ?_
      rintro e w5 ⟨rfl, h5⟩
      have H5 := Lib.hid (show Wrote w0 b T4 wa w5 from ⟨h5.1, H4.out.1.2.trans h5.2⟩)
      clear h5
      go_wp2_with fail
      refine (write_s w0 b T4 t _ _ H5.out.1 HT.out.2.2.2.2.2 HL.out.2.2.2.2.2).mono ?_
      rintro e w6 ⟨rfl, h6⟩
      have H6 := Lib.hid (H5.out.next h6)
      clear h6
      go_wp2_with fail
      go_end0
      exact ⟨rfl, H6.out.1, (Keeps.below HA.out.2.1).trans H6.out.2⟩
set_option maxHeartbeats 1000000 in
theorem call_v (w0 : World) (b : Nat) (l t : List UInt8) (nm : ByteArray) (A : Option Addr) (n c : Nat) (args : List Int) (W : World) (h : Wr w0 b l W) (hl : IsInts w0 A n args) (hf : ∀ x ∈ args, Deci.fit x) (ht : l ++ calT nm args = t) (hlen : t.length ≤ big) :
    Calls Try.prog 10 #[.pointer (some ⟨b, 0, none⟩), .agg #[.string nm, .slice A n c]] W fun e w' => e = .returned (.tuple #[]) ∧ Wrote w0 b t W w' := by
  have HA := Lib.hid (And.intro (h.alloc (.cells #[.string nm, .slice A n c] 24)) (And.intro ((Below.refl _ W).alloc (Nat.le_refl _) (.cells #[.string nm, .slice A n c] 24)) (heap_alloc_new W (.cells #[.string nm, .slice A n c] 24))))
  obtain ⟨L, hL⟩ : ∃ L, args.map Deci.txt = L := ⟨_, rfl⟩
  obtain ⟨T1, hT1⟩ : ∃ T, l ++ nm.data.toList = T := ⟨_, rfl⟩
  obtain ⟨T2, hT2⟩ : ∃ T, T1 ++ [40] = T := ⟨_, rfl⟩
  have t3 : (T2 ++ rowT L) ++ [41] = t := by rw [← ht, ← hT2, ← hT1, ← hL]; simp [calT]
  have l1 := congrArg List.length hT1
  have l2 := congrArg List.length hT2
  have l3 := congrArg List.length t3
  simp only [List.length_append] at l1 l2 l3
  have hn := hl.2.1
  have hln := hl.1
  have hLn : L.length = n := by rw [← hL, List.length_map]; exact hln
  have hLx : ∀ (k : Nat) (x : Int), args[k]? = some x → L[k]? = some (Deci.txt x) := fun k x hx => by rw [← hL, List.getElem?_map, hx]; rfl
  have hTl : ∀ k, (T2 ++ rowT (L.take k)).length ≤ big := fun k => by
    have h1 := rowT_le L k
    rw [List.length_append]
    omega
  have HT := Lib.hid (And.intro hT1 (And.intro hT2 (And.intro t3 (And.intro (show T1.length ≤ big by omega) (And.intro (show T2.length ≤ big by omega) hlen)))))
  have HP := Lib.hid (And.intro hl (And.intro hf (And.intro hLn (And.intro hLx hTl))))
  clear h hl hf ht hlen hL hln hLn hLx hTl hT1 hT2 t3 l1 l2 l3
  obtain ⟨wa, hwa⟩ : ∃ wa, W.alloc (.cells #[.string nm, .slice A n c] 24) = wa := ⟨_, rfl⟩
  rw [hwa] at HA
  obtain ⟨k0, k1⟩ := two_in HA.out.2.2
  go_enter Try.func10, Try.ntmps10
  go_wp2_with fail
  clear hwa
  go_region_held3 (fun w' => w'.cell? ⟨W.heap.size, 0, none⟩ = some (.string nm))
    (first | exact S1.out | exact k0)
    (first
      | (go_at_call 16; (refine (write_s w0 b l T1 nm _ HA.out.1.drew HT.out.1 HT.out.2.2.2.1).mono ?_); rintro e w1 ⟨rfl, h1⟩; have H1 := Lib.hid (show Wrote w0 b T1 wa w1 from ⟨h1.1, Keeps.drew.trans h1.2⟩); have S1 := Lib.hid (two_in (H1.out.box HA.out.2.2 (by decide) (by decide))).1; clear h1))
  clear k0 k1 S1
  go_wp2_with fail
  refine (write_b w0 b T1 T2 40 40 _ H1.out.1 rfl HT.out.2.1 HT.out.2.2.2.2.1).mono ?_
  rintro e w2 ⟨rfl, h2⟩
  have H2 := Lib.hid (H1.out.next h2)
  clear h2
  obtain ⟨k0, k1⟩ := two_in (H2.out.box HA.out.2.2 (by decide) (by decide))
  go_wp2_with fail
  clear k0 k1
  go_loopg [19] n (fun gk u wr => ∃ k : Nat, k + gk = n ∧ u = .int .i64 (k : Int) ∧ Hid (Wrote w0 b (T2 ++ rowT (L.take k)) wa wr))
  case atStart => exact ⟨0, by omega, rfl, H2.out.to (by simp [rowT])⟩
  case round =>
    obtain ⟨k, hk, rfl, HH⟩ := hrel
    by_cases hlt : k < n
    · obtain ⟨bk, o, hA, hb, x, hx, c0⟩ := (HP.out.1.below HH.out.1.2).at hlt
      subst hA
      have i1 : (k : Int) < (n : Int) := by omega
      have hnext := rowT_take L k (Deci.txt x) (HP.out.2.2.2.1 k x hx)
      have hxf := HP.out.2.1 x (List.mem_of_getElem? hx)
      have HX := Lib.hid (And.intro hnext hxf)
      clear hnext hxf hx hb
      have hs : (T2 ++ rowT (L.take k) ++ sepT k).length ≤ big := by
        have h1 := HP.out.2.2.2.2 (k + 1)
        rw [HX.out.1] at h1
        simp only [List.length_append] at h1 ⊢
        omega
      have HS := Lib.hid hs
      clear hs
      go_wp2_with fail
      clear c0
      refine (between_v w0 b (T2 ++ rowT (L.take k)) _ k _ wr HH.out.1 rfl rfl HS.out).mono ?_
      rintro e w6 ⟨rfl, h6⟩
      have H6 := Lib.hid (HH.out.next h6)
      clear h6
      go_wp2_with fail
      refine (number_v w0 b _ (T2 ++ rowT (L.take (k + 1))) x w6 H6.out.1 HX.out.2 (by rw [HX.out.1]; simp) (HP.out.2.2.2.2 (k + 1))).mono ?_
      rintro e w7 ⟨rfl, h7⟩
      have H7 := Lib.hid (H6.out.next h7)
      clear h7
      go_wp2_with fail
      go_roundg (gk - 1)
      case measure => omega
      case rel => exact ⟨k + 1, by omega, by go_num, H7.out⟩
    · obtain rfl : k = n := by omega
      have hge : ¬ (k : Int) < (k : Int) := by omega
      go_wp2_with fail
      refine (write_b w0 b (T2 ++ rowT (L.take k)) t 41 41 _ HH.out.1 rfl (by rw [List.take_of_length_le (by have := HP.out.2.2.1; omega)]; exact HT.out.2.2.1) HT.out.2.2.2.2.2).mono ?_
      rintro e w8 ⟨rfl, h8⟩
      have H8 := Lib.hid (HH.out.next h8)
      clear h8
      go_wp2_with fail
      go_end0
      exact ⟨rfl, H8.out.1, (Keeps.below HA.out.2.1).trans H8.out.2⟩
end Go.Proofs.Ytakfoncdiejhaaa.Nt
