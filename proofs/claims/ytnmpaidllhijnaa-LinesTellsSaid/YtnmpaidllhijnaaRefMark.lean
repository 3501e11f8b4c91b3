/- What the document's own Spot and Mark answer: the line and the column of a place, and the place as lines. -/
import Derived.Test.YtnmpaidllhijnaaRefAll
import Derived.Test.YtnmpaidllhijnaaDeciRef
import Derived.WalkSmall
namespace Go.Proofs.Ytnmpaidllhijnaa
open Go.ChangeShapes Go.WideShapes Go.RowKit
set_option linter.unusedVariables false

set_option maxRecDepth 100000 in
set_option maxHeartbeats 1000000 in
theorem refspot_v (s : ByteArray) (p : Nat) (a b : Nat) (I : List (List UInt8)) (r : List UInt8) (hp : p ≤ s.size) (hs : s.size ≤ 1000000) (h : Cut (s.data.toList.take p) I r) (ha : I.length + 1 = a) (hb : r.length + 1 = b) (w : World) :
    Calls Try.prog 9 #[.string s, .int .i64 (p : Int)] w fun e w' => e = .returned (.tuple #[.int .i64 (a : Int), .int .i64 (b : Int)]) ∧ Below w.heap.size w w' := by
  obtain ⟨q, hq⟩ : ∃ q : ByteArray, q = ⟨(s.data.toList.take p).toArray⟩ := ⟨_, rfl⟩
  have hsl := slice_to s p hp
  rw [← hq] at hsl
  have hql : q.data.toList = s.data.toList.take p := by rw [hq]
  have hqs : q.size = p := by rw [← size_list, hql, List.length_take, size_list]; omega
  have hqr : rows q.data.toList = I ++ [r] := by rw [hql]; exact h.told
  have hlen := h.len
  rw [List.length_take, size_list, Nat.min_eq_left hp] at hlen
  have hcnt := h.count
  obtain ⟨k, hk⟩ : ∃ k, I.length = k := ⟨_, rfl⟩
  obtain ⟨y, hy⟩ : ∃ y, ByteArray.mk r.toArray = y := ⟨_, rfl⟩
  have hys : y.size + 1 = b := by rw [← hy, size_mk]; exact hb
  have y1 : y.size ≤ 1000000 := by omega
  have t1 : decide ((p : Int) < 0) = false := by simp
  have t2 : decide (s.size < p) = false := by simp; omega
  have t4 : decide ((s.size : Int) < (p : Int)) = false := by simp; omega
  have e1 : (a : Int) - 1 = (k : Int) := by omega
  have e2 : IntKind.i64.wrap ((a : Int) - 1) = (k : Int) := by rw [IntWalk.i64_in _ (by omega)]; exact e1
  have e3 : IntKind.i64.wrap (k : Int) = (k : Int) := IntWalk.i64_in _ (by omega)
  have e4 : (y.size : Int) + 1 = (b : Int) := by omega
  have e5 : IntKind.i64.wrap ((y.size : Int) + 1) = (b : Int) := by rw [IntWalk.i64_in _ (by omega)]; exact e4
  have e6 : IntKind.i64.wrap (b : Int) = (b : Int) := IntWalk.i64_in _ (by omega)
  have b1 : k < a := by omega
  have b2 : (k : Int) < (a : Int) := by omega
  have b3 : (0 : Int) ≤ (k : Int) := by omega
  have hN : (I ++ [r]).length = a := by rw [List.length_append, ← ha]; rfl
  have HQ := Lib.hid (And.intro (show q.size ≤ 1000000 by omega) (And.intro hqr (And.intro hN (And.intro hk hy))))
  clear hq hql hqs hqr hlen hcnt hk hy hys ha hb h hs hN
  go_enter Try.func9, Try.ntmps9
  go_wp2_with fail
  refine (all_v q (I ++ [r]) a HQ.out.1 HQ.out.2.1 HQ.out.2.2.1 w).mono ?_
  rintro e w1 ⟨g, c, rfl, ho, hb⟩
  have d0 : w1.cell? ⟨g, k, none⟩ = some (.string y) := by
    have hk := HQ.out.2.2.2.1
    rw [ho.at k (by rw [List.length_append]; simp; omega), List.getElem_append_right (by omega)]; simp [HQ.out.2.2.2.2]
  have HB := Lib.hid hb
  clear hb ho
  go_wp2_with fail
  go_quiet (fail)
  go_wp2_with fail
  go_ret2
  exact ⟨rfl, below_drewN HB.out _⟩
set_option maxRecDepth 100000 in
theorem refspot_none (s : ByteArray) (p : Int) (hp : p < 0 ∨ (s.size : Int) < p) (w : World) :
    Calls Try.prog 9 #[.string s, .int .i64 p] w fun e w' => e = .returned (.tuple #[.int .i64 0, .int .i64 0]) ∧ w = w' := by
  by_cases h : p < 0
  · have t1 : decide (p < 0) = true := by simpa using h
    clear hp
    go_enter Try.func9, Try.ntmps9
    go_wp2_with fail
    go_ret2
    exact ⟨rfl, rfl⟩
  · have t1 : decide (p < 0) = false := by simpa using h
    have t2 : decide ((s.size : Int) < p) = true := by simp; omega
    clear hp
    go_enter Try.func9, Try.ntmps9
    go_wp2_with fail
    go_ret2
    exact ⟨rfl, rfl⟩
theorem refput_l (n : Int) (l : List UInt8) (A : ByteArray) (hl : Deci.txt n = l) (h : Deci.fit n) (hA : ByteArray.mk l.toArray = A) (w : World) :
    Calls Try.prog 19 #[.int .i64 n] w fun e w' => e = .returned (.string A) ∧ Below w.heap.size w w' := by subst hA; exact Deci.refput_v n l hl h w
set_option maxRecDepth 100000 in
theorem refmark_none (s : ByteArray) (p : Int) (hp : p < 0 ∨ (s.size : Int) < p) (w : World) :
    Calls Try.prog 14 #[.string s, .int .i64 p] w fun e w' => e = .returned (.string ⟨#[]⟩) ∧ Below w.heap.size w w' := by
  have H := Lib.hid hp
  clear hp
  go_enter Try.func14, Try.ntmps14
  go_wp2_with fail
  refine (refspot_none s p H.out w).mono ?_
  rintro e w1 ⟨rfl, rfl⟩
  go_wp2_with fail
  go_ret
  exact ⟨rfl, Below.refl _ _⟩
theorem mark_head (a b x : List UInt8) : ByteArray.mk a.toArray ++ ByteArray.mk #[58] ++ ByteArray.mk b.toArray ++ ByteArray.mk #[10] ++ ByteArray.mk x.toArray ++ ByteArray.mk #[10] = ByteArray.mk (a ++ [58] ++ b ++ [10] ++ x ++ [10]).toArray := by
  rw [show ByteArray.mk #[58] = ByteArray.mk [58].toArray from rfl, show ByteArray.mk #[10] = ByteArray.mk [10].toArray from rfl]
  simp only [ByteArray.mk_append_mk]
set_option maxRecDepth 100000 in
set_option maxHeartbeats 4000000 in
theorem refmark_v (s : ByteArray) (p a b : Nat) (I : List (List UInt8)) (r x : List UInt8) (J : List (List UInt8)) (R : ByteArray) (hp : p ≤ s.size) (hs : s.size ≤ 1000000) (h : Cut (s.data.toList.take p) I r) (hx : rows s.data.toList = I ++ x :: J) (hr : x.take r.length = r)
    (ha : I.length + 1 = a) (hb : r.length + 1 = b) (hR : markOf (Deci.txt a) (Deci.txt b) x (blank r) = R.data.toList) (w : World) :
    Calls Try.prog 14 #[.string s, .int .i64 (p : Int)] w fun e w' => e = .returned (.string R) ∧ Below w.heap.size w w' := by
  obtain ⟨ta, hta⟩ : ∃ l, Deci.txt (a : Int) = l := ⟨_, rfl⟩
  obtain ⟨tb, htb⟩ : ∃ l, Deci.txt (b : Int) = l := ⟨_, rfl⟩
  have hxl : x.length ≤ 1000000 ∧ I.length ≤ 1000000 := by
    obtain ⟨t, ht, _, _⟩ := rows_glue _ I x J hx
    have h1 := congrArg List.length ht
    have h2 := h.count
    rw [size_list] at h1
    simp only [List.length_append] at h1
    omega
  have hrl : r.length ≤ x.length := by have := congrArg List.length hr; rw [List.length_take] at this; omega
  have fa : Deci.fit (a : Int) := ⟨by omega, by omega⟩
  have fb : Deci.fit (b : Int) := ⟨by omega, by omega⟩
  have la : ta.length ≤ 20 := by rw [← hta]; exact Deci.txt_len _ fa.1 fa.2
  have lb : tb.length ≤ 20 := by rw [← htb]; exact Deci.txt_len _ fb.1 fb.2
  obtain ⟨y, hy⟩ : ∃ y, ByteArray.mk x.toArray = y := ⟨_, rfl⟩
  obtain ⟨A, hA⟩ : ∃ A, ByteArray.mk ta.toArray = A := ⟨_, rfl⟩
  obtain ⟨B, hB⟩ : ∃ B, ByteArray.mk tb.toArray = B := ⟨_, rfl⟩
  have ys : y.size ≤ 1000000 := by rw [← hy, size_mk]; omega
  have As : A.size ≤ 20 := by rw [← hA, size_mk]; omega
  have Bs : B.size ≤ 20 := by rw [← hB, size_mk]; omega
  have hcat := mark_head ta tb x
  rw [hy, hA, hB] at hcat
  obtain ⟨S1, hS1⟩ : ∃ S, A ++ ByteArray.mk #[58] = S := ⟨_, rfl⟩
  obtain ⟨S2, hS2⟩ : ∃ S, S1 ++ B = S := ⟨_, rfl⟩
  obtain ⟨S3, hS3⟩ : ∃ S, S2 ++ ByteArray.mk #[10] = S := ⟨_, rfl⟩
  obtain ⟨S4, hS4⟩ : ∃ S, S3 ++ y = S := ⟨_, rfl⟩
  obtain ⟨S5, hS5⟩ : ∃ S, S4 ++ ByteArray.mk #[10] = S := ⟨_, rfl⟩
  rw [hS1, hS2, hS3, hS4, hS5] at hcat
  have z1 : S1.size ≤ 40 := by rw [← hS1, ByteArray.size_append]; show A.size + 1 ≤ 40; omega
  have z2 : S2.size ≤ 60 := by rw [← hS2, ByteArray.size_append]; omega
  have z3 : S3.size ≤ 80 := by rw [← hS3, ByteArray.size_append]; show S2.size + 1 ≤ 80; omega
  have z4 : S4.size ≤ 1000080 := by rw [← hS4, ByteArray.size_append]; omega
  have z5 : S5.size ≤ 1000100 := by rw [← hS5, ByteArray.size_append]; show S4.size + 1 ≤ 1000100; omega
  have r1 := add_run A ⟨#[58]⟩ S1 (by show A.size + 1 ≤ _; omega) hS1
  have r2 := add_run S1 B S2 (by omega) hS2
  have r3 := add_run S2 ⟨#[10]⟩ S3 (by show S2.size + 1 ≤ _; omega) hS3
  have r4 := add_run S3 y S4 (by omega) hS4
  have r5 := add_run S4 ⟨#[10]⟩ S5 (by show S4.size + 1 ≤ _; omega) hS5
  obtain ⟨k, hk⟩ : ∃ k, I.length = k := ⟨_, rfl⟩
  obtain ⟨N, hN⟩ : ∃ N, (I ++ x :: J).length = N := ⟨_, rfl⟩
  have hNk : k < N ∧ N ≤ 1000001 := by
    have := rows_len s.data.toList
    rw [hx, hN, size_list] at this
    rw [List.length_append, List.length_cons] at hN
    omega
  obtain ⟨n, hn⟩ : ∃ n, r.length = n := ⟨_, rfl⟩
  have e1 : (a : Int) - 1 = (k : Int) := by omega
  have b1 : k < N := hNk.1
  have b2 : (k : Int) < (N : Int) := by omega
  have b3 : (0 : Int) ≤ (k : Int) := by omega
  have a0 : ((a : Int) == 0) = false := int_beq (by omega)
  have e4 : (b : Int) - 1 = (n : Int) := by omega
  have n1 : n ≤ y.size := by rw [← hy, size_mk]; omega
  have a1 : a ≤ 1000001 := by omega
  have b4 : b ≤ 1000001 := by omega
  have HQ := Lib.hid (And.intro hs (And.intro h (And.intro ha (And.intro hb (And.intro hx (And.intro hta (And.intro htb (And.intro fa (And.intro fb (And.intro hN (And.intro hk (And.intro hy (And.intro hA (And.intro hB (And.intro hcat (And.intro hR (And.intro hr hn)))))))))))))))))
  have HZ := Lib.hid z5
  clear hs h ha hb hta htb fa fb hcat hR hx hr hxl hrl hn hS1 hS2 hS3 hS4 hS5 z1 z2 z3 z4 z5 As Bs la lb hy hA hB hk hN hNk
  go_enter Try.func14, Try.ntmps14
  go_wp2_with fail
  refine (refspot_v s p a b I r hp HQ.out.1 HQ.out.2.1 HQ.out.2.2.1 HQ.out.2.2.2.1 w).mono ?_
  rintro e w1 ⟨rfl, hb1⟩
  have B1 := Lib.hid hb1
  clear hb1
  go_wp2_with fail
  refine (all_v s (I ++ x :: J) N HQ.out.1 HQ.out.2.2.2.2.1 HQ.out.2.2.2.2.2.2.2.2.2.1 w1).mono ?_
  rintro e w2 ⟨g, c, rfl, ho, hb2⟩
  have d0 : w2.cell? ⟨g, k, none⟩ = some (.string y) := by
    have hk := HQ.out.2.2.2.2.2.2.2.2.2.2.1
    have hy := HQ.out.2.2.2.2.2.2.2.2.2.2.2.1
    rw [ho.at k (by rw [List.length_append]; simp; omega), List.getElem_append_right (by omega)]; simp [hk, hy]
  have B2 := Lib.hid (step_B B1.out hb2)
  clear hb2 ho
  go_wp2_with fail
  refine (refput_l a ta A HQ.out.2.2.2.2.2.1 HQ.out.2.2.2.2.2.2.2.1 HQ.out.2.2.2.2.2.2.2.2.2.2.2.2.1 w2).mono ?_
  rintro e w3 ⟨rfl, hb3⟩
  have B3 := Lib.hid (step_B B2.out hb3)
  clear hb3 d0
  go_wp2_with fail
  refine (refput_l b tb B HQ.out.2.2.2.2.2.2.1 HQ.out.2.2.2.2.2.2.2.2.1 HQ.out.2.2.2.2.2.2.2.2.2.2.2.2.2.1 w3).mono ?_
  rintro e w4 ⟨rfl, hb4⟩
  have B4 := Lib.hid (step_B B3.out hb4)
  clear hb4
  go_wp2_with fail
  clear r1 r2 r3 r4 r5
  go_loopg [8, 9] n (fun gk u v wr => ∃ (i : Nat) (T : ByteArray), u = .string T ∧ v = .int .i64 (i : Int) ∧ w4 = wr ∧ i ≤ n ∧ T.size ≤ 1000100 + i ∧
    Hid (gk = n - i ∧ T.data.toList = S5.data.toList ++ blank (x.take i)))
  case atStart => exact ⟨0, S5, rfl, rfl, rfl, by omega, HZ.out, rfl, by simp [blank]⟩
  case round =>
    obtain ⟨i, T, rfl, rfl, rfl, hi, hT, HH⟩ := hrel
    by_cases hlt : i < n
    · have hiy : i < y.size := by omega
      have t1 : decide (i < n) = true := by simpa using hlt
      have t2 : decide ((i : Int) < (n : Int)) = true := by simpa using hlt
      have hy := HQ.out.2.2.2.2.2.2.2.2.2.2.2.1
      have hix : i < x.length := by have := hiy; rw [← hy, size_mk] at this; exact this
      have hyi : (y[i]'hiy) = x[i] := by
        have : y.data.toList = x := by rw [← hy]
        rw [at_nat y i hiy]; simp [this]
      have hbt := blank_take x i hix
      clear hy
      by_cases h9 : x[i] = 9
      · have c1 : (((y[i]'hiy).toNat : Int) == 9) = true := by rw [hyi, h9]; rfl
        have c2 : ((y[i]'hiy).toNat : Int) = 9 := by rw [hyi, h9]; rfl
        obtain ⟨U, hU⟩ : ∃ U, T ++ ByteArray.mk #[9] = U := ⟨_, rfl⟩
        have r1 := add_run T ⟨#[9]⟩ U (by show T.size + 1 ≤ _; omega) hU
        have hUs : U.size ≤ 1000100 + (i + 1) := by rw [← hU, ByteArray.size_append]; show T.size + 1 ≤ _; omega
        have hUl : U.data.toList = S5.data.toList ++ blank (x.take (i + 1)) := by
          rw [hbt, if_pos h9, ← hU, ByteArray.data_append, Array.toList_append, HH.out.2, List.append_assoc]
        have HU := Lib.hid (And.intro hUs hUl)
        clear hU hUs hUl hyi hbt h9
        go_wp2_with fail
        go_roundg (n - (i + 1))
        case measure => have := HH.out.1; omega
        case rel => exact ⟨i + 1, U, rfl, rfl, rfl, by omega, HU.out.1, rfl, HU.out.2⟩
      · have c1 : (((y[i]'hiy).toNat : Int) == 9) = false := by
          apply int_beq; rw [hyi]; intro e; apply h9; apply UInt8.toNat_inj.1; show _ = 9; omega
        have c2 : ¬ ((y[i]'hiy).toNat : Int) = 9 := by rw [beq_eq_false_iff_ne] at c1; exact c1
        obtain ⟨U, hU⟩ : ∃ U, T ++ ByteArray.mk #[32] = U := ⟨_, rfl⟩
        have r1 := add_run T ⟨#[32]⟩ U (by show T.size + 1 ≤ _; omega) hU
        have hUs : U.size ≤ 1000100 + (i + 1) := by rw [← hU, ByteArray.size_append]; show T.size + 1 ≤ _; omega
        have hUl : U.data.toList = S5.data.toList ++ blank (x.take (i + 1)) := by
          rw [hbt, if_neg h9, ← hU, ByteArray.data_append, Array.toList_append, HH.out.2, List.append_assoc]
        have HU := Lib.hid (And.intro hUs hUl)
        clear hU hUs hUl hyi hbt h9
        go_wp2_with fail
        go_roundg (n - (i + 1))
        case measure => have := HH.out.1; omega
        case rel => exact ⟨i + 1, U, rfl, rfl, rfl, by omega, HU.out.1, rfl, HU.out.2⟩
    · have t1 : decide (i < n) = false := by simpa using hlt
      have t2 : decide ((i : Int) < (n : Int)) = false := by simp; omega
      obtain ⟨_, _, _, _, _, hta, htb, _, _, _, _, _, _, _, hcat, hR, hr, hn⟩ := HQ.out
      have hTR : T ++ ByteArray.mk #[94, 10] = R := by
        apply ByteArray.ext
        apply Array.toList_inj.1
        rw [← hR, ByteArray.data_append, Array.toList_append, HH.out.2, show i = r.length by omega, hr, hcat, hta, htb]
        rfl
      have r1 := add_run T ⟨#[94, 10]⟩ R (by show T.size + 2 ≤ _; omega) hTR
      clear hTR hcat hR hr hn hta htb
      go_wp2_with fail
      go_ret
      exact ⟨rfl, B4.out⟩
end Go.Proofs.Ytnmpaidllhijnaa
