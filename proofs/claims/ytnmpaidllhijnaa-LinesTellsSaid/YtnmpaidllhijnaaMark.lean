/- What the program's Mark answers: a place as lines, with a sign below the column. -/
import Derived.Test.YtnmpaidllhijnaaSpan
import Derived.Test.YtnmpaidllhijnaaFill
import Derived.Test.YtnmpaidllhijnaaDeciPut
import Derived.Deep.RegionHeld3
namespace Go.Proofs.Ytnmpaidllhijnaa
open Go.ChangeShapes Go.WideShapes Go.RowKit
set_option linter.unusedVariables false

theorem step_B {w wr w1 : World} (hb : Below w.heap.size w wr) (h1 : Below wr.heap.size wr w1) : Below w.heap.size w w1 := hb.trans (h1.mono hb.size)
theorem mark_cat (a b x f : List UInt8) (R : ByteArray) (hR : markOf a b x f = R.data.toList) :
    ByteArray.mk a.toArray ++ ByteArray.mk #[58] ++ ByteArray.mk b.toArray ++ ByteArray.mk #[10] ++ ByteArray.mk x.toArray ++ ByteArray.mk #[10] ++ ByteArray.mk f.toArray ++ ByteArray.mk #[94, 10] = R := by
  obtain ⟨⟨q⟩⟩ := R
  have : q = markOf a b x f := hR.symm
  subst this
  unfold markOf
  rw [show ByteArray.mk #[58] = ByteArray.mk [58].toArray from rfl, show ByteArray.mk #[10] = ByteArray.mk [10].toArray from rfl, show ByteArray.mk #[94, 10] = ByteArray.mk [94, 10].toArray from rfl]
  simp only [ByteArray.mk_append_mk]
theorem put_l (n : Int) (l : List UInt8) (A : ByteArray) (hl : Deci.txt n = l) (h : Deci.fit n) (hA : ByteArray.mk l.toArray = A) (w : World) :
    Calls Try.prog 17 #[.int .i64 n] w fun e w' => e = .returned (.string A) ∧ Below w.heap.size w w' := by subst hA; exact Deci.put_v n l hl h w
theorem fill_l (s : ByteArray) (x : List UInt8) (A : ByteArray) (hs : s.size ≤ 1000000) (hx : blank s.data.toList = x) (hA : ByteArray.mk x.toArray = A) (w : World) :
    Calls Try.prog 18 #[.string s] w fun e w' => e = .returned (.string A) ∧ Below w.heap.size w w' := by subst hA; exact fill_v s x hs hx w
theorem add_run (a b c : ByteArray) (h : a.size + b.size ≤ 9223372036854775807) (hc : a ++ b = c) (W : World) : (Op.stringOp .add a b).run Try.prog W = .ok (.string c) W := by
  rw [run_string_add_sum W a b h, hc]
set_option maxRecDepth 100000 in
set_option maxHeartbeats 4000000 in
theorem mark_v (s : ByteArray) (p a b : Nat) (I : List (List UInt8)) (r x : List UInt8) (J : List (List UInt8)) (R : ByteArray) (hp : p ≤ s.size) (hs : s.size ≤ 1000000) (h : Cut (s.data.toList.take p) I r) (hx : rows s.data.toList = I ++ x :: J) (hr : x.take r.length = r)
    (ha : I.length + 1 = a) (hb : r.length + 1 = b) (hR : markOf (Deci.txt a) (Deci.txt b) x (blank r) = R.data.toList) (w : World) :
    Calls Try.prog 13 #[.string s, .int .i64 (p : Int)] w fun e w' => e = .returned (.string R) ∧ Below w.heap.size w w' := by
  obtain ⟨ta, hta⟩ : ∃ l, Deci.txt (a : Int) = l := ⟨_, rfl⟩
  obtain ⟨tb, htb⟩ : ∃ l, Deci.txt (b : Int) = l := ⟨_, rfl⟩
  have hxl : x.length ≤ 1000000 ∧ I.length ≤ 1000000 := by
    obtain ⟨t, ht, _, _⟩ := rows_glue _ I x J hx
    have h1 := congrArg List.length ht
    have h2 := h.count
    rw [size_list] at h1
    simp only [List.length_append] at h1
    omega
  have hrl : r.length ≤ x.length := by have := congrArg List.length hr; rw [List.length_take] at this; omega
  have fa : Deci.fit (a : Int) := ⟨by omega, by omega⟩
  have fb : Deci.fit (b : Int) := ⟨by omega, by omega⟩
  have la : ta.length ≤ 20 := by rw [← hta]; exact Deci.txt_len _ fa.1 fa.2
  have lb : tb.length ≤ 20 := by rw [← htb]; exact Deci.txt_len _ fb.1 fb.2
  obtain ⟨f, hf⟩ : ∃ f, blank r = f := ⟨_, rfl⟩
  have lf : f.length ≤ 1000000 := by rw [← hf, blank_len]; omega
  have hli : lineOf (rows s.data.toList) (a : Int) = (x, true) := by rw [hx]; exact lineOf_in I x J _ (by omega)
  have hcat := mark_cat ta tb x f R (by rw [← hta, ← htb, ← hf]; exact hR)
  obtain ⟨y, hy⟩ : ∃ y, ByteArray.mk x.toArray = y := ⟨_, rfl⟩
  obtain ⟨z, hz⟩ : ∃ z, ByteArray.mk r.toArray = z := ⟨_, rfl⟩
  obtain ⟨A, hA⟩ : ∃ A, ByteArray.mk ta.toArray = A := ⟨_, rfl⟩
  obtain ⟨B, hB⟩ : ∃ B, ByteArray.mk tb.toArray = B := ⟨_, rfl⟩
  obtain ⟨F, hF⟩ : ∃ F, ByteArray.mk f.toArray = F := ⟨_, rfl⟩
  have ys : y.size ≤ 1000000 := by rw [← hy, size_mk]; omega
  have zs : z.size ≤ 1000000 := by rw [← hz, size_mk]; omega
  have As : A.size ≤ 20 := by rw [← hA, size_mk]; omega
  have Bs : B.size ≤ 20 := by rw [← hB, size_mk]; omega
  have Fs : F.size ≤ 1000000 := by rw [← hF, size_mk]; omega
  rw [hy, hA, hB, hF] at hcat
  obtain ⟨S1, hS1⟩ : ∃ S, A ++ ByteArray.mk #[58] = S := ⟨_, rfl⟩
  obtain ⟨S2, hS2⟩ : ∃ S, S1 ++ B = S := ⟨_, rfl⟩
  obtain ⟨S3, hS3⟩ : ∃ S, S2 ++ ByteArray.mk #[10] = S := ⟨_, rfl⟩
  obtain ⟨S4, hS4⟩ : ∃ S, S3 ++ y = S := ⟨_, rfl⟩
  obtain ⟨S5, hS5⟩ : ∃ S, S4 ++ ByteArray.mk #[10] = S := ⟨_, rfl⟩
  obtain ⟨S6, hS6⟩ : ∃ S, S5 ++ F = S := ⟨_, rfl⟩
  rw [hS1, hS2, hS3, hS4, hS5, hS6] at hcat
  have z1 : S1.size ≤ 40 := by rw [← hS1, ByteArray.size_append]; show A.size + 1 ≤ 40; omega
  have z2 : S2.size ≤ 60 := by rw [← hS2, ByteArray.size_append]; omega
  have z3 : S3.size ≤ 80 := by rw [← hS3, ByteArray.size_append]; show S2.size + 1 ≤ 80; omega
  have z4 : S4.size ≤ 1000080 := by rw [← hS4, ByteArray.size_append]; omega
  have z5 : S5.size ≤ 1000100 := by rw [← hS5, ByteArray.size_append]; show S4.size + 1 ≤ 1000100; omega
  have z6 : S6.size ≤ 2000100 := by rw [← hS6, ByteArray.size_append]; omega
  have r1 := add_run A ⟨#[58]⟩ S1 (by show A.size + 1 ≤ _; omega) hS1
  have r2 := add_run S1 B S2 (by omega) hS2
  have r3 := add_run S2 ⟨#[10]⟩ S3 (by show S2.size + 1 ≤ _; omega) hS3
  have r4 := add_run S3 y S4 (by omega) hS4
  have r5 := add_run S4 ⟨#[10]⟩ S5 (by show S4.size + 1 ≤ _; omega) hS5
  have r6 := add_run S5 F S6 (by omega) hS6
  have r7 := add_run S6 ⟨#[94, 10]⟩ R (by show S6.size + 2 ≤ _; omega) hcat
  obtain ⟨n, hn⟩ : ∃ n, r.length = n := ⟨_, rfl⟩
  have hsl := slice_to y n (by rw [← hy, size_mk]; omega)
  rw [show y.data.toList = x by rw [← hy], ← hn, hr, hz, hn] at hsl
  have e1 : (b : Int) - 1 = (n : Int) := by omega
  have e2 : IntKind.i64.wrap ((b : Int) - 1) = (n : Int) := by rw [IntWalk.i64_in _ (by omega)]; exact e1
  have n0 : (0 : Int) ≤ (n : Int) := by omega
  have n1 : (n : Int) ≤ (y.size : Int) := by rw [← hy, size_mk]; omega
  have n2 : n ≤ y.size := by omega
  have e3 : IntKind.i64.wrap (n : Int) = (n : Int) := IntWalk.i64_in _ (by omega)
  have hfz : blank z.data.toList = f := by rw [← hz]; exact hf
  have HQ := Lib.hid (And.intro hs (And.intro h (And.intro ha (And.intro hb (And.intro hli (And.intro hta (And.intro htb (And.intro fa (And.intro fb (And.intro hfz (And.intro zs (And.intro hy (And.intro hA (And.intro hB hF))))))))))))))
  clear hs h ha hb hli hta htb fa fb hf hfz hcat hR hx hr hxl hrl hn zs hS1 hS2 hS3 hS4 hS5 hS6 z1 z2 z3 z4 z5 z6 As Bs Fs lf la lb hy hz hA hB hF
  go_enter Try.func13, Try.ntmps13
  go_wp2_with fail
  refine (spot_v s p a b I r hp HQ.out.1 HQ.out.2.1 HQ.out.2.2.1 HQ.out.2.2.2.1 w).mono ?_
  rintro e w1 ⟨rfl, hb1⟩
  have B1 := Lib.hid hb1
  clear hb1
  go_wp2_with fail
  refine (line_v s a x true HQ.out.1 HQ.out.2.2.2.2.1 w1).mono ?_
  rintro e w2 ⟨rfl, hb2⟩
  rw [HQ.out.2.2.2.2.2.2.2.2.2.2.2.1]
  have B2 := Lib.hid (step_B B1.out hb2)
  clear hb2
  go_wp2_with fail
  go_region_held3 (fun W => Below w.heap.size w W)
    (first | exact B2.out | exact B2.out.drew | exact B5.out | exact B4.out | exact B3.out)
    (first
      | (go_at_call_of 17 (Value.int .i64 (a : Int)); (refine (put_l a ta A HQ.out.2.2.2.2.2.1 HQ.out.2.2.2.2.2.2.2.1 HQ.out.2.2.2.2.2.2.2.2.2.2.2.2.1 _).mono ?_); rintro e w3 ⟨rfl, hb3⟩; have B3 := Lib.hid (step_B B2.out.drew hb3); clear hb3)
      | (go_at_call_of 17 (Value.int .i64 (b : Int)); (refine (put_l b tb B HQ.out.2.2.2.2.2.2.1 HQ.out.2.2.2.2.2.2.2.2.1 HQ.out.2.2.2.2.2.2.2.2.2.2.2.2.2.1 _).mono ?_); rintro e w4 ⟨rfl, hb4⟩; have B4 := Lib.hid (step_B B3.out hb4); clear hb4)
      | (go_at_call 18; (refine (fill_l z f F HQ.out.2.2.2.2.2.2.2.2.2.2.1 HQ.out.2.2.2.2.2.2.2.2.2.1 HQ.out.2.2.2.2.2.2.2.2.2.2.2.2.2.2 _).mono ?_); rintro e w5 ⟨rfl, hb5⟩; have B5 := Lib.hid (step_B B4.out hb5); clear hb5))
  all_goals go_wp2_with fail
  all_goals go_ret
  all_goals exact ⟨rfl, B5.out⟩
set_option maxRecDepth 100000 in
theorem mark_none (s : ByteArray) (p : Int) (hs : s.size ≤ 1000000) (hp : p < 0 ∨ (s.size : Int) < p) (w : World) :
    Calls Try.prog 13 #[.string s, .int .i64 p] w fun e w' => e = .returned (.string ⟨#[]⟩) ∧ Below w.heap.size w w' := by
  have H := Lib.hid (And.intro hs hp)
  clear hs hp
  go_enter Try.func13, Try.ntmps13
  go_wp2_with fail
  refine (spot_none s p H.out.2 w).mono ?_
  rintro e w1 ⟨rfl, rfl⟩
  go_wp2_with fail
  refine (line_v s 0 [] false H.out.1 (lineOf_out _ _ (by omega)) w).mono ?_
  rintro e w2 ⟨rfl, hb2⟩
  have B2 := Lib.hid hb2
  clear hb2
  go_wp2_with fail
  go_ret
  exact ⟨rfl, B2.out⟩
end Go.Proofs.Ytnmpaidllhijnaa
