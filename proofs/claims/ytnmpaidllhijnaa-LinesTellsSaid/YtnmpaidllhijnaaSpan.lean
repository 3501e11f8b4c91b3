/- What the program's span, Line and At answer: where a line begins and ends, the line, and the place of a line and a column. -/
import Derived.Test.YtnmpaidllhijnaaSpot
namespace Go.Proofs.Ytnmpaidllhijnaa
open Go.ChangeShapes Go.WideShapes Go.RowKit
set_option linter.unusedVariables false

set_option maxRecDepth 100000 in
set_option maxHeartbeats 1000000 in
theorem span_v (s : ByteArray) (n : Int) (a b : Nat) (c : Bool) (hs : s.size ≤ 1000000) (h : spanOf (rows s.data.toList) n = (a, b, c)) (w : World) :
    Calls Try.prog 16 #[.string s, .int .i64 n] w fun e w' => e = .returned (.tuple #[.int .i64 (a : Int), .int .i64 (b : Int), .bool c]) ∧ Below w.heap.size w w' := by
  have HQ := Lib.hid (And.intro hs h)
  clear h
  go_enter Try.func16, Try.ntmps16
  go_wp2_with fail
  go_loopg [7, 8] s.size (fun gk u v wr => ∃ (pos k m : Nat), u = .int .i64 (k : Int) ∧ v = .int .i64 (m : Int) ∧ wr = w.iter s pos ∧ k ≤ 1000001 ∧ m ≤ 1000000 ∧
    Hid (gk = s.size - pos ∧ pos ≤ s.size ∧ (n < 1 ∨ (k : Int) ≤ n) ∧ ∃ I r, Cut (s.data.toList.take pos) I r ∧ k = I.length + 1 ∧ m = (glue I).length))
  case atStart => exact ⟨0, 1, 0, rfl, rfl, rfl, by omega, by omega, by omega, by omega, by omega, [], [], by simpa using Cut.nil, rfl, rfl⟩
  case round =>
    obtain ⟨pos, k, m, rfl, rfl, rfl, hk, hm, HH⟩ := hrel
    by_cases hlt : pos < s.size
    · have hl : pos < s.data.toList.length := by rw [size_list]; exact hlt
      have hp1 : pos < 1000000 := by omega
      by_cases hc : s.data.toList[pos]'hl = 10
      · have hnx := next_ten w s pos hlt hc
        have HC := Lib.hid hc
        have HL := Lib.hid (And.intro hl hlt)
        clear hc hlt
        by_cases hkn : (k : Int) = n
        · have c1 : ((k : Int) == n) = true := by rw [beq_iff_eq]; exact hkn
          have HK := Lib.hid hkn
          clear hkn
          go_wp2_with fail
          go_ret3
          obtain ⟨h1, h2, _, I, r, hcut, e1, e2⟩ := HH.out
          have hn := HK.out
          have hgo := hcut.go (s.data.toList.drop (pos + 1))
          have hsp := HQ.out.2
          have hlen := hcut.len
          rw [List.length_take, Nat.min_eq_left (by omega)] at hlen
          have e3 : s.data.toList = s.data.toList.take pos ++ 10 :: s.data.toList.drop (pos + 1) := by
            have hd := List.drop_eq_getElem_cons hl
            rw [HC.out] at hd
            rw [← hd, List.take_append_drop]
          rw [← e3] at hgo
          rw [hgo, spanOf_in I r _ n (by omega)] at hsp
          simp only [Prod.mk.injEq] at hsp
          obtain ⟨ea, eb, ec⟩ := hsp
          refine ⟨?_, below_iter w s _⟩
          rw [← ea, ← eb, ← ec, ← e2, show m + r.length = pos by omega]
          rfl
        · have c1 : ((k : Int) == n) = false := by rw [beq_eq_false_iff_ne]; exact hkn
          have HK := Lib.hid hkn
          clear hkn
          go_wp2_with fail
          go_roundg (s.size - (pos + 1))
          case measure => have := HH.out.1; have := HL.out.2; omega
          case rel =>
            obtain ⟨h1, h2, h3, I, r, hcut, rfl, rfl⟩ := HH.out
            have hlt := HL.out.2
            have hkn := HK.out
            have hcut' := hcut.ten
            rw [← HC.out, ← List.take_succ_eq_append_getElem hl] at hcut'
            have hlen := hcut'.len
            have hlen2 := hcut'.count
            rw [List.length_take, Nat.min_eq_left (by omega)] at hlen
            have e1 : ((I ++ [r]).length + 1 : Nat) = I.length + 1 + 1 := by simp
            have e2 : (glue (I ++ [r])).length = pos + 1 := by simp at hlen; omega
            refine ⟨pos + 1, I.length + 1 + 1, pos + 1, rfl, rfl, rfl, ?_, by omega, by omega, by omega, by omega, I ++ [r], [], hcut', e1.symm, e2.symm⟩
            simp at hlen2; omega
      · obtain ⟨hz, hw, hle, mm, hmm, hno⟩ := decode_else s pos hlt hc
        obtain ⟨z, d, hzk⟩ : ∃ z d, Utf8.decode s pos = (z, d) := ⟨_, _, rfl⟩
        have hnx := next_else w s pos hlt z d hzk
        rw [hzk] at hz hw hle hmm
        have c1 : ((z : Int) != 10) = true := by rw [bne_iff_ne]; simp at hz; omega
        have c2 : ¬ (z : Int) = 10 := by simp at hz; omega
        have HL := Lib.hid (And.intro hlt (And.intro hw (And.intro hle (And.intro hmm hno))))
        clear hc hlt hzk hz hw hle hmm hno
        go_wp2_with fail
        go_roundg (s.size - (pos + d))
        case measure => have := HH.out.1; have := HL.out.1; have := HL.out.2.1; omega
        case rel =>
          obtain ⟨h1, h2, h3, I, r, hcut, e1, e2⟩ := HH.out
          obtain ⟨hlt, hw, hle, hmm, hno⟩ := HL.out
          have hcut' := hcut.more hno
          rw [← hmm] at hcut'
          exact ⟨pos + d, k, m, rfl, rfl, rfl, hk, hm, rfl, hle, h3, I, r ++ mm, hcut', e1, e2⟩
    · have hnx := fun ty => run_next_end (P := Try.prog) w s pos ty hlt
      have HL := Lib.hid hlt
      by_cases hkn : (k : Int) = n
      · have c1 : ((k : Int) == n) = true := by rw [beq_iff_eq]; exact hkn
        have HK := Lib.hid hkn
        clear hkn
        go_wp2_with fail
        go_ret3
        obtain ⟨h1, h2, _, I, r, hcut, e1, e2⟩ := HH.out
        have hn := HK.out
        have hsp := HQ.out.2
        rw [List.take_of_length_le (by rw [size_list]; omega)] at hcut
        rw [hcut.told, spanOf_in I r [] n (by omega)] at hsp
        simp only [Prod.mk.injEq] at hsp
        obtain ⟨ea, eb, ec⟩ := hsp
        have hlen := hcut.len
        rw [size_list] at hlen
        refine ⟨?_, below_iter w s _⟩
        rw [← ea, ← eb, ← ec, ← e2, show m + r.length = s.size by omega]
        rfl
      · have c1 : ((k : Int) == n) = false := by rw [beq_eq_false_iff_ne]; exact hkn
        have HK := Lib.hid hkn
        clear hkn
        go_wp2_with fail
        go_ret3
        obtain ⟨h1, h2, h3, I, r, hcut, e1, e2⟩ := HH.out
        have hn := HK.out
        have hsp := HQ.out.2
        rw [List.take_of_length_le (by rw [size_list]; omega)] at hcut
        rw [hcut.told, spanOf_out _ n (by simp; omega)] at hsp
        simp only [Prod.mk.injEq] at hsp
        obtain ⟨ea, eb, ec⟩ := hsp
        refine ⟨?_, below_iter w s _⟩
        rw [← ea, ← eb, ← ec]
        rfl
set_option maxRecDepth 100000 in
theorem line_v (s : ByteArray) (n : Int) (x : List UInt8) (c : Bool) (hs : s.size ≤ 1000000) (h : lineOf (rows s.data.toList) n = (x, c)) (w : World) :
    Calls Try.prog 10 #[.string s, .int .i64 n] w fun e w' => e = .returned (.tuple #[.string ⟨x.toArray⟩, .bool c]) ∧ Below w.heap.size w w' := by
  obtain ⟨a, b, c', hab⟩ : ∃ a b c', spanOf (rows s.data.toList) n = (a, b, c') := ⟨_, _, _, rfl⟩
  have hls := line_span _ _ _ _ _ hab
  rw [h] at hls
  simp only [Prod.mk.injEq] at hls
  obtain ⟨hx, rfl⟩ := hls
  have hle := spanOf_le _ _ _ _ _ hab
  rw [size_list] at hle
  have hsl := slice_ab s a b hle.1 hle.2
  rw [← hx] at hsl
  have H := Lib.hid (And.intro hs hab)
  clear hs hab h hx hle
  go_enter Try.func10, Try.ntmps10
  go_wp2_with fail
  refine (span_v s n a b c H.out.1 H.out.2 w).mono ?_
  rintro e w1 ⟨rfl, hb⟩
  have HB := Lib.hid hb
  clear hb
  go_wp2_with fail
  go_ret2
  exact ⟨rfl, HB.out⟩
set_option maxRecDepth 100000 in
theorem at_v (s : ByteArray) (line col : Int) (v : Int) (c : Bool) (hs : s.size ≤ 1000000) (h : atOf (rows s.data.toList) line col = (v, c)) (w : World) :
    Calls Try.prog 15 #[.string s, .int .i64 line, .int .i64 col] w fun e w' => e = .returned (.tuple #[.int .i64 v, .bool c]) ∧ Below w.heap.size w w' := by
  obtain ⟨a, b, c', hab⟩ : ∃ a b c', spanOf (rows s.data.toList) line = (a, b, c') := ⟨_, _, _, rfl⟩
  have hle := spanOf_le _ _ _ _ _ hab
  rw [size_list] at hle
  have h1 : a ≤ b := hle.1
  have h2 : b ≤ 1000000 := by omega
  unfold atOf at h
  rw [hab] at h
  cases c' with
  | false =>
    simp only [Bool.false_eq_true, false_and, if_false, Prod.mk.injEq] at h
    obtain ⟨rfl, rfl⟩ := h
    have H := Lib.hid (And.intro hs hab)
    clear hs hab
    go_enter Try.func15, Try.ntmps15
    go_wp2_with fail
    refine (span_v s line a b false H.out.1 H.out.2 w).mono ?_
    rintro e w1 ⟨rfl, hb⟩
    have HB := Lib.hid hb
    clear hb
    go_wp2_with fail
    go_ret2
    exact ⟨rfl, HB.out⟩
  | true =>
    by_cases hc1 : col < 1
    · rw [if_neg (by omega)] at h
      simp only [Prod.mk.injEq] at h
      obtain ⟨rfl, rfl⟩ := h
      have t1 : decide (col < 1) = true := by simpa using hc1
      have H := Lib.hid (And.intro hs hab)
      clear hs hab hc1
      go_enter Try.func15, Try.ntmps15
      go_wp2_with fail
      refine (span_v s line a b true H.out.1 H.out.2 w).mono ?_
      rintro e w1 ⟨rfl, hb⟩
      have HB := Lib.hid hb
      clear hb
      go_wp2_with fail
      go_ret2
      exact ⟨rfl, HB.out⟩
    · have t1 : decide (col < 1) = false := by simpa using hc1
      by_cases hc2 : (b : Int) - a + 1 < col
      · rw [if_neg (by simp; omega)] at h
        simp only [Prod.mk.injEq] at h
        obtain ⟨rfl, rfl⟩ := h
        have t2 : decide ((b : Int) - a + 1 < col) = true := by simpa using hc2
        have H := Lib.hid (And.intro hs hab)
        clear hs hab hc1 hc2
        go_enter Try.func15, Try.ntmps15
        go_wp2_with fail
        refine (span_v s line a b true H.out.1 H.out.2 w).mono ?_
        rintro e w1 ⟨rfl, hb⟩
        have HB := Lib.hid hb
        clear hb
        go_wp2_with fail
        go_ret2
        exact ⟨rfl, HB.out⟩
      · rw [if_pos ⟨rfl, by omega, by simp; omega⟩] at h
        simp only [Prod.mk.injEq] at h
        obtain ⟨hv, rfl⟩ := h
        have t2 : decide ((b : Int) - a + 1 < col) = false := by simpa using hc2
        have t3 : 1 ≤ col := by omega
        have t4 : col ≤ 1000001 := by omega
        have H := Lib.hid (And.intro hs (And.intro hab hv))
        clear hs hab hc1 hc2 hv
        go_enter Try.func15, Try.ntmps15
        go_wp2_with fail
        refine (span_v s line a b true H.out.1 H.out.2.1 w).mono ?_
        rintro e w1 ⟨rfl, hb⟩
        have HB := Lib.hid hb
        clear hb
        go_wp2_with fail
        go_ret2
        refine ⟨?_, HB.out⟩
        rw [← H.out.2.2]
        rfl
end Go.Proofs.Ytnmpaidllhijnaa
