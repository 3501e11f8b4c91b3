/- What the program's Spot and Count answer: the line and the column of a place, and how many lines there are. -/
import Derived.Test.YtnmpaidllhijnaaRune
namespace Go.Proofs.Ytnmpaidllhijnaa
open Go.ChangeShapes Go.WideShapes Go.RowKit
set_option linter.unusedVariables false

theorem next_ten (w : World) (q : ByteArray) (pos : Nat) (h : pos < q.size) (hc : q.data.toList[pos]'(by rw [size_list]; exact h) = 10) (ty : TypeId) :
    (Instr.next (.pointer (some ⟨w.heap.size, 0, none⟩)) true ty).run Try.prog (w.iter q pos) = .ok (.tuple #[.bool true, .int .i64 (pos : Int), .int .i32 10]) (w.iter q (pos + 1)) := by
  rw [run_next_any w q pos ty h, decode_ten q pos h hc]; rfl
theorem next_else (w : World) (q : ByteArray) (pos : Nat) (h : pos < q.size) (z k : Nat) (hz : Utf8.decode q pos = (z, k)) (ty : TypeId) :
    (Instr.next (.pointer (some ⟨w.heap.size, 0, none⟩)) true ty).run Try.prog (w.iter q pos) = .ok (.tuple #[.bool true, .int .i64 (pos : Int), .int .i32 (z : Int)]) (w.iter q (pos + k)) := by
  rw [run_next_any w q pos ty h, hz]
theorem below_iter (w : World) (q : ByteArray) (pos : Nat) : Below w.heap.size w (w.iter q pos) := (Below.refl _ w).alloc (Nat.le_refl _) _
set_option maxRecDepth 100000 in
set_option maxHeartbeats 1000000 in
theorem spot_v (s : ByteArray) (p : Nat) (a b : Nat) (I : List (List UInt8)) (r : List UInt8) (hp : p ≤ s.size) (hs : s.size ≤ 1000000) (h : Cut (s.data.toList.take p) I r) (ha : I.length + 1 = a) (hb : r.length + 1 = b) (w : World) :
    Calls Try.prog 8 #[.string s, .int .i64 (p : Int)] w fun e w' => e = .returned (.tuple #[.int .i64 (a : Int), .int .i64 (b : Int)]) ∧ Below w.heap.size w w' := by
  obtain ⟨q, hq⟩ : ∃ q : ByteArray, q = ⟨(s.data.toList.take p).toArray⟩ := ⟨_, rfl⟩
  have hsl := slice_to s p hp
  rw [← hq] at hsl
  have hql : q.data.toList = s.data.toList.take p := by rw [hq]
  have hqs : q.size = p := by rw [← size_list, hql, List.length_take, size_list]; omega
  have HQ := Lib.hid (And.intro hql (And.intro hqs (And.intro ha (And.intro hb (And.intro h (And.intro hp hs))))))
  have t1 : decide ((p : Int) < 0) = false := by simp
  have t2 : decide (s.size < p) = false := by simp; omega
  have t3 : p ≤ 1000000 := by omega
  have t4 : decide ((s.size : Int) < (p : Int)) = false := by simp; omega
  clear hq hql hqs ha hb h hs
  go_enter Try.func8, Try.ntmps8
  go_wp2_with fail
  go_loopg [6, 7] q.size (fun gk u v wr => ∃ (pos n m : Nat), u = .int .i64 (n : Int) ∧ v = .int .i64 (m : Int) ∧ wr = w.iter q pos ∧ n ≤ 1000001 ∧ m ≤ p ∧
    Hid (gk = q.size - pos ∧ pos ≤ q.size ∧ ∃ I r, Cut (q.data.toList.take pos) I r ∧ n = I.length + 1 ∧ m = (glue I).length))
  case atStart => exact ⟨0, 1, 0, rfl, rfl, rfl, by omega, by omega, by omega, by omega, [], [], by simpa using Cut.nil, rfl, rfl⟩
  case round =>
    obtain ⟨pos, n, m, rfl, rfl, rfl, hn, hm, HH⟩ := hrel
    clear hsl
    by_cases hlt : pos < q.size
    · have hl : pos < q.data.toList.length := by rw [size_list]; exact hlt
      have hp1 : pos < 1000000 := by have := HQ.out.2.1; omega
      by_cases hc : q.data.toList[pos]'hl = 10
      · have hnx := next_ten w q pos hlt hc
        have HC := Lib.hid hc
        have HL := Lib.hid (And.intro hl hlt)
        clear hc hlt
        go_wp2_with fail
        go_roundg (q.size - (pos + 1))
        case measure => have := HH.out.1; have := HL.out.2; omega
        case rel =>
          obtain ⟨h1, h2, I, r, hcut, rfl, rfl⟩ := HH.out
          have hlt := HL.out.2
          have hcut' := hcut.ten
          have hc := HC.out
          rw [← hc, ← List.take_succ_eq_append_getElem hl] at hcut'
          have hlen := hcut'.len
          have hlen2 := hcut'.count
          rw [List.length_take, Nat.min_eq_left (by omega)] at hlen
          have hqs := HQ.out.2.1
          have e1 : ((I ++ [r]).length + 1 : Nat) = I.length + 1 + 1 := by simp
          have e2 : (glue (I ++ [r])).length = pos + 1 := by simp at hlen; omega
          refine ⟨pos + 1, I.length + 1 + 1, pos + 1, rfl, rfl, rfl, ?_, by omega, by omega, by omega, I ++ [r], [], hcut', e1.symm, e2.symm⟩
          simp at hlen2; omega
      · obtain ⟨hz, hw, hle, mm, hmm, hno⟩ := decode_else q pos hlt hc
        obtain ⟨z, k, hzk⟩ : ∃ z k, Utf8.decode q pos = (z, k) := ⟨_, _, rfl⟩
        have hnx := next_else w q pos hlt z k hzk
        rw [hzk] at hz hw hle hmm
        have c1 : ((z : Int) == 10) = false := by rw [beq_eq_false_iff_ne]; simp at hz; omega
        have c2 : ¬ (z : Int) = 10 := by simp at hz; omega
        have HL := Lib.hid (And.intro hlt (And.intro hw (And.intro hle (And.intro hmm hno))))
        clear hc hlt hzk hz hw hle hmm hno
        go_wp2_with fail
        go_roundg (q.size - (pos + k))
        case measure => have := HH.out.1; have := HL.out.1; have := HL.out.2.1; omega
        case rel =>
          obtain ⟨h1, h2, I, r, hcut, e1, e2⟩ := HH.out
          obtain ⟨hlt, hw, hle, hmm, hno⟩ := HL.out
          have hcut' := hcut.more hno
          rw [← hmm] at hcut'
          exact ⟨pos + k, n, m, rfl, rfl, rfl, hn, hm, rfl, hle, I, r ++ mm, hcut', e1, e2⟩
    · have hnx := fun ty => run_next_end (P := Try.prog) w q pos ty hlt
      go_wp2_with fail
      go_ret2
      obtain ⟨h1, h2, J, x, hcut, e1, e2⟩ := HH.out
      obtain ⟨hql, hqs, ha, hb, h, _⟩ := HQ.out
      have hpp : pos = p := by omega
      rw [List.take_of_length_le (by rw [size_list]; omega), hql] at hcut
      obtain ⟨rfl, rfl⟩ := h.uniq hcut
      have hlen := hcut.len
      rw [List.length_take, size_list, Nat.min_eq_left (by omega)] at hlen
      refine ⟨?_, below_iter w q pos⟩
      rw [← ha, ← hb, ← e1, show ((r.length + 1 : Nat) : Int) = (p : Int) - m + 1 by omega]
      rfl
set_option maxRecDepth 100000 in
theorem spot_none (s : ByteArray) (p : Int) (hp : p < 0 ∨ (s.size : Int) < p) (w : World) :
    Calls Try.prog 8 #[.string s, .int .i64 p] w fun e w' => e = .returned (.tuple #[.int .i64 0, .int .i64 0]) ∧ w = w' := by
  by_cases h : p < 0
  · have t1 : decide (p < 0) = true := by simpa using h
    clear hp
    go_enter Try.func8, Try.ntmps8
    go_wp2_with fail
    go_ret2
    exact ⟨rfl, rfl⟩
  · have t1 : decide (p < 0) = false := by simpa using h
    have t2 : decide ((s.size : Int) < p) = true := by simp; omega
    clear hp
    go_enter Try.func8, Try.ntmps8
    go_wp2_with fail
    go_ret2
    exact ⟨rfl, rfl⟩
set_option maxRecDepth 100000 in
theorem count_v (s : ByteArray) (a : Nat) (hs : s.size ≤ 1000000) (ha : (rows s.data.toList).length = a) (w : World) :
    Calls Try.prog 12 #[.string s] w fun e w' => e = .returned (.int .i64 (a : Int)) ∧ Below w.heap.size w w' := by
  obtain ⟨I, r, hc⟩ := cut_of s.data.toList
  have hc' : Cut (s.data.toList.take s.size) I r := by rw [List.take_of_length_le (by rw [size_list]; exact Nat.le_refl _)]; exact hc
  have ha' : I.length + 1 = a := by rw [← ha, hc.told]; simp
  have H := Lib.hid (And.intro hs (And.intro hc' ha'))
  clear hs hc hc' ha ha'
  go_enter Try.func12, Try.ntmps12
  go_wp2_with fail
  refine (spot_v s s.size a (r.length + 1) I r (Nat.le_refl _) H.out.1 H.out.2.1 H.out.2.2 rfl w).mono ?_
  rintro e w1 ⟨rfl, hb⟩
  have HB := Lib.hid hb
  clear hb
  go_wp2_with fail
  go_ret
  exact ⟨rfl, HB.out⟩
end Go.Proofs.Ytnmpaidllhijnaa
