/- The document's own shifts, bit by bit: they are the words' own. -/
import Derived.Test.YtmfhgdaiafklnaaRefA
namespace Go.Proofs.Ytmfhgdaiafklnaa
open Go.ChangeShapes Go.WideShapes Go.ChangeAt Go.RowKit
set_option linter.unusedVariables false

theorem shr_bits (X : BitVec 64) (N i : Nat) : (decide (i + N < 64) && X.getLsbD (i + N)) = (X >>> N).getLsbD i := by
  rw [BitVec.getLsbD_ushiftRight, Nat.add_comm N i]
  by_cases h : i + N < 64
  · simp [h]
  · rw [BitVec.getLsbD_of_ge _ _ (by omega)]; simp
theorem rows1z (w : World) (x : Nat → Bool) :
    At (((w.alloc (.cells zeros 39)).setRow w.heap.size (arr x)).alloc (.cells zeros 39)) w.heap.size x ∧
    At (((w.alloc (.cells zeros 39)).setRow w.heap.size (arr x)).alloc (.cells zeros 39)) (w.heap.size + 1) (fun _ => false) ∧
    Below w.heap.size w (((w.alloc (.cells zeros 39)).setRow w.heap.size (arr x)).alloc (.cells zeros 39)) := by
  obtain ⟨h1, h3⟩ := rows1 w x
  have e : ((w.alloc (.cells zeros 39)).setRow w.heap.size (arr x)).heap.size = w.heap.size + 1 := by simp
  have h4 := At.zeros ((w.alloc (.cells zeros 39)).setRow w.heap.size (arr x))
  rw [e] at h4
  exact ⟨h1.alloc _, h4, h3.alloc h3.size _⟩
theorem shift7p (a b : Int) (N : Nat) (hN : N < 64) (ht : b.tmod 64 = (N : Int)) (hfa : fit a) (w : World) :
    Calls Try.prog 24 #[.int .i64 7, .int .i64 a, .int .i64 b] w fun e w' => e = .returned (.int .i64 (shlV a N)) ∧ Below w.heap.size w w' := by
  obtain ⟨x, hx⟩ : ∃ x, (B a).getLsbD = x := ⟨_, rfl⟩
  have HX := Lib.hid hx
  have HFA := Lib.hid hfa
  clear hx hfa
  go_enter Try.func24, Try.ntmps24
  go_wp2_with fail
  refine (bits_x _ _ HX.out _).mono ?_
  rintro e w2 ⟨rfl, hb⟩
  have hs : w.heap.size ≤ w2.heap.size := hb.size
  have HB := Lib.hid hb
  clear hb ht
  have tok1 : True := trivial
  go_wp2_with ((have _t := tok1); refine wpList_store_row rfl 39 _ _ rfl w2.heap.size (arr x) rfl rfl 39 zeros (z_row w2) (arr_info x) (z_size x) (arr_one x) ?_; clear tok1)
  go_loopg [10] 64 (fun gk i wr => ∃ (k : Nat) (f : Nat → Bool), k + gk = 64 ∧ i = .int .i64 k ∧ Hid ((∀ j, j < k → f j = (decide (N ≤ j) && x (j - N))) ∧ (∀ j, k ≤ j → f j = false) ∧ At wr w2.heap.size x ∧ At wr (w2.heap.size + 1) f ∧ Below w.heap.size w wr))
  case atStart =>
    obtain ⟨r1, r2, r4⟩ := rows1z w2 x
    exact ⟨0, fun _ => false, rfl, rfl, fun j hj => absurd hj (by omega), fun _ _ => rfl, r1, r2, HB.out.trans (r4.mono hs)⟩
  case round =>
    obtain ⟨k, f, hk, rfl, HH⟩ := hrel
    by_cases hlt : k < 64
    · have c3 := HH.out.2.2.2.1.cell k hlt
      have c4 := HH.out.2.2.2.1.frozen k
      have fin : ∀ v : Bool, v = (decide (N ≤ k) && x (k - N)) → Hid ((∀ j, j < k + 1 → upd f k v j = (decide (N ≤ j) && x (j - N))) ∧ (∀ j, k + 1 ≤ j → upd f k v j = false) ∧ At (wr.setCell ⟨w2.heap.size + 1, k, none⟩ (.bool v)) w2.heap.size x ∧ At (wr.setCell ⟨w2.heap.size + 1, k, none⟩ (.bool v)) (w2.heap.size + 1) (upd f k v) ∧ Below w.heap.size w (wr.setCell ⟨w2.heap.size + 1, k, none⟩ (.bool v))) := by
        intro v hv
        obtain ⟨e1, e2, e3, e4, e5⟩ := HH.out
        refine ⟨?_, ?_, e3.other _ _ _ (by omega), e4.set _ _, e5.setCell (p := ⟨w2.heap.size + 1, k, none⟩) (show w.heap.size ≤ w2.heap.size + 1 by omega) _⟩
        · intro j hj
          by_cases h : j = k
          · subst h; rw [upd_same, hv]
          · rw [upd_other _ _ _ _ h]; exact e1 j (by omega)
        · intro j hj
          rw [upd_other _ _ _ _ (by omega)]; exact e2 j (by omega)
      have fin0 : (decide (N ≤ k) && x (k - N)) = false → Hid ((∀ j, j < k + 1 → f j = (decide (N ≤ j) && x (j - N))) ∧ (∀ j, k + 1 ≤ j → f j = false) ∧ At wr w2.heap.size x ∧ At wr (w2.heap.size + 1) f ∧ Below w.heap.size w wr) := by
        intro hv
        obtain ⟨e1, e2, e3, e4, e5⟩ := HH.out
        refine ⟨?_, fun j hj => e2 j (by omega), e3, e4, e5⟩
        intro j hj
        by_cases h : j = k
        · subst h; rw [hv]; exact e2 j (Nat.le_refl _)
        · exact e1 j (by omega)
      have FIN := Lib.hid fin
      have FIN0 := Lib.hid fin0
      clear fin fin0
      by_cases hc : N ≤ k
      · have c1 := HH.out.2.2.1.cell (k - N) (by omega)
        have hz : (0 : Int) ≤ (k : Int) - (N : Int) := by omega
        have hz2 : (k : Int) - (N : Int) < 64 := by omega
        have hz3 : ((k : Int) - (N : Int)).toNat = k - N := by omega
        go_wp2_with fail
        go_roundg (gk - 1)
        case measure => omega
        case rel => exact ⟨k + 1, _, by omega, by go_num, FIN.out _ (by simp [hc])⟩
      · have hz : ¬ (0 : Int) ≤ (k : Int) - (N : Int) := by omega
        have hz' : decide ((0 : Int) ≤ (k : Int) - (N : Int)) = false := by simpa using hz
        go_wp2_with fail
        go_roundg (gk - 1)
        case measure => omega
        case rel => exact ⟨k + 1, f, by omega, by go_num, FIN0.out (by simp [hc])⟩
    · obtain rfl : k = 64 := by omega
      obtain ⟨e1, e2, e3, e4, e5⟩ := HH.out
      have E4 : Hid (At wr (w2.heap.size + 1) (B a <<< N).getLsbD) := by
        have := e4
        unfold At at this
        rw [arr_ext (g := (B a <<< N).getLsbD) (fun i hi => by rw [e1 i hi, ← HX.out, BitVec.getLsbD_shiftLeft]; by_cases h : N ≤ i <;> simp [h, hi] <;> omega)] at this
        exact this
      obtain ⟨X, hX⟩ : ∃ X : BitVec 64, B a <<< N = X := ⟨_, rfl⟩
      have hv : X.toInt = shlV a N := by rw [← hX]; exact (shl_B a N).symm
      rw [hX] at E4
      have HV := Lib.hid hv
      clear e1 e2 e3 e4 HH hX hv
      have tok1 : True := trivial
      go_wp2_with ((have _t := tok1); refine wpList_load_row rfl 39 _ rfl (w2.heap.size + 1) rfl 39 (arr X.getLsbD) (0, 0) _ E4.out under39 rfl (arr_info _) ?_; clear tok1)
      refine (number_v _ _ HV.out _).mono ?_
      rintro e w3 ⟨rfl, hb3⟩
      go_wp2_with fail
      go_ret
      exact ⟨rfl, e5.trans (hb3.mono e5.size)⟩
theorem shift7m (a b : Int) (N : Nat) (hN : N < 64) (h1 : 1 ≤ N) (ht : b.tmod 64 = ((N : Int) - 64)) (hfa : fit a) (w : World) :
    Calls Try.prog 24 #[.int .i64 7, .int .i64 a, .int .i64 b] w fun e w' => e = .returned (.int .i64 (shlV a N)) ∧ Below w.heap.size w w' := by
  obtain ⟨x, hx⟩ : ∃ x, (B a).getLsbD = x := ⟨_, rfl⟩
  have HX := Lib.hid hx
  have HFA := Lib.hid hfa
  clear hx hfa
  go_enter Try.func24, Try.ntmps24
  go_wp2_with fail
  refine (bits_x _ _ HX.out _).mono ?_
  rintro e w2 ⟨rfl, hb⟩
  have hs : w.heap.size ≤ w2.heap.size := hb.size
  have HB := Lib.hid hb
  clear hb ht
  have tok1 : True := trivial
  go_wp2_with ((have _t := tok1); refine wpList_store_row rfl 39 _ _ rfl w2.heap.size (arr x) rfl rfl 39 zeros (z_row w2) (arr_info x) (z_size x) (arr_one x) ?_; clear tok1)
  go_loopg [10] 64 (fun gk i wr => ∃ (k : Nat) (f : Nat → Bool), k + gk = 64 ∧ i = .int .i64 k ∧ Hid ((∀ j, j < k → f j = (decide (N ≤ j) && x (j - N))) ∧ (∀ j, k ≤ j → f j = false) ∧ At wr w2.heap.size x ∧ At wr (w2.heap.size + 1) f ∧ Below w.heap.size w wr))
  case atStart =>
    obtain ⟨r1, r2, r4⟩ := rows1z w2 x
    exact ⟨0, fun _ => false, rfl, rfl, fun j hj => absurd hj (by omega), fun _ _ => rfl, r1, r2, HB.out.trans (r4.mono hs)⟩
  case round =>
    obtain ⟨k, f, hk, rfl, HH⟩ := hrel
    by_cases hlt : k < 64
    · have c3 := HH.out.2.2.2.1.cell k hlt
      have c4 := HH.out.2.2.2.1.frozen k
      have fin : ∀ v : Bool, v = (decide (N ≤ k) && x (k - N)) → Hid ((∀ j, j < k + 1 → upd f k v j = (decide (N ≤ j) && x (j - N))) ∧ (∀ j, k + 1 ≤ j → upd f k v j = false) ∧ At (wr.setCell ⟨w2.heap.size + 1, k, none⟩ (.bool v)) w2.heap.size x ∧ At (wr.setCell ⟨w2.heap.size + 1, k, none⟩ (.bool v)) (w2.heap.size + 1) (upd f k v) ∧ Below w.heap.size w (wr.setCell ⟨w2.heap.size + 1, k, none⟩ (.bool v))) := by
        intro v hv
        obtain ⟨e1, e2, e3, e4, e5⟩ := HH.out
        refine ⟨?_, ?_, e3.other _ _ _ (by omega), e4.set _ _, e5.setCell (p := ⟨w2.heap.size + 1, k, none⟩) (show w.heap.size ≤ w2.heap.size + 1 by omega) _⟩
        · intro j hj
          by_cases h : j = k
          · subst h; rw [upd_same, hv]
          · rw [upd_other _ _ _ _ h]; exact e1 j (by omega)
        · intro j hj
          rw [upd_other _ _ _ _ (by omega)]; exact e2 j (by omega)
      have fin0 : (decide (N ≤ k) && x (k - N)) = false → Hid ((∀ j, j < k + 1 → f j = (decide (N ≤ j) && x (j - N))) ∧ (∀ j, k + 1 ≤ j → f j = false) ∧ At wr w2.heap.size x ∧ At wr (w2.heap.size + 1) f ∧ Below w.heap.size w wr) := by
        intro hv
        obtain ⟨e1, e2, e3, e4, e5⟩ := HH.out
        refine ⟨?_, fun j hj => e2 j (by omega), e3, e4, e5⟩
        intro j hj
        by_cases h : j = k
        · subst h; rw [hv]; exact e2 j (Nat.le_refl _)
        · exact e1 j (by omega)
      have FIN := Lib.hid fin
      have FIN0 := Lib.hid fin0
      clear fin fin0
      by_cases hc : N ≤ k
      · have c1 := HH.out.2.2.1.cell (k - N) (by omega)
        have hz : (0 : Int) ≤ (k : Int) - (N : Int) := by omega
        have hz2 : (k : Int) - (N : Int) < 64 := by omega
        have hz3 : ((k : Int) - (N : Int)).toNat = k - N := by omega
        go_wp2_with fail
        go_roundg (gk - 1)
        case measure => omega
        case rel => exact ⟨k + 1, _, by omega, by go_num, FIN.out _ (by simp [hc])⟩
      · have hz : ¬ (0 : Int) ≤ (k : Int) - (N : Int) := by omega
        have hz' : decide ((0 : Int) ≤ (k : Int) - (N : Int)) = false := by simpa using hz
        go_wp2_with fail
        go_roundg (gk - 1)
        case measure => omega
        case rel => exact ⟨k + 1, f, by omega, by go_num, FIN0.out (by simp [hc])⟩
    · obtain rfl : k = 64 := by omega
      obtain ⟨e1, e2, e3, e4, e5⟩ := HH.out
      have E4 : Hid (At wr (w2.heap.size + 1) (B a <<< N).getLsbD) := by
        have := e4
        unfold At at this
        rw [arr_ext (g := (B a <<< N).getLsbD) (fun i hi => by rw [e1 i hi, ← HX.out, BitVec.getLsbD_shiftLeft]; by_cases h : N ≤ i <;> simp [h, hi] <;> omega)] at this
        exact this
      obtain ⟨X, hX⟩ : ∃ X : BitVec 64, B a <<< N = X := ⟨_, rfl⟩
      have hv : X.toInt = shlV a N := by rw [← hX]; exact (shl_B a N).symm
      rw [hX] at E4
      have HV := Lib.hid hv
      clear e1 e2 e3 e4 HH hX hv
      have tok1 : True := trivial
      go_wp2_with ((have _t := tok1); refine wpList_load_row rfl 39 _ rfl (w2.heap.size + 1) rfl 39 (arr X.getLsbD) (0, 0) _ E4.out under39 rfl (arr_info _) ?_; clear tok1)
      refine (number_v _ _ HV.out _).mono ?_
      rintro e w3 ⟨rfl, hb3⟩
      go_wp2_with fail
      go_ret
      exact ⟨rfl, e5.trans (hb3.mono e5.size)⟩
theorem shift8p (a b : Int) (N : Nat) (hN : N < 64) (ht : b.tmod 64 = (N : Int)) (hfa : fit a) (w : World) :
    Calls Try.prog 24 #[.int .i64 8, .int .i64 a, .int .i64 b] w fun e w' => e = .returned (.int .i64 (shrV a N)) ∧ Below w.heap.size w w' := by
  obtain ⟨x, hx⟩ : ∃ x, (B a).getLsbD = x := ⟨_, rfl⟩
  have HX := Lib.hid hx
  have HFA := Lib.hid hfa
  clear hx hfa
  go_enter Try.func24, Try.ntmps24
  go_wp2_with fail
  refine (bits_x _ _ HX.out _).mono ?_
  rintro e w2 ⟨rfl, hb⟩
  have hs : w.heap.size ≤ w2.heap.size := hb.size
  have HB := Lib.hid hb
  clear hb ht
  have tok1 : True := trivial
  go_wp2_with ((have _t := tok1); refine wpList_store_row rfl 39 _ _ rfl w2.heap.size (arr x) rfl rfl 39 zeros (z_row w2) (arr_info x) (z_size x) (arr_one x) ?_; clear tok1)
  go_loopg [10] 64 (fun gk i wr => ∃ (k : Nat) (f : Nat → Bool), k + gk = 64 ∧ i = .int .i64 k ∧ Hid ((∀ j, j < k → f j = (decide (j + N < 64) && x (j + N))) ∧ (∀ j, k ≤ j → f j = false) ∧ At wr w2.heap.size x ∧ At wr (w2.heap.size + 1) f ∧ Below w.heap.size w wr))
  case atStart =>
    obtain ⟨r1, r2, r4⟩ := rows1z w2 x
    exact ⟨0, fun _ => false, rfl, rfl, fun j hj => absurd hj (by omega), fun _ _ => rfl, r1, r2, HB.out.trans (r4.mono hs)⟩
  case round =>
    obtain ⟨k, f, hk, rfl, HH⟩ := hrel
    by_cases hlt : k < 64
    · have c3 := HH.out.2.2.2.1.cell k hlt
      have c4 := HH.out.2.2.2.1.frozen k
      have fin : ∀ v : Bool, v = (decide (k + N < 64) && x (k + N)) → Hid ((∀ j, j < k + 1 → upd f k v j = (decide (j + N < 64) && x (j + N))) ∧ (∀ j, k + 1 ≤ j → upd f k v j = false) ∧ At (wr.setCell ⟨w2.heap.size + 1, k, none⟩ (.bool v)) w2.heap.size x ∧ At (wr.setCell ⟨w2.heap.size + 1, k, none⟩ (.bool v)) (w2.heap.size + 1) (upd f k v) ∧ Below w.heap.size w (wr.setCell ⟨w2.heap.size + 1, k, none⟩ (.bool v))) := by
        intro v hv
        obtain ⟨e1, e2, e3, e4, e5⟩ := HH.out
        refine ⟨?_, ?_, e3.other _ _ _ (by omega), e4.set _ _, e5.setCell (p := ⟨w2.heap.size + 1, k, none⟩) (show w.heap.size ≤ w2.heap.size + 1 by omega) _⟩
        · intro j hj
          by_cases h : j = k
          · subst h; rw [upd_same, hv]
          · rw [upd_other _ _ _ _ h]; exact e1 j (by omega)
        · intro j hj
          rw [upd_other _ _ _ _ (by omega)]; exact e2 j (by omega)
      have fin0 : (decide (k + N < 64) && x (k + N)) = false → Hid ((∀ j, j < k + 1 → f j = (decide (j + N < 64) && x (j + N))) ∧ (∀ j, k + 1 ≤ j → f j = false) ∧ At wr w2.heap.size x ∧ At wr (w2.heap.size + 1) f ∧ Below w.heap.size w wr) := by
        intro hv
        obtain ⟨e1, e2, e3, e4, e5⟩ := HH.out
        refine ⟨?_, fun j hj => e2 j (by omega), e3, e4, e5⟩
        intro j hj
        by_cases h : j = k
        · subst h; rw [hv]; exact e2 j (Nat.le_refl _)
        · exact e1 j (by omega)
      have FIN := Lib.hid fin
      have FIN0 := Lib.hid fin0
      clear fin fin0
      by_cases hc : k + N < 64
      · have c1 := HH.out.2.2.1.cell (k + N) (by omega)
        have hz : (0 : Int) ≤ (k : Int) + (N : Int) := by omega
        have hz2 : (k : Int) + (N : Int) < 64 := by omega
        have hz3 : ((k : Int) + (N : Int)).toNat = k + N := by omega
        go_wp2_with fail
        go_roundg (gk - 1)
        case measure => omega
        case rel => exact ⟨k + 1, _, by omega, by go_num, FIN.out _ (by simp [hc])⟩
      · have hz : (0 : Int) ≤ (k : Int) + (N : Int) := by omega
        have hz' : decide ((k : Int) + (N : Int) < 64) = false := by rw [decide_eq_false_iff_not]; omega
        have HC := Lib.hid hc
        clear hc
        go_wp2_with fail
        go_roundg (gk - 1)
        case measure => omega
        case rel => exact ⟨k + 1, f, by omega, by go_num, FIN0.out (by simp [HC.out])⟩
    · obtain rfl : k = 64 := by omega
      obtain ⟨e1, e2, e3, e4, e5⟩ := HH.out
      have E4 : Hid (At wr (w2.heap.size + 1) (B a >>> N).getLsbD) := by
        have := e4
        unfold At at this
        rw [arr_ext (g := (B a >>> N).getLsbD) (fun i hi => by rw [e1 i hi, ← HX.out]; exact shr_bits _ _ _)] at this
        exact this
      obtain ⟨X, hX⟩ : ∃ X : BitVec 64, B a >>> N = X := ⟨_, rfl⟩
      have hv : X.toInt = shrV a N := by rw [← hX]; exact (shr_B a N).symm
      rw [hX] at E4
      have HV := Lib.hid hv
      clear e1 e2 e3 e4 HH hX hv
      have tok1 : True := trivial
      go_wp2_with ((have _t := tok1); refine wpList_load_row rfl 39 _ rfl (w2.heap.size + 1) rfl 39 (arr X.getLsbD) (0, 0) _ E4.out under39 rfl (arr_info _) ?_; clear tok1)
      refine (number_v _ _ HV.out _).mono ?_
      rintro e w3 ⟨rfl, hb3⟩
      go_wp2_with fail
      go_ret
      exact ⟨rfl, e5.trans (hb3.mono e5.size)⟩
theorem shift8m (a b : Int) (N : Nat) (hN : N < 64) (h1 : 1 ≤ N) (ht : b.tmod 64 = ((N : Int) - 64)) (hfa : fit a) (w : World) :
    Calls Try.prog 24 #[.int .i64 8, .int .i64 a, .int .i64 b] w fun e w' => e = .returned (.int .i64 (shrV a N)) ∧ Below w.heap.size w w' := by
  obtain ⟨x, hx⟩ : ∃ x, (B a).getLsbD = x := ⟨_, rfl⟩
  have HX := Lib.hid hx
  have HFA := Lib.hid hfa
  clear hx hfa
  go_enter Try.func24, Try.ntmps24
  go_wp2_with fail
  refine (bits_x _ _ HX.out _).mono ?_
  rintro e w2 ⟨rfl, hb⟩
  have hs : w.heap.size ≤ w2.heap.size := hb.size
  have HB := Lib.hid hb
  clear hb ht
  have tok1 : True := trivial
  go_wp2_with ((have _t := tok1); refine wpList_store_row rfl 39 _ _ rfl w2.heap.size (arr x) rfl rfl 39 zeros (z_row w2) (arr_info x) (z_size x) (arr_one x) ?_; clear tok1)
  go_loopg [10] 64 (fun gk i wr => ∃ (k : Nat) (f : Nat → Bool), k + gk = 64 ∧ i = .int .i64 k ∧ Hid ((∀ j, j < k → f j = (decide (j + N < 64) && x (j + N))) ∧ (∀ j, k ≤ j → f j = false) ∧ At wr w2.heap.size x ∧ At wr (w2.heap.size + 1) f ∧ Below w.heap.size w wr))
  case atStart =>
    obtain ⟨r1, r2, r4⟩ := rows1z w2 x
    exact ⟨0, fun _ => false, rfl, rfl, fun j hj => absurd hj (by omega), fun _ _ => rfl, r1, r2, HB.out.trans (r4.mono hs)⟩
  case round =>
    obtain ⟨k, f, hk, rfl, HH⟩ := hrel
    by_cases hlt : k < 64
    · have c3 := HH.out.2.2.2.1.cell k hlt
      have c4 := HH.out.2.2.2.1.frozen k
      have fin : ∀ v : Bool, v = (decide (k + N < 64) && x (k + N)) → Hid ((∀ j, j < k + 1 → upd f k v j = (decide (j + N < 64) && x (j + N))) ∧ (∀ j, k + 1 ≤ j → upd f k v j = false) ∧ At (wr.setCell ⟨w2.heap.size + 1, k, none⟩ (.bool v)) w2.heap.size x ∧ At (wr.setCell ⟨w2.heap.size + 1, k, none⟩ (.bool v)) (w2.heap.size + 1) (upd f k v) ∧ Below w.heap.size w (wr.setCell ⟨w2.heap.size + 1, k, none⟩ (.bool v))) := by
        intro v hv
        obtain ⟨e1, e2, e3, e4, e5⟩ := HH.out
        refine ⟨?_, ?_, e3.other _ _ _ (by omega), e4.set _ _, e5.setCell (p := ⟨w2.heap.size + 1, k, none⟩) (show w.heap.size ≤ w2.heap.size + 1 by omega) _⟩
        · intro j hj
          by_cases h : j = k
          · subst h; rw [upd_same, hv]
          · rw [upd_other _ _ _ _ h]; exact e1 j (by omega)
        · intro j hj
          rw [upd_other _ _ _ _ (by omega)]; exact e2 j (by omega)
      have fin0 : (decide (k + N < 64) && x (k + N)) = false → Hid ((∀ j, j < k + 1 → f j = (decide (j + N < 64) && x (j + N))) ∧ (∀ j, k + 1 ≤ j → f j = false) ∧ At wr w2.heap.size x ∧ At wr (w2.heap.size + 1) f ∧ Below w.heap.size w wr) := by
        intro hv
        obtain ⟨e1, e2, e3, e4, e5⟩ := HH.out
        refine ⟨?_, fun j hj => e2 j (by omega), e3, e4, e5⟩
        intro j hj
        by_cases h : j = k
        · subst h; rw [hv]; exact e2 j (Nat.le_refl _)
        · exact e1 j (by omega)
      have FIN := Lib.hid fin
      have FIN0 := Lib.hid fin0
      clear fin fin0
      by_cases hc : k + N < 64
      · have c1 := HH.out.2.2.1.cell (k + N) (by omega)
        have hz : (0 : Int) ≤ (k : Int) + (N : Int) := by omega
        have hz2 : (k : Int) + (N : Int) < 64 := by omega
        have hz3 : ((k : Int) + (N : Int)).toNat = k + N := by omega
        go_wp2_with fail
        go_roundg (gk - 1)
        case measure => omega
        case rel => exact ⟨k + 1, _, by omega, by go_num, FIN.out _ (by simp [hc])⟩
      · have hz : (0 : Int) ≤ (k : Int) + (N : Int) := by omega
        have hz' : decide ((k : Int) + (N : Int) < 64) = false := by rw [decide_eq_false_iff_not]; omega
        have HC := Lib.hid hc
        clear hc
        go_wp2_with fail
        go_roundg (gk - 1)
        case measure => omega
        case rel => exact ⟨k + 1, f, by omega, by go_num, FIN0.out (by simp [HC.out])⟩
    · obtain rfl : k = 64 := by omega
      obtain ⟨e1, e2, e3, e4, e5⟩ := HH.out
      have E4 : Hid (At wr (w2.heap.size + 1) (B a >>> N).getLsbD) := by
        have := e4
        unfold At at this
        rw [arr_ext (g := (B a >>> N).getLsbD) (fun i hi => by rw [e1 i hi, ← HX.out]; exact shr_bits _ _ _)] at this
        exact this
      obtain ⟨X, hX⟩ : ∃ X : BitVec 64, B a >>> N = X := ⟨_, rfl⟩
      have hv : X.toInt = shrV a N := by rw [← hX]; exact (shr_B a N).symm
      rw [hX] at E4
      have HV := Lib.hid hv
      clear e1 e2 e3 e4 HH hX hv
      have tok1 : True := trivial
      go_wp2_with ((have _t := tok1); refine wpList_load_row rfl 39 _ rfl (w2.heap.size + 1) rfl 39 (arr X.getLsbD) (0, 0) _ E4.out under39 rfl (arr_info _) ?_; clear tok1)
      refine (number_v _ _ HV.out _).mono ?_
      rintro e w3 ⟨rfl, hb3⟩
      go_wp2_with fail
      go_ret
      exact ⟨rfl, e5.trans (hb3.mono e5.size)⟩
theorem shift9p (a b : Int) (N : Nat) (hN : N < 64) (ht : b.tmod 64 = (N : Int)) (hfa : fit a) (w : World) :
    Calls Try.prog 24 #[.int .i64 9, .int .i64 a, .int .i64 b] w fun e w' => e = .returned (.int .i64 (sarV a N)) ∧ Below w.heap.size w w' := by
  obtain ⟨x, hx⟩ : ∃ x, (B a).getLsbD = x := ⟨_, rfl⟩
  have HX := Lib.hid hx
  have HFA := Lib.hid hfa
  clear hx hfa
  go_enter Try.func24, Try.ntmps24
  go_wp2_with fail
  refine (bits_x _ _ HX.out _).mono ?_
  rintro e w2 ⟨rfl, hb⟩
  have hs : w.heap.size ≤ w2.heap.size := hb.size
  have HB := Lib.hid hb
  clear hb ht
  have tok1 : True := trivial
  go_wp2_with ((have _t := tok1); refine wpList_store_row rfl 39 _ _ rfl w2.heap.size (arr x) rfl rfl 39 zeros (z_row w2) (arr_info x) (z_size x) (arr_one x) ?_; clear tok1)
  go_loopg [10] 64 (fun gk i wr => ∃ (k : Nat) (f : Nat → Bool), k + gk = 64 ∧ i = .int .i64 k ∧ Hid ((∀ j, j < k → f j = (if j + N < 64 then x (j + N) else x 63)) ∧ (∀ j, k ≤ j → f j = false) ∧ At wr w2.heap.size x ∧ At wr (w2.heap.size + 1) f ∧ Below w.heap.size w wr))
  case atStart =>
    obtain ⟨r1, r2, r4⟩ := rows1z w2 x
    exact ⟨0, fun _ => false, rfl, rfl, fun j hj => absurd hj (by omega), fun _ _ => rfl, r1, r2, HB.out.trans (r4.mono hs)⟩
  case round =>
    obtain ⟨k, f, hk, rfl, HH⟩ := hrel
    by_cases hlt : k < 64
    · have c3 := HH.out.2.2.2.1.cell k hlt
      have c4 := HH.out.2.2.2.1.frozen k
      have fin : ∀ v : Bool, v = (if k + N < 64 then x (k + N) else x 63) → Hid ((∀ j, j < k + 1 → upd f k v j = (if j + N < 64 then x (j + N) else x 63)) ∧ (∀ j, k + 1 ≤ j → upd f k v j = false) ∧ At (wr.setCell ⟨w2.heap.size + 1, k, none⟩ (.bool v)) w2.heap.size x ∧ At (wr.setCell ⟨w2.heap.size + 1, k, none⟩ (.bool v)) (w2.heap.size + 1) (upd f k v) ∧ Below w.heap.size w (wr.setCell ⟨w2.heap.size + 1, k, none⟩ (.bool v))) := by
        intro v hv
        obtain ⟨e1, e2, e3, e4, e5⟩ := HH.out
        refine ⟨?_, ?_, e3.other _ _ _ (by omega), e4.set _ _, e5.setCell (p := ⟨w2.heap.size + 1, k, none⟩) (show w.heap.size ≤ w2.heap.size + 1 by omega) _⟩
        · intro j hj
          by_cases h : j = k
          · subst h; rw [upd_same, hv]
          · rw [upd_other _ _ _ _ h]; exact e1 j (by omega)
        · intro j hj
          rw [upd_other _ _ _ _ (by omega)]; exact e2 j (by omega)
      have fin0 : (if k + N < 64 then x (k + N) else x 63) = false → Hid ((∀ j, j < k + 1 → f j = (if j + N < 64 then x (j + N) else x 63)) ∧ (∀ j, k + 1 ≤ j → f j = false) ∧ At wr w2.heap.size x ∧ At wr (w2.heap.size + 1) f ∧ Below w.heap.size w wr) := by
        intro hv
        obtain ⟨e1, e2, e3, e4, e5⟩ := HH.out
        refine ⟨?_, fun j hj => e2 j (by omega), e3, e4, e5⟩
        intro j hj
        by_cases h : j = k
        · subst h; rw [hv]; exact e2 j (Nat.le_refl _)
        · exact e1 j (by omega)
      have FIN := Lib.hid fin
      have FIN0 := Lib.hid fin0
      clear fin fin0
      by_cases hc : k + N < 64
      · have c1 := HH.out.2.2.1.cell (k + N) (by omega)
        have hz : (0 : Int) ≤ (k : Int) + (N : Int) := by omega
        have hz2 : (k : Int) + (N : Int) < 64 := by omega
        have hz3 : ((k : Int) + (N : Int)).toNat = k + N := by omega
        go_wp2_with fail
        go_roundg (gk - 1)
        case measure => omega
        case rel => exact ⟨k + 1, _, by omega, by go_num, FIN.out _ (by simp [hc])⟩
      · have hz : (0 : Int) ≤ (k : Int) + (N : Int) := by omega
        have hz' : decide ((k : Int) + (N : Int) < 64) = false := by rw [decide_eq_false_iff_not]; omega
        have HC := Lib.hid hc
        clear hc
        have c1 := HH.out.2.2.1.cell 63 (by omega)
        go_wp2_with fail
        go_roundg (gk - 1)
        case measure => omega
        case rel => exact ⟨k + 1, _, by omega, by go_num, FIN.out _ (by simp [HC.out])⟩
    · obtain rfl : k = 64 := by omega
      obtain ⟨e1, e2, e3, e4, e5⟩ := HH.out
      have E4 : Hid (At wr (w2.heap.size + 1) ((B a).sshiftRight N).getLsbD) := by
        have := e4
        unfold At at this
        rw [arr_ext (g := ((B a).sshiftRight N).getLsbD) (fun i hi => by rw [e1 i hi, ← HX.out, BitVec.getLsbD_sshiftRight, Nat.add_comm N i, BitVec.msb_eq_getLsbD_last]; by_cases h : i + N < 64 <;> simp [h] <;> omega)] at this
        exact this
      obtain ⟨X, hX⟩ : ∃ X : BitVec 64, (B a).sshiftRight N = X := ⟨_, rfl⟩
      have hv : X.toInt = sarV a N := by rw [← hX]; exact (sar_B a HFA.out N).symm
      rw [hX] at E4
      have HV := Lib.hid hv
      clear e1 e2 e3 e4 HH hX hv
      have tok1 : True := trivial
      go_wp2_with ((have _t := tok1); refine wpList_load_row rfl 39 _ rfl (w2.heap.size + 1) rfl 39 (arr X.getLsbD) (0, 0) _ E4.out under39 rfl (arr_info _) ?_; clear tok1)
      refine (number_v _ _ HV.out _).mono ?_
      rintro e w3 ⟨rfl, hb3⟩
      go_wp2_with fail
      go_ret
      exact ⟨rfl, e5.trans (hb3.mono e5.size)⟩
theorem shift9m (a b : Int) (N : Nat) (hN : N < 64) (h1 : 1 ≤ N) (ht : b.tmod 64 = ((N : Int) - 64)) (hfa : fit a) (w : World) :
    Calls Try.prog 24 #[.int .i64 9, .int .i64 a, .int .i64 b] w fun e w' => e = .returned (.int .i64 (sarV a N)) ∧ Below w.heap.size w w' := by
  obtain ⟨x, hx⟩ : ∃ x, (B a).getLsbD = x := ⟨_, rfl⟩
  have HX := Lib.hid hx
  have HFA := Lib.hid hfa
  clear hx hfa
  go_enter Try.func24, Try.ntmps24
  go_wp2_with fail
  refine (bits_x _ _ HX.out _).mono ?_
  rintro e w2 ⟨rfl, hb⟩
  have hs : w.heap.size ≤ w2.heap.size := hb.size
  have HB := Lib.hid hb
  clear hb ht
  have tok1 : True := trivial
  go_wp2_with ((have _t := tok1); refine wpList_store_row rfl 39 _ _ rfl w2.heap.size (arr x) rfl rfl 39 zeros (z_row w2) (arr_info x) (z_size x) (arr_one x) ?_; clear tok1)
  go_loopg [10] 64 (fun gk i wr => ∃ (k : Nat) (f : Nat → Bool), k + gk = 64 ∧ i = .int .i64 k ∧ Hid ((∀ j, j < k → f j = (if j + N < 64 then x (j + N) else x 63)) ∧ (∀ j, k ≤ j → f j = false) ∧ At wr w2.heap.size x ∧ At wr (w2.heap.size + 1) f ∧ Below w.heap.size w wr))
  case atStart =>
    obtain ⟨r1, r2, r4⟩ := rows1z w2 x
    exact ⟨0, fun _ => false, rfl, rfl, fun j hj => absurd hj (by omega), fun _ _ => rfl, r1, r2, HB.out.trans (r4.mono hs)⟩
  case round =>
    obtain ⟨k, f, hk, rfl, HH⟩ := hrel
    by_cases hlt : k < 64
    · have c3 := HH.out.2.2.2.1.cell k hlt
      have c4 := HH.out.2.2.2.1.frozen k
      have fin : ∀ v : Bool, v = (if k + N < 64 then x (k + N) else x 63) → Hid ((∀ j, j < k + 1 → upd f k v j = (if j + N < 64 then x (j + N) else x 63)) ∧ (∀ j, k + 1 ≤ j → upd f k v j = false) ∧ At (wr.setCell ⟨w2.heap.size + 1, k, none⟩ (.bool v)) w2.heap.size x ∧ At (wr.setCell ⟨w2.heap.size + 1, k, none⟩ (.bool v)) (w2.heap.size + 1) (upd f k v) ∧ Below w.heap.size w (wr.setCell ⟨w2.heap.size + 1, k, none⟩ (.bool v))) := by
        intro v hv
        obtain ⟨e1, e2, e3, e4, e5⟩ := HH.out
        refine ⟨?_, ?_, e3.other _ _ _ (by omega), e4.set _ _, e5.setCell (p := ⟨w2.heap.size + 1, k, none⟩) (show w.heap.size ≤ w2.heap.size + 1 by omega) _⟩
        · intro j hj
          by_cases h : j = k
          · subst h; rw [upd_same, hv]
          · rw [upd_other _ _ _ _ h]; exact e1 j (by omega)
        · intro j hj
          rw [upd_other _ _ _ _ (by omega)]; exact e2 j (by omega)
      have fin0 : (if k + N < 64 then x (k + N) else x 63) = false → Hid ((∀ j, j < k + 1 → f j = (if j + N < 64 then x (j + N) else x 63)) ∧ (∀ j, k + 1 ≤ j → f j = false) ∧ At wr w2.heap.size x ∧ At wr (w2.heap.size + 1) f ∧ Below w.heap.size w wr) := by
        intro hv
        obtain ⟨e1, e2, e3, e4, e5⟩ := HH.out
        refine ⟨?_, fun j hj => e2 j (by omega), e3, e4, e5⟩
        intro j hj
        by_cases h : j = k
        · subst h; rw [hv]; exact e2 j (Nat.le_refl _)
        · exact e1 j (by omega)
      have FIN := Lib.hid fin
      have FIN0 := Lib.hid fin0
      clear fin fin0
      by_cases hc : k + N < 64
      · have c1 := HH.out.2.2.1.cell (k + N) (by omega)
        have hz : (0 : Int) ≤ (k : Int) + (N : Int) := by omega
        have hz2 : (k : Int) + (N : Int) < 64 := by omega
        have hz3 : ((k : Int) + (N : Int)).toNat = k + N := by omega
        go_wp2_with fail
        go_roundg (gk - 1)
        case measure => omega
        case rel => exact ⟨k + 1, _, by omega, by go_num, FIN.out _ (by simp [hc])⟩
      · have hz : (0 : Int) ≤ (k : Int) + (N : Int) := by omega
        have hz' : decide ((k : Int) + (N : Int) < 64) = false := by rw [decide_eq_false_iff_not]; omega
        have HC := Lib.hid hc
        clear hc
        have c1 := HH.out.2.2.1.cell 63 (by omega)
        go_wp2_with fail
        go_roundg (gk - 1)
        case measure => omega
        case rel => exact ⟨k + 1, _, by omega, by go_num, FIN.out _ (by simp [HC.out])⟩
    · obtain rfl : k = 64 := by omega
      obtain ⟨e1, e2, e3, e4, e5⟩ := HH.out
      have E4 : Hid (At wr (w2.heap.size + 1) ((B a).sshiftRight N).getLsbD) := by
        have := e4
        unfold At at this
        rw [arr_ext (g := ((B a).sshiftRight N).getLsbD) (fun i hi => by rw [e1 i hi, ← HX.out, BitVec.getLsbD_sshiftRight, Nat.add_comm N i, BitVec.msb_eq_getLsbD_last]; by_cases h : i + N < 64 <;> simp [h] <;> omega)] at this
        exact this
      obtain ⟨X, hX⟩ : ∃ X : BitVec 64, (B a).sshiftRight N = X := ⟨_, rfl⟩
      have hv : X.toInt = sarV a N := by rw [← hX]; exact (sar_B a HFA.out N).symm
      rw [hX] at E4
      have HV := Lib.hid hv
      clear e1 e2 e3 e4 HH hX hv
      have tok1 : True := trivial
      go_wp2_with ((have _t := tok1); refine wpList_load_row rfl 39 _ rfl (w2.heap.size + 1) rfl 39 (arr X.getLsbD) (0, 0) _ E4.out under39 rfl (arr_info _) ?_; clear tok1)
      refine (number_v _ _ HV.out _).mono ?_
      rintro e w3 ⟨rfl, hb3⟩
      go_wp2_with fail
      go_ret
      exact ⟨rfl, e5.trans (hb3.mono e5.size)⟩
theorem tmod64 (b : Int) : (b.tmod 64 = ((shV b).toNat : Int) ∨ (1 ≤ (shV b).toNat ∧ b.tmod 64 = ((shV b).toNat : Int) - 64)) ∧ (shV b).toNat < 64 ∧ ((shV b).toNat : Int) = shV b := by
  have h := sh_mod b
  have h2 := sh_bd b
  have h3 : ((shV b).toNat : Int) = shV b := Int.toNat_of_nonneg h2.1
  refine ⟨?_, by omega, h3⟩
  rw [h3, h]
  by_cases hb : 0 ≤ b
  · rw [Int.tmod_eq_emod_of_nonneg hb]; exact .inl rfl
  · have e := Int.tmod_eq_emod (a := b) (b := 64)
    by_cases hd : (64 : Int) ∣ b
    · rw [e, if_pos (.inr hd)]; left; omega
    · rw [e, if_neg (by rintro (h | h); exact hb h; exact hd h)]
      right
      have : b % 64 ≠ 0 := fun h => hd (Int.dvd_of_emod_eq_zero h)
      have h4 : (64 : Int).natAbs = 64 := rfl
      rw [h4]
      refine ⟨by omega, by omega⟩
theorem rshl_is (a b : Int) (ha : fit a) (w : World) :
    Calls Try.prog 24 #[.int .i64 7, .int .i64 a, .int .i64 b] w fun e w' => e = .returned (.int .i64 (shlV a (shV b))) ∧ Below w.heap.size w w' := by
  obtain ⟨h, hl, e⟩ := tmod64 b
  rw [← e]
  rcases h with h | ⟨h1, h2⟩
  · exact shift7p a b _ hl h ha w
  · exact shift7m a b _ hl h1 h2 ha w
theorem rshr_is (a b : Int) (ha : fit a) (w : World) :
    Calls Try.prog 24 #[.int .i64 8, .int .i64 a, .int .i64 b] w fun e w' => e = .returned (.int .i64 (shrV a (shV b))) ∧ Below w.heap.size w w' := by
  obtain ⟨h, hl, e⟩ := tmod64 b
  rw [← e]
  rcases h with h | ⟨h1, h2⟩
  · exact shift8p a b _ hl h ha w
  · exact shift8m a b _ hl h1 h2 ha w
theorem rsar_is (a b : Int) (ha : fit a) (w : World) :
    Calls Try.prog 24 #[.int .i64 9, .int .i64 a, .int .i64 b] w fun e w' => e = .returned (.int .i64 (sarV a (shV b))) ∧ Below w.heap.size w w' := by
  obtain ⟨h, hl, e⟩ := tmod64 b
  rw [← e]
  rcases h with h | ⟨h1, h2⟩
  · exact shift9p a b _ hl h ha w
  · exact shift9m a b _ hl h1 h2 ha w
end Go.Proofs.Ytmfhgdaiafklnaa
