/- The document's own comparing and dividing, bit by bit: they are the numbers' own. -/
import Derived.Test.YtmfhgdaiafklnaaRefA
import Derived.RegionTactic
namespace Go.Proofs.Ytmfhgdaiafklnaa
open Go.ChangeShapes Go.WideShapes Go.ChangeAt Go.RowKit
set_option linter.unusedVariables false

theorem rflag_t (w : World) : Calls Try.prog 27 #[.bool true] w fun e w' => e = .returned (.int .i64 1) ∧ w = w' := by
  go_enter Try.func27, Try.ntmps27
  go_wp2
  go_ret
  exact ⟨rfl, rfl⟩
theorem rflag_f (w : World) : Calls Try.prog 27 #[.bool false] w fun e w' => e = .returned (.int .i64 0) ∧ w = w' := by
  go_enter Try.func27, Try.ntmps27
  go_wp2
  go_ret
  exact ⟨rfl, rfl⟩
theorem rflag_is (c : Bool) (w : World) : Calls Try.prog 27 #[.bool c] w fun e w' => e = .returned (.int .i64 (flagV c)) ∧ w = w' := by
  cases c
  · exact rflag_f w
  · exact rflag_t w

theorem B_neg (a : Int) : B (negV a) = -(B a) := by unfold negV; rw [B_toInt]
theorem size_neg (a : Int) (h : fit a) (hn : a < 0) : IntKind.u64.wrap (negV a) = (a.natAbs : Int) := by
  rw [← B_toNat, B_neg, BitVec.toNat_neg, B, BitVec.toNat_ofInt]
  unfold fit at h
  omega
theorem size_is (a : Int) (h : fit a) (w : World) :
    Calls Try.prog 26 #[.int .i64 a] w fun e w' => e = .returned (.int .u64 (a.natAbs : Int)) ∧ Below w.heap.size w w' := by
  by_cases hn : a < 0
  · have HS := Lib.hid (size_neg a h hn)
    clear h
    go_enter Try.func26, Try.ntmps26
    go_wp2_with fail
    refine (neg_is _ _).mono ?_
    rintro e w2 ⟨rfl, hb⟩
    go_wp2_with fail
    go_ret
    exact ⟨ret_int HS.out, hb⟩
  · have h0 : 0 ≤ a := by omega
    have h1 : a ≤ 9223372036854775807 := h.2
    have HS : Hid ((a.natAbs : Int) = a) := by show (a.natAbs : Int) = a; omega
    clear h hn
    go_enter Try.func26, Try.ntmps26
    go_wp2_with fail
    go_ret
    exact ⟨ret_int HS.out.symm, Below.refl _ _⟩

theorem less_bit (X Y m : Nat) (h : X / 2 ^ (m + 1) = Y / 2 ^ (m + 1)) (hd : X.testBit m ≠ Y.testBit m) : Y.testBit m = decide (X < Y) := by
  have hx := up_one X m
  have hy := up_one Y m
  rw [h] at hx
  cases h1 : X.testBit m <;> cases h2 : Y.testBit m
  · rw [h1, h2] at hd; exact absurd rfl hd
  · simp [h1] at hx; simp [h2] at hy
    symm; rw [decide_eq_true_iff]
    apply Nat.lt_of_not_le; intro hc
    have := Nat.div_le_div_right (c := 2 ^ m) hc
    omega
  · simp [h1] at hx; simp [h2] at hy
    symm; rw [decide_eq_false_iff_not]
    intro hc
    have := Nat.div_le_div_right (c := 2 ^ m) (Nat.le_of_lt hc)
    omega
  · rw [h1, h2] at hd; exact absurd rfl hd
theorem less_same (X Y m : Nat) (h : X / 2 ^ (m + 1) = Y / 2 ^ (m + 1)) (hd : X.testBit m = Y.testBit m) : X / 2 ^ m = Y / 2 ^ m := by
  rw [up_one X m, up_one Y m, h, hd]
theorem less_msb (a b : Int) (ha : fit a) (hb : fit b) (h : (B a).getLsbD 63 ≠ (B b).getLsbD 63) : (B a).getLsbD 63 = decide (a < b) := by
  have m1 : (B a).msb = (B a).getLsbD 63 := BitVec.msb_eq_getLsbD_last _
  have m2 : (B b).msb = (B b).getLsbD 63 := BitVec.msb_eq_getLsbD_last _
  have s1 : (B a).msb = decide (a < 0) := by rw [BitVec.msb_eq_toInt, toInt_B ha]
  have s2 : (B b).msb = decide (b < 0) := by rw [BitVec.msb_eq_toInt, toInt_B hb]
  rw [← m1, ← m2, s1, s2] at h
  rw [← m1, s1, decide_eq_decide]
  rw [ne_eq, decide_eq_decide] at h
  omega
theorem less_nat (a b : Int) (ha : fit a) (hb : fit b) (h : (B a).getLsbD 63 = (B b).getLsbD 63) : decide ((B a).toNat < (B b).toNat) = decide (a < b) := by
  have m1 : (B a).msb = (B a).getLsbD 63 := BitVec.msb_eq_getLsbD_last _
  have m2 : (B b).msb = (B b).getLsbD 63 := BitVec.msb_eq_getLsbD_last _
  have s1 : (B a).msb = decide (a < 0) := by rw [BitVec.msb_eq_toInt, toInt_B ha]
  have s2 : (B b).msb = decide (b < 0) := by rw [BitVec.msb_eq_toInt, toInt_B hb]
  rw [← m1, ← m2, s1, s2, decide_eq_decide] at h
  rw [decide_eq_decide, B, B, BitVec.toNat_ofInt, BitVec.toNat_ofInt]
  unfold fit at ha hb
  omega
theorem high_eq (X Y : BitVec 64) (h : X.getLsbD 63 = Y.getLsbD 63) : X.toNat / 2 ^ 63 = Y.toNat / 2 ^ 63 := by
  have hx := up_one X.toNat 63
  have hy := up_one Y.toNat 63
  have e1 : X.toNat / 2 ^ (63 + 1) = 0 := Nat.div_eq_of_lt X.isLt
  have e2 : Y.toNat / 2 ^ (63 + 1) = 0 := Nat.div_eq_of_lt Y.isLt
  have t1 : X.toNat.testBit 63 = X.getLsbD 63 := rfl
  have t2 : Y.toNat.testBit 63 = Y.getLsbD 63 := rfl
  rw [hx, hy, e1, e2, t1, t2, h]

theorem less_is (a b : Int) (ha : fit a) (hb : fit b) (w : World) :
    Calls Try.prog 28 #[.int .i64 a, .int .i64 b] w fun e w' => e = .returned (.bool (decide (a < b))) ∧ Below w.heap.size w w' := by
  obtain ⟨x, hx⟩ : ∃ x, (B a).getLsbD = x := ⟨_, rfl⟩
  obtain ⟨y, hy⟩ : ∃ y, (B b).getLsbD = y := ⟨_, rfl⟩
  have HX := Lib.hid hx
  have HY := Lib.hid hy
  have HFA := Lib.hid ha
  have HFB := Lib.hid hb
  obtain ⟨lt, hl⟩ : ∃ lt, decide (a < b) = lt := ⟨_, rfl⟩
  rw [hl]
  have HL := Lib.hid hl
  clear hx hy ha hb hl
  go_enter Try.func28, Try.ntmps28
  go_wp2_with fail
  refine (bits_x _ _ HX.out _).mono ?_
  rintro e w1 ⟨rfl, hb1⟩
  have B1 := Lib.hid hb1
  clear hb1
  go_wp2_with fail
  refine (bits_x _ _ HY.out _).mono ?_
  rintro e w2 ⟨rfl, hb2⟩
  have hb : Below w.heap.size w w2 := B1.out.trans (hb2.mono B1.out.size)
  have hs : w.heap.size ≤ w2.heap.size := hb.size
  have HB := Lib.hid hb
  clear hb hb2 B1
  obtain ⟨p, hp⟩ : ∃ p, x 63 = p := ⟨_, rfl⟩
  obtain ⟨q, hq⟩ : ∃ q, y 63 = q := ⟨_, rfl⟩
  obtain ⟨r1, r2, r4⟩ := rows2 w2 x y
  have c1 := r1.cell 63 (by omega)
  have c2 := r2.cell 63 (by omega)
  rw [hp] at c1
  rw [hq] at c2
  unfold zeros at c1 c2
  have HP := Lib.hid hp
  have HQ := Lib.hid hq
  have R := Lib.hid (And.intro r1 (And.intro r2 r4))
  clear hp hq r1 r2 r4
  have tok1 : True := trivial
  have tok2 : True := trivial
  by_cases hpq : p = q
  · subst hpq
    have hne : (p != p) = false := by cases p <;> rfl
    go_wp2_with (first
      | ((have _t := tok1); refine wpList_store_row rfl 39 _ _ rfl w2.heap.size (arr x) rfl rfl 39 zeros (heap_alloc2_old w2 _ _) (arr_info x) (z_size x) (arr_one x) ?_; clear tok1)
      | ((have _t := tok2); refine wpList_store_row rfl 39 _ _ rfl (w2.heap.size + 1) (arr y) rfl rfl 39 zeros (z1_row w2 x) (arr_info y) (z_size y) (arr_one y) ?_; clear tok2))
    have h63 : (B a).getLsbD 63 = (B b).getLsbD 63 := by rw [HX.out, HY.out, HP.out, HQ.out]
    have hlt : decide ((B a).toNat < (B b).toNat) = lt := by rw [less_nat a b HFA.out HFB.out h63]; exact HL.out
    have H63 := Lib.hid (high_eq (B a) (B b) h63)
    have HLT := Lib.hid hlt
    clear h63 hlt c1 c2 hne
    go_loopg [7] 63 (fun gk i wr => ∃ (z : Int), z + 1 = gk ∧ gk ≤ 63 ∧ i = .int .i64 z ∧ Hid ((B a).toNat / 2 ^ gk = (B b).toNat / 2 ^ gk ∧ At wr w2.heap.size x ∧ At wr (w2.heap.size + 1) y ∧ Below w.heap.size w wr))
    case atStart => exact ⟨62, rfl, by omega, rfl, H63.out, R.out.1, R.out.2.1, HB.out.trans (R.out.2.2.mono hs)⟩
    case round =>
      obtain ⟨z, hz, hg, rfl, HH⟩ := hrel
      by_cases h0 : gk = 0
      · subst h0
        obtain rfl : z = -1 := by omega
        have hx : lt = false := by
          rw [← HLT.out, decide_eq_false_iff_not]
          have := HH.out.1
          rw [Nat.pow_zero, Nat.div_one, Nat.div_one] at this
          omega
        have HX2 := Lib.hid hx
        clear hx
        go_wp2_with fail
        go_ret
        exact ⟨by rw [HX2.out]; rfl, HH.out.2.2.2⟩
      · obtain ⟨m, rfl⟩ : ∃ m, gk = m + 1 := ⟨gk - 1, by omega⟩
        obtain rfl : z = m := by omega
        have c1 := HH.out.2.1.cell m (by omega)
        have c2 := HH.out.2.2.1.cell m (by omega)
        have hm : (m : Int) < 64 := by omega
        have hm2 : m < 64 := by omega
        obtain ⟨u, hu⟩ : ∃ u, x m = u := ⟨_, rfl⟩
        obtain ⟨v, hv⟩ : ∃ v, y m = v := ⟨_, rfl⟩
        rw [hu] at c1
        rw [hv] at c2
        have tu : (B a).toNat.testBit m = u := by rw [← hu, ← HX.out]; rfl
        have tv : (B b).toNat.testBit m = v := by rw [← hv, ← HY.out]; rfl
        have TU := Lib.hid tu
        have TV := Lib.hid tv
        clear hu hv tu tv hz
        have fin : u ≠ v → v = lt := by
          intro huv
          rw [← HLT.out, ← TV.out]
          exact less_bit _ _ m HH.out.1 (by rw [TU.out, TV.out]; exact huv)
        have fin2 : u = v → (B a).toNat / 2 ^ m = (B b).toNat / 2 ^ m := by
          intro huv
          exact less_same _ _ m HH.out.1 (by rw [TU.out, TV.out]; exact huv)
        have FIN := Lib.hid fin
        have FIN2 := Lib.hid fin2
        clear fin fin2 TU TV
        cases u <;> cases v
        · go_wp2_with fail
          go_region
          go_wp2_with fail
          go_roundg m
          case measure => omega
          case rel => exact ⟨(m : Int) - 1, by omega, by omega, rfl, FIN2.out (by trivial), HH.out.2.1, HH.out.2.2.1, HH.out.2.2.2.drew⟩
        · go_wp2_with fail
          go_region
          go_wp2_with fail
          go_ret
          exact ⟨by rw [← FIN.out (by decide)]; rfl, HH.out.2.2.2.drew⟩
        · go_wp2_with fail
          go_region
          go_wp2_with fail
          go_ret
          exact ⟨by rw [← FIN.out (by decide)]; rfl, HH.out.2.2.2.drew⟩
        · go_wp2_with fail
          go_region
          go_wp2_with fail
          go_roundg m
          case measure => omega
          case rel => exact ⟨(m : Int) - 1, by omega, by omega, rfl, FIN2.out (by trivial), HH.out.2.1, HH.out.2.2.1, HH.out.2.2.2.drew⟩
  · have hfin : p = lt := by
      rw [← HL.out, ← less_msb a b HFA.out HFB.out (by rw [HX.out, HY.out, HP.out, HQ.out]; exact hpq), HX.out, HP.out]
    have HFIN := Lib.hid hfin
    clear hfin
    cases p <;> cases q
    · exact absurd rfl hpq
    · clear hpq
      go_wp2_with (first
        | ((have _t := tok1); refine wpList_store_row rfl 39 _ _ rfl w2.heap.size (arr x) rfl rfl 39 zeros (heap_alloc2_old w2 _ _) (arr_info x) (z_size x) (arr_one x) ?_; clear tok1)
        | ((have _t := tok2); refine wpList_store_row rfl 39 _ _ rfl (w2.heap.size + 1) (arr y) rfl rfl 39 zeros (z1_row w2 x) (arr_info y) (z_size y) (arr_one y) ?_; clear tok2))
      go_ret
      exact ⟨by rw [← HFIN.out]; rfl, HB.out.trans (R.out.2.2.mono hs)⟩
    · clear hpq
      go_wp2_with (first
        | ((have _t := tok1); refine wpList_store_row rfl 39 _ _ rfl w2.heap.size (arr x) rfl rfl 39 zeros (heap_alloc2_old w2 _ _) (arr_info x) (z_size x) (arr_one x) ?_; clear tok1)
        | ((have _t := tok2); refine wpList_store_row rfl 39 _ _ rfl (w2.heap.size + 1) (arr y) rfl rfl 39 zeros (z1_row w2 x) (arr_info y) (z_size y) (arr_one y) ?_; clear tok2))
      go_ret
      exact ⟨by rw [← HFIN.out]; rfl, HB.out.trans (R.out.2.2.mono hs)⟩
    · exact absurd rfl hpq
end Go.Proofs.Ytmfhgdaiafklnaa
