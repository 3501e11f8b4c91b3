/- The document's own 'and', 'or', 'not the same', bit by bit: they are the words' own. -/
import Derived.Test.YtmfhgdaiafklnaaRefA
import Derived.RegionTactic
namespace Go.Proofs.Ytmfhgdaiafklnaa
open Go.ChangeShapes Go.WideShapes Go.ChangeAt Go.RowKit
set_option linter.unusedVariables false

theorem each1_is (a b : Int) (w : World) :
    Calls Try.prog 23 #[.int .i64 1, .int .i64 a, .int .i64 b] w fun e w' => e = .returned (.int .i64 (andV a b)) ∧ Below w.heap.size w w' := by
  obtain ⟨x, hx⟩ : ∃ x, (B a).getLsbD = x := ⟨_, rfl⟩
  obtain ⟨y, hy⟩ : ∃ y, (B b).getLsbD = y := ⟨_, rfl⟩
  have HX := Lib.hid hx
  have HY := Lib.hid hy
  clear hx hy
  go_enter Try.func23, Try.ntmps23
  go_wp2_with fail
  refine (bits_x _ _ HX.out _).mono ?_
  rintro e w1 ⟨rfl, hb1⟩
  have B1 := Lib.hid hb1
  clear hb1
  go_wp2_with fail
  refine (bits_x _ _ HY.out _).mono ?_
  rintro e w2 ⟨rfl, hb2⟩
  have hb : Below w.heap.size w w2 := B1.out.trans (hb2.mono B1.out.size)
  have hs : w.heap.size ≤ w2.heap.size := hb.size
  have HB := Lib.hid hb
  clear hb hb2 B1
  have tok1 : True := trivial
  have tok2 : True := trivial
  go_wp2_with (first
    | ((have _t := tok1); refine wpList_store_row rfl 39 _ _ rfl w2.heap.size (arr x) rfl rfl 39 zeros (heap_alloc2_old w2 _ _) (arr_info x) (z_size x) (arr_one x) ?_; clear tok1)
    | ((have _t := tok2); refine wpList_store_row rfl 39 _ _ rfl (w2.heap.size + 1) (arr y) rfl rfl 39 zeros (z1_row w2 x) (arr_info y) (z_size y) (arr_one y) ?_; clear tok2))
  go_loopg [9] 64 (fun gk i wr => ∃ (k : Nat) (f : Nat → Bool), k + gk = 64 ∧ i = .int .i64 k ∧ Hid ((∀ j, j < k → f j = (x j && y j)) ∧ (∀ j, k ≤ j → f j = x j) ∧ At wr w2.heap.size f ∧ At wr (w2.heap.size + 1) y ∧ Below w.heap.size w wr))
  case atStart =>
    obtain ⟨r1, r2, r4⟩ := rows2 w2 x y
    exact ⟨0, x, rfl, rfl, fun j hj => absurd hj (by omega), fun _ _ => rfl, r1, r2, HB.out.trans (r4.mono hs)⟩
  case round =>
    obtain ⟨k, f, hk, rfl, HH⟩ := hrel
    by_cases hlt : k < 64
    · obtain ⟨p, hp⟩ : ∃ p, f k = p := ⟨_, rfl⟩
      obtain ⟨q, hq⟩ : ∃ q, y k = q := ⟨_, rfl⟩
      have c1 := HH.out.2.2.1.cell k hlt
      have c2 := HH.out.2.2.1.frozen k
      have c3 := HH.out.2.2.2.1.cell k hlt
      rw [hp] at c1
      rw [hq] at c3
      have fin : ∀ v : Bool, v = (p && q) → Hid ((∀ j, j < k + 1 → upd f k v j = (x j && y j)) ∧ (∀ j, k + 1 ≤ j → upd f k v j = x j) ∧ At (wr.setCell ⟨w2.heap.size, k, none⟩ (.bool v)) w2.heap.size (upd f k v) ∧ At (wr.setCell ⟨w2.heap.size, k, none⟩ (.bool v)) (w2.heap.size + 1) y ∧ Below w.heap.size w (wr.setCell ⟨w2.heap.size, k, none⟩ (.bool v))) := by
        intro v hv
        obtain ⟨e1, e2, e3, e4, e5⟩ := HH.out
        refine ⟨?_, ?_, e3.set _ _, e4.other _ _ _ (by omega), e5.setCell (p := ⟨w2.heap.size, k, none⟩) hs _⟩
        · intro j hj
          by_cases h : j = k
          · subst h; rw [upd_same, hv, ← hp, ← hq, e2 j (Nat.le_refl _)]
          · rw [upd_other _ _ _ _ h]; exact e1 j (by omega)
        · intro j hj
          rw [upd_other _ _ _ _ (by omega)]; exact e2 j (by omega)
      have FIN := Lib.hid fin
      clear fin hp hq
      cases p <;> cases q
      all_goals
        go_wp2_with fail
        go_roundg (gk - 1)
        case measure => omega
        case rel => exact ⟨k + 1, _, by omega, by go_num, FIN.out _ (by rfl)⟩
    · obtain rfl : k = 64 := by omega
      obtain ⟨e1, e2, e3, e4, e5⟩ := HH.out
      have E3 : Hid (At wr w2.heap.size (B a &&& B b).getLsbD) := by
        have := e3
        unfold At at this
        rw [arr_ext (g := (B a &&& B b).getLsbD) (fun i hi => by rw [e1 i hi, ← HX.out, ← HY.out, BitVec.getLsbD_and])] at this
        exact this
      clear e1 e2 e3 e4 HH
      have tok1 : True := trivial
      go_wp2_with ((have _t := tok1); refine wpList_load_row rfl 39 _ rfl w2.heap.size rfl 39 (arr (B a &&& B b).getLsbD) (0, 0) _ E3.out under39 rfl (arr_info _) ?_; clear tok1)
      refine (number_v _ _ (and_B a b).symm _).mono ?_
      rintro e w3 ⟨rfl, hb3⟩
      go_wp2_with fail
      go_ret
      exact ⟨rfl, e5.trans (hb3.mono e5.size)⟩
theorem each2_is (a b : Int) (w : World) :
    Calls Try.prog 23 #[.int .i64 2, .int .i64 a, .int .i64 b] w fun e w' => e = .returned (.int .i64 (orV a b)) ∧ Below w.heap.size w w' := by
  obtain ⟨x, hx⟩ : ∃ x, (B a).getLsbD = x := ⟨_, rfl⟩
  obtain ⟨y, hy⟩ : ∃ y, (B b).getLsbD = y := ⟨_, rfl⟩
  have HX := Lib.hid hx
  have HY := Lib.hid hy
  clear hx hy
  go_enter Try.func23, Try.ntmps23
  go_wp2_with fail
  refine (bits_x _ _ HX.out _).mono ?_
  rintro e w1 ⟨rfl, hb1⟩
  have B1 := Lib.hid hb1
  clear hb1
  go_wp2_with fail
  refine (bits_x _ _ HY.out _).mono ?_
  rintro e w2 ⟨rfl, hb2⟩
  have hb : Below w.heap.size w w2 := B1.out.trans (hb2.mono B1.out.size)
  have hs : w.heap.size ≤ w2.heap.size := hb.size
  have HB := Lib.hid hb
  clear hb hb2 B1
  have tok1 : True := trivial
  have tok2 : True := trivial
  go_wp2_with (first
    | ((have _t := tok1); refine wpList_store_row rfl 39 _ _ rfl w2.heap.size (arr x) rfl rfl 39 zeros (heap_alloc2_old w2 _ _) (arr_info x) (z_size x) (arr_one x) ?_; clear tok1)
    | ((have _t := tok2); refine wpList_store_row rfl 39 _ _ rfl (w2.heap.size + 1) (arr y) rfl rfl 39 zeros (z1_row w2 x) (arr_info y) (z_size y) (arr_one y) ?_; clear tok2))
  go_loopg [9] 64 (fun gk i wr => ∃ (k : Nat) (f : Nat → Bool), k + gk = 64 ∧ i = .int .i64 k ∧ Hid ((∀ j, j < k → f j = (x j || y j)) ∧ (∀ j, k ≤ j → f j = x j) ∧ At wr w2.heap.size f ∧ At wr (w2.heap.size + 1) y ∧ Below w.heap.size w wr))
  case atStart =>
    obtain ⟨r1, r2, r4⟩ := rows2 w2 x y
    exact ⟨0, x, rfl, rfl, fun j hj => absurd hj (by omega), fun _ _ => rfl, r1, r2, HB.out.trans (r4.mono hs)⟩
  case round =>
    obtain ⟨k, f, hk, rfl, HH⟩ := hrel
    by_cases hlt : k < 64
    · obtain ⟨p, hp⟩ : ∃ p, f k = p := ⟨_, rfl⟩
      obtain ⟨q, hq⟩ : ∃ q, y k = q := ⟨_, rfl⟩
      have c1 := HH.out.2.2.1.cell k hlt
      have c2 := HH.out.2.2.1.frozen k
      have c3 := HH.out.2.2.2.1.cell k hlt
      rw [hp] at c1
      rw [hq] at c3
      have fin : ∀ v : Bool, v = (p || q) → Hid ((∀ j, j < k + 1 → upd f k v j = (x j || y j)) ∧ (∀ j, k + 1 ≤ j → upd f k v j = x j) ∧ At (wr.setCell ⟨w2.heap.size, k, none⟩ (.bool v)) w2.heap.size (upd f k v) ∧ At (wr.setCell ⟨w2.heap.size, k, none⟩ (.bool v)) (w2.heap.size + 1) y ∧ Below w.heap.size w (wr.setCell ⟨w2.heap.size, k, none⟩ (.bool v))) := by
        intro v hv
        obtain ⟨e1, e2, e3, e4, e5⟩ := HH.out
        refine ⟨?_, ?_, e3.set _ _, e4.other _ _ _ (by omega), e5.setCell (p := ⟨w2.heap.size, k, none⟩) hs _⟩
        · intro j hj
          by_cases h : j = k
          · subst h; rw [upd_same, hv, ← hp, ← hq, e2 j (Nat.le_refl _)]
          · rw [upd_other _ _ _ _ h]; exact e1 j (by omega)
        · intro j hj
          rw [upd_other _ _ _ _ (by omega)]; exact e2 j (by omega)
      have FIN := Lib.hid fin
      clear fin hp hq
      cases p <;> cases q
      all_goals
        go_wp2_with fail
        go_roundg (gk - 1)
        case measure => omega
        case rel => exact ⟨k + 1, _, by omega, by go_num, FIN.out _ (by rfl)⟩
    · obtain rfl : k = 64 := by omega
      obtain ⟨e1, e2, e3, e4, e5⟩ := HH.out
      have E3 : Hid (At wr w2.heap.size (B a ||| B b).getLsbD) := by
        have := e3
        unfold At at this
        rw [arr_ext (g := (B a ||| B b).getLsbD) (fun i hi => by rw [e1 i hi, ← HX.out, ← HY.out, BitVec.getLsbD_or])] at this
        exact this
      clear e1 e2 e3 e4 HH
      have tok1 : True := trivial
      go_wp2_with ((have _t := tok1); refine wpList_load_row rfl 39 _ rfl w2.heap.size rfl 39 (arr (B a ||| B b).getLsbD) (0, 0) _ E3.out under39 rfl (arr_info _) ?_; clear tok1)
      refine (number_v _ _ (or_B a b).symm _).mono ?_
      rintro e w3 ⟨rfl, hb3⟩
      go_wp2_with fail
      go_ret
      exact ⟨rfl, e5.trans (hb3.mono e5.size)⟩
theorem each3_is (a b : Int) (w : World) :
    Calls Try.prog 23 #[.int .i64 3, .int .i64 a, .int .i64 b] w fun e w' => e = .returned (.int .i64 (xorV a b)) ∧ Below w.heap.size w w' := by
  obtain ⟨x, hx⟩ : ∃ x, (B a).getLsbD = x := ⟨_, rfl⟩
  obtain ⟨y, hy⟩ : ∃ y, (B b).getLsbD = y := ⟨_, rfl⟩
  have HX := Lib.hid hx
  have HY := Lib.hid hy
  clear hx hy
  go_enter Try.func23, Try.ntmps23
  go_wp2_with fail
  refine (bits_x _ _ HX.out _).mono ?_
  rintro e w1 ⟨rfl, hb1⟩
  have B1 := Lib.hid hb1
  clear hb1
  go_wp2_with fail
  refine (bits_x _ _ HY.out _).mono ?_
  rintro e w2 ⟨rfl, hb2⟩
  have hb : Below w.heap.size w w2 := B1.out.trans (hb2.mono B1.out.size)
  have hs : w.heap.size ≤ w2.heap.size := hb.size
  have HB := Lib.hid hb
  clear hb hb2 B1
  have tok1 : True := trivial
  have tok2 : True := trivial
  go_wp2_with (first
    | ((have _t := tok1); refine wpList_store_row rfl 39 _ _ rfl w2.heap.size (arr x) rfl rfl 39 zeros (heap_alloc2_old w2 _ _) (arr_info x) (z_size x) (arr_one x) ?_; clear tok1)
    | ((have _t := tok2); refine wpList_store_row rfl 39 _ _ rfl (w2.heap.size + 1) (arr y) rfl rfl 39 zeros (z1_row w2 x) (arr_info y) (z_size y) (arr_one y) ?_; clear tok2))
  go_loopg [9] 64 (fun gk i wr => ∃ (k : Nat) (f : Nat → Bool), k + gk = 64 ∧ i = .int .i64 k ∧ Hid ((∀ j, j < k → f j = (x j ^^ y j)) ∧ (∀ j, k ≤ j → f j = x j) ∧ At wr w2.heap.size f ∧ At wr (w2.heap.size + 1) y ∧ Below w.heap.size w wr))
  case atStart =>
    obtain ⟨r1, r2, r4⟩ := rows2 w2 x y
    exact ⟨0, x, rfl, rfl, fun j hj => absurd hj (by omega), fun _ _ => rfl, r1, r2, HB.out.trans (r4.mono hs)⟩
  case round =>
    obtain ⟨k, f, hk, rfl, HH⟩ := hrel
    by_cases hlt : k < 64
    · obtain ⟨p, hp⟩ : ∃ p, f k = p := ⟨_, rfl⟩
      obtain ⟨q, hq⟩ : ∃ q, y k = q := ⟨_, rfl⟩
      have c1 := HH.out.2.2.1.cell k hlt
      have c2 := HH.out.2.2.1.frozen k
      have c3 := HH.out.2.2.2.1.cell k hlt
      rw [hp] at c1
      rw [hq] at c3
      have fin : ∀ v : Bool, v = (p ^^ q) → Hid ((∀ j, j < k + 1 → upd f k v j = (x j ^^ y j)) ∧ (∀ j, k + 1 ≤ j → upd f k v j = x j) ∧ At (wr.setCell ⟨w2.heap.size, k, none⟩ (.bool v)).drew w2.heap.size (upd f k v) ∧ At (wr.setCell ⟨w2.heap.size, k, none⟩ (.bool v)).drew (w2.heap.size + 1) y ∧ Below w.heap.size w (wr.setCell ⟨w2.heap.size, k, none⟩ (.bool v)).drew) := by
        intro v hv
        obtain ⟨e1, e2, e3, e4, e5⟩ := HH.out
        refine ⟨?_, ?_, e3.set _ _, e4.other _ _ _ (by omega), (e5.setCell (p := ⟨w2.heap.size, k, none⟩) hs _).drew⟩
        · intro j hj
          by_cases h : j = k
          · subst h; rw [upd_same, hv, ← hp, ← hq, e2 j (Nat.le_refl _)]
          · rw [upd_other _ _ _ _ h]; exact e1 j (by omega)
        · intro j hj
          rw [upd_other _ _ _ _ (by omega)]; exact e2 j (by omega)
      have FIN := Lib.hid fin
      clear fin hp hq
      cases p <;> cases q
      all_goals
        go_wp2_with fail
        go_region
        all_goals go_wp2_with fail
        go_roundg (gk - 1)
        case measure => omega
        case rel => exact ⟨k + 1, _, by omega, by go_num, FIN.out _ (by rfl)⟩
    · obtain rfl : k = 64 := by omega
      obtain ⟨e1, e2, e3, e4, e5⟩ := HH.out
      have E3 : Hid (At wr w2.heap.size (B a ^^^ B b).getLsbD) := by
        have := e3
        unfold At at this
        rw [arr_ext (g := (B a ^^^ B b).getLsbD) (fun i hi => by rw [e1 i hi, ← HX.out, ← HY.out, BitVec.getLsbD_xor])] at this
        exact this
      clear e1 e2 e3 e4 HH
      have tok1 : True := trivial
      go_wp2_with ((have _t := tok1); refine wpList_load_row rfl 39 _ rfl w2.heap.size rfl 39 (arr (B a ^^^ B b).getLsbD) (0, 0) _ E3.out under39 rfl (arr_info _) ?_; clear tok1)
      refine (number_v _ _ (xor_B a b).symm _).mono ?_
      rintro e w3 ⟨rfl, hb3⟩
      go_wp2_with fail
      go_ret
      exact ⟨rfl, e5.trans (hb3.mono e5.size)⟩
end Go.Proofs.Ytmfhgdaiafklnaa
