/- The document's own sum, and what is taken from nought: bit by bit they are the words' own. -/
import Derived.Test.YtmfhgdaiafklnaaBits
namespace Go.Proofs.Ytmfhgdaiafklnaa
open Go.ChangeShapes Go.WideShapes Go.ChangeAt Go.RowKit
set_option linter.unusedVariables false

/-- Two arrays laid behind a world. -/
theorem rows2 (w : World) (x y : Nat → Bool) :
    At ((((w.alloc (.cells zeros 39)).alloc (.cells zeros 39)).setRow w.heap.size (arr x)).setRow (w.heap.size + 1) (arr y)) w.heap.size x ∧
    At ((((w.alloc (.cells zeros 39)).alloc (.cells zeros 39)).setRow w.heap.size (arr x)).setRow (w.heap.size + 1) (arr y)) (w.heap.size + 1) y ∧
    Below w.heap.size w ((((w.alloc (.cells zeros 39)).alloc (.cells zeros 39)).setRow w.heap.size (arr x)).setRow (w.heap.size + 1) (arr y)) := by
  have h0 : At ((w.alloc (.cells zeros 39)).alloc (.cells zeros 39)) w.heap.size (fun _ => false) := At.zeros1 w _
  have h1 : At ((w.alloc (.cells zeros 39)).alloc (.cells zeros 39)) (w.heap.size + 1) (fun _ => false) := At.zeros2 w _
  have a0 : At (((w.alloc (.cells zeros 39)).alloc (.cells zeros 39)).setRow w.heap.size (arr x)) w.heap.size x := setRow_heap _ _ _ _ _ _ h0
  have a1 : At (((w.alloc (.cells zeros 39)).alloc (.cells zeros 39)).setRow w.heap.size (arr x)) (w.heap.size + 1) (fun _ => false) := by
    unfold At; rw [setRow_other _ _ _ _ (by omega)]; exact h1
  refine ⟨?_, setRow_heap _ _ _ _ _ _ a1, ?_⟩
  · unfold At; rw [setRow_other _ _ _ _ (by omega)]; exact a0
  · exact below_setRow (below_setRow (((Below.refl _ _).alloc (Nat.le_refl _) _).alloc (by simp) _) (Nat.le_refl _) _) (by omega) _
theorem rows3 (w : World) (x y : Nat → Bool) :
    At (((((w.alloc (.cells zeros 39)).alloc (.cells zeros 39)).setRow w.heap.size (arr x)).setRow (w.heap.size + 1) (arr y)).alloc (.cells zeros 39)) w.heap.size x ∧
    At (((((w.alloc (.cells zeros 39)).alloc (.cells zeros 39)).setRow w.heap.size (arr x)).setRow (w.heap.size + 1) (arr y)).alloc (.cells zeros 39)) (w.heap.size + 1) y ∧
    At (((((w.alloc (.cells zeros 39)).alloc (.cells zeros 39)).setRow w.heap.size (arr x)).setRow (w.heap.size + 1) (arr y)).alloc (.cells zeros 39)) (w.heap.size + 1 + 1) (fun _ => false) ∧
    Below w.heap.size w (((((w.alloc (.cells zeros 39)).alloc (.cells zeros 39)).setRow w.heap.size (arr x)).setRow (w.heap.size + 1) (arr y)).alloc (.cells zeros 39)) := by
  obtain ⟨h1, h2, h3⟩ := rows2 w x y
  have e : ((((w.alloc (.cells zeros 39)).alloc (.cells zeros 39)).setRow w.heap.size (arr x)).setRow (w.heap.size + 1) (arr y)).heap.size = w.heap.size + 1 + 1 := by simp
  have h4 := At.zeros ((((w.alloc (.cells zeros 39)).alloc (.cells zeros 39)).setRow w.heap.size (arr x)).setRow (w.heap.size + 1) (arr y))
  rw [e] at h4
  exact ⟨h1.alloc _, h2.alloc _, h4, h3.alloc h3.size _⟩
theorem rows1 (w : World) (x : Nat → Bool) :
    At ((w.alloc (.cells zeros 39)).setRow w.heap.size (arr x)) w.heap.size x ∧ Below w.heap.size w ((w.alloc (.cells zeros 39)).setRow w.heap.size (arr x)) :=
  ⟨setRow_heap _ _ _ _ _ _ (At.zeros w), below_setRow ((Below.refl _ _).alloc (Nat.le_refl _) _) (Nat.le_refl _) _⟩
theorem At.row {w : World} {g : Nat} {f : Nat → Bool} (h : At w g f) : w.heap[g]? = some (.cells (arr f) 39 (0, 0)) := h
theorem z_row (w : World) : (w.alloc (.cells zeros 39)).heap[w.heap.size]? = some (.cells zeros 39 (0, 0)) := heap_alloc_new w _
theorem z_size (f : Nat → Bool) : zeros.size = (arr f).size := by rw [arr_size]; rfl
theorem arr_info (f : Nat → Bool) : (Try.prog.info? 39).map (·.size) = some (arr f).size := by rw [arr_size]; exact size39
theorem z1_row (w : World) (x : Nat → Bool) : (((w.alloc (.cells zeros 39)).alloc (.cells zeros 39)).setRow w.heap.size (arr x)).heap[w.heap.size + 1]? = some (.cells zeros 39 (0, 0)) := by
  rw [setRow_other _ _ _ _ (by omega)]; exact heap_alloc2_new w _ _

theorem bits_x (a : Int) (x : Nat → Bool) (h : (B a).getLsbD = x) (w : World) :
    Calls Try.prog 29 #[.int .i64 a] w fun e w' => e = .returned (.agg (arr x)) ∧ Below w.heap.size w w' := by
  rw [← h]; exact bits_is a w
theorem number_v (X : BitVec 64) (v : Int) (h : X.toInt = v) (w : World) :
    Calls Try.prog 30 #[.agg (arr X.getLsbD)] w fun e w' => e = .returned (.int .i64 v) ∧ Below w.heap.size w w' := by
  rw [← h]; exact number_is X w
theorem add_is (a b : Int) (w : World) :
    Calls Try.prog 20 #[.int .i64 a, .int .i64 b] w fun e w' => e = .returned (.int .i64 (addV a b)) ∧ Below w.heap.size w w' := by
  obtain ⟨x, hx⟩ : ∃ x, (B a).getLsbD = x := ⟨_, rfl⟩
  obtain ⟨y, hy⟩ : ∃ y, (B b).getLsbD = y := ⟨_, rfl⟩
  have HX := Lib.hid hx
  have HY := Lib.hid hy
  clear hx hy
  go_enter Try.func20, Try.ntmps20
  go_wp2_with fail
  refine (bits_x _ _ HX.out _).mono ?_
  rintro e w1 ⟨rfl, hb1⟩
  have B1 := Lib.hid hb1
  clear hb1
  go_wp2_with fail
  refine (bits_x _ _ HY.out _).mono ?_
  rintro e w2 ⟨rfl, hb2⟩
  have hb : Below w.heap.size w w2 := B1.out.trans (hb2.mono B1.out.size)
  have hs : w.heap.size ≤ w2.heap.size := hb.size
  have HB := Lib.hid hb
  clear hb hb2 B1
  have tok1 : True := trivial
  have tok2 : True := trivial
  go_wp2_with (first
    | ((have _t := tok1); refine wpList_store_row rfl 39 _ _ rfl w2.heap.size (arr x) rfl rfl 39 zeros (heap_alloc2_old w2 _ _) (arr_info x) (z_size x) (arr_one x) ?_; clear tok1)
    | ((have _t := tok2); refine wpList_store_row rfl 39 _ _ rfl (w2.heap.size + 1) (arr y) rfl rfl 39 zeros (z1_row w2 x) (arr_info y) (z_size y) (arr_one y) ?_; clear tok2))
  go_loopg [8, 9] 64 (fun gk c i wr => ∃ (k : Nat) (cy : Bool) (f : Nat → Bool), k + gk = 64 ∧ i = .int .i64 k ∧ c = .bool cy ∧ Hid (cy = BitVec.carry k (B a) (B b) false ∧ (∀ j, j < k → f j = (B a + B b).getLsbD j) ∧ At wr w2.heap.size x ∧ At wr (w2.heap.size + 1) y ∧ At wr (w2.heap.size + 1 + 1) f ∧ Below w.heap.size w wr))
  case atStart =>
    obtain ⟨r1, r2, r3, r4⟩ := rows3 w2 x y
    exact ⟨0, false, fun _ => false, rfl, rfl, rfl, by simp, fun j hj => absurd hj (by omega), r1, r2, r3, HB.out.trans (r4.mono hs)⟩
  case round =>
    obtain ⟨k, cy, f, hk, rfl, rfl, HH⟩ := hrel
    by_cases hlt : k < 64
    · obtain ⟨p, hp⟩ : ∃ p, x k = p := ⟨_, rfl⟩
      obtain ⟨q, hq⟩ : ∃ q, y k = q := ⟨_, rfl⟩
      have c1 := HH.out.2.2.1.cell k hlt
      have c2 := HH.out.2.2.2.1.cell k hlt
      have c3 := HH.out.2.2.2.2.1.cell k hlt
      have c4 := HH.out.2.2.2.2.1.frozen k
      rw [hp] at c1
      rw [hq] at c2
      have fin : ∀ v c' : Bool, v = (p ^^ (q ^^ cy)) → c' = Bool.atLeastTwo p q cy → Hid (c' = BitVec.carry (k + 1) (B a) (B b) false ∧ (∀ j, j < k + 1 → upd f k v j = (B a + B b).getLsbD j) ∧ At (wr.setCell ⟨w2.heap.size + 1 + 1, k, none⟩ (.bool v)) w2.heap.size x ∧ At (wr.setCell ⟨w2.heap.size + 1 + 1, k, none⟩ (.bool v)) (w2.heap.size + 1) y ∧ At (wr.setCell ⟨w2.heap.size + 1 + 1, k, none⟩ (.bool v)) (w2.heap.size + 1 + 1) (upd f k v) ∧ Below w.heap.size w (wr.setCell ⟨w2.heap.size + 1 + 1, k, none⟩ (.bool v))) := by
        intro v c' hv hc'
        obtain ⟨e1, e2, e3, e4, e5, e6⟩ := HH.out
        have p1 : (B a).getLsbD k = p := by rw [HX.out]; exact hp
        have q1 : (B b).getLsbD k = q := by rw [HY.out]; exact hq
        refine ⟨?_, ?_, e3.other _ _ _ (by omega), e4.other _ _ _ (by omega), e5.set _ _, e6.setCell (p := ⟨w2.heap.size + 1 + 1, k, none⟩) (show w.heap.size ≤ w2.heap.size + 1 + 1 by omega) _⟩
        · rw [hc', BitVec.carry_succ, p1, q1, e1]
        · intro j hj
          by_cases h : j = k
          · subst h; rw [upd_same, hv, BitVec.getLsbD_add hlt, p1, q1, e1]
          · rw [upd_other _ _ _ _ h]; exact e2 j (by omega)
      have FIN := Lib.hid fin
      clear fin hp hq
      cases p <;> cases q <;> cases cy
      all_goals
        go_wp2_with fail
        go_roundg (gk - 1)
        case measure => omega
        case rel => exact ⟨k + 1, _, _, by omega, by go_num, rfl, FIN.out _ _ (by rfl) (by rfl)⟩
    · obtain rfl : k = 64 := by omega
      obtain ⟨e1, e2, e3, e4, e5, e6⟩ := HH.out
      have E5 : Hid (At wr (w2.heap.size + 1 + 1) (B a + B b).getLsbD) := by
        have := e5
        unfold At at this
        rw [arr_ext e2] at this
        exact this
      clear e1 e2 e3 e4 e5 HH
      have tok1 : True := trivial
      go_wp2_with ((have _t := tok1); refine wpList_load_row rfl 39 _ rfl (w2.heap.size + 1 + 1) rfl 39 (arr (B a + B b).getLsbD) (0, 0) _ E5.out under39 rfl (arr_info _) ?_; clear tok1)
      refine (number_v _ _ (add_B a b).symm _).mono ?_
      rintro e w3 ⟨rfl, hb3⟩
      go_wp2_with fail
      go_ret
      exact ⟨rfl, e6.trans (hb3.mono e6.size)⟩

/-- What is taken from nought. -/
def negV (a : Int) : Int := (-(B a)).toInt
theorem neg_add (a : Int) : addV (~~~ (B a)).toInt 1 = negV a := by
  rw [add_B, B_toInt]
  unfold negV
  rw [BitVec.neg_eq_not_add]; rfl
theorem neg_is (a : Int) (w : World) :
    Calls Try.prog 21 #[.int .i64 a] w fun e w' => e = .returned (.int .i64 (negV a)) ∧ Below w.heap.size w w' := by
  obtain ⟨x, hx⟩ : ∃ x, (B a).getLsbD = x := ⟨_, rfl⟩
  have HX := Lib.hid hx
  obtain ⟨v, hv⟩ : ∃ v, (~~~ (B a)).toInt = v := ⟨_, rfl⟩
  have HV := Lib.hid hv
  clear hx hv
  go_enter Try.func21, Try.ntmps21
  go_wp2_with fail
  refine (bits_x _ _ HX.out _).mono ?_
  rintro e w2 ⟨rfl, hb⟩
  have hs : w.heap.size ≤ w2.heap.size := hb.size
  have HB := Lib.hid hb
  clear hb
  have tok1 : True := trivial
  go_wp2_with ((have _t := tok1); refine wpList_store_row rfl 39 _ _ rfl w2.heap.size (arr x) rfl rfl 39 zeros (z_row w2) (arr_info x) (z_size x) (arr_one x) ?_; clear tok1)
  go_loopg [4] 64 (fun gk i wr => ∃ (k : Nat) (f : Nat → Bool), k + gk = 64 ∧ i = .int .i64 k ∧ Hid ((∀ j, j < k → f j = !x j) ∧ (∀ j, k ≤ j → f j = x j) ∧ At wr w2.heap.size f ∧ Below w.heap.size w wr))
  case atStart =>
    obtain ⟨r1, r4⟩ := rows1 w2 x
    exact ⟨0, x, rfl, rfl, fun j hj => absurd hj (by omega), fun _ _ => rfl, r1, HB.out.trans (r4.mono hs)⟩
  case round =>
    obtain ⟨k, f, hk, rfl, HH⟩ := hrel
    by_cases hlt : k < 64
    · obtain ⟨p, hp⟩ : ∃ p, f k = p := ⟨_, rfl⟩
      have c3 := HH.out.2.2.1.cell k hlt
      have c4 := HH.out.2.2.1.frozen k
      rw [hp] at c3
      have HP := Lib.hid hp
      clear hp
      go_wp2_with fail
      go_roundg (gk - 1)
      case measure => omega
      case rel =>
        obtain ⟨e1, e2, e3, e4⟩ := HH.out
        refine ⟨k + 1, upd f k (!p), by omega, by go_num, ?_, ?_, e3.set _ _, e4.setCell (p := ⟨w2.heap.size, k, none⟩) hs _⟩
        · intro j hj
          by_cases h : j = k
          · subst h; rw [upd_same, ← HP.out, e2 j (Nat.le_refl _)]
          · rw [upd_other _ _ _ _ h]; exact e1 j (by omega)
        · intro j hj
          rw [upd_other _ _ _ _ (by omega)]; exact e2 j (by omega)
    · obtain rfl : k = 64 := by omega
      obtain ⟨e1, e2, e3, e4⟩ := HH.out
      have E3 : Hid (At wr w2.heap.size (~~~ (B a)).getLsbD) := by
        have := e3
        unfold At at this
        rw [arr_ext (g := (~~~ (B a)).getLsbD) (fun i hi => by rw [e1 i hi, ← HX.out]; simp [hi])] at this
        exact this
      clear e1 e2 e3 HH
      have tok1 : True := trivial
      go_wp2_with ((have _t := tok1); refine wpList_load_row rfl 39 _ rfl w2.heap.size rfl 39 (arr (~~~ (B a)).getLsbD) (0, 0) _ E3.out under39 rfl (arr_info _) ?_; clear tok1)
      refine (number_v _ v HV.out _).mono ?_
      rintro e w3 ⟨rfl, hb3⟩
      have B3 := Lib.hid hb3
      clear hb3
      go_wp2_with fail
      refine (add_is _ _ _).mono ?_
      rintro e w4 ⟨rfl, hb4⟩
      go_wp2_with fail
      go_ret
      have b3 := e4.trans (B3.out.mono e4.size)
      exact ⟨ret_int (by rw [← HV.out]; exact neg_add a), b3.trans (hb4.mono b3.size)⟩
end Go.Proofs.Ytmfhgdaiafklnaa
