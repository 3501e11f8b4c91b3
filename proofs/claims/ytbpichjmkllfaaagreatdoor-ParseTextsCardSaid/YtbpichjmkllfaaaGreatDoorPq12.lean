/- Packed texts of one proof. Conditions: none. -/
import Derived.Test.YtbpichjmkllfaaaGreatDoorPq11
import Derived.RegionTactic
import Derived.Laws.ResultCell
namespace Go.Proofs.YtbpichjmkllfaaaGreatDoor
open Go.ChangeShapes Go.WideShapes Go.ChangeAt Go.RowKit
set_option linter.unusedVariables false
def arr (f : Nat → Bool) : Array Value := Array.ofFn (n := 64) fun i => .bool (f i)
theorem arr_size (f : Nat → Bool) : (arr f).size = 64 := by simp [arr]
theorem arr_get (f : Nat → Bool) (k : Nat) (h : k < 64) : (arr f)[k]? = some (.bool (f k)) := by simp [arr, h]
theorem arr_ext {f g : Nat → Bool} (h : ∀ i, i < 64 → f i = g i) : arr f = arr g := by
 unfold arr; congr 1; funext i; rw [h i i.isLt]
theorem arr_one (f : Nat → Bool) : (arr f).all (·.oneCell') = true := by
 rw [Array.all_eq_true]; intro i hi; simp [arr, Value.oneCell']
def upd (f : Nat → Bool) (k : Nat) (v : Bool) : Nat → Bool := fun i => if i = k then v else f i
theorem upd_same (f : Nat → Bool) (k : Nat) (v : Bool) : upd f k v k = v := by simp [upd]
theorem upd_other (f : Nat → Bool) (k i : Nat) (v : Bool) (h : i ≠ k) : upd f k v i = f i := by simp [upd, h]
theorem arr_set (f : Nat → Bool) (k : Nat) (v : Bool) : (arr f).setIfInBounds k (.bool v) = arr (upd f k v) := by
 apply Array.ext_getElem?
 intro i
 rw [Array.getElem?_setIfInBounds]
 by_cases hi : i < 64
 ·rw [arr_get _ _ hi]
  by_cases e : k = i
  ·subst e; rw [if_pos rfl, if_pos (by rw [arr_size]; exact hi), arr_get _ _ hi, upd_same]
  ·rw [if_neg e, arr_get _ _ hi, upd_other _ _ _ _ (fun h => e h.symm)]
 ·have h1 : (arr f)[i]? = none := by rw [Array.getElem?_eq_none]; rw [arr_size]; omega
  have h2 : (arr (upd f k v))[i]? = none := by rw [Array.getElem?_eq_none]; rw [arr_size]; omega
  rw [h1, h2]; split <;> simp [arr_size]; omega
def At (w : World) (g : Nat) (f : Nat → Bool) : Prop := w.heap[g]? = some (.cells (arr f) 249 (0, 0))
theorem At.cell {w : World} {g : Nat} {f : Nat → Bool} (h : At w g f) (k : Nat) (hk : k < 64) : w.cell? ⟨g, k, none⟩ = some (.bool (f k)) := by
 rw [cell_of_row w g k _ _ _ h, arr_get f k hk]
theorem At.frozen {w : World} {g : Nat} {f : Nat → Bool} (h : At w g f) (k : Nat) : w.frozen? ⟨g, k, none⟩ = false := frozen_of_row w g k _ _ h
theorem At.lt {w : World} {g : Nat} {f : Nat → Bool} (h : At w g f) : g < w.heap.size := by
 have := Array.getElem?_eq_some_iff.1 h
 exact this.1
theorem At.set {w : World} {g : Nat} {f : Nat → Bool} (h : At w g f) (k : Nat) (v : Bool) : At (w.setCell ⟨g, k, none⟩ (.bool v)) g (upd f k v) := by
 unfold At; rw [heap_setCell_same w g k _ _ _ h, arr_set]
theorem At.other {w : World} {g : Nat} {f : Nat → Bool} (h : At w g f) (b k : Nat) (v : Value) (hb : g ≠ b) : At (w.setCell ⟨b, k, none⟩ v) g f := by
 unfold At; rw [heap_setCell_other w _ g v hb]; exact h
theorem At.alloc {w : World} {g : Nat} {f : Nat → Bool} (h : At w g f) (o : Obj) : At (w.alloc o) g f := by
 unfold At; rw [Below.heap_alloc w o g h.lt]; exact h
theorem At.new (w : World) (f : Nat → Bool) : At (w.alloc (.cells (arr f) 249)) w.heap.size f := heap_alloc_new w _
theorem At.below {B : Nat} {w w' : World} {g : Nat} {f : Nat → Bool} (h : At w g f) (hb : Below B w w') (hg : g < B) : At w' g f := by
 unfold At; rw [hb.block g hg]; exact h
theorem size39 : (Tryz.prog.info? 249).map (·.size) = some 64 := by kernel_rfl
theorem under39 : Tryz.prog.underlying 249 = some (.array 64 4) := by kernel_rfl
def zeros : Array Value := #[.bool false, .bool false, .bool false, .bool false, .bool false, .bool false, .bool false, .bool false, .bool false, .bool false, .bool false, .bool false, .bool false, .bool false, .bool false, .bool false, .bool false, .bool false, .bool false, .bool false, .bool false, .bool false, .bool false, .bool false, .bool false, .bool false, .bool false, .bool false, .bool false, .bool false, .bool false, .bool false, .bool false, .bool false, .bool false, .bool false, .bool false, .bool false, .bool false, .bool false, .bool false, .bool false, .bool false, .bool false, .bool false, .bool false, .bool false, .bool false, .bool false, .bool false, .bool false, .bool false, .bool false, .bool false, .bool false, .bool false, .bool false, .bool false, .bool false, .bool false, .bool false, .bool false, .bool false, .bool false]
theorem zeros_eq : zeros = arr (fun _ => false) := by kernel_rfl
theorem At.zeros (w : World) : At (w.alloc (.cells zeros 249)) w.heap.size (fun _ => false) := by rw [zeros_eq]; exact At.new w _
theorem At.zeros2 (w : World) (o : Obj) : At ((w.alloc o).alloc (.cells YtbpichjmkllfaaaGreatDoor.zeros 249)) (w.heap.size + 1) (fun _ => false) := by rw [zeros_eq]; exact heap_alloc2_new w _ _
theorem At.zeros1 (w : World) (o : Obj) : At ((w.alloc (.cells YtbpichjmkllfaaaGreatDoor.zeros 249)).alloc o) w.heap.size (fun _ => false) := by rw [zeros_eq]; exact (At.new w _).alloc o
theorem bit_of (N n k : Nat) (h : n = N / 2 ^ k) : ((n : Int) % 2 == 1) = N.testBit k := by
 subst h
 rw [Nat.testBit_eq_decide_div_mod_eq, Bool.eq_iff_iff, beq_iff_eq, decide_eq_true_iff]
 generalize N / 2 ^ k = m
 omega
theorem below_setRow {D : Nat} {a w : World} {g : Nat} (h : Below D a w) (hg : D ≤ g) (cs : Array Value) : Below D a (w.setRow g cs) :=
 h.trans ⟨rfl, rfl, rfl, by simp, fun k hk => setRow_other w g k cs (by omega)⟩
theorem bits_is (a : Int) (w : World) :
  Calls Tryz.prog 183 #[.int .i64 a] w fun e w' => e = .returned (.agg (arr (B a).getLsbD)) ∧ Below w.heap.size w w' := by
 have hN : IntKind.u64.wrap a = ((B a).toNat : Int) := (B_toNat a).symm
 have hlt := (B a).isLt
 generalize hNN : (B a).toNat = N at hN hlt
 have HN : Hid ((B a).toNat = N) := hNN
 have HL : Hid (N < 2 ^ 64) := hlt
 clear hNN hlt
 go_enter Tryz.func183, Tryz.ntmps183
 go_wp2_with fail
 go_loopg [4, 5] 64 (fun gk u i wr => ∃ (k n : Nat) (f : Nat → Bool), k + gk = 64 ∧ i = .int .i64 k ∧ u = .int .u64 (n : Int) ∧ Hid (n = N / 2 ^ k ∧ (∀ j, j < k → f j = N.testBit j) ∧ At wr (w.heap.size + 1) f ∧ At wr w.heap.size (fun _ => false) ∧ Below w.heap.size w wr))
 case atStart => exact ⟨0, N, fun _ => false, rfl, rfl, by first | rfl | rw [hN], by simp, fun j hj => absurd hj (by omega), At.zeros2 w _, At.zeros1 w _, ((Below.refl _ _).alloc (Nat.le_refl _) _).alloc (by simp) _⟩
 case round =>
  obtain ⟨k, n, f, hk, rfl, rfl, HH⟩ := hrel
  clear hN
  by_cases hlt : k < 64
  ·have hc := HH.out.2.2.1.frozen k
   have hc2 := HH.out.2.2.1.cell k hlt
   have hb : (n : Int) ≤ 18446744073709551615 := by
    have h1 := HH.out.1
    have h2 := HL.out
    have h3 : N / 2 ^ k ≤ N := Nat.div_le_self _ _
    omega
   go_wp2_with fail
   go_roundg (gk - 1)
   case measure => omega
   case rel =>
    obtain ⟨e1, e2, e3, e4, e5⟩ := HH.out
    refine ⟨k + 1, n / 2, upd f k ((n : Int) % 2 == 1), by omega, by go_num, by go_num, ?_, ?_, e3.set _ _, e4.other _ _ _ (by omega), e5.setCell (by simp) _⟩
    ·rw [e1, Nat.pow_succ, Nat.div_div_eq_div_mul]
    ·intro j hj
     by_cases h : j = k
     ·subst h; rw [upd_same]; exact bit_of N n j e1
     ·rw [upd_other _ _ _ _ h]; exact e2 j (by omega)
  ·obtain rfl : k = 64 := by omega
   obtain ⟨e1, e2, e3, e4, e5⟩ := HH.out
   have ef : arr f = arr (B a).getLsbD := by
    apply arr_ext; intro i hi
    rw [e2 i hi, ← HN.out]; rfl
   have E3 : Hid (At wr (w.heap.size + 1) f) := e3
   have E4 : Hid (At wr w.heap.size fun _ => false) := e4
   have EF : Hid (arr f = arr (B a).getLsbD) := ef
   clear e1 e2 e3 e4 ef HH
   go_wp2_with (first
    | (refine wpList_load_row rfl 249 _ rfl (w.heap.size + 1) rfl 249 (arr f) (0, 0) _ E3.out under39 rfl (by rw [arr_size]; exact size39) ?_)
    | (refine wpList_store_row rfl 249 _ _ rfl w.heap.size (arr f) rfl rfl 249 _ E4.out (by rw [arr_size]; exact size39) (by rw [arr_size, arr_size]) (arr_one f) ?_))
   refine bodyPost_ret (v := .agg (arr f)) (results_cell_row rfl _ _ w.heap.size 249 (arr f) (0, 0) _ rfl (setRow_heap _ _ _ _ _ _ E4.out) under39 rfl (by rw [arr_size]; exact size39)) rfl ⟨by rw [EF.out], below_setRow e5 (Nat.le_refl _) _⟩
theorem ret_int {k : IntKind} {a b : Int} (h : a = b) : Ending.returned (.int k a) = .returned (.int k b) := by rw [h]
theorem toInt_of_nat (X : BitVec 64) : wrap64 (X.toNat : Int) = X.toInt := by
 rw [wrap_toInt, B, BitVec.ofInt_natCast, BitVec.ofNat_toNat]; simp
theorem up_one (N m : Nat) : N / 2 ^ m = 2 * (N / 2 ^ (m + 1)) + if N.testBit m then 1 else 0 := by
 rw [Nat.testBit_eq_decide_div_mod_eq, Nat.pow_succ, ← Nat.div_div_eq_div_mul]
 generalize N / 2 ^ m = q
 by_cases h : q % 2 = 1 <;> simp [h] <;> omega
theorem div_small (N m : Nat) (h : N < 2 ^ 64) : N / 2 ^ (m + 1) ≤ 9223372036854775807 := by
 rw [Nat.pow_succ', ← Nat.div_div_eq_div_mul]
 have := Nat.div_le_self (N / 2) (2 ^ m)
 omega
theorem number_is (X : BitVec 64) (w : World) :
  Calls Tryz.prog 184 #[.agg (arr X.getLsbD)] w fun e w' => e = .returned (.int .i64 X.toInt) ∧ Below w.heap.size w w' := by
 go_enter Tryz.func184, Tryz.ntmps184
 go_wp2_with fail
 go_loopg [3, 4] 64 (fun gk u i wr => ∃ (n : Nat) (z : Int), z + 1 = gk ∧ gk ≤ 64 ∧ i = .int .i64 z ∧ u = .int .u64 (n : Int) ∧ Hid (n = X.toNat / 2 ^ gk ∧ At wr w.heap.size X.getLsbD ∧ Below w.heap.size w wr))
 case atStart => exact ⟨0, 63, rfl, by omega, rfl, rfl, by rw [Nat.div_eq_of_lt X.isLt], At.new w _, (Below.refl _ _).alloc (Nat.le_refl _) _⟩
 case round =>
  obtain ⟨n, z, hz, hg, rfl, rfl, HH⟩ := hrel
  by_cases h0 : gk = 0
  ·subst h0
   obtain rfl : z = -1 := by omega
   have hx : wrap64 (n : Int) = X.toInt := by
    rw [HH.out.1]; simp only [Nat.pow_zero, Nat.div_one]; exact toInt_of_nat X
   have HX := Hh hx
   clear hx
   go_wp2_with fail
   go_ret
   exact ⟨ret_int HX.out, HH.out.2.2⟩
  ·obtain ⟨m, rfl⟩ : ∃ m, gk = m + 1 := ⟨gk - 1, by omega⟩
   obtain rfl : z = m := by omega
   have hb : (n : Int) ≤ 9223372036854775807 := by
    have h1 := HH.out.1
    have h2 := div_small X.toNat m X.isLt
    omega
   have hc := HH.out.2.1.cell m (by omega)
   have hm : (m : Int) < 64 := by omega
   have hm2 : m < 64 := by omega
   have up := up_one X.toNat m
   have HU := Hh up
   clear up
   cases hf : X.getLsbD m
   ·rw [hf] at hc
    have HF := Hh hf
    clear hf hz
    go_wp2_with fail
    go_roundg m
    case measure => omega
    case rel =>
     obtain ⟨e1, e2, e3⟩ := HH.out
     refine ⟨2 * n, m - 1, by omega, by omega, by first | rfl | go_num, by first | rfl | go_num, ?_, e2, e3⟩
     have h1 : X.toNat.testBit m = false := HF.out
     rw [HU.out, h1, ← e1]; simp
   ·rw [hf] at hc
    have HF := Hh hf
    clear hf hz
    go_wp2_with fail
    go_roundg m
    case measure => omega
    case rel =>
     obtain ⟨e1, e2, e3⟩ := HH.out
     refine ⟨2 * n + 1, m - 1, by omega, by omega, by first | rfl | go_num, by first | rfl | go_num, ?_, e2, e3⟩
     have h1 : X.toNat.testBit m = true := HF.out
     rw [HU.out, h1, ← e1]; simp
theorem rows2 (w : World) (x y : Nat → Bool) :
  At ((((w.alloc (.cells zeros 249)).alloc (.cells zeros 249)).setRow w.heap.size (arr x)).setRow (w.heap.size + 1) (arr y)) w.heap.size x ∧
  At ((((w.alloc (.cells zeros 249)).alloc (.cells zeros 249)).setRow w.heap.size (arr x)).setRow (w.heap.size + 1) (arr y)) (w.heap.size + 1) y ∧
  Below w.heap.size w ((((w.alloc (.cells zeros 249)).alloc (.cells zeros 249)).setRow w.heap.size (arr x)).setRow (w.heap.size + 1) (arr y)) := by
 have h0 : At ((w.alloc (.cells zeros 249)).alloc (.cells zeros 249)) w.heap.size (fun _ => false) := At.zeros1 w _
 have h1 : At ((w.alloc (.cells zeros 249)).alloc (.cells zeros 249)) (w.heap.size + 1) (fun _ => false) := At.zeros2 w _
 have a0 : At (((w.alloc (.cells zeros 249)).alloc (.cells zeros 249)).setRow w.heap.size (arr x)) w.heap.size x := setRow_heap _ _ _ _ _ _ h0
 have a1 : At (((w.alloc (.cells zeros 249)).alloc (.cells zeros 249)).setRow w.heap.size (arr x)) (w.heap.size + 1) (fun _ => false) := by
  unfold At; rw [setRow_other _ _ _ _ (by omega)]; exact h1
 refine ⟨?_, setRow_heap _ _ _ _ _ _ a1, ?_⟩
 ·unfold At; rw [setRow_other _ _ _ _ (by omega)]; exact a0
 ·exact below_setRow (below_setRow (((Below.refl _ _).alloc (Nat.le_refl _) _).alloc (by simp) _) (Nat.le_refl _) _) (by omega) _
theorem rows3 (w : World) (x y : Nat → Bool) :
  At (((((w.alloc (.cells zeros 249)).alloc (.cells zeros 249)).setRow w.heap.size (arr x)).setRow (w.heap.size + 1) (arr y)).alloc (.cells zeros 249)) w.heap.size x ∧
  At (((((w.alloc (.cells zeros 249)).alloc (.cells zeros 249)).setRow w.heap.size (arr x)).setRow (w.heap.size + 1) (arr y)).alloc (.cells zeros 249)) (w.heap.size + 1) y ∧
  At (((((w.alloc (.cells zeros 249)).alloc (.cells zeros 249)).setRow w.heap.size (arr x)).setRow (w.heap.size + 1) (arr y)).alloc (.cells zeros 249)) (w.heap.size + 1 + 1) (fun _ => false) ∧
  Below w.heap.size w (((((w.alloc (.cells zeros 249)).alloc (.cells zeros 249)).setRow w.heap.size (arr x)).setRow (w.heap.size + 1) (arr y)).alloc (.cells zeros 249)) := by
 obtain ⟨h1, h2, h3⟩ := rows2 w x y
 have e : ((((w.alloc (.cells zeros 249)).alloc (.cells zeros 249)).setRow w.heap.size (arr x)).setRow (w.heap.size + 1) (arr y)).heap.size = w.heap.size + 1 + 1 := by simp
 have h4 := At.zeros ((((w.alloc (.cells zeros 249)).alloc (.cells zeros 249)).setRow w.heap.size (arr x)).setRow (w.heap.size + 1) (arr y))
 rw [e] at h4
 exact ⟨h1.alloc _, h2.alloc _, h4, h3.alloc h3.size _⟩
theorem rows1 (w : World) (x : Nat → Bool) :
  At ((w.alloc (.cells zeros 249)).setRow w.heap.size (arr x)) w.heap.size x ∧ Below w.heap.size w ((w.alloc (.cells zeros 249)).setRow w.heap.size (arr x)) :=
 ⟨setRow_heap _ _ _ _ _ _ (At.zeros w), below_setRow ((Below.refl _ _).alloc (Nat.le_refl _) _) (Nat.le_refl _) _⟩
theorem z_row (w : World) : (w.alloc (.cells zeros 249)).heap[w.heap.size]? = some (.cells zeros 249 (0, 0)) := heap_alloc_new w _
theorem z_size (f : Nat → Bool) : zeros.size = (arr f).size := by rw [arr_size]; rfl
theorem arr_info (f : Nat → Bool) : (Tryz.prog.info? 249).map (·.size) = some (arr f).size := by rw [arr_size]; exact size39
theorem z1_row (w : World) (x : Nat → Bool) : (((w.alloc (.cells zeros 249)).alloc (.cells zeros 249)).setRow w.heap.size (arr x)).heap[w.heap.size + 1]? = some (.cells zeros 249 (0, 0)) := by
 rw [setRow_other _ _ _ _ (by omega)]; exact heap_alloc2_new w _ _
theorem bits_x (a : Int) (x : Nat → Bool) (h : (B a).getLsbD = x) (w : World) :
  Calls Tryz.prog 183 #[.int .i64 a] w fun e w' => e = .returned (.agg (arr x)) ∧ Below w.heap.size w w' := by
 rw [← h]; exact bits_is a w
theorem number_v (X : BitVec 64) (v : Int) (h : X.toInt = v) (w : World) :
  Calls Tryz.prog 184 #[.agg (arr X.getLsbD)] w fun e w' => e = .returned (.int .i64 v) ∧ Below w.heap.size w w' := by
 rw [← h]; exact number_is X w
theorem add_is (a b : Int) (w : World) :
  Calls Tryz.prog 171 #[.int .i64 a, .int .i64 b] w fun e w' => e = .returned (.int .i64 (addV a b)) ∧ Below w.heap.size w w' := by
 obtain ⟨x, hx⟩ : ∃ x, (B a).getLsbD = x := ⟨_, rfl⟩
 obtain ⟨y, hy⟩ : ∃ y, (B b).getLsbD = y := ⟨_, rfl⟩
 have HX := Hh hx
 have HY := Hh hy
 clear hx hy
 go_enter Tryz.func171, Tryz.ntmps171
 go_wp2_with fail
 refine (bits_x _ _ HX.out _).mono ?_
 rintro e w1 ⟨rfl, hb1⟩
 have B1 := Hh hb1
 clear hb1
 go_wp2_with fail
 refine (bits_x _ _ HY.out _).mono ?_
 rintro e w2 ⟨rfl, hb2⟩
 have hb : Below w.heap.size w w2 := B1.out.trans (hb2.mono B1.out.size)
 have hs : w.heap.size ≤ w2.heap.size := hb.size
 have HB := Hh hb
 clear hb hb2 B1
 have tok1 : True := trivial
 have tok2 : True := trivial
 go_wp2_with (first
  | ((have _t := tok1); refine wpList_store_row rfl 249 _ _ rfl w2.heap.size (arr x) rfl rfl 249 zeros (heap_alloc2_old w2 _ _) (arr_info x) (z_size x) (arr_one x) ?_; clear tok1)
  | ((have _t := tok2); refine wpList_store_row rfl 249 _ _ rfl (w2.heap.size + 1) (arr y) rfl rfl 249 zeros (z1_row w2 x) (arr_info y) (z_size y) (arr_one y) ?_; clear tok2))
 go_loopg [8, 9] 64 (fun gk c i wr => ∃ (k : Nat) (cy : Bool) (f : Nat → Bool), k + gk = 64 ∧ i = .int .i64 k ∧ c = .bool cy ∧ Hid (cy = BitVec.carry k (B a) (B b) false ∧ (∀ j, j < k → f j = (B a + B b).getLsbD j) ∧ At wr w2.heap.size x ∧ At wr (w2.heap.size + 1) y ∧ At wr (w2.heap.size + 1 + 1) f ∧ Below w.heap.size w wr))
 case atStart =>
  obtain ⟨r1, r2, r3, r4⟩ := rows3 w2 x y
  exact ⟨0, false, fun _ => false, rfl, rfl, rfl, by simp, fun j hj => absurd hj (by omega), r1, r2, r3, HB.out.trans (r4.mono hs)⟩
 case round =>
  obtain ⟨k, cy, f, hk, rfl, rfl, HH⟩ := hrel
  by_cases hlt : k < 64
  ·obtain ⟨p, hp⟩ : ∃ p, x k = p := ⟨_, rfl⟩
   obtain ⟨q, hq⟩ : ∃ q, y k = q := ⟨_, rfl⟩
   have c1 := HH.out.2.2.1.cell k hlt
   have c2 := HH.out.2.2.2.1.cell k hlt
   have c3 := HH.out.2.2.2.2.1.cell k hlt
   have c4 := HH.out.2.2.2.2.1.frozen k
   rw [hp] at c1
   rw [hq] at c2
   have fin : ∀ v c' : Bool, v = (p ^^ (q ^^ cy)) → c' = Bool.atLeastTwo p q cy → Hid (c' = BitVec.carry (k + 1) (B a) (B b) false ∧ (∀ j, j < k + 1 → upd f k v j = (B a + B b).getLsbD j) ∧ At (wr.setCell ⟨w2.heap.size + 1 + 1, k, none⟩ (.bool v)) w2.heap.size x ∧ At (wr.setCell ⟨w2.heap.size + 1 + 1, k, none⟩ (.bool v)) (w2.heap.size + 1) y ∧ At (wr.setCell ⟨w2.heap.size + 1 + 1, k, none⟩ (.bool v)) (w2.heap.size + 1 + 1) (upd f k v) ∧ Below w.heap.size w (wr.setCell ⟨w2.heap.size + 1 + 1, k, none⟩ (.bool v))) := by
    intro v c' hv hc'
    obtain ⟨e1, e2, e3, e4, e5, e6⟩ := HH.out
    have p1 : (B a).getLsbD k = p := by rw [HX.out]; exact hp
    have q1 : (B b).getLsbD k = q := by rw [HY.out]; exact hq
    refine ⟨?_, ?_, e3.other _ _ _ (by omega), e4.other _ _ _ (by omega), e5.set _ _, e6.setCell (p := ⟨w2.heap.size + 1 + 1, k, none⟩) (show w.heap.size ≤ w2.heap.size + 1 + 1 by omega) _⟩
    ·rw [hc', BitVec.carry_succ, p1, q1, e1]
    ·intro j hj
     by_cases h : j = k
     ·subst h; rw [upd_same, hv, BitVec.getLsbD_add hlt, p1, q1, e1]
     ·rw [upd_other _ _ _ _ h]; exact e2 j (by omega)
   have FIN := Hh fin
   clear fin hp hq
   cases p <;> cases q <;> cases cy
   all_goals
    go_wp2_with fail
    go_roundg (gk - 1)
    case measure => omega
    case rel => exact ⟨k + 1, _, _, by omega, by go_num, rfl, FIN.out _ _ (by rfl) (by rfl)⟩
  ·obtain rfl : k = 64 := by omega
   obtain ⟨e1, e2, e3, e4, e5, e6⟩ := HH.out
   have E5 : Hid (At wr (w2.heap.size + 1 + 1) (B a + B b).getLsbD) := by
    have := e5
    unfold At at this
    rw [arr_ext e2] at this
    exact this
   clear e1 e2 e3 e4 e5 HH
   have tok1 : True := trivial
   go_wp2_with ((have _t := tok1); refine wpList_load_row rfl 249 _ rfl (w2.heap.size + 1 + 1) rfl 249 (arr (B a + B b).getLsbD) (0, 0) _ E5.out under39 rfl (arr_info _) ?_; clear tok1)
   refine (number_v _ _ (add_B a b).symm _).mono ?_
   rintro e w3 ⟨rfl, hb3⟩
   go_wp2_with fail
   go_ret
   exact ⟨rfl, e6.trans (hb3.mono e6.size)⟩
def negV (a : Int) : Int := (-(B a)).toInt
theorem neg_add (a : Int) : addV (~~~ (B a)).toInt 1 = negV a := by
 rw [add_B, B_toInt]
 unfold negV
 rw [BitVec.neg_eq_not_add]; rfl
theorem neg_is (a : Int) (w : World) :
  Calls Tryz.prog 170 #[.int .i64 a] w fun e w' => e = .returned (.int .i64 (negV a)) ∧ Below w.heap.size w w' := by
 obtain ⟨x, hx⟩ : ∃ x, (B a).getLsbD = x := ⟨_, rfl⟩
 have HX := Hh hx
 obtain ⟨v, hv⟩ : ∃ v, (~~~ (B a)).toInt = v := ⟨_, rfl⟩
 have HV := Hh hv
 clear hx hv
 go_enter Tryz.func170, Tryz.ntmps170
 go_wp2_with fail
 refine (bits_x _ _ HX.out _).mono ?_
 rintro e w2 ⟨rfl, hb⟩
 have hs : w.heap.size ≤ w2.heap.size := hb.size
 have HB := Hh hb
 clear hb
 have tok1 : True := trivial
 go_wp2_with ((have _t := tok1); refine wpList_store_row rfl 249 _ _ rfl w2.heap.size (arr x) rfl rfl 249 zeros (z_row w2) (arr_info x) (z_size x) (arr_one x) ?_; clear tok1)
 go_loopg [4] 64 (fun gk i wr => ∃ (k : Nat) (f : Nat → Bool), k + gk = 64 ∧ i = .int .i64 k ∧ Hid ((∀ j, j < k → f j = !x j) ∧ (∀ j, k ≤ j → f j = x j) ∧ At wr w2.heap.size f ∧ Below w.heap.size w wr))
 case atStart =>
  obtain ⟨r1, r4⟩ := rows1 w2 x
  exact ⟨0, x, rfl, rfl, fun j hj => absurd hj (by omega), fun _ _ => rfl, r1, HB.out.trans (r4.mono hs)⟩
 case round =>
  obtain ⟨k, f, hk, rfl, HH⟩ := hrel
  by_cases hlt : k < 64
  ·obtain ⟨p, hp⟩ : ∃ p, f k = p := ⟨_, rfl⟩
   have c3 := HH.out.2.2.1.cell k hlt
   have c4 := HH.out.2.2.1.frozen k
   rw [hp] at c3
   have HP := Hh hp
   clear hp
   go_wp2_with fail
   go_roundg (gk - 1)
   case measure => omega
   case rel =>
    obtain ⟨e1, e2, e3, e4⟩ := HH.out
    refine ⟨k + 1, upd f k (!p), by omega, by go_num, ?_, ?_, e3.set _ _, e4.setCell (p := ⟨w2.heap.size, k, none⟩) hs _⟩
    ·intro j hj
     by_cases h : j = k
     ·subst h; rw [upd_same, ← HP.out, e2 j (Nat.le_refl _)]
     ·rw [upd_other _ _ _ _ h]; exact e1 j (by omega)
    ·intro j hj
     rw [upd_other _ _ _ _ (by omega)]; exact e2 j (by omega)
  ·obtain rfl : k = 64 := by omega
   obtain ⟨e1, e2, e3, e4⟩ := HH.out
   have E3 : Hid (At wr w2.heap.size (~~~ (B a)).getLsbD) := by
    have := e3
    unfold At at this
    rw [arr_ext (g := (~~~ (B a)).getLsbD) (fun i hi => by rw [e1 i hi, ← HX.out]; simp [hi])] at this
    exact this
   clear e1 e2 e3 HH
   have tok1 : True := trivial
   go_wp2_with ((have _t := tok1); refine wpList_load_row rfl 249 _ rfl w2.heap.size rfl 249 (arr (~~~ (B a)).getLsbD) (0, 0) _ E3.out under39 rfl (arr_info _) ?_; clear tok1)
   refine (number_v _ v HV.out _).mono ?_
   rintro e w3 ⟨rfl, hb3⟩
   have B3 := Hh hb3
   clear hb3
   go_wp2_with fail
   refine (add_is _ _ _).mono ?_
   rintro e w4 ⟨rfl, hb4⟩
   go_wp2_with fail
   go_ret
   have b3 := e4.trans (B3.out.mono e4.size)
   exact ⟨ret_int (by rw [← HV.out]; exact neg_add a), b3.trans (hb4.mono b3.size)⟩
def W (n : Nat) : BitVec 64 := BitVec.ofNat 64 n
theorem W_add (m n : Nat) : W (m + n) = W m + W n := BitVec.ofNat_add _ _
def dblV (a : Int) (k : Nat) : Int := (B a * W (2 ^ k)).toInt
def partV (a b : Int) (k : Nat) : Int := (B a * W ((B b).toNat % 2 ^ k)).toInt
theorem dbl_0 (a : Int) (h : fit a) : dblV a 0 = a := by
 unfold dblV W; simp [toInt_B h]
theorem dbl_step (a : Int) (k : Nat) : addV (dblV a k) (dblV a k) = dblV a (k + 1) := by
 rw [add_B]; unfold dblV
 rw [B_toInt, ← BitVec.mul_add, ← W_add, Nat.pow_succ, Nat.mul_two]
theorem part_0 (a b : Int) : partV a b 0 = 0 := by
 unfold partV W; simp [Nat.mod_one]
theorem mod_succ (x n : Nat) : x % 2 ^ (n + 1) = x % 2 ^ n + 2 ^ n * (x.testBit n).toNat := by
 rw [Nat.pow_succ, Nat.mod_mul, Nat.testBit_eq_decide_div_mod_eq]
 have : x / 2 ^ n % 2 = 0 ∨ x / 2 ^ n % 2 = 1 := by omega
 rcases this with h | h <;> simp [h]
theorem part_yes (a b : Int) (k : Nat) (h : (B b).getLsbD k = true) : addV (partV a b k) (dblV a k) = partV a b (k + 1) := by
 rw [add_B]; unfold partV dblV
 have h' : (B b).toNat.testBit k = true := h
 rw [B_toInt, B_toInt, ← BitVec.mul_add, ← W_add, mod_succ, h']; simp
theorem part_no (a b : Int) (k : Nat) (h : (B b).getLsbD k = false) : partV a b k = partV a b (k + 1) := by
 unfold partV
 have h' : (B b).toNat.testBit k = false := h
 rw [mod_succ, h']; simp
theorem part_64 (a b : Int) : partV a b 64 = mulV a b := by
 rw [mul_B]; unfold partV W
 rw [Nat.mod_eq_of_lt (B b).isLt, BitVec.ofNat_toNat]; simp
theorem mul_is (a b : Int) (ha : fit a) (w : World) :
  Calls Tryz.prog 188 #[.int .i64 a, .int .i64 b] w fun e w' => e = .returned (.int .i64 (mulV a b)) ∧ Below w.heap.size w w' := by
 obtain ⟨y, hy⟩ : ∃ y, (B b).getLsbD = y := ⟨_, rfl⟩
 have HY := Hh hy
 have HA := Hh (dbl_0 a ha)
 have H0 := Hh (part_0 a b)
 clear hy ha
 go_enter Tryz.func188, Tryz.ntmps188
 go_wp2_with fail
 refine (bits_x _ _ HY.out _).mono ?_
 rintro e w2 ⟨rfl, hb⟩
 have hs : w.heap.size ≤ w2.heap.size := hb.size
 have HB := Hh hb
 clear hb
 have tok1 : True := trivial
 go_wp2_with ((have _t := tok1); refine wpList_store_row rfl 249 _ _ rfl w2.heap.size (arr y) rfl rfl 249 zeros (z_row w2) (arr_info y) (z_size y) (arr_one y) ?_; clear tok1)
 go_loopg [0, 6, 7] 64 (fun gk u o i wr => ∃ (k : Nat) (p q : Int), k + gk = 64 ∧ i = .int .i64 k ∧ u = .int .i64 p ∧ o = .int .i64 q ∧ Hid (p = dblV a k ∧ q = partV a b k ∧ At wr w2.heap.size y ∧ Below w.heap.size w wr ∧ w2.heap.size < wr.heap.size))
 case atStart =>
  obtain ⟨r1, r4⟩ := rows1 w2 y
  exact ⟨0, a, 0, rfl, rfl, rfl, rfl, HA.out.symm, H0.out.symm, r1, HB.out.trans (r4.mono hs), r1.lt⟩
 case round =>
  obtain ⟨k, p, q, hk, rfl, rfl, rfl, HH⟩ := hrel
  by_cases hlt : k < 64
  ·obtain ⟨c, hc⟩ : ∃ c, y k = c := ⟨_, rfl⟩
   have c1 := HH.out.2.2.1.cell k hlt
   rw [hc] at c1
   have HC := Hh hc
   clear hc
   cases c
   ·go_wp2_with fail
    refine (add_is _ _ _).mono ?_
    rintro e w3 ⟨rfl, hb3⟩
    have B3 := Hh hb3
    clear hb3
    go_wp2_with fail
    go_roundg (gk - 1)
    case measure => omega
    case rel =>
     obtain ⟨e1, e2, e3, e4, e5⟩ := HH.out
     refine ⟨k + 1, _, _, by omega, by go_num, rfl, rfl, by rw [e1]; exact dbl_step a k, ?_, e3.below B3.out e5, e4.trans (B3.out.mono e4.size), Nat.lt_of_lt_of_le e5 B3.out.size⟩
     rw [e2]; exact part_no a b k (by rw [HY.out]; exact HC.out)
   ·go_wp2_with fail
    refine (add_is _ _ _).mono ?_
    rintro e w3 ⟨rfl, hb3⟩
    have B3 := Hh hb3
    clear hb3
    go_wp2_with fail
    refine (add_is _ _ _).mono ?_
    rintro e w4 ⟨rfl, hb4⟩
    have B4 := Hh hb4
    clear hb4
    go_wp2_with fail
    go_roundg (gk - 1)
    case measure => omega
    case rel =>
     obtain ⟨e1, e2, e3, e4, e5⟩ := HH.out
     have b5 := e4.trans (B3.out.mono e4.size)
     have l3 := Nat.lt_of_lt_of_le e5 B3.out.size
     refine ⟨k + 1, _, _, by omega, by go_num, rfl, rfl, by rw [e1]; exact dbl_step a k, ?_, (e3.below B3.out e5).below B4.out l3, b5.trans (B4.out.mono b5.size), Nat.lt_of_lt_of_le l3 B4.out.size⟩
     rw [e2, e1]; exact part_yes a b k (by rw [HY.out]; exact HC.out)
  ·obtain rfl : k = 64 := by omega
   obtain ⟨e1, e2, e3, e4, e5⟩ := HH.out
   have E2 := Hh e2
   clear e1 e2 e3 e5 HH
   go_wp2_with fail
   go_ret
   exact ⟨ret_int (by rw [E2.out]; exact part_64 a b), e4⟩
def Far (A D m Q R : Nat) : Prop := Q = A / 2 ^ m / D ∧ R = A / 2 ^ m % D
set_option maxRecDepth 100000 in
theorem rdo3 (a b : Int) (ha : fit a) (w : World) :
  Calls Tryz.prog 182 #[.int .i64 3, .int .i64 a, .int .i64 b] w fun e w' => e = .returned (.tuple #[.int .i64 (mulV a b), .bool true]) ∧ Below w.heap.size w w' := by
 have HFA := Hh ha
 clear ha
 go_enter Tryz.func182, Tryz.ntmps182
 go_wp2_with fail
 (refine (mul_is _ _ HFA.out _).mono ?_)
 rintro e w1 ⟨rfl, hb1⟩
 have B1 := Hh hb1
 clear hb1
 go_wp2_with fail
 go_ret2
 have t1 := B1.out
 exact ⟨rfl, t1⟩
end Go.Proofs.YtbpichjmkllfaaaGreatDoor
namespace Go.Proofs.YtbpichjmkllfaaaGreatDoor.Par
open Go.ChangeShapes Go.WideShapes Go.RowKit
open Lex (Tok tcl tkv tk tc)
set_option linter.unusedVariables false
set_option maxRecDepth 20000
theorem sg_yes (s t : ByteArray) (n c a : Int) (b : Bool) (h : (s.toList == t.toList) = b) (w : World) : Calls Tryz.prog 160 #[tk 7 s n c a, .string t] w fun e w' => e = .returned (.bool b) ∧ Below w.heap.size w w' := by
 have b0 := (Below.refl w.heap.size w).alloc (Nat.le_refl _) (.cells (tc 7 s n c a) 72)
 unfold tc at b0
 have B0 := Hh b0
 clear b0
 cases b
 all_goals
  go_enter Tryz.func160, Tryz.ntmps160
  unfold tk tc
  go_wp2_with fail
  go_ret
  exact ⟨rfl, B0.out⟩
theorem sg_no (k : Int) (s t : ByteArray) (n c a : Int) (h7 : (k == 7) = false) (w : World) : Calls Tryz.prog 160 #[tk k s n c a, .string t] w fun e w' => e = .returned (.bool false) ∧ Below w.heap.size w w' := by
 have b0 := (Below.refl w.heap.size w).alloc (Nat.le_refl _) (.cells (tc k s n c a) 72)
 unfold tc at b0
 have B0 := Hh b0
 clear b0
 go_enter Tryz.func160, Tryz.ntmps160
 unfold tk tc
 go_wp2_with fail
 go_ret
 exact ⟨rfl, B0.out⟩
theorem sg_v {t : Tok} (hw : Wf t) (b : UInt8) (hb : Nam.sign b = false) (r : Bool) (h : Fol.isT t [b] = r) (w : World) : Calls Tryz.prog 160 #[tkv t, .string ⟨#[b]⟩] w fun e w' => e = .returned (.bool r) ∧ Below w.heap.size w w' := by
 rw [isT_sign hw hb] at h
 unfold tkv
 by_cases hk : t.kind = 7
 ·rw [hk]
  refine sg_yes _ _ _ _ _ r ?_ w
  rw [← h, hk]
  simp only [decide_true, Bool.true_and]
  rw [Bool.eq_iff_iff, beq_iff_eq, decide_eq_true_iff, ByteArray.toList_eq, ByteArray.toList_eq]
 ·have : r = false := by rw [← h]; simp [hk]
  subst this
  exact sg_no _ _ _ _ _ _ (by rw [Bqf]; omega) w
def four (w : World) (b : Nat) (x0 x1 x2 x3 : Value) : World := (((w.setCell ⟨b, 0, none⟩ x0).setCell ⟨b, 1, none⟩ x1).setCell ⟨b, 2, none⟩ x2).setCell ⟨b, 3, none⟩ x3
theorem four_heap {w : World} {b : Nat} {x0 x1 x2 x3 y0 y1 y2 y3 : Value} {T : TypeId} (h : w.heap[b]? = some (.cells #[y0, y1, y2, y3] T (0, 0))) : (four w b x0 x1 x2 x3).heap[b]? = some (.cells #[x0, x1, x2, x3] T (0, 0)) := by
 unfold four
 simp [World.setCell, Array.getElem?_modify, h]
theorem four_below {B : Nat} {w w1 : World} {b : Nat} {x0 x1 x2 x3 : Value} (h : Below B w w1) (hb : B ≤ b) : Below B w (four w1 b x0 x1 x2 x3) :=
 (((h.setCell (p := ⟨b, 0, none⟩) hb _).setCell (p := ⟨b, 1, none⟩) hb _).setCell (p := ⟨b, 2, none⟩) hb _).setCell (p := ⟨b, 3, none⟩) hb _
theorem four_far {w : World} {b g : Nat} {x0 x1 x2 x3 : Value} (h : g ≠ b) : (four w b x0 x1 x2 x3).heap[g]? = w.heap[g]? := by
 unfold four
 simp [World.setCell, Array.getElem?_modify, Ne.symm h]
theorem four_size {w : World} {b : Nat} {x0 x1 x2 x3 : Value} : (four w b x0 x1 x2 x3).heap.size = w.heap.size := by
 unfold four
 simp [World.setCell]
theorem sizeOut : (Tryz.prog.info? 213).map (·.size) = some 4 := by kernel_rfl
theorem fin_out {fn : Func} {p : Tmp} (h : fn.results = #[.cell p 213]) {act : Act} {w : World} {g : Nat} {x0 x1 x2 x3 : Value} {R : Ending → World → Prop}
  (hp : act.tmps.getD p undef = .pointer (some ⟨g, 0, none⟩)) (hg : w.heap[g]? = some (.cells #[x0, x1, x2, x3] 213 (0, 0))) (hd : act.defers = [])
  (hR : R (.returned (.agg #[x0, x1, x2, x3])) w) : bodyPost Tryz.prog fn R .ret act w :=
 bodyPost_ret (results_cell_row h _ _ g 213 _ (0, 0) _ hp hg Tryz.underlying213 rfl sizeOut) hd hR
def outA (n a c p : Int) : Array Value := #[.int .i64 n, .int .i64 a, .int .i64 c, .int .i64 p]
theorem rbad_v (code : Int) (t : Tok) (w : World) : Calls Tryz.prog 172 #[.int .i64 code, tkv t] w fun e w' => e = .returned (.agg (outA 0 0 code t.at_)) ∧ Below w.heap.size w w' := by
 unfold tkv tk tc
 go_enter Tryz.func172, Tryz.ntmps172
 go_wp2_with fail
 refine fin_out (fn := Tryz.f172) rfl rfl (heap_alloc2_new w _ _) rfl ?_
 exact ⟨rfl, ((Below.refl _ w).alloc (Nat.le_refl _) _).alloc (by simp) _⟩
end Go.Proofs.YtbpichjmkllfaaaGreatDoor.Par
