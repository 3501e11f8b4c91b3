/- The document's own bits: a number's bits as an array, and an array's number. -/
import Derived.Test.YtmfhgdaiafklnaaRows
import Derived.Test.YtmfhgdaiafklnaaShiftMath
import Derived.Outline
import Derived.WalkLawsBesides
import Derived.LoopTactic
import Derived.Below
import Derived.Deep.Light
import Derived.Deep.LoopGhost
import Derived.Deep.WholeRow
import Derived.Lib.Hide
namespace Go.Proofs.Ytmfhgdaiafklnaa
open Go.ChangeShapes Go.WideShapes Go.ChangeAt Go.RowKit
set_option linter.unusedVariables false

/-- 64 cells, the i-th holds f i. -/
def arr (f : Nat → Bool) : Array Value := Array.ofFn (n := 64) fun i => .bool (f i)
theorem arr_size (f : Nat → Bool) : (arr f).size = 64 := by simp [arr]
theorem arr_get (f : Nat → Bool) (k : Nat) (h : k < 64) : (arr f)[k]? = some (.bool (f k)) := by simp [arr, h]
theorem arr_ext {f g : Nat → Bool} (h : ∀ i, i < 64 → f i = g i) : arr f = arr g := by
  unfold arr; congr 1; funext i; rw [h i i.isLt]
theorem arr_one (f : Nat → Bool) : (arr f).all (·.oneCell') = true := by
  rw [Array.all_eq_true]; intro i hi; simp [arr, Value.oneCell']
/-- f, with v at k. -/
def upd (f : Nat → Bool) (k : Nat) (v : Bool) : Nat → Bool := fun i => if i = k then v else f i
theorem upd_same (f : Nat → Bool) (k : Nat) (v : Bool) : upd f k v k = v := by simp [upd]
theorem upd_other (f : Nat → Bool) (k i : Nat) (v : Bool) (h : i ≠ k) : upd f k v i = f i := by simp [upd, h]
theorem arr_set (f : Nat → Bool) (k : Nat) (v : Bool) : (arr f).setIfInBounds k (.bool v) = arr (upd f k v) := by
  apply Array.ext_getElem?
  intro i
  rw [Array.getElem?_setIfInBounds]
  by_cases hi : i < 64
  · rw [arr_get _ _ hi]
    by_cases e : k = i
    · subst e; rw [if_pos rfl, if_pos (by rw [arr_size]; exact hi), arr_get _ _ hi, upd_same]
    · rw [if_neg e, arr_get _ _ hi, upd_other _ _ _ _ (fun h => e h.symm)]
  · have h1 : (arr f)[i]? = none := by rw [Array.getElem?_eq_none]; rw [arr_size]; omega
    have h2 : (arr (upd f k v))[i]? = none := by rw [Array.getElem?_eq_none]; rw [arr_size]; omega
    rw [h1, h2]; split <;> simp [arr_size]; omega
/-- The array stands at block g. -/
def At (w : World) (g : Nat) (f : Nat → Bool) : Prop := w.heap[g]? = some (.cells (arr f) 39 (0, 0))
theorem At.cell {w : World} {g : Nat} {f : Nat → Bool} (h : At w g f) (k : Nat) (hk : k < 64) : w.cell? ⟨g, k, none⟩ = some (.bool (f k)) := by
  rw [cell_of_row w g k _ _ _ h, arr_get f k hk]
theorem At.frozen {w : World} {g : Nat} {f : Nat → Bool} (h : At w g f) (k : Nat) : w.frozen? ⟨g, k, none⟩ = false := frozen_of_row w g k _ _ h
theorem At.lt {w : World} {g : Nat} {f : Nat → Bool} (h : At w g f) : g < w.heap.size := by
  have := Array.getElem?_eq_some_iff.1 h
  exact this.1
theorem At.set {w : World} {g : Nat} {f : Nat → Bool} (h : At w g f) (k : Nat) (v : Bool) : At (w.setCell ⟨g, k, none⟩ (.bool v)) g (upd f k v) := by
  unfold At; rw [heap_setCell_same w g k _ _ _ h, arr_set]
theorem At.other {w : World} {g : Nat} {f : Nat → Bool} (h : At w g f) (b k : Nat) (v : Value) (hb : g ≠ b) : At (w.setCell ⟨b, k, none⟩ v) g f := by
  unfold At; rw [heap_setCell_other w _ g v hb]; exact h
theorem At.alloc {w : World} {g : Nat} {f : Nat → Bool} (h : At w g f) (o : Obj) : At (w.alloc o) g f := by
  unfold At; rw [Below.heap_alloc w o g h.lt]; exact h
theorem At.new (w : World) (f : Nat → Bool) : At (w.alloc (.cells (arr f) 39)) w.heap.size f := heap_alloc_new w _
theorem At.below {B : Nat} {w w' : World} {g : Nat} {f : Nat → Bool} (h : At w g f) (hb : Below B w w') (hg : g < B) : At w' g f := by
  unfold At; rw [hb.block g hg]; exact h
theorem size39 : (Try.prog.info? 39).map (·.size) = some 64 := by kernel_rfl
theorem under39 : Try.prog.underlying 39 = some (.array 64 4) := by kernel_rfl

def zeros : Array Value := #[.bool false, .bool false, .bool false, .bool false, .bool false, .bool false, .bool false, .bool false, .bool false, .bool false, .bool false, .bool false, .bool false, .bool false, .bool false, .bool false, .bool false, .bool false, .bool false, .bool false, .bool false, .bool false, .bool false, .bool false, .bool false, .bool false, .bool false, .bool false, .bool false, .bool false, .bool false, .bool false, .bool false, .bool false, .bool false, .bool false, .bool false, .bool false, .bool false, .bool false, .bool false, .bool false, .bool false, .bool false, .bool false, .bool false, .bool false, .bool false, .bool false, .bool false, .bool false, .bool false, .bool false, .bool false, .bool false, .bool false, .bool false, .bool false, .bool false, .bool false, .bool false, .bool false, .bool false, .bool false]
theorem zeros_eq : zeros = arr (fun _ => false) := by kernel_rfl
theorem At.zeros (w : World) : At (w.alloc (.cells zeros 39)) w.heap.size (fun _ => false) := by rw [zeros_eq]; exact At.new w _
theorem At.zeros2 (w : World) (o : Obj) : At ((w.alloc o).alloc (.cells Ytmfhgdaiafklnaa.zeros 39)) (w.heap.size + 1) (fun _ => false) := by rw [zeros_eq]; exact heap_alloc2_new w _ _
theorem At.zeros1 (w : World) (o : Obj) : At ((w.alloc (.cells Ytmfhgdaiafklnaa.zeros 39)).alloc o) w.heap.size (fun _ => false) := by rw [zeros_eq]; exact (At.new w _).alloc o
theorem bit_of (N n k : Nat) (h : n = N / 2 ^ k) : ((n : Int) % 2 == 1) = N.testBit k := by
  subst h
  rw [Nat.testBit_eq_decide_div_mod_eq, Bool.eq_iff_iff, beq_iff_eq, decide_eq_true_iff]
  generalize N / 2 ^ k = m
  omega

theorem below_setRow {D : Nat} {a w : World} {g : Nat} (h : Below D a w) (hg : D ≤ g) (cs : Array Value) : Below D a (w.setRow g cs) :=
  h.trans ⟨rfl, rfl, rfl, by simp, fun k hk => setRow_other w g k cs (by omega)⟩
theorem bits_is (a : Int) (w : World) :
    Calls Try.prog 29 #[.int .i64 a] w fun e w' => e = .returned (.agg (arr (B a).getLsbD)) ∧ Below w.heap.size w w' := by
  have hN : IntKind.u64.wrap a = ((B a).toNat : Int) := (B_toNat a).symm
  have hlt := (B a).isLt
  generalize hNN : (B a).toNat = N at hN hlt
  have HN : Hid ((B a).toNat = N) := hNN
  have HL : Hid (N < 2 ^ 64) := hlt
  clear hNN hlt
  go_enter Try.func29, Try.ntmps29
  go_wp2_with fail
  go_loopg [4, 5] 64 (fun gk u i wr => ∃ (k n : Nat) (f : Nat → Bool), k + gk = 64 ∧ i = .int .i64 k ∧ u = .int .u64 (n : Int) ∧ Hid (n = N / 2 ^ k ∧ (∀ j, j < k → f j = N.testBit j) ∧ At wr (w.heap.size + 1) f ∧ At wr w.heap.size (fun _ => false) ∧ Below w.heap.size w wr))
  case atStart => exact ⟨0, N, fun _ => false, rfl, rfl, by first | rfl | rw [hN], by simp, fun j hj => absurd hj (by omega), At.zeros2 w _, At.zeros1 w _, ((Below.refl _ _).alloc (Nat.le_refl _) _).alloc (by simp) _⟩
  case round =>
    obtain ⟨k, n, f, hk, rfl, rfl, HH⟩ := hrel
    clear hN
    by_cases hlt : k < 64
    · have hc := HH.out.2.2.1.frozen k
      have hc2 := HH.out.2.2.1.cell k hlt
      have hb : (n : Int) ≤ 18446744073709551615 := by
        have h1 := HH.out.1
        have h2 := HL.out
        have h3 : N / 2 ^ k ≤ N := Nat.div_le_self _ _
        omega
      go_wp2_with fail
      go_roundg (gk - 1)
      case measure => omega
      case rel =>
        obtain ⟨e1, e2, e3, e4, e5⟩ := HH.out
        refine ⟨k + 1, n / 2, upd f k ((n : Int) % 2 == 1), by omega, by go_num, by go_num, ?_, ?_, e3.set _ _, e4.other _ _ _ (by omega), e5.setCell (by simp) _⟩
        · rw [e1, Nat.pow_succ, Nat.div_div_eq_div_mul]
        · intro j hj
          by_cases h : j = k
          · subst h; rw [upd_same]; exact bit_of N n j e1
          · rw [upd_other _ _ _ _ h]; exact e2 j (by omega)
    · obtain rfl : k = 64 := by omega
      obtain ⟨e1, e2, e3, e4, e5⟩ := HH.out
      have ef : arr f = arr (B a).getLsbD := by
        apply arr_ext; intro i hi
        rw [e2 i hi, ← HN.out]; rfl
      have E3 : Hid (At wr (w.heap.size + 1) f) := e3
      have E4 : Hid (At wr w.heap.size fun _ => false) := e4
      have EF : Hid (arr f = arr (B a).getLsbD) := ef
      clear e1 e2 e3 e4 ef HH
      go_wp2_with (first
        | (refine wpList_load_row rfl 39 _ rfl (w.heap.size + 1) rfl 39 (arr f) (0, 0) _ E3.out under39 rfl (by rw [arr_size]; exact size39) ?_)
        | (refine wpList_store_row rfl 39 _ _ rfl w.heap.size (arr f) rfl rfl 39 _ E4.out (by rw [arr_size]; exact size39) (by rw [arr_size, arr_size]) (arr_one f) ?_))
      refine bodyPost_ret (v := .agg (arr f)) (results_cell_row rfl _ _ w.heap.size 39 (arr f) (0, 0) _ rfl (setRow_heap _ _ _ _ _ _ E4.out) under39 rfl (by rw [arr_size]; exact size39)) rfl ⟨by rw [EF.out], below_setRow e5 (Nat.le_refl _) _⟩

theorem ret_int {k : IntKind} {a b : Int} (h : a = b) : Ending.returned (.int k a) = .returned (.int k b) := by rw [h]
theorem toInt_of_nat (X : BitVec 64) : wrap64 (X.toNat : Int) = X.toInt := by
  rw [wrap_toInt, B, BitVec.ofInt_natCast, BitVec.ofNat_toNat]; simp
theorem up_one (N m : Nat) : N / 2 ^ m = 2 * (N / 2 ^ (m + 1)) + if N.testBit m then 1 else 0 := by
  rw [Nat.testBit_eq_decide_div_mod_eq, Nat.pow_succ, ← Nat.div_div_eq_div_mul]
  generalize N / 2 ^ m = q
  by_cases h : q % 2 = 1 <;> simp [h] <;> omega
theorem div_small (N m : Nat) (h : N < 2 ^ 64) : N / 2 ^ (m + 1) ≤ 9223372036854775807 := by
  rw [Nat.pow_succ', ← Nat.div_div_eq_div_mul]
  have := Nat.div_le_self (N / 2) (2 ^ m)
  omega
theorem number_is (X : BitVec 64) (w : World) :
    Calls Try.prog 30 #[.agg (arr X.getLsbD)] w fun e w' => e = .returned (.int .i64 X.toInt) ∧ Below w.heap.size w w' := by
  go_enter Try.func30, Try.ntmps30
  go_wp2_with fail
  go_loopg [3, 4] 64 (fun gk u i wr => ∃ (n : Nat) (z : Int), z + 1 = gk ∧ gk ≤ 64 ∧ i = .int .i64 z ∧ u = .int .u64 (n : Int) ∧ Hid (n = X.toNat / 2 ^ gk ∧ At wr w.heap.size X.getLsbD ∧ Below w.heap.size w wr))
  case atStart => exact ⟨0, 63, rfl, by omega, rfl, rfl, by rw [Nat.div_eq_of_lt X.isLt], At.new w _, (Below.refl _ _).alloc (Nat.le_refl _) _⟩
  case round =>
    obtain ⟨n, z, hz, hg, rfl, rfl, HH⟩ := hrel
    by_cases h0 : gk = 0
    · subst h0
      obtain rfl : z = -1 := by omega
      have hx : wrap64 (n : Int) = X.toInt := by
        rw [HH.out.1]; simp only [Nat.pow_zero, Nat.div_one]; exact toInt_of_nat X
      have HX := Lib.hid hx
      clear hx
      go_wp2_with fail
      go_ret
      exact ⟨ret_int HX.out, HH.out.2.2⟩
    · obtain ⟨m, rfl⟩ : ∃ m, gk = m + 1 := ⟨gk - 1, by omega⟩
      obtain rfl : z = m := by omega
      have hb : (n : Int) ≤ 9223372036854775807 := by
        have h1 := HH.out.1
        have h2 := div_small X.toNat m X.isLt
        omega
      have hc := HH.out.2.1.cell m (by omega)
      have hm : (m : Int) < 64 := by omega
      have hm2 : m < 64 := by omega
      have up := up_one X.toNat m
      have HU := Lib.hid up
      clear up
      cases hf : X.getLsbD m
      · rw [hf] at hc
        have HF := Lib.hid hf
        clear hf hz
        go_wp2_with fail
        go_roundg m
        case measure => omega
        case rel =>
          obtain ⟨e1, e2, e3⟩ := HH.out
          refine ⟨2 * n, m - 1, by omega, by omega, by first | rfl | go_num, by first | rfl | go_num, ?_, e2, e3⟩
          have h1 : X.toNat.testBit m = false := HF.out
          rw [HU.out, h1, ← e1]; simp
      · rw [hf] at hc
        have HF := Lib.hid hf
        clear hf hz
        go_wp2_with fail
        go_roundg m
        case measure => omega
        case rel =>
          obtain ⟨e1, e2, e3⟩ := HH.out
          refine ⟨2 * n + 1, m - 1, by omega, by omega, by first | rfl | go_num, by first | rfl | go_num, ?_, e2, e3⟩
          have h1 : X.toNat.testBit m = true := HF.out
          rw [HU.out, h1, ← e1]; simp
end Go.Proofs.Ytmfhgdaiafklnaa
