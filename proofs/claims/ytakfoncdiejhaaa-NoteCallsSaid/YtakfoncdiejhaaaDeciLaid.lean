
/- What the program's own laying of digits answers: an array's end that holds a number's text. -/
import Derived.Test.YtakfoncdiejhaaaRows
import Derived.Test.YtakfoncdiejhaaaDeciMath
import Derived.Outline
import Derived.WalkKit
import Derived.WalkLawsBesides
import Derived.LoopTactic
import Derived.Below
import Derived.IntWalk
import Derived.Deep.Light
import Derived.Deep.LoopGhost
import Derived.Deep.WholeRow
import Derived.Lib.Hide
import Derived.Laws.IdiomStrings
namespace Go.Proofs.Ytakfoncdiejhaaa.Deci
open Go.ChangeShapes Go.WideShapes Go.RowKit
set_option linter.unusedVariables false

/-- Bytes as cells. -/
def cellsOf (l : List UInt8) : List Value := l.map fun c => .int .u8 (c.toNat : Int)
/-- Block g has 20 bytes, the last of them l. -/
def Row (w : World) (g : Nat) (l : List UInt8) : Prop :=
  l.length ≤ 20 ∧ ∃ cs : Array Value, cs.size = 20 ∧ w.heap[g]? = some (.cells cs 78 (0, 0)) ∧ cs.toList.drop (20 - l.length) = cellsOf l
theorem Row.cell {w : World} {g : Nat} {l : List UInt8} (h : Row w g l) (k : Nat) (hk : k < 20) : ∃ v, w.cell? ⟨g, k, none⟩ = some v := by
  obtain ⟨_, cs, hs, hb, _⟩ := h
  refine ⟨cs[k], ?_⟩
  rw [cell_of_row w g k _ _ _ hb, Array.getElem?_eq_getElem (by omega)]
theorem Row.frozen {w : World} {g : Nat} {l : List UInt8} (h : Row w g l) (k : Nat) : w.frozen? ⟨g, k, none⟩ = false := by
  obtain ⟨_, cs, _, hb, _⟩ := h
  exact frozen_of_row w g k _ _ hb
theorem Row.push {w : World} {g : Nat} {l : List UInt8} (h : Row w g l) (k : Nat) (hk : k + l.length + 1 = 20) (c : UInt8) : Row (w.setCell ⟨g, k, none⟩ (.int .u8 (c.toNat : Int))) g (c :: l) := by
  obtain ⟨_, cs, hs, hb, hd⟩ := h
  refine ⟨by simp; omega, cs.setIfInBounds k (.int .u8 (c.toNat : Int)), by simp [hs], heap_setCell_same w g k _ _ _ hb, ?_⟩
  have e1 : 20 - (c :: l).length = k := by simp; omega
  have e2 : 20 - l.length = k + 1 := by omega
  rw [e1, Array.toList_setIfInBounds]
  rw [e2] at hd
  rw [List.drop_set]
  simp
  rw [show cellsOf (c :: l) = .int .u8 (c.toNat : Int) :: cellsOf l from rfl, ← hd]
  rw [← List.getElem_cons_drop (by simp [hs]; omega : k < cs.toList.length)]
  simp
theorem Row.at {w : World} {g : Nat} {l : List UInt8} (h : Row w g l) (j : Nat) (hj : j < l.length) : w.cell? ⟨g, 20 - l.length + j, none⟩ = some (.int .u8 (l[j].toNat : Int)) := by
  obtain ⟨hl, cs, hs, hb, hd⟩ := h
  rw [cell_of_row w g _ _ _ _ hb, ← Array.getElem?_toList, ← List.getElem?_drop, hd]
  simp [cellsOf, hj]
theorem Row.below {B : Nat} {w w' : World} {g : Nat} {l : List UInt8} (h : Row w g l) (hb : Below B w w') (hg : g < B) : Row w' g l := by
  obtain ⟨hl, cs, hs, hh, hd⟩ := h
  exact ⟨hl, cs, hs, (hb.block g hg).trans hh, hd⟩

theorem ret_int {k : IntKind} {a b : Int} (h : a = b) : Ending.returned (.int k a) = .returned (.int k b) := by rw [h]
def fit (n : Int) : Prop := -9223372036854775808 ≤ n ∧ n ≤ 9223372036854775807
theorem neg_wrap (n : Int) (h0 : n < 0) (h1 : -9223372036854775808 ≤ n) : IntKind.u64.wrap (-(IntKind.u64.wrap n)) = (n.natAbs : Int) := by
  have e : (n.natAbs : Int) = -n := by omega
  have hb : (2 : Int) ^ IntKind.u64.bits = 18446744073709551616 := by decide
  have hs : IntKind.u64.signed = false := rfl
  rw [e]; simp only [IntKind.wrap, hb, hs, Bool.false_and]
  simp only [Bool.false_eq_true, if_false]
  omega
theorem size_is (n : Int) (h : fit n) (w : World) : Calls Try.prog 37 #[.int .i64 n] w fun e w' => e = .returned (.int .u64 (n.natAbs : Int)) ∧ w = w' := by
  obtain ⟨h1, h2⟩ := h
  by_cases h0 : n < 0
  · go_enter Try.func37, Try.ntmps37
    go_wp2
    go_ret
    exact ⟨ret_int (neg_wrap n h0 h1), rfl⟩
  · have h0' : 0 ≤ n := by omega
    go_enter Try.func37, Try.ntmps37
    go_wp2
    go_ret
    exact ⟨ret_int (by omega), rfl⟩
theorem size_v (n : Int) (u : Nat) (hu : n.natAbs = u) (h : fit n) (w : World) : Calls Try.prog 37 #[.int .i64 n] w fun e w' => e = .returned (.int .u64 (u : Int)) ∧ w = w' := by
  subst hu; exact size_is n h w
def zeros : Array Value := #[.int .u8 0, .int .u8 0, .int .u8 0, .int .u8 0, .int .u8 0, .int .u8 0, .int .u8 0, .int .u8 0, .int .u8 0, .int .u8 0, .int .u8 0, .int .u8 0, .int .u8 0, .int .u8 0, .int .u8 0, .int .u8 0, .int .u8 0, .int .u8 0, .int .u8 0, .int .u8 0]
theorem Row.zeros (w : World) : Row (w.alloc (.cells zeros 78)) w.heap.size [] := ⟨by simp, Deci.zeros, rfl, heap_alloc_new w _, rfl⟩
theorem dch_int (u : Nat) : ((dch u).toNat : Int) = 48 + (u : Int) % 10 := by rw [dch_nat]; omega
/-- What is laid: the bytes l at the end of block g. -/
def LaidE (g : Nat) (l : List UInt8) : Ending := .returned (.slice (some ⟨g, 20 - l.length, none⟩) l.length l.length)

set_option maxRecDepth 100000 in
theorem cut_run (g : Nat) (z : Int) (j : Nat) (hz : z = (j : Int)) (hj : j < 20) (W : World) :
    (Instr.sliceAt 78 (.pointer (some ⟨g, 0, none⟩)) (some (.int .i64 z)) (some (.int .i64 20)) (some (.int .i64 20))).run Try.prog W = .ok (.slice (some ⟨g, j, none⟩) (20 - j) (20 - j)) W := by
  subst hz
  have ha : Try.prog.arrayLen 78 = 20 := by kernel_rfl
  have he : Try.prog.elem 78 = 5 := by kernel_rfl
  rw [run_sliceAt_array_lhm W 78 ⟨g, 0, none⟩ (by kernel_rfl) .i64 .i64 .i64 _ _ _ (by omega) (by omega) (by omega) (by rw [ha]; omega), he]
  have hs : (sizeOf 5).run Try.prog W = .ok 1 W := by simp [go_sem]
  rw [hs]
  simp [slicedAt, Result.andThen, Addr.add]
  split
  · omega
  · split
    · subst_vars; rfl
    · rfl
theorem laidE_of {g j : Nat} {l : List UInt8} (h : j + l.length = 20) : Ending.returned (.slice (some ⟨g, j, none⟩) (20 - j) (20 - j)) = LaidE g l := by
  have e1 : 20 - l.length = j := by omega
  have e2 : 20 - j = l.length := by omega
  unfold LaidE; rw [e1, e2]
theorem laid_is (n : Int) (h : fit n) (w : World) : Calls Try.prog 34 #[.int .i64 n] w fun e w' => e = LaidE w.heap.size (txt n) ∧ Row w' w.heap.size (txt n) ∧ Below w.heap.size w w' := by
  obtain ⟨u, hu⟩ : ∃ u, n.natAbs = u := ⟨_, rfl⟩
  have hlen : (digs u).length ≤ 19 := digs_le 18 u (by have := h.1; have := h.2; omega)
  have HU := Lib.hid hu
  have HF := Lib.hid h
  have HL := Lib.hid hlen
  have hub : (u : Int) ≤ 9223372036854775808 := by have := h.1; have := h.2; omega
  clear hu h hlen
  go_enter Try.func34, Try.ntmps34
  go_wp2_with fail
  refine (size_v n u HU.out HF.out _).mono ?_
  rintro e w' ⟨rfl, rfl⟩
  go_wp2_with fail
  go_loopg [4, 5] (digs u).length (fun gk a lf wr => ∃ (k left : Nat) (acc : List UInt8), k + acc.length = 20 ∧ left ≤ u ∧ a = .int .i64 (k : Int) ∧ lf = .int .u64 (left : Int) ∧ Hid (gk = (digs left).length ∧ digs u = digs left ++ acc ∧ Row wr w.heap.size acc ∧ Below w.heap.size w wr))
  case atStart => exact ⟨20, u, [], rfl, Nat.le_refl _, rfl, rfl, rfl, by simp, Row.zeros w, (Below.refl _ _).alloc (Nat.le_refl _) _⟩
  case round =>
    obtain ⟨k, left, acc, hk, hle, rfl, rfl, HH⟩ := hrel
    have hal : acc.length + (digs left).length ≤ 19 := by
      have h1 := HL.out
      rw [HH.out.2.1, List.length_append] at h1
      omega
    have hdp := digs_pos left
    have h1k : 1 ≤ k := by omega
    have h20 : (k : Int) ≤ 20 := by omega
    have h1k' : (1 : Int) ≤ k := by omega
    have hlb : (left : Int) ≤ 9223372036854775808 := by omega
    have h2k : 2 ≤ k := by omega
    have h2k' : (2 : Int) ≤ k := by omega
    have h1kk : (1 : Int) ≤ (k : Int) - 1 := by omega
    obtain ⟨v, hc⟩ := HH.out.2.2.1.cell (k - 1) (by omega)
    have hf := HH.out.2.2.1.frozen (k - 1)
    obtain ⟨v2, hc2⟩ := HH.out.2.2.1.cell (k - 1 - 1) (by omega)
    have hf2 := HH.out.2.2.1.frozen (k - 1 - 1)
    have ek2 : ((k : Int) - 1 - 1).toNat = k - 1 - 1 := by omega
    have ek : ((k : Int) - 1).toNat = k - 1 := by omega
    have HK := Lib.hid hk
    have HA := Lib.hid hal
    clear hk hal hdp
    by_cases h0 : left / 10 = 0
    · have ht : ((left : Int) / 10 == 0) = true := by rw [beq_iff_eq]; omega
      have H0 := Lib.hid h0
      clear h0
      by_cases hn : n < 0
      · have hcut := cut_run w.heap.size ((k : Int) - 1 - 1) (k - 1 - 1) (by omega) (by omega)
        go_wp2_with fail
        go_ret
        obtain ⟨e1, e2, e3, e4⟩ := HH.out
        have et : txt n = 45 :: dch left :: acc := by unfold txt; rw [if_pos hn, HU.out, digs_end e2 H0.out]
        have e5 := e3.push (k - 1) (by have := HK.out; omega) (dch left)
        rw [dch_int] at e5
        have e6 := e5.push (k - 1 - 1) (by have := HK.out; simp; omega) 45
        rw [et]
        exact ⟨laidE_of (by have := HK.out; simp; omega), e6, (e4.setCell (by simp) _).setCell (by simp) _⟩
      · have hn' : 0 ≤ n := by omega
        have hcut := cut_run w.heap.size ((k : Int) - 1) (k - 1) (by omega) (by omega)
        go_wp2_with fail
        go_ret
        obtain ⟨e1, e2, e3, e4⟩ := HH.out
        have et : txt n = dch left :: acc := by unfold txt; rw [if_neg (by omega), HU.out, digs_end e2 H0.out]
        have e5 := e3.push (k - 1) (by have := HK.out; omega) (dch left)
        rw [dch_int] at e5
        rw [et]
        exact ⟨laidE_of (by have := HK.out; simp; omega), e5, e4.setCell (by simp) _⟩
    · have ht : ((left : Int) / 10 == 0) = false := by rw [beq_eq_false_iff_ne]; omega
      have H0 := Lib.hid h0
      clear h0
      go_wp2_with fail
      go_roundg (digs (left / 10)).length
      case measure =>
        have h1 := digs_ge (by have := H0.out; omega : ¬ left < 10)
        rw [HH.out.1, h1]; simp
      case rel =>
        obtain ⟨e1, e2, e3, e4⟩ := HH.out
        have e5 := e3.push (k - 1) (by have := HK.out; omega) (dch left)
        rw [dch_int] at e5
        exact ⟨k - 1, left / 10, dch left :: acc, by have := HK.out; simp; omega, by omega, by go_num, by go_num, rfl, digs_go e2 H0.out, e5, e4.setCell (by simp) _⟩
end Go.Proofs.Ytakfoncdiejhaaa.Deci
