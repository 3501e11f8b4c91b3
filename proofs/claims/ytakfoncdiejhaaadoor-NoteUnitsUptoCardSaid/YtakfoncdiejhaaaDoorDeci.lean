/- Decimal digits as plain mathematics: a number's digits, the number of digits, and that each is the other's. -/
import Derived.Test.YtakfoncdiejhaaaDoorRows
import Derived.Outline
import Derived.WalkKit
import Derived.WalkLawsBesides
import Derived.LoopTactic
import Derived.Below
import Derived.IntWalk
import Derived.Deep.Light
import Derived.Deep.LoopGhost
import Derived.Deep.WholeRow
import Derived.Lib.Hide
import Derived.Laws.IdiomStrings
import Derived.Maps.AppendAt
import Derived.Deep.AppendLies
import Derived.OwnWalk
namespace Go.Proofs.YtakfoncdiejhaaaDoor.Deci
set_option linter.unusedVariables false
set_option maxRecDepth 20000

/-- The byte of a number's last digit. -/
def dch (u : Nat) : UInt8 := UInt8.ofNat (48 + u % 10)
theorem dch_nat (u : Nat) : (dch u).toNat = 48 + u % 10 := by
  unfold dch; rw [UInt8.toNat_ofNat']; have := Nat.mod_lt u (show 0 < 10 by omega); omega
/-- A number's digits, the first one first. -/
def digs (u : Nat) : List UInt8 := if h : u < 10 then [dch u] else digs (u / 10) ++ [dch u]
termination_by u
decreasing_by omega
theorem digs_lt {u : Nat} (h : u < 10) : digs u = [dch u] := by rw [digs, dif_pos h]
theorem digs_ge {u : Nat} (h : ¬ u < 10) : digs u = digs (u / 10) ++ [dch u] := by rw [digs, dif_neg h]
theorem digs_pos (u : Nat) : 0 < (digs u).length := by
  by_cases h : u < 10
  · rw [digs_lt h]; simp
  · rw [digs_ge h]; simp
theorem digs_le (k : Nat) : ∀ u, u < 10 ^ (k + 1) → (digs u).length ≤ k + 1 := by
  induction k with
  | zero => intro u h; rw [digs_lt (by simpa using h)]; simp
  | succ k ih =>
    intro u h
    by_cases h1 : u < 10
    · rw [digs_lt h1]; simp
    · rw [digs_ge h1]
      have := ih (u / 10) (by rw [Nat.pow_succ] at h; omega)
      simp; omega
/-- One round of laying digits from behind. -/
theorem digs_go {u left : Nat} {acc : List UInt8} (h : digs u = digs left ++ acc) (h0 : left / 10 ≠ 0) : digs u = digs (left / 10) ++ (dch left :: acc) := by
  rw [h, digs_ge (by omega : ¬ left < 10)]; simp
theorem digs_end {u left : Nat} {acc : List UInt8} (h : digs u = digs left ++ acc) (h0 : left / 10 = 0) : digs u = dch left :: acc := by
  rw [h, digs_lt (by omega : left < 10)]; simp
theorem digs_all (u : Nat) : ∀ c ∈ digs u, 48 ≤ c.toNat ∧ c.toNat ≤ 57 := by
  induction u using Nat.strongRecOn with
  | _ u ih =>
    intro c hc
    by_cases h : u < 10
    · rw [digs_lt h] at hc; simp at hc; subst hc; rw [dch_nat]; omega
    · rw [digs_ge h] at hc; simp at hc
      rcases hc with hc | hc
      · exact ih (u / 10) (by omega) c hc
      · subst hc; rw [dch_nat]; omega
theorem digs_head (u : Nat) : ∀ c, (digs u).head? = some c → c.toNat = 48 → u = 0 := by
  induction u using Nat.strongRecOn with
  | _ u ih =>
    intro c hc h48
    by_cases h : u < 10
    · rw [digs_lt h] at hc; simp at hc; subst hc; rw [dch_nat] at h48; omega
    · rw [digs_ge h, List.head?_append] at hc
      obtain ⟨x, hx⟩ : ∃ x, (digs (u / 10)).head? = some x := by
        cases hd : digs (u / 10) with
        | nil => have := digs_pos (u / 10); rw [hd] at this; simp at this
        | cons a l => exact ⟨a, rfl⟩
      rw [hx] at hc; simp at hc; subst hc
      have := ih (u / 10) (by omega) x hx h48
      omega
theorem digs_zero : digs 0 = [48] := by rw [digs_lt (by omega)]; rfl

/-- The number of digits. -/
def val (l : List UInt8) : Nat := l.foldl (fun a c => 10 * a + (c.toNat - 48)) 0
theorem val_snoc (l : List UInt8) (c : UInt8) : val (l ++ [c]) = 10 * val l + (c.toNat - 48) := by
  unfold val; rw [List.foldl_append]; rfl
theorem val_nil : val [] = 0 := rfl
theorem val_digs (u : Nat) : val (digs u) = u := by
  induction u using Nat.strongRecOn with
  | _ u ih =>
    by_cases h : u < 10
    · rw [digs_lt h, show [dch u] = [] ++ [dch u] from rfl, val_snoc, val_nil, dch_nat]; omega
    · rw [digs_ge h, val_snoc, ih (u / 10) (by omega), dch_nat]; omega
theorem foldl_mono (l : List UInt8) : ∀ a, a ≤ l.foldl (fun a c => 10 * a + (c.toNat - 48)) a := by
  induction l with
  | nil => intro a; exact Nat.le_refl _
  | cons c l ih => intro a; have := ih (10 * a + (c.toNat - 48)); rw [List.foldl_cons]; omega
theorem val_take (l : List UInt8) (k : Nat) : val (l.take k) ≤ val l := by
  have h : val l = (l.drop k).foldl (fun a c => 10 * a + (c.toNat - 48)) (val (l.take k)) := by
    unfold val; rw [← List.foldl_append, List.take_append_drop]
  rw [h]; exact foldl_mono _ _
theorem val_step (l : List UInt8) (k : Nat) (h : k < l.length) : val (l.take (k + 1)) = 10 * val (l.take k) + ((l[k]).toNat - 48) := by
  rw [List.take_succ_eq_append_getElem h, val_snoc]
theorem val_pos_aux (l : List UInt8) : ∀ a, 0 < a → 0 < l.foldl (fun a c => 10 * a + (c.toNat - 48)) a := by
  intro a h; have := foldl_mono l a; omega
theorem val_pos (l : List UInt8) (hd : ∀ c ∈ l, 48 ≤ c.toNat ∧ c.toNat ≤ 57) (c : UInt8) (hc : l.head? = some c) (h0 : c.toNat ≠ 48) : 0 < val l := by
  cases l with
  | nil => simp at hc
  | cons a l =>
    simp at hc; subst hc
    unfold val; rw [List.foldl_cons]
    apply val_pos_aux
    have := hd a (by simp); omega
theorem dch_of (a : Nat) (c : UInt8) (h : 48 ≤ c.toNat ∧ c.toNat ≤ 57) : dch (10 * a + (c.toNat - 48)) = c := by
  apply UInt8.toNat_inj.1; rw [dch_nat]; omega
/-- Digits that stand as in a number's text are the number's digits. -/
theorem digs_val (n : Nat) : ∀ l : List UInt8, l.length = n → 0 < n → (∀ c ∈ l, 48 ≤ c.toNat ∧ c.toNat ≤ 57) → (∀ c, l.head? = some c → c.toNat = 48 → n = 1) → digs (val l) = l := by
  induction n with
  | zero => intro l _ h; omega
  | succ n ih =>
    intro l hl _ hd hh
    obtain ⟨l', c, rfl⟩ : ∃ l' c, l = l' ++ [c] := by
      refine ⟨l.dropLast, l.getLast (by intro h; rw [h] at hl; simp at hl), ?_⟩
      rw [List.dropLast_concat_getLast]
    have hc := hd c (by simp)
    rw [val_snoc]
    by_cases hn : n = 0
    · have : l' = [] := by apply List.eq_nil_of_length_eq_zero; simp at hl; omega
      subst this
      rw [val_nil, digs_lt (by omega), dch_of 0 c hc]; rfl
    · simp at hl
      have hl' : l'.length = n := by omega
      obtain ⟨a, ha⟩ : ∃ a, l'.head? = some a := by
        cases l' with
        | nil => simp at hl'; omega
        | cons a t => exact ⟨a, rfl⟩
      have hne : a.toNat ≠ 48 := by
        intro h
        have := hh a (by rw [List.head?_append, ha]; rfl) h
        omega
      have hp := val_pos l' (fun x hx => hd x (by simp [hx])) a ha hne
      rw [digs_ge (by omega), dch_of _ c hc, show (10 * val l' + (c.toNat - 48)) / 10 = val l' by omega]
      rw [ih l' hl' (by omega) (fun x hx => hd x (by simp [hx])) (fun x hx h48 => by rw [ha] at hx; simp at hx; subst hx; exact absurd h48 hne)]

/-- A number's text. -/
def txt (n : Int) : List UInt8 := if n < 0 then 45 :: digs n.natAbs else digs n.natAbs
theorem txt_len (n : Int) (h1 : -9223372036854775808 ≤ n) (h2 : n ≤ 9223372036854775807) : (txt n).length ≤ 20 := by
  have := digs_le 18 n.natAbs (by omega)
  unfold txt; split
  · simp; omega
  · omega
theorem txt_pos (n : Int) : 0 < (txt n).length := by
  unfold txt; split
  · simp
  · exact digs_pos _
end Go.Proofs.YtakfoncdiejhaaaDoor.Deci
/- What the program's own laying of digits answers: an array's end that holds a number's text. -/
namespace Go.Proofs.YtakfoncdiejhaaaDoor.Deci
open Go.ChangeShapes Go.WideShapes Go.RowKit
set_option linter.unusedVariables false

/-- Bytes as cells. -/
def cellsOf (l : List UInt8) : List Value := l.map fun c => .int .u8 (c.toNat : Int)
/-- Block g has 20 bytes, the last of them l. -/
def Row (w : World) (g : Nat) (l : List UInt8) : Prop :=
  l.length ≤ 20 ∧ ∃ cs : Array Value, cs.size = 20 ∧ w.heap[g]? = some (.cells cs 121 (0, 0)) ∧ cs.toList.drop (20 - l.length) = cellsOf l
theorem Row.cell {w : World} {g : Nat} {l : List UInt8} (h : Row w g l) (k : Nat) (hk : k < 20) : ∃ v, w.cell? ⟨g, k, none⟩ = some v := by
  obtain ⟨_, cs, hs, hb, _⟩ := h
  refine ⟨cs[k], ?_⟩
  rw [cell_of_row w g k _ _ _ hb, Array.getElem?_eq_getElem (by omega)]
theorem Row.frozen {w : World} {g : Nat} {l : List UInt8} (h : Row w g l) (k : Nat) : w.frozen? ⟨g, k, none⟩ = false := by
  obtain ⟨_, cs, _, hb, _⟩ := h
  exact frozen_of_row w g k _ _ hb
theorem Row.push {w : World} {g : Nat} {l : List UInt8} (h : Row w g l) (k : Nat) (hk : k + l.length + 1 = 20) (c : UInt8) : Row (w.setCell ⟨g, k, none⟩ (.int .u8 (c.toNat : Int))) g (c :: l) := by
  obtain ⟨_, cs, hs, hb, hd⟩ := h
  refine ⟨by simp; omega, cs.setIfInBounds k (.int .u8 (c.toNat : Int)), by simp [hs], heap_setCell_same w g k _ _ _ hb, ?_⟩
  have e1 : 20 - (c :: l).length = k := by simp; omega
  have e2 : 20 - l.length = k + 1 := by omega
  rw [e1, Array.toList_setIfInBounds]
  rw [e2] at hd
  rw [List.drop_set]
  simp
  rw [show cellsOf (c :: l) = .int .u8 (c.toNat : Int) :: cellsOf l from rfl, ← hd]
  rw [← List.getElem_cons_drop (by simp [hs]; omega : k < cs.toList.length)]
  simp
theorem Row.at {w : World} {g : Nat} {l : List UInt8} (h : Row w g l) (j : Nat) (hj : j < l.length) : w.cell? ⟨g, 20 - l.length + j, none⟩ = some (.int .u8 (l[j].toNat : Int)) := by
  obtain ⟨hl, cs, hs, hb, hd⟩ := h
  rw [cell_of_row w g _ _ _ _ hb, ← Array.getElem?_toList, ← List.getElem?_drop, hd]
  simp [cellsOf, hj]
theorem Row.below {B : Nat} {w w' : World} {g : Nat} {l : List UInt8} (h : Row w g l) (hb : Below B w w') (hg : g < B) : Row w' g l := by
  obtain ⟨hl, cs, hs, hh, hd⟩ := h
  exact ⟨hl, cs, hs, (hb.block g hg).trans hh, hd⟩

theorem ret_int {k : IntKind} {a b : Int} (h : a = b) : Ending.returned (.int k a) = .returned (.int k b) := by rw [h]
def fit (n : Int) : Prop := -9223372036854775808 ≤ n ∧ n ≤ 9223372036854775807
theorem neg_wrap (n : Int) (h0 : n < 0) (h1 : -9223372036854775808 ≤ n) : IntKind.u64.wrap (-(IntKind.u64.wrap n)) = (n.natAbs : Int) := by
  have e : (n.natAbs : Int) = -n := by omega
  have hb : (2 : Int) ^ IntKind.u64.bits = 18446744073709551616 := by decide
  have hs : IntKind.u64.signed = false := rfl
  rw [e]; simp only [IntKind.wrap, hb, hs, Bool.false_and]
  simp only [Bool.false_eq_true, if_false]
  omega
theorem size_is (n : Int) (h : fit n) (w : World) : Calls Tryd.prog 64 #[.int .i64 n] w fun e w' => e = .returned (.int .u64 (n.natAbs : Int)) ∧ w = w' := by
  obtain ⟨h1, h2⟩ := h
  by_cases h0 : n < 0
  · go_enter Tryd.func64, Tryd.ntmps64
    go_wp2
    go_ret
    exact ⟨ret_int (neg_wrap n h0 h1), rfl⟩
  · have h0' : 0 ≤ n := by omega
    go_enter Tryd.func64, Tryd.ntmps64
    go_wp2
    go_ret
    exact ⟨ret_int (by omega), rfl⟩
theorem size_v (n : Int) (u : Nat) (hu : n.natAbs = u) (h : fit n) (w : World) : Calls Tryd.prog 64 #[.int .i64 n] w fun e w' => e = .returned (.int .u64 (u : Int)) ∧ w = w' := by
  subst hu; exact size_is n h w
def zeros : Array Value := #[.int .u8 0, .int .u8 0, .int .u8 0, .int .u8 0, .int .u8 0, .int .u8 0, .int .u8 0, .int .u8 0, .int .u8 0, .int .u8 0, .int .u8 0, .int .u8 0, .int .u8 0, .int .u8 0, .int .u8 0, .int .u8 0, .int .u8 0, .int .u8 0, .int .u8 0, .int .u8 0]
theorem Row.zeros (w : World) : Row (w.alloc (.cells zeros 121)) w.heap.size [] := ⟨by simp, Deci.zeros, rfl, heap_alloc_new w _, rfl⟩
theorem dch_int (u : Nat) : ((dch u).toNat : Int) = 48 + (u : Int) % 10 := by rw [dch_nat]; omega
/-- What is laid: the bytes l at the end of block g. -/
def LaidE (g : Nat) (l : List UInt8) : Ending := .returned (.slice (some ⟨g, 20 - l.length, none⟩) l.length l.length)

set_option maxRecDepth 100000 in
theorem cut_run (g : Nat) (z : Int) (j : Nat) (hz : z = (j : Int)) (hj : j < 20) (W : World) :
    (Instr.sliceAt 121 (.pointer (some ⟨g, 0, none⟩)) (some (.int .i64 z)) (some (.int .i64 20)) (some (.int .i64 20))).run Tryd.prog W = .ok (.slice (some ⟨g, j, none⟩) (20 - j) (20 - j)) W := by
  subst hz
  have ha : Tryd.prog.arrayLen 121 = 20 := by kernel_rfl
  have he : Tryd.prog.elem 121 = 5 := by kernel_rfl
  rw [run_sliceAt_array_lhm W 121 ⟨g, 0, none⟩ (by kernel_rfl) .i64 .i64 .i64 _ _ _ (by omega) (by omega) (by omega) (by rw [ha]; omega), he]
  have hs : (sizeOf 5).run Tryd.prog W = .ok 1 W := by simp [go_sem]
  rw [hs]
  simp [slicedAt, Result.andThen, Addr.add]
  split
  · omega
  · split
    · subst_vars; rfl
    · rfl
theorem laidE_of {g j : Nat} {l : List UInt8} (h : j + l.length = 20) : Ending.returned (.slice (some ⟨g, j, none⟩) (20 - j) (20 - j)) = LaidE g l := by
  have e1 : 20 - l.length = j := by omega
  have e2 : 20 - j = l.length := by omega
  unfold LaidE; rw [e1, e2]
theorem laid_is (n : Int) (h : fit n) (w : World) : Calls Tryd.prog 57 #[.int .i64 n] w fun e w' => e = LaidE w.heap.size (txt n) ∧ Row w' w.heap.size (txt n) ∧ Below w.heap.size w w' := by
  obtain ⟨u, hu⟩ : ∃ u, n.natAbs = u := ⟨_, rfl⟩
  have hlen : (digs u).length ≤ 19 := digs_le 18 u (by have := h.1; have := h.2; omega)
  have HU := Lib.hid hu
  have HF := Lib.hid h
  have HL := Lib.hid hlen
  have hub : (u : Int) ≤ 9223372036854775808 := by have := h.1; have := h.2; omega
  clear hu h hlen
  go_enter Tryd.func57, Tryd.ntmps57
  go_wp2_with fail
  refine (size_v n u HU.out HF.out _).mono ?_
  rintro e w' ⟨rfl, rfl⟩
  go_wp2_with fail
  go_loopg [4, 5] (digs u).length (fun gk a lf wr => ∃ (k left : Nat) (acc : List UInt8), k + acc.length = 20 ∧ left ≤ u ∧ a = .int .i64 (k : Int) ∧ lf = .int .u64 (left : Int) ∧ Hid (gk = (digs left).length ∧ digs u = digs left ++ acc ∧ Row wr w.heap.size acc ∧ Below w.heap.size w wr))
  case atStart => exact ⟨20, u, [], rfl, Nat.le_refl _, rfl, rfl, rfl, by simp, Row.zeros w, (Below.refl _ _).alloc (Nat.le_refl _) _⟩
  case round =>
    obtain ⟨k, left, acc, hk, hle, rfl, rfl, HH⟩ := hrel
    have hal : acc.length + (digs left).length ≤ 19 := by
      have h1 := HL.out
      rw [HH.out.2.1, List.length_append] at h1
      omega
    have hdp := digs_pos left
    have h1k : 1 ≤ k := by omega
    have h20 : (k : Int) ≤ 20 := by omega
    have h1k' : (1 : Int) ≤ k := by omega
    have hlb : (left : Int) ≤ 9223372036854775808 := by omega
    have h2k : 2 ≤ k := by omega
    have h2k' : (2 : Int) ≤ k := by omega
    have h1kk : (1 : Int) ≤ (k : Int) - 1 := by omega
    obtain ⟨v, hc⟩ := HH.out.2.2.1.cell (k - 1) (by omega)
    have hf := HH.out.2.2.1.frozen (k - 1)
    obtain ⟨v2, hc2⟩ := HH.out.2.2.1.cell (k - 1 - 1) (by omega)
    have hf2 := HH.out.2.2.1.frozen (k - 1 - 1)
    have ek2 : ((k : Int) - 1 - 1).toNat = k - 1 - 1 := by omega
    have ek : ((k : Int) - 1).toNat = k - 1 := by omega
    have HK := Lib.hid hk
    have HA := Lib.hid hal
    clear hk hal hdp
    by_cases h0 : left / 10 = 0
    · have ht : ((left : Int) / 10 == 0) = true := by rw [beq_iff_eq]; omega
      have H0 := Lib.hid h0
      clear h0
      by_cases hn : n < 0
      · have hcut := cut_run w.heap.size ((k : Int) - 1 - 1) (k - 1 - 1) (by omega) (by omega)
        go_wp2_with fail
        go_ret
        obtain ⟨e1, e2, e3, e4⟩ := HH.out
        have et : txt n = 45 :: dch left :: acc := by unfold txt; rw [if_pos hn, HU.out, digs_end e2 H0.out]
        have e5 := e3.push (k - 1) (by have := HK.out; omega) (dch left)
        rw [dch_int] at e5
        have e6 := e5.push (k - 1 - 1) (by have := HK.out; simp; omega) 45
        rw [et]
        exact ⟨laidE_of (by have := HK.out; simp; omega), e6, (e4.setCell (by simp) _).setCell (by simp) _⟩
      · have hn' : 0 ≤ n := by omega
        have hcut := cut_run w.heap.size ((k : Int) - 1) (k - 1) (by omega) (by omega)
        go_wp2_with fail
        go_ret
        obtain ⟨e1, e2, e3, e4⟩ := HH.out
        have et : txt n = dch left :: acc := by unfold txt; rw [if_neg (by omega), HU.out, digs_end e2 H0.out]
        have e5 := e3.push (k - 1) (by have := HK.out; omega) (dch left)
        rw [dch_int] at e5
        rw [et]
        exact ⟨laidE_of (by have := HK.out; simp; omega), e5, e4.setCell (by simp) _⟩
    · have ht : ((left : Int) / 10 == 0) = false := by rw [beq_eq_false_iff_ne]; omega
      have H0 := Lib.hid h0
      clear h0
      go_wp2_with fail
      go_roundg (digs (left / 10)).length
      case measure =>
        have h1 := digs_ge (by have := H0.out; omega : ¬ left < 10)
        rw [HH.out.1, h1]; simp
      case rel =>
        obtain ⟨e1, e2, e3, e4⟩ := HH.out
        have e5 := e3.push (k - 1) (by have := HK.out; omega) (dch left)
        rw [dch_int] at e5
        exact ⟨k - 1, left / 10, dch left :: acc, by have := HK.out; simp; omega, by omega, by go_num, by go_num, rfl, digs_go e2 H0.out, e5, e4.setCell (by simp) _⟩
end Go.Proofs.YtakfoncdiejhaaaDoor.Deci
/- What the program's Put, Long and Pad answer: a number's text, how long it is, and with blanks ahead. -/
namespace Go.Proofs.YtakfoncdiejhaaaDoor.Deci
open Go.ChangeShapes Go.WideShapes Go.RowKit
set_option linter.unusedVariables false
set_option maxRecDepth 20000

theorem laid_v (n : Int) (l : List UInt8) (hl : txt n = l) (h : fit n) (w : World) :
    Calls Tryd.prog 57 #[.int .i64 n] w fun e w' => e = .returned (.slice (some ⟨w.heap.size, 20 - l.length, none⟩) l.length l.length) ∧ Row w' w.heap.size l ∧ Below w.heap.size w w' := by
  subst hl; exact laid_is n h w
theorem row_convert {w : World} {g : Nat} {l : List UInt8} (h : Row w g l) :
    (convert 62 9 (.slice (some ⟨g, 20 - l.length, none⟩) l.length l.length)).run Tryd.prog w = .ok (.string ⟨l.toArray⟩) w := by
  refine run_convert_bytes_back w 62 9 5 _ l.length l Tryd.underlying62 Tryd.underlying5 Tryd.underlying9 (fun j hj => ?_)
  rw [← h.at j hj]
  unfold Addr.add
  split
  · subst_vars; simp
  · rfl
theorem put_v (n : Int) (l : List UInt8) (hl : txt n = l) (h : fit n) (w : World) :
    Calls Tryd.prog 48 #[.int .i64 n] w fun e w' => e = .returned (.string ⟨l.toArray⟩) ∧ Below w.heap.size w w' := by
  have HL := Lib.hid hl
  have HF := Lib.hid h
  clear hl h
  go_enter Tryd.func48, Tryd.ntmps48
  go_wp2_with fail
  refine (laid_v n l HL.out HF.out _).mono ?_
  rintro e w1 ⟨rfl, hr, hb⟩
  have hconv := row_convert hr
  have HR := Lib.hid hr
  have HB := Lib.hid hb
  clear hr hb
  go_wp2_with fail
  go_ret
  exact ⟨rfl, HB.out⟩
end Go.Proofs.YtakfoncdiejhaaaDoor.Deci
/- What the document's own Put and Pad answer: a number's text, and with blanks ahead. -/
namespace Go.Proofs.YtakfoncdiejhaaaDoor.Deci
open Go.ChangeShapes Go.WideShapes Go.RowKit
set_option linter.unusedVariables false
set_option maxRecDepth 20000

/-- So far out, the last digit first, has been taken of u, and left is left. -/
def D (u left : Nat) (out : List UInt8) : Prop := (out = [] ∧ left = u) ∨ (out ≠ [] ∧ digs u = (if left = 0 then [] else digs left) ++ out.reverse)
theorem D.step {u left : Nat} {out : List UInt8} (h : D u left out) (hg : 0 < left ∨ out = []) : D u (left / 10) (out ++ [dch left]) := by
  refine .inr ⟨by simp, ?_⟩
  rw [List.reverse_append]
  rcases h with ⟨rfl, rfl⟩ | ⟨hne, hd⟩
  · by_cases h0 : left / 10 = 0
    · rw [if_pos h0, digs_lt (by omega)]; rfl
    · rw [if_neg h0, digs_ge (by omega)]; rfl
  · have hp : left ≠ 0 := by
      rcases hg with h | h
      · omega
      · exact absurd h hne
    rw [if_neg hp] at hd
    by_cases h0 : left / 10 = 0
    · rw [if_pos h0, digs_end hd h0]; rfl
    · rw [if_neg h0, digs_go hd h0]; rfl
theorem D.done {u : Nat} {out : List UInt8} (h : D u 0 out) (hne : out ≠ []) : out = (digs u).reverse := by
  rcases h with ⟨h, _⟩ | ⟨_, hd⟩
  · exact absurd h hne
  · rw [hd]; simp
theorem D.len {u left : Nat} {out : List UInt8} (h : D u left out) : out.length ≤ (digs u).length := by
  rcases h with ⟨rfl, _⟩ | ⟨_, hd⟩
  · simp
  · rw [hd]; simp
theorem own_form {w : World} {base n : Nat} {v : Value} {xs : List Value} (h : w.ownsRow base 5 1 v (n + 1) xs) : ∃ g cap, v = .slice (some ⟨g, 0, none⟩) (n + 1) cap := by
  rcases h.2 with ⟨_, h0⟩ | ⟨g, cap, cur, hv, _⟩
  · omega
  · exact ⟨g, cap, hv⟩
theorem info5 : (Tryd.prog.info? 5).map (fun i => (i.zero, i.size, i.bytes)) = some (some (.int .u8 0), 1, 1) := by kernel_rfl
/-- What is handed back: a slice whose cells are l. -/
def DigsP (l : List UInt8) (w : World) (e : Ending) (w' : World) : Prop :=
  ∃ g cap, e = .returned (.slice (some ⟨g, 0, none⟩) l.length cap) ∧ (∀ j (h : j < l.length), w'.cell? ⟨g, j, none⟩ = some (.int .u8 (l[j].toNat : Int))) ∧ g < w'.heap.size ∧ Below w.heap.size w w'
def flagN (out : List UInt8) : Nat := if out = [] then 1 else 0
theorem own_done {w w' : World} {A : Option Addr} {c : Nat} {out : List UInt8} (h : w'.ownsRow w.heap.size 5 1 (.slice A out.length c) out.length (cellsOf out)) (hne : out ≠ []) (hb : Below w.heap.size w w') :
    DigsP out w (.returned (.slice A out.length c)) w' := by
  rcases h.2 with ⟨_, h0⟩ | ⟨g, cap, cur, hv, hg, hh, _⟩
  · exact absurd (List.eq_nil_of_length_eq_zero h0) hne
  · injection hv with h1 h2 h3
    subst h1; subst h3
    refine ⟨g, c, rfl, fun j hj => ?_, (Array.getElem?_eq_some_iff.1 hh).1, hb⟩
    rw [h.cellAt j (by omega)]
    simp [cellsOf, hj]
theorem own_next {w wr w1 : World} {A : Option Addr} {c left : Nat} {out : List UInt8} {v' : Value} {o : Obj}
    (ho : w1.ownsRow w.heap.size 5 1 v' (out.length + 1) (cellsOf out ++ [.int .u8 (48 + (left : Int) % 10)]))
    (hg : (wr.alloc o).grownBy w1 (Value.ownBlock (.slice A out.length c))) (hown : wr.ownsRow w.heap.size 5 1 (.slice A out.length c) out.length (cellsOf out)) (hb : Below w.heap.size w wr) :
    ∃ A' c', v' = .slice A' (out ++ [dch left]).length c' ∧ w1.ownsRow w.heap.size 5 1 (.slice A' (out ++ [dch left]).length c') (out ++ [dch left]).length (cellsOf (out ++ [dch left])) ∧ Below w.heap.size w w1 := by
  obtain ⟨g, cap, rfl⟩ := own_form ho
  have e1 : (out ++ [dch left]).length = out.length + 1 := by simp
  have e2 : cellsOf (out ++ [dch left]) = cellsOf out ++ [.int .u8 (48 + (left : Int) % 10)] := by
    unfold cellsOf; rw [List.map_append, List.map_singleton, dch_int]
  rw [e1, e2]
  refine ⟨_, _, rfl, ho, ?_⟩
  have h1 : Below w.heap.size w (wr.alloc o) := hb.alloc hb.size o
  exact h1.grown hg h1.size (fun k hk => by
    have := hown.lt k hk
    exact this.1)
set_option maxHeartbeats 400000 in
theorem digits_is (u : Nat) (hu : u ≤ 9223372036854775808) (w : World) : Calls Tryd.prog 34 #[.int .u64 (u : Int)] w (DigsP (digs u).reverse w) := by
  have hlen : (digs u).length ≤ 19 := digs_le 18 u (by omega)
  have HL := Lib.hid hlen
  obtain ⟨i0, hi0, hz0, hz1, hz2⟩ := info_parts info5
  have I0 := Lib.hid (And.intro hi0 (And.intro hz0 (And.intro hz1 hz2)))
  clear hlen hi0 hz0 hz1 hz2
  go_enter Tryd.func34, Tryd.ntmps34
  go_wp2_with fail
  go_loopg [0, 3] (u + 1) (fun gk x v wr => ∃ (left : Nat) (A : Option Addr) (c : Nat) (out : List UInt8), left ≤ u ∧ x = .int .u64 (left : Int) ∧ v = .slice A out.length c ∧
    Hid (gk = left + flagN out ∧ D u left out ∧ wr.ownsRow w.heap.size 5 1 (.slice A out.length c) out.length (cellsOf out) ∧ Below w.heap.size w wr))
  case atStart => exact ⟨u, none, 0, [], Nat.le_refl _, rfl, rfl, rfl, .inl ⟨rfl, rfl⟩, World.ownsRow_nil _ _ _ _, Below.refl _ _⟩
  case round =>
    obtain ⟨left, A, c, out, hle, rfl, rfl, HH⟩ := hrel
    have hol : out.length ≤ 19 := Nat.le_trans HH.out.2.1.len HL.out
    have hlb : (left : Int) ≤ 9223372036854775808 := by omega
    by_cases hp : 0 < left
    · have hp' : (0 : Int) < left := by omega
      have Hs := Lib.hid hle
      clear hle hu
      go_wp2_with (at_builtin; refine wpList_append_own _ rfl _ _ 62 rfl w.heap.size 5 i0 (.int .u8 0) 1 1 Tryd.underlying62 I0.out.1 I0.out.2.1 I0.out.2.2.1 I0.out.2.2.2 rfl (by decide) _ _ _ rfl (HH.out.2.2.1.alloc _) ⟨wr.heap.size, 0, none⟩ 1 1 [.int .u8 (48 + (left : Int) % 10)] rfl rfl ?c1 ?c2 ?c3 ?c4 ?c5 ?_)
      case c1 => exact cell_one_new _ _ _
      case c2 => intro x hx; simp at hx; subst hx; rfl
      case c3 => unfold maxLen; omega
      case c4 => omega
      case c5 => have := HH.out.2.2.2.size; simp; omega
      · intro v' w1 hown' hgrow _
        obtain ⟨A', c', rfl, h2, h3⟩ := own_next hown' hgrow HH.out.2.2.1 HH.out.2.2.2
        have H2 := Lib.hid (And.intro h2 h3)
        clear hown' hgrow h2 h3
        go_wp2_with fail
        go_roundg (left / 10)
        case measure => rw [HH.out.1]; omega
        case rel => exact ⟨left / 10, A', c', out ++ [dch left], by have := Hs.out; omega, by go_num, rfl, by simp [flagN], HH.out.2.1.step (.inl hp), H2.out.1, H2.out.2⟩
    · obtain rfl : left = 0 := by omega
      by_cases ho : out = []
      · subst ho
        have HO : Hid (wr.ownsRow w.heap.size 5 1 (.slice A 0 c) 0 []) := HH.out.2.2.1
        clear hol hlb hp hle
        go_wp2_with (at_builtin; refine wpList_append_own _ rfl _ _ 62 rfl w.heap.size 5 i0 (.int .u8 0) 1 1 Tryd.underlying62 I0.out.1 I0.out.2.1 I0.out.2.2.1 I0.out.2.2.2 rfl (by decide) _ _ _ rfl (HO.out.alloc _) ⟨wr.heap.size, 0, none⟩ 1 1 [.int .u8 48] rfl rfl ?d1 ?d2 ?d3 ?d4 ?d5 ?_)
        case d1 => exact cell_one_new _ _ _
        case d2 => intro x hx; simp at hx; subst hx; rfl
        case d3 => unfold maxLen; omega
        case d4 => omega
        case d5 => have := HH.out.2.2.2.size; simp; omega
        · intro v' w1 hown' hgrow _
          obtain ⟨A', c', rfl, h2, h3⟩ := own_next (left := 0) (out := []) hown' hgrow HH.out.2.2.1 HH.out.2.2.2
          have H2 := Lib.hid (And.intro h2 h3)
          clear hown' hgrow h2 h3
          go_wp2_with fail
          go_roundg 0
          case measure => rw [HH.out.1]; simp [flagN]
          case rel => exact ⟨0, A', c', [] ++ [dch 0], by omega, by go_num, rfl, by simp [flagN], HH.out.2.1.step (.inr rfl), H2.out.1, H2.out.2⟩
      · have hl0 : 0 < out.length := List.length_pos_iff.2 ho
        have hl1 : ((out.length : Int) == 0) = false := by rw [beq_eq_false_iff_ne]; omega
        have HO := Lib.hid ho
        clear hol hlb hp hle ho
        go_wp2_with fail
        go_ret
        rw [← HH.out.2.1.done HO.out]
        exact own_done HH.out.2.2.1 HO.out HH.out.2.2.2
theorem one_convert (w : World) (c : UInt8) (z : Int) (hz : (c.toNat : Int) = z) :
    (convert 62 9 (.slice (some ⟨w.heap.size, 0, none⟩) 1 1)).run Tryd.prog (w.alloc (.cells #[.int .u8 z] 5)) = .ok (.string ⟨[c].toArray⟩) (w.alloc (.cells #[.int .u8 z] 5)) := by
  subst hz
  refine run_convert_bytes_back _ 62 9 5 _ 1 [c] Tryd.underlying62 Tryd.underlying5 Tryd.underlying9 (fun j hj => ?_)
  simp at hj
  subst hj
  exact cell_one_new w _ 5 0 _ rfl
theorem digits_v (u : Nat) (l : List UInt8) (hl : (digs u).reverse = l) (hu : u ≤ 9223372036854775808) (w : World) : Calls Tryd.prog 34 #[.int .u64 (u : Int)] w (DigsP l w) := by
  subst hl; exact digits_is u hu w
theorem rev_drop (l : List UInt8) (q : Nat) (h : q < l.length) : (l.drop q).reverse = (l.drop (q + 1)).reverse ++ [l[q]] := by
  rw [List.drop_eq_getElem_cons h, List.reverse_cons]
theorem txt_neg (n : Int) (u : Nat) (l : List UInt8) (h0 : n < 0) (hu : n.natAbs = u) (hl : (digs u).reverse = l) : [45] ++ (l.drop 0).reverse = txt n := by
  unfold txt; rw [if_pos h0, hu, ← hl]; simp
theorem txt_pos' (n : Int) (u : Nat) (l : List UInt8) (h0 : 0 ≤ n) (hu : n.natAbs = u) (hl : (digs u).reverse = l) : [] ++ (l.drop 0).reverse = txt n := by
  unfold txt; rw [if_neg (by omega), hu, ← hl]; simp
theorem ret_str {a b : List UInt8} (h : a = b) : Ending.returned (.string ⟨a.toArray⟩) = .returned (.string ⟨b.toArray⟩) := by rw [h]
set_option maxHeartbeats 400000 in
theorem refput_neg (n : Int) (h : fit n) (h0 : n < 0) (w : World) : Calls Tryd.prog 19 #[.int .i64 n] w fun e w' => e = .returned (.string ⟨(txt n).toArray⟩) ∧ Below w.heap.size w w' := by
  obtain ⟨u, hu⟩ : ∃ u, n.natAbs = u := ⟨_, rfl⟩
  have hw := neg_wrap n h0 h.1
  rw [hu] at hw
  have hub : u ≤ 9223372036854775808 := by have := h.1; omega
  obtain ⟨l, hl⟩ : ∃ l, (digs u).reverse = l := ⟨_, rfl⟩
  have HL := Lib.hid hl
  have HU := Lib.hid hu
  have hll : l.length ≤ 19 := by rw [← hl, List.length_reverse]; exact digs_le 18 u (by omega)
  clear hl hu h
  go_enter Tryd.func19, Tryd.ntmps19
  go_wp2_with fail
  refine (digits_v u l HL.out hub _).mono ?_
  rintro e w1 ⟨g, cap, rfl, hc, hg, hb⟩
  have HC := Lib.hid (And.intro hc (And.intro hg hb))
  clear hc hg hb
  go_wp2_with fail
  go_loopg [4, 6] l.length (fun gk s i wr => ∃ (z : Int) (t : List UInt8), z + 1 = gk ∧ gk ≤ l.length ∧ i = .int .i64 z ∧ s = .string ⟨t.toArray⟩ ∧ Hid (t = [45] ++ (l.drop gk).reverse ∧ Below w1.heap.size w1 wr))
  case atStart => exact ⟨(l.length : Int) - 1, [45], by omega, Nat.le_refl _, rfl, rfl, by simp, Below.refl _ _⟩
  case round =>
    obtain ⟨z, t, hz, hgk, rfl, rfl, HH⟩ := hrel
    have htl : t.length ≤ 20 := by rw [HH.out.1]; simp; omega
    by_cases hk : gk = 0
    · subst hk
      obtain rfl : z = -1 := by omega
      have ht : t = txt _ := HH.out.1.trans (txt_neg n u l h0 HU.out HL.out)
      have HT := Lib.hid ht
      clear ht htl hz
      go_wp2_with fail
      go_ret
      exact ⟨ret_str HT.out, HC.out.2.2.trans (HH.out.2.mono HC.out.2.2.size)⟩
    · obtain ⟨q, rfl⟩ : ∃ q, gk = q + 1 := ⟨gk - 1, by omega⟩
      obtain rfl : z = q := by omega
      obtain ⟨c, hcq⟩ : ∃ c, l[q] = c := ⟨_, rfl⟩
      have hcell : wr.cell? ⟨g, q, none⟩ = some (.int .u8 (c.toNat : Int)) := by
        rw [HH.out.2.cell (p := ⟨g, q, none⟩) HC.out.2.1, HC.out.1 q (by omega), hcq]
      have hnext : t ++ [c] = [45] ++ (l.drop q).reverse := by rw [rev_drop l q (by omega), HH.out.1, hcq, List.append_assoc]
      have hconv := one_convert wr c _ rfl
      have hql : q < l.length := by omega
      have hql' : (q : Int) < (l.length : Int) := by omega
      have HN := Lib.hid hnext
      have HQ := Lib.hid hcq
      clear hnext hcq hz hk
      go_wp2_with fail
      go_roundg q
      case measure => omega
      case rel => exact ⟨(q : Int) - 1, t ++ [c], by omega, by omega, rfl, by rw [← ByteArray.mk_append_mk], HN.out, HH.out.2.alloc HH.out.2.size _⟩
set_option maxHeartbeats 400000 in
theorem refput_pos (n : Int) (h : fit n) (h0 : 0 ≤ n) (w : World) : Calls Tryd.prog 19 #[.int .i64 n] w fun e w' => e = .returned (.string ⟨(txt n).toArray⟩) ∧ Below w.heap.size w w' := by
  obtain ⟨u, rfl⟩ : ∃ u : Nat, n = u := ⟨n.natAbs, by omega⟩
  have hu : ((u : Int)).natAbs = u := by omega
  have hub : u ≤ 9223372036854775808 := by have := h.2; omega
  have hub' : (u : Int) ≤ 9223372036854775807 := h.2
  obtain ⟨l, hl⟩ : ∃ l, (digs u).reverse = l := ⟨_, rfl⟩
  have HL := Lib.hid hl
  have HU := Lib.hid hu
  have hll : l.length ≤ 19 := by rw [← hl, List.length_reverse]; exact digs_le 18 u (by omega)
  clear hl hu h
  go_enter Tryd.func19, Tryd.ntmps19
  go_wp2_with fail
  refine (digits_v u l HL.out hub _).mono ?_
  rintro e w1 ⟨g, cap, rfl, hc, hg, hb⟩
  have HC := Lib.hid (And.intro hc (And.intro hg hb))
  clear hc hg hb
  go_wp2_with fail
  go_loopg [4, 6] l.length (fun gk s i wr => ∃ (z : Int) (t : List UInt8), z + 1 = gk ∧ gk ≤ l.length ∧ i = .int .i64 z ∧ s = .string ⟨t.toArray⟩ ∧ Hid (t = [] ++ (l.drop gk).reverse ∧ Below w1.heap.size w1 wr))
  case atStart => exact ⟨(l.length : Int) - 1, [], by omega, Nat.le_refl _, rfl, rfl, by simp, Below.refl _ _⟩
  case round =>
    obtain ⟨z, t, hz, hgk, rfl, rfl, HH⟩ := hrel
    have htl : t.length ≤ 20 := by rw [HH.out.1]; simp; omega
    by_cases hk : gk = 0
    · subst hk
      obtain rfl : z = -1 := by omega
      have ht : t = txt _ := HH.out.1.trans (txt_pos' u u l h0 HU.out HL.out)
      have HT := Lib.hid ht
      clear ht htl hz
      go_wp2_with fail
      go_ret
      exact ⟨ret_str HT.out, HC.out.2.2.trans (HH.out.2.mono HC.out.2.2.size)⟩
    · obtain ⟨q, rfl⟩ : ∃ q, gk = q + 1 := ⟨gk - 1, by omega⟩
      obtain rfl : z = q := by omega
      obtain ⟨c, hcq⟩ : ∃ c, l[q] = c := ⟨_, rfl⟩
      have hcell : wr.cell? ⟨g, q, none⟩ = some (.int .u8 (c.toNat : Int)) := by
        rw [HH.out.2.cell (p := ⟨g, q, none⟩) HC.out.2.1, HC.out.1 q (by omega), hcq]
      have hnext : t ++ [c] = [] ++ (l.drop q).reverse := by rw [rev_drop l q (by omega), HH.out.1, hcq, List.append_assoc]
      have hconv := one_convert wr c _ rfl
      have hql : q < l.length := by omega
      have hql' : (q : Int) < (l.length : Int) := by omega
      have HN := Lib.hid hnext
      have HQ := Lib.hid hcq
      clear hnext hcq hz hk
      go_wp2_with fail
      go_roundg q
      case measure => omega
      case rel => exact ⟨(q : Int) - 1, t ++ [c], by omega, by omega, rfl, by rw [← ByteArray.mk_append_mk], HN.out, HH.out.2.alloc HH.out.2.size _⟩
theorem refput_v (n : Int) (l : List UInt8) (hl : txt n = l) (h : fit n) (w : World) : Calls Tryd.prog 19 #[.int .i64 n] w fun e w' => e = .returned (.string ⟨l.toArray⟩) ∧ Below w.heap.size w w' := by
  subst hl
  by_cases h0 : n < 0
  · exact refput_neg n h h0 w
  · exact refput_pos n h (by omega) w
end Go.Proofs.YtakfoncdiejhaaaDoor.Deci
