
/- What the program's and the document's own names of places, and the classes' letters, are (out of stage 13's texts). -/
import Derived.Test.YtakfoncdiejhaaaDeciRef
import Derived.WalkKit
import Derived.Below
import Derived.Lib.Hide
import Derived.Deep.QuietTactic
import Derived.Deep.Slices
import Derived.BigQuiet
import Derived.Deep.RegionHeld3
namespace Go.Proofs.Ytakfoncdiejhaaa.Tg
open Go.ChangeShapes Go.WideShapes Go.RowKit
set_option linter.unusedVariables false
set_option maxRecDepth 20000

theorem cell_in {w : World} {g : Nat} {cs : Array Value} {t : TypeId} (h : w.heap[g]? = some (.cells cs t (0, 0))) (j : Nat) : w.cell? ⟨g, j, none⟩ = cs[j]? := by
  simp only [World.cell?, h]
  simp
theorem froz_in {w : World} {g : Nat} {cs : Array Value} {t : TypeId} (h : w.heap[g]? = some (.cells cs t (0, 0))) (j : Nat) : w.frozen? ⟨g, j, none⟩ = false := by
  simp only [World.frozen?, h]
  simp
theorem kept_box {w w1 : World} {cs : Array Value} {t : TypeId} {g : Nat} {fr : Nat × Nat} (h : w.heap[g]? = some (.cells cs t fr)) (hb : Below w.heap.size w w1) : w1.heap[g]? = some (.cells cs t fr) := by
  rw [hb.block g (Array.getElem?_eq_some_iff.1 h).1]; exact h
theorem box_two (w : World) (a b : Obj) : ((w.alloc a).alloc b).heap[w.heap.size]? = some a ∧ ((w.alloc a).alloc b).heap[w.heap.size + 1]? = some b := by
  constructor
  · rw [Below.heap_alloc _ _ _ (by simp)]; exact heap_alloc_new w a
  · have := heap_alloc_new (w.alloc a) b
    simpa using this
theorem class_v (n : Int) (b : Bool) (hb : (decide (0 ≤ n) && decide (n < 2)) = b) (w : World) : Calls Try.prog 30 #[.int .i64 n] w fun e w' => e = .returned (.bool b) ∧ w = w' := by
  subst hb
  cases h0 : decide (0 ≤ n) <;> cases h1 : decide (n < 2)
  all_goals
    go_enter Try.func30, Try.ntmps30
    go_wp2_with fail
    go_ret
    exact ⟨rfl, rfl⟩
/-- A class's letter. -/
def letter (n : Int) : List UInt8 := if n = 0 then [103] else if n = 1 then [120] else []
theorem letter_v (n : Int) (s : ByteArray) (hs : (⟨(letter n).toArray⟩ : ByteArray) = s) (w : World) : Calls Try.prog 22 #[.int .i64 n] w fun e w' => e = .returned (.string s) ∧ w = w' := by
  by_cases h0 : n = 0
  · subst h0; subst hs
    go_enter Try.func22, Try.ntmps22
    go_wp2_with fail
    refine (class_v 0 true (by decide) _).mono ?_
    rintro e w1 ⟨rfl, rfl⟩
    go_wp2_with fail
    go_ret
    exact ⟨rfl, rfl⟩
  by_cases h1 : n = 1
  · subst h1; subst hs
    go_enter Try.func22, Try.ntmps22
    go_wp2_with fail
    refine (class_v 1 true (by decide) _).mono ?_
    rintro e w1 ⟨rfl, rfl⟩
    go_wp2_with fail
    go_ret
    exact ⟨rfl, rfl⟩
  · have hb : (decide (0 ≤ n) && decide (n < 2)) = false := by
      rw [← Bool.decide_and, decide_eq_false_iff_not]; omega
    have he : letter n = [] := by unfold letter; rw [if_neg h0, if_neg h1]
    rw [he] at hs
    subst hs
    go_enter Try.func22, Try.ntmps22
    go_wp2_with fail
    refine (class_v n false hb _).mono ?_
    rintro e w1 ⟨rfl, rfl⟩
    go_wp2_with fail
    go_ret
    exact ⟨rfl, rfl⟩
/-- Is a place a register of a class? -/
def regB (k c : Int) : Bool := decide (k = 2) && (decide (0 ≤ c) && decide (c < 2))
theorem reg_v (k c n : Int) (b : Bool) (hb : regB k c = b) (w : World) : Calls Try.prog 35 #[.agg #[.int .i64 k, .int .i64 c, .int .i64 n]] w fun e w' => e = .returned (.bool b) ∧ Below w.heap.size w w' := by
  have B := Lib.hid ((Below.refl _ w).alloc (Nat.le_refl _) (.cells #[.int .i64 k, .int .i64 c, .int .i64 n] 33))
  by_cases h2 : k = 2
  · subst h2
    have hb' : (decide (0 ≤ c) && decide (c < 2)) = b := by rw [← hb]; rfl
    have HB := Lib.hid hb'
    clear hb hb'
    go_enter Try.func35, Try.ntmps35
    go_wp2_with fail
    refine (class_v c b HB.out _).mono ?_
    rintro e w1 ⟨rfl, rfl⟩
    go_wp2_with fail
    go_ret
    exact ⟨rfl, B.out⟩
  · have hb' : b = false := by rw [← hb]; unfold regB; rw [decide_eq_false h2]; rfl
    have d1 : (k == 2) = false := by rw [beq_eq_false_iff_ne]; exact h2
    subst hb'
    clear hb
    go_enter Try.func35, Try.ntmps35
    go_wp2_with fail
    go_ret
    exact ⟨rfl, B.out⟩

theorem loc_cells {W : World} {Q : Nat} {k c n : Int} (h : W.heap[Q]? = some (.cells #[.int .i64 k, .int .i64 c, .int .i64 n] 33 (0, 0))) :
    W.cell? ⟨Q, 0, none⟩ = some (.int .i64 k) ∧ W.cell? ⟨Q, 1, none⟩ = some (.int .i64 c) ∧ W.cell? ⟨Q, 2, none⟩ = some (.int .i64 n) :=
  ⟨cell_in h 0, cell_in h 1, cell_in h 2⟩
theorem add_run (a b c : ByteArray) (h : a.size + b.size ≤ 9223372036854775807) (hc : a ++ b = c) (W : World) : (Op.stringOp .add a b).run Try.prog W = .ok (.string c) W := by
  rw [run_string_add_sum W a b h, hc]
theorem cat_text (a b : List UInt8) : (ByteArray.mk a.toArray) ++ (ByteArray.mk b.toArray) = ByteArray.mk (a ++ b).toArray := by
  apply ByteArray.ext
  rw [ByteArray.data_append]
  simp
theorem size_text (a : List UInt8) : (ByteArray.mk a.toArray).size = a.length := by
  show a.toArray.size = _; simp
/-- A place's text. -/
def nameOf (k c n : Int) : List UInt8 := if k = 2 then (if c = 0 then [36, 103] ++ Deci.txt n else if c = 1 then [36, 120] ++ Deci.txt n else []) else if k = 3 then [35] ++ Deci.txt n else []
theorem txt_small (n : Int) (h : Deci.fit n) : (Deci.txt n).length ≤ 20 := Deci.txt_len n h.1 h.2
set_option maxHeartbeats 1000000 in
theorem name_r0 (n : Int) (hf : Deci.fit n) (w : World) : Calls Try.prog 31 #[.agg #[.int .i64 2, .int .i64 0, .int .i64 n]] w fun e w' => e = .returned (.string (ByteArray.mk ([36, 103] ++ Deci.txt n).toArray)) ∧ Below w.heap.size w w' := by
  have B0 : Below w.heap.size w (w.alloc (.cells #[.int .i64 2, .int .i64 0, .int .i64 n] 33)) := (Below.refl _ w).alloc (Nat.le_refl _) _
  have D := Lib.hid (And.intro B0 (heap_alloc_new w (.cells #[.int .i64 2, .int .i64 0, .int .i64 n] 33)))
  clear B0
  obtain ⟨wa, hwa⟩ : ∃ wa, w.alloc (.cells #[.int .i64 2, .int .i64 0, .int .i64 n] 33) = wa := ⟨_, rfl⟩
  rw [hwa] at D
  obtain ⟨l0, l1, l2⟩ := loc_cells D.out.2
  obtain ⟨t, ht⟩ : ∃ t, Deci.txt n = t := ⟨_, rfl⟩
  have hlen := txt_small n hf
  rw [ht] at hlen
  have HT := Lib.hid (And.intro ht hf)
  rw [ht]
  clear ht hf
  obtain ⟨S, hS⟩ : ∃ S, ByteArray.mk t.toArray = S := ⟨_, rfl⟩
  have hsz : S.size ≤ 20 := by rw [← hS, size_text]; exact hlen
  obtain ⟨L, hL⟩ : ∃ L : ByteArray, (⟨(letter 0).toArray⟩ : ByteArray) = L := ⟨_, rfl⟩
  have hLz : L.size = 1 := by rw [← hL]; rfl
  obtain ⟨X, hX⟩ : ∃ X : ByteArray, (⟨#[36]⟩ : ByteArray) ++ L = X := ⟨_, rfl⟩
  have hXz : X.size = 2 := by rw [← hX, ByteArray.size_append, hLz]; rfl
  obtain ⟨Y, hY⟩ : ∃ Y : ByteArray, X ++ S = Y := ⟨_, rfl⟩
  have HY := Lib.hid (show Y = ByteArray.mk ([36, 103] ++ t).toArray from by
    rw [← hY, ← hX, ← hL, ← hS, ← cat_text [36, 103] t]; congr 1)
  have e1 := add_run ⟨#[36]⟩ L X (by show 1 + L.size ≤ _; omega) hX
  have e2 := add_run X S Y (by omega) hY
  have HS := Lib.hid hS
  have HL := Lib.hid hL
  rw [← HY.out]
  clear hS hL hX hY hsz hLz hXz hlen
  go_enter Try.func31, Try.ntmps31
  go_wp2_with fail
  clear hwa
  refine (reg_v 2 0 n true (by decide) _).mono ?_
  rintro e w1 ⟨rfl, hb1⟩
  obtain ⟨l0, l1, l2⟩ := loc_cells (kept_box D.out.2 hb1)
  have B1 := Lib.hid hb1
  clear hb1
  go_wp2_with fail
  go_region_held3 (fun W => W.cell? ⟨w.heap.size, 0, none⟩ = some (.int .i64 2) ∧ W.cell? ⟨w.heap.size, 1, none⟩ = some (.int .i64 0) ∧ W.cell? ⟨w.heap.size, 2, none⟩ = some (.int .i64 n))
    (first | exact S2.out | exact ⟨l0, l1, l2⟩)
    (first | (go_at_call 29; (refine Calls.mono (Deci.put_v n t HT.out.1 HT.out.2 _) ?_); rw [HS.out]; rintro e w2 ⟨rfl, hb2⟩; have B2 := Lib.hid (show Below wa.heap.size wa w2 from (B1.out.drew).trans (hb2.mono B1.out.drew.size)); clear hb2; have S2 := Lib.hid (loc_cells (kept_box D.out.2 B2.out))) | (go_at_call 22; (refine Calls.mono (letter_v 0 L HL.out _) ?_); rintro e w3 ⟨rfl, rfl⟩))
  all_goals
    go_wp2_with fail
    go_ret
    exact ⟨rfl, D.out.1.trans (B2.out.mono D.out.1.size)⟩
set_option maxHeartbeats 1000000 in
theorem name_r1 (n : Int) (hf : Deci.fit n) (w : World) : Calls Try.prog 31 #[.agg #[.int .i64 2, .int .i64 1, .int .i64 n]] w fun e w' => e = .returned (.string (ByteArray.mk ([36, 120] ++ Deci.txt n).toArray)) ∧ Below w.heap.size w w' := by
  have B0 : Below w.heap.size w (w.alloc (.cells #[.int .i64 2, .int .i64 1, .int .i64 n] 33)) := (Below.refl _ w).alloc (Nat.le_refl _) _
  have D := Lib.hid (And.intro B0 (heap_alloc_new w (.cells #[.int .i64 2, .int .i64 1, .int .i64 n] 33)))
  clear B0
  obtain ⟨wa, hwa⟩ : ∃ wa, w.alloc (.cells #[.int .i64 2, .int .i64 1, .int .i64 n] 33) = wa := ⟨_, rfl⟩
  rw [hwa] at D
  obtain ⟨l0, l1, l2⟩ := loc_cells D.out.2
  obtain ⟨t, ht⟩ : ∃ t, Deci.txt n = t := ⟨_, rfl⟩
  have hlen := txt_small n hf
  rw [ht] at hlen
  have HT := Lib.hid (And.intro ht hf)
  rw [ht]
  clear ht hf
  obtain ⟨S, hS⟩ : ∃ S, ByteArray.mk t.toArray = S := ⟨_, rfl⟩
  have hsz : S.size ≤ 20 := by rw [← hS, size_text]; exact hlen
  obtain ⟨L, hL⟩ : ∃ L : ByteArray, (⟨(letter 1).toArray⟩ : ByteArray) = L := ⟨_, rfl⟩
  have hLz : L.size = 1 := by rw [← hL]; rfl
  obtain ⟨X, hX⟩ : ∃ X : ByteArray, (⟨#[36]⟩ : ByteArray) ++ L = X := ⟨_, rfl⟩
  have hXz : X.size = 2 := by rw [← hX, ByteArray.size_append, hLz]; rfl
  obtain ⟨Y, hY⟩ : ∃ Y : ByteArray, X ++ S = Y := ⟨_, rfl⟩
  have HY := Lib.hid (show Y = ByteArray.mk ([36, 120] ++ t).toArray from by
    rw [← hY, ← hX, ← hL, ← hS, ← cat_text [36, 120] t]; congr 1)
  have e1 := add_run ⟨#[36]⟩ L X (by show 1 + L.size ≤ _; omega) hX
  have e2 := add_run X S Y (by omega) hY
  have HS := Lib.hid hS
  have HL := Lib.hid hL
  rw [← HY.out]
  clear hS hL hX hY hsz hLz hXz hlen
  go_enter Try.func31, Try.ntmps31
  go_wp2_with fail
  clear hwa
  refine (reg_v 2 1 n true (by decide) _).mono ?_
  rintro e w1 ⟨rfl, hb1⟩
  obtain ⟨l0, l1, l2⟩ := loc_cells (kept_box D.out.2 hb1)
  have B1 := Lib.hid hb1
  clear hb1
  go_wp2_with fail
  go_region_held3 (fun W => W.cell? ⟨w.heap.size, 0, none⟩ = some (.int .i64 2) ∧ W.cell? ⟨w.heap.size, 1, none⟩ = some (.int .i64 1) ∧ W.cell? ⟨w.heap.size, 2, none⟩ = some (.int .i64 n))
    (first | exact S2.out | exact ⟨l0, l1, l2⟩)
    (first | (go_at_call 29; (refine Calls.mono (Deci.put_v n t HT.out.1 HT.out.2 _) ?_); rw [HS.out]; rintro e w2 ⟨rfl, hb2⟩; have B2 := Lib.hid (show Below wa.heap.size wa w2 from (B1.out.drew).trans (hb2.mono B1.out.drew.size)); clear hb2; have S2 := Lib.hid (loc_cells (kept_box D.out.2 B2.out))) | (go_at_call 22; (refine Calls.mono (letter_v 1 L HL.out _) ?_); rintro e w3 ⟨rfl, rfl⟩))
  all_goals
    go_wp2_with fail
    go_ret
    exact ⟨rfl, D.out.1.trans (B2.out.mono D.out.1.size)⟩
set_option maxHeartbeats 1000000 in
theorem name_s (c n : Int) (hf : Deci.fit n) (w : World) : Calls Try.prog 31 #[.agg #[.int .i64 3, .int .i64 c, .int .i64 n]] w fun e w' => e = .returned (.string (ByteArray.mk ([35] ++ Deci.txt n).toArray)) ∧ Below w.heap.size w w' := by
  have B0 : Below w.heap.size w (w.alloc (.cells #[.int .i64 3, .int .i64 c, .int .i64 n] 33)) := (Below.refl _ w).alloc (Nat.le_refl _) _
  have D := Lib.hid (And.intro B0 (heap_alloc_new w (.cells #[.int .i64 3, .int .i64 c, .int .i64 n] 33)))
  clear B0
  obtain ⟨wa, hwa⟩ : ∃ wa, w.alloc (.cells #[.int .i64 3, .int .i64 c, .int .i64 n] 33) = wa := ⟨_, rfl⟩
  rw [hwa] at D
  obtain ⟨l0, l1, l2⟩ := loc_cells D.out.2
  obtain ⟨t, ht⟩ : ∃ t, Deci.txt n = t := ⟨_, rfl⟩
  have hlen := txt_small n hf
  rw [ht] at hlen
  have HT := Lib.hid (And.intro ht hf)
  rw [ht]
  clear ht hf
  obtain ⟨S, hS⟩ : ∃ S, ByteArray.mk t.toArray = S := ⟨_, rfl⟩
  have hsz : S.size ≤ 20 := by rw [← hS, size_text]; exact hlen
  obtain ⟨Y, hY⟩ : ∃ Y : ByteArray, (⟨#[35]⟩ : ByteArray) ++ S = Y := ⟨_, rfl⟩
  have HY := Lib.hid (show Y = ByteArray.mk ([35] ++ t).toArray from by
    rw [← hY, ← hS, ← cat_text [35] t])
  have e1 := add_run ⟨#[35]⟩ S Y (by show 1 + S.size ≤ _; omega) hY
  have HS := Lib.hid hS
  rw [← HY.out]
  clear hS hY hsz hlen
  go_enter Try.func31, Try.ntmps31
  go_wp2_with fail
  clear hwa
  refine (reg_v 3 c n false (by unfold regB; rfl) _).mono ?_
  rintro e w1 ⟨rfl, hb1⟩
  obtain ⟨l0, l1, l2⟩ := loc_cells (kept_box D.out.2 hb1)
  have B1 := Lib.hid hb1
  clear hb1
  go_wp2_with fail
  refine (Deci.put_v n t HT.out.1 HT.out.2 _).mono ?_
  rw [HS.out]
  rintro e w2 ⟨rfl, hb2⟩
  have B2 := Lib.hid (B1.out.trans (hb2.mono B1.out.size))
  clear hb2
  go_wp2_with fail
  go_ret
  exact ⟨rfl, D.out.1.trans (B2.out.mono D.out.1.size)⟩
set_option maxHeartbeats 1000000 in
theorem name_no (k c n : Int) (hr : regB k c = false) (h3 : (k == 3) = false) (w : World) : Calls Try.prog 31 #[.agg #[.int .i64 k, .int .i64 c, .int .i64 n]] w fun e w' => e = .returned (.string ⟨#[]⟩) ∧ Below w.heap.size w w' := by
  have B0 : Below w.heap.size w (w.alloc (.cells #[.int .i64 k, .int .i64 c, .int .i64 n] 33)) := (Below.refl _ w).alloc (Nat.le_refl _) _
  have D := Lib.hid (And.intro B0 (heap_alloc_new w (.cells #[.int .i64 k, .int .i64 c, .int .i64 n] 33)))
  clear B0
  obtain ⟨wa, hwa⟩ : ∃ wa, w.alloc (.cells #[.int .i64 k, .int .i64 c, .int .i64 n] 33) = wa := ⟨_, rfl⟩
  rw [hwa] at D
  obtain ⟨l0, l1, l2⟩ := loc_cells D.out.2
  have HR := Lib.hid hr
  clear hr
  go_enter Try.func31, Try.ntmps31
  go_wp2_with fail
  clear hwa
  refine (reg_v k c n false HR.out _).mono ?_
  rintro e w1 ⟨rfl, hb1⟩
  obtain ⟨l0, l1, l2⟩ := loc_cells (kept_box D.out.2 hb1)
  have B1 := Lib.hid hb1
  clear hb1
  go_wp2_with fail
  go_ret
  exact ⟨rfl, D.out.1.trans (B1.out.mono D.out.1.size)⟩
theorem name_v (k c n : Int) (hf : Deci.fit n) (s : ByteArray) (hs : ByteArray.mk (nameOf k c n).toArray = s) (w : World) : Calls Try.prog 31 #[.agg #[.int .i64 k, .int .i64 c, .int .i64 n]] w fun e w' => e = .returned (.string s) ∧ Below w.heap.size w w' := by
  subst hs
  unfold nameOf
  by_cases h2 : k = 2
  · rw [if_pos h2]; subst h2
    by_cases h0 : c = 0
    · rw [if_pos h0]; subst h0; exact name_r0 n hf w
    by_cases h1 : c = 1
    · rw [if_neg h0, if_pos h1]; subst h1; exact name_r1 n hf w
    rw [if_neg h0, if_neg h1]
    exact name_no 2 c n (by unfold regB; rw [← Bool.decide_and, ← Bool.decide_and, decide_eq_false_iff_not]; omega) (by decide) w
  rw [if_neg h2]
  by_cases h3 : k = 3
  · rw [if_pos h3]; subst h3; exact name_s c n hf w
  rw [if_neg h3]
  exact name_no k c n (by unfold regB; rw [decide_eq_false h2]; rfl) (by rw [beq_eq_false_iff_ne]; exact h3) w
end Go.Proofs.Ytakfoncdiejhaaa.Tg
