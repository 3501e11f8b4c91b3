/- What Fits and Takes of the document answer. -/
import Derived.Test.YtmpcjjlffebljaaDoorPlaPlace
import Derived.Test.YtmpcjjlffebljaaDoorPlaTakes
namespace Go.Proofs.YtmpcjjlffebljaaDoor
open Go.ChangeShapes Go.WideShapes Go.RowKit
set_option linter.unusedVariables false

theorem row_small (n : Int) : (rowOf n).ds.size ≤ 3 ∧ ∀ s ∈ (rowOf n).ar, s.size ≤ 3 := by
  rcases ops n with h | rfl | rfl | rfl | rfl | rfl | rfl | rfl | rfl | rfl | rfl | rfl | rfl | h
  · obtain ⟨s, hs⟩ := rowOf_two n h
    rw [hs]
    refine ⟨(by decide +kernel : (ByteArray.mk #[103]).size ≤ 3), ?_⟩
    exact (by decide +kernel : ∀ s ∈ [ByteArray.mk #[103], ByteArray.mk #[103, 105]], s.size ≤ 3)
  all_goals try decide +kernel
  · rw [rowOf_none n h]
    decide +kernel
theorem place_small (n i : Int) : (placeOf n i).size ≤ 3 := by
  unfold placeOf
  split
  · exact (row_small n).1
  · split
    · rename_i h
      unfold many at h
      rw [List.getD_eq_getElem?_getD, List.getElem?_eq_getElem (by omega)]
      exact (row_small n).2 _ (List.getElem_mem _)
    · decide
theorem rfits_g (n i : Int) (b : Bool) (s : ByteArray) (hs : placeOf n i = s) (hz : s.size ≤ 3) (hb : has s 103 = b) (w : World) : Calls Tryd.prog 16 #[.int .i64 n, .int .i64 i, .int .i64 0] w fun e w' => e = .returned (.bool b) ∧ Below w.heap.size w w' := by
  have HS := Lib.hid (And.intro hs (And.intro hz hb))
  clear hs hz hb
  cases b
  · go_enter Tryd.func16, Tryd.ntmps16
    go_wp2_with fail
    refine (place_v n i s HS.out.1 _).mono ?_
    rintro e w1 ⟨rfl, hb1⟩
    have B1 := Lib.hid hb1
    clear hb1
    go_wp2_with fail
    refine (has_v s 103 103 rfl false HS.out.2.2 HS.out.2.1 _).mono ?_
    rintro e w2 ⟨rfl, rfl⟩
    go_wp2_with fail
    go_ret
    exact ⟨rfl, B1.out⟩
  · go_enter Tryd.func16, Tryd.ntmps16
    go_wp2_with fail
    refine (place_v n i s HS.out.1 _).mono ?_
    rintro e w1 ⟨rfl, hb1⟩
    have B1 := Lib.hid hb1
    clear hb1
    go_wp2_with fail
    refine (has_v s 103 103 rfl true HS.out.2.2 HS.out.2.1 _).mono ?_
    rintro e w2 ⟨rfl, rfl⟩
    go_wp2_with fail
    go_ret
    exact ⟨rfl, B1.out⟩
theorem rfits_x (n i : Int) (b : Bool) (s : ByteArray) (hs : placeOf n i = s) (hz : s.size ≤ 3) (hb : has s 120 = b) (w : World) : Calls Tryd.prog 16 #[.int .i64 n, .int .i64 i, .int .i64 1] w fun e w' => e = .returned (.bool b) ∧ Below w.heap.size w w' := by
  have HS := Lib.hid (And.intro hs (And.intro hz hb))
  clear hs hz hb
  go_enter Tryd.func16, Tryd.ntmps16
  go_wp2_with fail
  refine (place_v n i s HS.out.1 _).mono ?_
  rintro e w1 ⟨rfl, hb1⟩
  have B1 := Lib.hid hb1
  clear hb1
  go_wp2_with fail
  refine (has_v s 120 120 rfl b HS.out.2.2 HS.out.2.1 _).mono ?_
  rintro e w2 ⟨rfl, rfl⟩
  go_wp2_with fail
  go_ret
  exact ⟨rfl, B1.out⟩
theorem rfits_else (n i c : Int) (h0 : c ≠ 0) (h1 : c ≠ 1) (w : World) : Calls Tryd.prog 16 #[.int .i64 n, .int .i64 i, .int .i64 c] w fun e w' => e = .returned (.bool false) ∧ Below w.heap.size w w' := by
  have d0 : (c == 0) = false := by rw [beq_eq_false_iff_ne]; exact h0
  have d1 : (c == 1) = false := by rw [beq_eq_false_iff_ne]; exact h1
  clear h0 h1
  go_enter Tryd.func16, Tryd.ntmps16
  go_wp2_with fail
  go_ret
  exact ⟨rfl, Below.refl _ _⟩
theorem rfits_v (n i c : Int) (b : Bool) (h : fitR (atR n i) c = b) (w : World) : Calls Tryd.prog 16 #[.int .i64 n, .int .i64 i, .int .i64 c] w fun e w' => e = .returned (.bool b) ∧ Below w.heap.size w w' := by
  obtain ⟨s1, s2, _⟩ := same_at n i
  unfold fitR at h
  by_cases h0 : c = 0
  · subst h0
    rw [if_pos rfl, s1] at h
    exact rfits_g n i b _ rfl (place_small n i) h w
  rw [if_neg h0] at h
  by_cases h1 : c = 1
  · subst h1
    rw [if_pos rfl, s2] at h
    exact rfits_x n i b _ rfl (place_small n i) h w
  rw [if_neg h1] at h
  subst h
  exact rfits_else n i c h0 h1 w
theorem rt0at (n i : Int) (m : Bool) (nm ds : ByteArray) (ar : List ByteArray) (lb : Int) (al : Bool) (hR : rowOf n = ⟨nm, ds, ar, lb, al⟩) (s : ByteArray) (hs : placeOf n i = s) (hz : s.size ≤ 3) (hgb : has s 103 = true) (xb : Bool) (hxb : has s 120 = xb) (c0 : (i == -1) = false) (w : World) :
    Calls Tryd.prog 19 #[.int .i64 n, .int .i64 i, .int .i64 0, .bool m] w fun e w' => e = .returned (.bool false) ∧ Below w.heap.size w w' := by
  have HR := Lib.hid (And.intro hR (And.intro hs (And.intro hz (And.intro hgb hxb))))
  clear hR hs hz hgb hxb
  go_enter Tryd.func19, Tryd.ntmps19
  go_wp2_with fail
  refine (place_v n i s HR.out.2.1 _).mono ?_
  rintro e w1 ⟨rfl, hb1⟩
  have B1 := Lib.hid hb1
  clear hb1
  go_wp2_with fail
  refine (rfind_v n _).mono ?_
  rintro e w2 ⟨A, rfl, _, hb2⟩
  have B2 := Lib.hid (B1.out.trans (hb2.mono B1.out.size))
  clear hb2
  rw [HR.out.1]
  unfold rc
  dsimp only
  obtain ⟨M, hM⟩ : ∃ M, ar.length = M := ⟨_, rfl⟩
  rw [hM]
  clear hM
  have hl1 : (w2.alloc (.cells #[.string nm, .string ds, .slice A M M, .int .i64 lb, .bool al] 25)).heap[w2.heap.size]? = some (.cells #[.string nm, .string ds, .slice A M M, .int .i64 lb, .bool al] 25 (0, 0)) := heap_alloc_new w2 _
  have B3 := Lib.hid (show Below w.heap.size w (w2.alloc (.cells #[.string nm, .string ds, .slice A M M, .int .i64 lb, .bool al] 25)) from B2.out.alloc B2.out.size _)
  obtain ⟨w3, hw3⟩ : ∃ w3, w2.alloc (.cells #[.string nm, .string ds, .slice A M M, .int .i64 lb, .bool al] 25) = w3 := ⟨_, rfl⟩
  rw [hw3] at hl1 B3
  have z4 : w3.cell? ⟨w2.heap.size, 4, none⟩ = some (.bool al) := by rw [cell_of_row _ _ _ _ _ _ hl1]; rfl
  clear hl1
  go_wp2_with fail
  refine (has_v s 103 103 rfl true HR.out.2.2.2.1 HR.out.2.2.1 _).mono ?_
  rintro e w4 ⟨rfl, rfl⟩
  go_wp2_with fail
  go_ret
  exact ⟨rfl, B3.out⟩
theorem rt0bt (n i : Int) (m : Bool) (nm ds : ByteArray) (ar : List ByteArray) (lb : Int) (al : Bool) (hR : rowOf n = ⟨nm, ds, ar, lb, al⟩) (s : ByteArray) (hs : placeOf n i = s) (hz : s.size ≤ 3) (hgb : has s 103 = true) (xb : Bool) (hxb : has s 120 = xb) (c0 : (i == -1) = true) (e1 : s.toList = []) (e2 : s.toList.isEmpty = true) (w : World) :
    Calls Tryd.prog 19 #[.int .i64 n, .int .i64 i, .int .i64 0, .bool m] w fun e w' => e = .returned (.bool true) ∧ Below w.heap.size w w' := by
  have HR := Lib.hid (And.intro hR (And.intro hs (And.intro hz (And.intro hgb hxb))))
  clear hR hs hz hgb hxb
  go_enter Tryd.func19, Tryd.ntmps19
  go_wp2_with fail
  refine (place_v n i s HR.out.2.1 _).mono ?_
  rintro e w1 ⟨rfl, hb1⟩
  have B1 := Lib.hid hb1
  clear hb1
  go_wp2_with fail
  refine (rfind_v n _).mono ?_
  rintro e w2 ⟨A, rfl, _, hb2⟩
  have B2 := Lib.hid (B1.out.trans (hb2.mono B1.out.size))
  clear hb2
  rw [HR.out.1]
  unfold rc
  dsimp only
  obtain ⟨M, hM⟩ : ∃ M, ar.length = M := ⟨_, rfl⟩
  rw [hM]
  clear hM
  have hl1 : (w2.alloc (.cells #[.string nm, .string ds, .slice A M M, .int .i64 lb, .bool al] 25)).heap[w2.heap.size]? = some (.cells #[.string nm, .string ds, .slice A M M, .int .i64 lb, .bool al] 25 (0, 0)) := heap_alloc_new w2 _
  have B3 := Lib.hid (show Below w.heap.size w (w2.alloc (.cells #[.string nm, .string ds, .slice A M M, .int .i64 lb, .bool al] 25)) from B2.out.alloc B2.out.size _)
  obtain ⟨w3, hw3⟩ : ∃ w3, w2.alloc (.cells #[.string nm, .string ds, .slice A M M, .int .i64 lb, .bool al] 25) = w3 := ⟨_, rfl⟩
  rw [hw3] at hl1 B3
  have z4 : w3.cell? ⟨w2.heap.size, 4, none⟩ = some (.bool al) := by rw [cell_of_row _ _ _ _ _ _ hl1]; rfl
  clear hl1
  go_wp2_with fail
  refine (has_v s 103 103 rfl true HR.out.2.2.2.1 HR.out.2.2.1 _).mono ?_
  rintro e w4 ⟨rfl, rfl⟩
  go_wp2_with fail
  go_ret
  exact ⟨rfl, B3.out⟩
theorem rt0ct (n i : Int) (m : Bool) (nm ds : ByteArray) (ar : List ByteArray) (lb : Int) (al : Bool) (hR : rowOf n = ⟨nm, ds, ar, lb, al⟩) (s : ByteArray) (hs : placeOf n i = s) (hz : s.size ≤ 3) (hgb : has s 103 = true) (xb : Bool) (hxb : has s 120 = xb) (c0 : (i == -1) = true) (e1 : ¬ s.toList = []) (e2 : s.toList.isEmpty = false) (nb : Bool) (hnb : has s 110 = nb) (w : World) :
    Calls Tryd.prog 19 #[.int .i64 n, .int .i64 i, .int .i64 0, .bool m] w fun e w' => e = .returned (.bool nb) ∧ Below w.heap.size w w' := by
  have HR := Lib.hid (And.intro hR (And.intro hs (And.intro hz (And.intro hgb hxb))))
  clear hR hs hz hgb hxb
  have HN := Lib.hid hnb
  clear hnb
  go_enter Tryd.func19, Tryd.ntmps19
  go_wp2_with fail
  refine (place_v n i s HR.out.2.1 _).mono ?_
  rintro e w1 ⟨rfl, hb1⟩
  have B1 := Lib.hid hb1
  clear hb1
  go_wp2_with fail
  refine (rfind_v n _).mono ?_
  rintro e w2 ⟨A, rfl, _, hb2⟩
  have B2 := Lib.hid (B1.out.trans (hb2.mono B1.out.size))
  clear hb2
  rw [HR.out.1]
  unfold rc
  dsimp only
  obtain ⟨M, hM⟩ : ∃ M, ar.length = M := ⟨_, rfl⟩
  rw [hM]
  clear hM
  have hl1 : (w2.alloc (.cells #[.string nm, .string ds, .slice A M M, .int .i64 lb, .bool al] 25)).heap[w2.heap.size]? = some (.cells #[.string nm, .string ds, .slice A M M, .int .i64 lb, .bool al] 25 (0, 0)) := heap_alloc_new w2 _
  have B3 := Lib.hid (show Below w.heap.size w (w2.alloc (.cells #[.string nm, .string ds, .slice A M M, .int .i64 lb, .bool al] 25)) from B2.out.alloc B2.out.size _)
  obtain ⟨w3, hw3⟩ : ∃ w3, w2.alloc (.cells #[.string nm, .string ds, .slice A M M, .int .i64 lb, .bool al] 25) = w3 := ⟨_, rfl⟩
  rw [hw3] at hl1 B3
  have z4 : w3.cell? ⟨w2.heap.size, 4, none⟩ = some (.bool al) := by rw [cell_of_row _ _ _ _ _ _ hl1]; rfl
  clear hl1
  go_wp2_with fail
  refine (has_v s 103 103 rfl true HR.out.2.2.2.1 HR.out.2.2.1 _).mono ?_
  rintro e w4 ⟨rfl, rfl⟩
  go_wp2_with fail
  refine (has_v s 110 110 rfl nb HN.out HR.out.2.2.1 _).mono ?_
  rintro e w4 ⟨rfl, rfl⟩
  go_wp2_with fail
  go_ret
  exact ⟨rfl, B3.out⟩
theorem rt1at (n i : Int) (nm ds : ByteArray) (ar : List ByteArray) (lb : Int) (al : Bool) (hR : rowOf n = ⟨nm, ds, ar, lb, al⟩) (s : ByteArray) (hs : placeOf n i = s) (hz : s.size ≤ 3) (hgb : has s 103 = true) (xb : Bool) (hxb : has s 120 = xb) (w : World) :
    Calls Tryd.prog 19 #[.int .i64 n, .int .i64 i, .int .i64 1, .bool true] w fun e w' => e = .returned (.bool false) ∧ Below w.heap.size w w' := by
  have HR := Lib.hid (And.intro hR (And.intro hs (And.intro hz (And.intro hgb hxb))))
  clear hR hs hz hgb hxb
  go_enter Tryd.func19, Tryd.ntmps19
  go_wp2_with fail
  refine (place_v n i s HR.out.2.1 _).mono ?_
  rintro e w1 ⟨rfl, hb1⟩
  have B1 := Lib.hid hb1
  clear hb1
  go_wp2_with fail
  refine (rfind_v n _).mono ?_
  rintro e w2 ⟨A, rfl, _, hb2⟩
  have B2 := Lib.hid (B1.out.trans (hb2.mono B1.out.size))
  clear hb2
  rw [HR.out.1]
  unfold rc
  dsimp only
  obtain ⟨M, hM⟩ : ∃ M, ar.length = M := ⟨_, rfl⟩
  rw [hM]
  clear hM
  have hl1 : (w2.alloc (.cells #[.string nm, .string ds, .slice A M M, .int .i64 lb, .bool al] 25)).heap[w2.heap.size]? = some (.cells #[.string nm, .string ds, .slice A M M, .int .i64 lb, .bool al] 25 (0, 0)) := heap_alloc_new w2 _
  have B3 := Lib.hid (show Below w.heap.size w (w2.alloc (.cells #[.string nm, .string ds, .slice A M M, .int .i64 lb, .bool al] 25)) from B2.out.alloc B2.out.size _)
  obtain ⟨w3, hw3⟩ : ∃ w3, w2.alloc (.cells #[.string nm, .string ds, .slice A M M, .int .i64 lb, .bool al] 25) = w3 := ⟨_, rfl⟩
  rw [hw3] at hl1 B3
  have z4 : w3.cell? ⟨w2.heap.size, 4, none⟩ = some (.bool al) := by rw [cell_of_row _ _ _ _ _ _ hl1]; rfl
  clear hl1
  go_wp2_with fail
  refine (has_v s 103 103 rfl true HR.out.2.2.2.1 HR.out.2.2.1 _).mono ?_
  rintro e w4 ⟨rfl, rfl⟩
  go_wp2_with fail
  go_ret
  exact ⟨rfl, B3.out⟩
theorem rt1bt (n i : Int) (nm ds : ByteArray) (ar : List ByteArray) (lb : Int) (al : Bool) (hR : rowOf n = ⟨nm, ds, ar, lb, al⟩) (s : ByteArray) (hs : placeOf n i = s) (hz : s.size ≤ 3) (hgb : has s 103 = true) (xb : Bool) (hxb : has s 120 = xb) (cal : al = true) (w : World) :
    Calls Tryd.prog 19 #[.int .i64 n, .int .i64 i, .int .i64 1, .bool false] w fun e w' => e = .returned (.bool false) ∧ Below w.heap.size w w' := by
  have HR := Lib.hid (And.intro hR (And.intro hs (And.intro hz (And.intro hgb hxb))))
  clear hR hs hz hgb hxb
  have HAL := Lib.hid cal
  clear cal
  go_enter Tryd.func19, Tryd.ntmps19
  go_wp2_with fail
  refine (place_v n i s HR.out.2.1 _).mono ?_
  rintro e w1 ⟨rfl, hb1⟩
  have B1 := Lib.hid hb1
  clear hb1
  go_wp2_with fail
  refine (rfind_v n _).mono ?_
  rintro e w2 ⟨A, rfl, _, hb2⟩
  have B2 := Lib.hid (B1.out.trans (hb2.mono B1.out.size))
  clear hb2
  rw [HR.out.1]
  unfold rc
  dsimp only
  obtain ⟨M, hM⟩ : ∃ M, ar.length = M := ⟨_, rfl⟩
  rw [hM]
  clear hM
  have hl1 : (w2.alloc (.cells #[.string nm, .string ds, .slice A M M, .int .i64 lb, .bool al] 25)).heap[w2.heap.size]? = some (.cells #[.string nm, .string ds, .slice A M M, .int .i64 lb, .bool al] 25 (0, 0)) := heap_alloc_new w2 _
  have B3 := Lib.hid (show Below w.heap.size w (w2.alloc (.cells #[.string nm, .string ds, .slice A M M, .int .i64 lb, .bool al] 25)) from B2.out.alloc B2.out.size _)
  obtain ⟨w3, hw3⟩ : ∃ w3, w2.alloc (.cells #[.string nm, .string ds, .slice A M M, .int .i64 lb, .bool al] 25) = w3 := ⟨_, rfl⟩
  rw [hw3] at hl1 B3
  have z4 : w3.cell? ⟨w2.heap.size, 4, none⟩ = some (.bool true) := by rw [← HAL.out, cell_of_row _ _ _ _ _ _ hl1]; rfl
  clear hl1
  go_wp2_with fail
  refine (has_v s 103 103 rfl true HR.out.2.2.2.1 HR.out.2.2.1 _).mono ?_
  rintro e w4 ⟨rfl, rfl⟩
  go_wp2_with fail
  go_ret
  exact ⟨rfl, B3.out⟩
theorem rt1ct (n i : Int) (nm ds : ByteArray) (ar : List ByteArray) (lb : Int) (al : Bool) (hR : rowOf n = ⟨nm, ds, ar, lb, al⟩) (s : ByteArray) (hs : placeOf n i = s) (hz : s.size ≤ 3) (hgb : has s 103 = true) (xb : Bool) (hxb : has s 120 = xb) (cal : al = false) (w : World) :
    Calls Tryd.prog 19 #[.int .i64 n, .int .i64 i, .int .i64 1, .bool false] w fun e w' => e = .returned (.bool true) ∧ Below w.heap.size w w' := by
  have HR := Lib.hid (And.intro hR (And.intro hs (And.intro hz (And.intro hgb hxb))))
  clear hR hs hz hgb hxb
  have HAL := Lib.hid cal
  clear cal
  go_enter Tryd.func19, Tryd.ntmps19
  go_wp2_with fail
  refine (place_v n i s HR.out.2.1 _).mono ?_
  rintro e w1 ⟨rfl, hb1⟩
  have B1 := Lib.hid hb1
  clear hb1
  go_wp2_with fail
  refine (rfind_v n _).mono ?_
  rintro e w2 ⟨A, rfl, _, hb2⟩
  have B2 := Lib.hid (B1.out.trans (hb2.mono B1.out.size))
  clear hb2
  rw [HR.out.1]
  unfold rc
  dsimp only
  obtain ⟨M, hM⟩ : ∃ M, ar.length = M := ⟨_, rfl⟩
  rw [hM]
  clear hM
  have hl1 : (w2.alloc (.cells #[.string nm, .string ds, .slice A M M, .int .i64 lb, .bool al] 25)).heap[w2.heap.size]? = some (.cells #[.string nm, .string ds, .slice A M M, .int .i64 lb, .bool al] 25 (0, 0)) := heap_alloc_new w2 _
  have B3 := Lib.hid (show Below w.heap.size w (w2.alloc (.cells #[.string nm, .string ds, .slice A M M, .int .i64 lb, .bool al] 25)) from B2.out.alloc B2.out.size _)
  obtain ⟨w3, hw3⟩ : ∃ w3, w2.alloc (.cells #[.string nm, .string ds, .slice A M M, .int .i64 lb, .bool al] 25) = w3 := ⟨_, rfl⟩
  rw [hw3] at hl1 B3
  have z4 : w3.cell? ⟨w2.heap.size, 4, none⟩ = some (.bool false) := by rw [← HAL.out, cell_of_row _ _ _ _ _ _ hl1]; rfl
  clear hl1
  go_wp2_with fail
  refine (has_v s 103 103 rfl true HR.out.2.2.2.1 HR.out.2.2.1 _).mono ?_
  rintro e w4 ⟨rfl, rfl⟩
  go_wp2_with fail
  go_ret
  exact ⟨rfl, B3.out⟩
theorem rt2at (n i : Int) (nm ds : ByteArray) (ar : List ByteArray) (lb : Int) (al : Bool) (hR : rowOf n = ⟨nm, ds, ar, lb, al⟩) (s : ByteArray) (hs : placeOf n i = s) (hz : s.size ≤ 3) (hgb : has s 103 = true) (xb : Bool) (hxb : has s 120 = xb) (w : World) :
    Calls Tryd.prog 19 #[.int .i64 n, .int .i64 i, .int .i64 2, .bool true] w fun e w' => e = .returned (.bool true) ∧ Below w.heap.size w w' := by
  have HR := Lib.hid (And.intro hR (And.intro hs (And.intro hz (And.intro hgb hxb))))
  clear hR hs hz hgb hxb
  go_enter Tryd.func19, Tryd.ntmps19
  go_wp2_with fail
  refine (place_v n i s HR.out.2.1 _).mono ?_
  rintro e w1 ⟨rfl, hb1⟩
  have B1 := Lib.hid hb1
  clear hb1
  go_wp2_with fail
  refine (rfind_v n _).mono ?_
  rintro e w2 ⟨A, rfl, _, hb2⟩
  have B2 := Lib.hid (B1.out.trans (hb2.mono B1.out.size))
  clear hb2
  rw [HR.out.1]
  unfold rc
  dsimp only
  obtain ⟨M, hM⟩ : ∃ M, ar.length = M := ⟨_, rfl⟩
  rw [hM]
  clear hM
  have hl1 : (w2.alloc (.cells #[.string nm, .string ds, .slice A M M, .int .i64 lb, .bool al] 25)).heap[w2.heap.size]? = some (.cells #[.string nm, .string ds, .slice A M M, .int .i64 lb, .bool al] 25 (0, 0)) := heap_alloc_new w2 _
  have B3 := Lib.hid (show Below w.heap.size w (w2.alloc (.cells #[.string nm, .string ds, .slice A M M, .int .i64 lb, .bool al] 25)) from B2.out.alloc B2.out.size _)
  obtain ⟨w3, hw3⟩ : ∃ w3, w2.alloc (.cells #[.string nm, .string ds, .slice A M M, .int .i64 lb, .bool al] 25) = w3 := ⟨_, rfl⟩
  rw [hw3] at hl1 B3
  have z4 : w3.cell? ⟨w2.heap.size, 4, none⟩ = some (.bool al) := by rw [cell_of_row _ _ _ _ _ _ hl1]; rfl
  clear hl1
  go_wp2_with fail
  refine (has_v s 103 103 rfl true HR.out.2.2.2.1 HR.out.2.2.1 _).mono ?_
  rintro e w4 ⟨rfl, rfl⟩
  go_wp2_with fail
  go_ret
  exact ⟨rfl, B3.out⟩
theorem rt2bt (n i : Int) (nm ds : ByteArray) (ar : List ByteArray) (lb : Int) (al : Bool) (hR : rowOf n = ⟨nm, ds, ar, lb, al⟩) (s : ByteArray) (hs : placeOf n i = s) (hz : s.size ≤ 3) (hgb : has s 103 = true) (xb : Bool) (hxb : has s 120 = xb) (w : World) :
    Calls Tryd.prog 19 #[.int .i64 n, .int .i64 i, .int .i64 2, .bool false] w fun e w' => e = .returned (.bool false) ∧ Below w.heap.size w w' := by
  have HR := Lib.hid (And.intro hR (And.intro hs (And.intro hz (And.intro hgb hxb))))
  clear hR hs hz hgb hxb
  go_enter Tryd.func19, Tryd.ntmps19
  go_wp2_with fail
  refine (place_v n i s HR.out.2.1 _).mono ?_
  rintro e w1 ⟨rfl, hb1⟩
  have B1 := Lib.hid hb1
  clear hb1
  go_wp2_with fail
  refine (rfind_v n _).mono ?_
  rintro e w2 ⟨A, rfl, _, hb2⟩
  have B2 := Lib.hid (B1.out.trans (hb2.mono B1.out.size))
  clear hb2
  rw [HR.out.1]
  unfold rc
  dsimp only
  obtain ⟨M, hM⟩ : ∃ M, ar.length = M := ⟨_, rfl⟩
  rw [hM]
  clear hM
  have hl1 : (w2.alloc (.cells #[.string nm, .string ds, .slice A M M, .int .i64 lb, .bool al] 25)).heap[w2.heap.size]? = some (.cells #[.string nm, .string ds, .slice A M M, .int .i64 lb, .bool al] 25 (0, 0)) := heap_alloc_new w2 _
  have B3 := Lib.hid (show Below w.heap.size w (w2.alloc (.cells #[.string nm, .string ds, .slice A M M, .int .i64 lb, .bool al] 25)) from B2.out.alloc B2.out.size _)
  obtain ⟨w3, hw3⟩ : ∃ w3, w2.alloc (.cells #[.string nm, .string ds, .slice A M M, .int .i64 lb, .bool al] 25) = w3 := ⟨_, rfl⟩
  rw [hw3] at hl1 B3
  have z4 : w3.cell? ⟨w2.heap.size, 4, none⟩ = some (.bool al) := by rw [cell_of_row _ _ _ _ _ _ hl1]; rfl
  clear hl1
  go_wp2_with fail
  refine (has_v s 103 103 rfl true HR.out.2.2.2.1 HR.out.2.2.1 _).mono ?_
  rintro e w4 ⟨rfl, rfl⟩
  go_wp2_with fail
  go_ret
  exact ⟨rfl, B3.out⟩
theorem rt3at (n i : Int) (nm ds : ByteArray) (ar : List ByteArray) (lb : Int) (al : Bool) (hR : rowOf n = ⟨nm, ds, ar, lb, al⟩) (s : ByteArray) (hs : placeOf n i = s) (hz : s.size ≤ 3) (hgb : has s 103 = true) (xb : Bool) (hxb : has s 120 = xb) (nb : Bool) (hnb : has s 115 = nb) (w : World) :
    Calls Tryd.prog 19 #[.int .i64 n, .int .i64 i, .int .i64 3, .bool true] w fun e w' => e = .returned (.bool nb) ∧ Below w.heap.size w w' := by
  have HR := Lib.hid (And.intro hR (And.intro hs (And.intro hz (And.intro hgb hxb))))
  clear hR hs hz hgb hxb
  have HN := Lib.hid hnb
  clear hnb
  go_enter Tryd.func19, Tryd.ntmps19
  go_wp2_with fail
  refine (place_v n i s HR.out.2.1 _).mono ?_
  rintro e w1 ⟨rfl, hb1⟩
  have B1 := Lib.hid hb1
  clear hb1
  go_wp2_with fail
  refine (rfind_v n _).mono ?_
  rintro e w2 ⟨A, rfl, _, hb2⟩
  have B2 := Lib.hid (B1.out.trans (hb2.mono B1.out.size))
  clear hb2
  rw [HR.out.1]
  unfold rc
  dsimp only
  obtain ⟨M, hM⟩ : ∃ M, ar.length = M := ⟨_, rfl⟩
  rw [hM]
  clear hM
  have hl1 : (w2.alloc (.cells #[.string nm, .string ds, .slice A M M, .int .i64 lb, .bool al] 25)).heap[w2.heap.size]? = some (.cells #[.string nm, .string ds, .slice A M M, .int .i64 lb, .bool al] 25 (0, 0)) := heap_alloc_new w2 _
  have B3 := Lib.hid (show Below w.heap.size w (w2.alloc (.cells #[.string nm, .string ds, .slice A M M, .int .i64 lb, .bool al] 25)) from B2.out.alloc B2.out.size _)
  obtain ⟨w3, hw3⟩ : ∃ w3, w2.alloc (.cells #[.string nm, .string ds, .slice A M M, .int .i64 lb, .bool al] 25) = w3 := ⟨_, rfl⟩
  rw [hw3] at hl1 B3
  have z4 : w3.cell? ⟨w2.heap.size, 4, none⟩ = some (.bool al) := by rw [cell_of_row _ _ _ _ _ _ hl1]; rfl
  clear hl1
  go_wp2_with fail
  refine (has_v s 103 103 rfl true HR.out.2.2.2.1 HR.out.2.2.1 _).mono ?_
  rintro e w4 ⟨rfl, rfl⟩
  go_wp2_with fail
  refine (has_v s 115 115 rfl nb HN.out HR.out.2.2.1 _).mono ?_
  rintro e w4 ⟨rfl, rfl⟩
  go_wp2_with fail
  go_ret
  exact ⟨rfl, B3.out⟩
theorem rt3bt (n i : Int) (nm ds : ByteArray) (ar : List ByteArray) (lb : Int) (al : Bool) (hR : rowOf n = ⟨nm, ds, ar, lb, al⟩) (s : ByteArray) (hs : placeOf n i = s) (hz : s.size ≤ 3) (hgb : has s 103 = true) (xb : Bool) (hxb : has s 120 = xb) (w : World) :
    Calls Tryd.prog 19 #[.int .i64 n, .int .i64 i, .int .i64 3, .bool false] w fun e w' => e = .returned (.bool false) ∧ Below w.heap.size w w' := by
  have HR := Lib.hid (And.intro hR (And.intro hs (And.intro hz (And.intro hgb hxb))))
  clear hR hs hz hgb hxb
  go_enter Tryd.func19, Tryd.ntmps19
  go_wp2_with fail
  refine (place_v n i s HR.out.2.1 _).mono ?_
  rintro e w1 ⟨rfl, hb1⟩
  have B1 := Lib.hid hb1
  clear hb1
  go_wp2_with fail
  refine (rfind_v n _).mono ?_
  rintro e w2 ⟨A, rfl, _, hb2⟩
  have B2 := Lib.hid (B1.out.trans (hb2.mono B1.out.size))
  clear hb2
  rw [HR.out.1]
  unfold rc
  dsimp only
  obtain ⟨M, hM⟩ : ∃ M, ar.length = M := ⟨_, rfl⟩
  rw [hM]
  clear hM
  have hl1 : (w2.alloc (.cells #[.string nm, .string ds, .slice A M M, .int .i64 lb, .bool al] 25)).heap[w2.heap.size]? = some (.cells #[.string nm, .string ds, .slice A M M, .int .i64 lb, .bool al] 25 (0, 0)) := heap_alloc_new w2 _
  have B3 := Lib.hid (show Below w.heap.size w (w2.alloc (.cells #[.string nm, .string ds, .slice A M M, .int .i64 lb, .bool al] 25)) from B2.out.alloc B2.out.size _)
  obtain ⟨w3, hw3⟩ : ∃ w3, w2.alloc (.cells #[.string nm, .string ds, .slice A M M, .int .i64 lb, .bool al] 25) = w3 := ⟨_, rfl⟩
  rw [hw3] at hl1 B3
  have z4 : w3.cell? ⟨w2.heap.size, 4, none⟩ = some (.bool al) := by rw [cell_of_row _ _ _ _ _ _ hl1]; rfl
  clear hl1
  go_wp2_with fail
  refine (has_v s 103 103 rfl true HR.out.2.2.2.1 HR.out.2.2.1 _).mono ?_
  rintro e w4 ⟨rfl, rfl⟩
  go_wp2_with fail
  go_ret
  exact ⟨rfl, B3.out⟩
theorem rt4t (n i : Int) (m : Bool) (nm ds : ByteArray) (ar : List ByteArray) (lb : Int) (al : Bool) (hR : rowOf n = ⟨nm, ds, ar, lb, al⟩) (s : ByteArray) (hs : placeOf n i = s) (hz : s.size ≤ 3) (hgb : has s 103 = true) (xb : Bool) (hxb : has s 120 = xb) (nb : Bool) (hnb : has s 105 = nb) (w : World) :
    Calls Tryd.prog 19 #[.int .i64 n, .int .i64 i, .int .i64 4, .bool m] w fun e w' => e = .returned (.bool nb) ∧ Below w.heap.size w w' := by
  have HR := Lib.hid (And.intro hR (And.intro hs (And.intro hz (And.intro hgb hxb))))
  clear hR hs hz hgb hxb
  have HN := Lib.hid hnb
  clear hnb
  go_enter Tryd.func19, Tryd.ntmps19
  go_wp2_with fail
  refine (place_v n i s HR.out.2.1 _).mono ?_
  rintro e w1 ⟨rfl, hb1⟩
  have B1 := Lib.hid hb1
  clear hb1
  go_wp2_with fail
  refine (rfind_v n _).mono ?_
  rintro e w2 ⟨A, rfl, _, hb2⟩
  have B2 := Lib.hid (B1.out.trans (hb2.mono B1.out.size))
  clear hb2
  rw [HR.out.1]
  unfold rc
  dsimp only
  obtain ⟨M, hM⟩ : ∃ M, ar.length = M := ⟨_, rfl⟩
  rw [hM]
  clear hM
  have hl1 : (w2.alloc (.cells #[.string nm, .string ds, .slice A M M, .int .i64 lb, .bool al] 25)).heap[w2.heap.size]? = some (.cells #[.string nm, .string ds, .slice A M M, .int .i64 lb, .bool al] 25 (0, 0)) := heap_alloc_new w2 _
  have B3 := Lib.hid (show Below w.heap.size w (w2.alloc (.cells #[.string nm, .string ds, .slice A M M, .int .i64 lb, .bool al] 25)) from B2.out.alloc B2.out.size _)
  obtain ⟨w3, hw3⟩ : ∃ w3, w2.alloc (.cells #[.string nm, .string ds, .slice A M M, .int .i64 lb, .bool al] 25) = w3 := ⟨_, rfl⟩
  rw [hw3] at hl1 B3
  have z4 : w3.cell? ⟨w2.heap.size, 4, none⟩ = some (.bool al) := by rw [cell_of_row _ _ _ _ _ _ hl1]; rfl
  clear hl1
  go_wp2_with fail
  refine (has_v s 103 103 rfl true HR.out.2.2.2.1 HR.out.2.2.1 _).mono ?_
  rintro e w4 ⟨rfl, rfl⟩
  go_wp2_with fail
  refine (has_v s 105 105 rfl nb HN.out HR.out.2.2.1 _).mono ?_
  rintro e w4 ⟨rfl, rfl⟩
  go_wp2_with fail
  go_ret
  exact ⟨rfl, B3.out⟩
theorem rt5t (n i : Int) (k : Int) (d0 : (k == 0) = false) (d1 : (k == 1) = false) (d2 : (k == 2) = false) (d3 : (k == 3) = false) (d4 : (k == 4) = false) (m : Bool) (nm ds : ByteArray) (ar : List ByteArray) (lb : Int) (al : Bool) (hR : rowOf n = ⟨nm, ds, ar, lb, al⟩) (s : ByteArray) (hs : placeOf n i = s) (hz : s.size ≤ 3) (hgb : has s 103 = true) (xb : Bool) (hxb : has s 120 = xb) (w : World) :
    Calls Tryd.prog 19 #[.int .i64 n, .int .i64 i, .int .i64 k, .bool m] w fun e w' => e = .returned (.bool false) ∧ Below w.heap.size w w' := by
  have HR := Lib.hid (And.intro hR (And.intro hs (And.intro hz (And.intro hgb hxb))))
  clear hR hs hz hgb hxb
  go_enter Tryd.func19, Tryd.ntmps19
  go_wp2_with fail
  refine (place_v n i s HR.out.2.1 _).mono ?_
  rintro e w1 ⟨rfl, hb1⟩
  have B1 := Lib.hid hb1
  clear hb1
  go_wp2_with fail
  refine (rfind_v n _).mono ?_
  rintro e w2 ⟨A, rfl, _, hb2⟩
  have B2 := Lib.hid (B1.out.trans (hb2.mono B1.out.size))
  clear hb2
  rw [HR.out.1]
  unfold rc
  dsimp only
  obtain ⟨M, hM⟩ : ∃ M, ar.length = M := ⟨_, rfl⟩
  rw [hM]
  clear hM
  have hl1 : (w2.alloc (.cells #[.string nm, .string ds, .slice A M M, .int .i64 lb, .bool al] 25)).heap[w2.heap.size]? = some (.cells #[.string nm, .string ds, .slice A M M, .int .i64 lb, .bool al] 25 (0, 0)) := heap_alloc_new w2 _
  have B3 := Lib.hid (show Below w.heap.size w (w2.alloc (.cells #[.string nm, .string ds, .slice A M M, .int .i64 lb, .bool al] 25)) from B2.out.alloc B2.out.size _)
  obtain ⟨w3, hw3⟩ : ∃ w3, w2.alloc (.cells #[.string nm, .string ds, .slice A M M, .int .i64 lb, .bool al] 25) = w3 := ⟨_, rfl⟩
  rw [hw3] at hl1 B3
  have z4 : w3.cell? ⟨w2.heap.size, 4, none⟩ = some (.bool al) := by rw [cell_of_row _ _ _ _ _ _ hl1]; rfl
  clear hl1
  go_wp2_with fail
  refine (has_v s 103 103 rfl true HR.out.2.2.2.1 HR.out.2.2.1 _).mono ?_
  rintro e w4 ⟨rfl, rfl⟩
  go_wp2_with fail
  go_ret
  exact ⟨rfl, B3.out⟩
theorem rt0af (n i : Int) (m : Bool) (nm ds : ByteArray) (ar : List ByteArray) (lb : Int) (al : Bool) (hR : rowOf n = ⟨nm, ds, ar, lb, al⟩) (s : ByteArray) (hs : placeOf n i = s) (hz : s.size ≤ 3) (hgb : has s 103 = false) (xb : Bool) (hxb : has s 120 = xb) (c0 : (i == -1) = false) (w : World) :
    Calls Tryd.prog 19 #[.int .i64 n, .int .i64 i, .int .i64 0, .bool m] w fun e w' => e = .returned (.bool false) ∧ Below w.heap.size w w' := by
  have HR := Lib.hid (And.intro hR (And.intro hs (And.intro hz (And.intro hgb hxb))))
  clear hR hs hz hgb hxb
  go_enter Tryd.func19, Tryd.ntmps19
  go_wp2_with fail
  refine (place_v n i s HR.out.2.1 _).mono ?_
  rintro e w1 ⟨rfl, hb1⟩
  have B1 := Lib.hid hb1
  clear hb1
  go_wp2_with fail
  refine (rfind_v n _).mono ?_
  rintro e w2 ⟨A, rfl, _, hb2⟩
  have B2 := Lib.hid (B1.out.trans (hb2.mono B1.out.size))
  clear hb2
  rw [HR.out.1]
  unfold rc
  dsimp only
  obtain ⟨M, hM⟩ : ∃ M, ar.length = M := ⟨_, rfl⟩
  rw [hM]
  clear hM
  have hl1 : (w2.alloc (.cells #[.string nm, .string ds, .slice A M M, .int .i64 lb, .bool al] 25)).heap[w2.heap.size]? = some (.cells #[.string nm, .string ds, .slice A M M, .int .i64 lb, .bool al] 25 (0, 0)) := heap_alloc_new w2 _
  have B3 := Lib.hid (show Below w.heap.size w (w2.alloc (.cells #[.string nm, .string ds, .slice A M M, .int .i64 lb, .bool al] 25)) from B2.out.alloc B2.out.size _)
  obtain ⟨w3, hw3⟩ : ∃ w3, w2.alloc (.cells #[.string nm, .string ds, .slice A M M, .int .i64 lb, .bool al] 25) = w3 := ⟨_, rfl⟩
  rw [hw3] at hl1 B3
  have z4 : w3.cell? ⟨w2.heap.size, 4, none⟩ = some (.bool al) := by rw [cell_of_row _ _ _ _ _ _ hl1]; rfl
  clear hl1
  go_wp2_with fail
  refine (has_v s 103 103 rfl false HR.out.2.2.2.1 HR.out.2.2.1 _).mono ?_
  rintro e w4 ⟨rfl, rfl⟩
  go_wp2_with fail
  refine (has_v s 120 120 rfl xb HR.out.2.2.2.2 HR.out.2.2.1 _).mono ?_
  rintro e w4 ⟨rfl, rfl⟩
  go_wp2_with fail
  go_ret
  exact ⟨rfl, B3.out⟩
theorem rt0bf (n i : Int) (m : Bool) (nm ds : ByteArray) (ar : List ByteArray) (lb : Int) (al : Bool) (hR : rowOf n = ⟨nm, ds, ar, lb, al⟩) (s : ByteArray) (hs : placeOf n i = s) (hz : s.size ≤ 3) (hgb : has s 103 = false) (xb : Bool) (hxb : has s 120 = xb) (c0 : (i == -1) = true) (e1 : s.toList = []) (e2 : s.toList.isEmpty = true) (w : World) :
    Calls Tryd.prog 19 #[.int .i64 n, .int .i64 i, .int .i64 0, .bool m] w fun e w' => e = .returned (.bool true) ∧ Below w.heap.size w w' := by
  have HR := Lib.hid (And.intro hR (And.intro hs (And.intro hz (And.intro hgb hxb))))
  clear hR hs hz hgb hxb
  go_enter Tryd.func19, Tryd.ntmps19
  go_wp2_with fail
  refine (place_v n i s HR.out.2.1 _).mono ?_
  rintro e w1 ⟨rfl, hb1⟩
  have B1 := Lib.hid hb1
  clear hb1
  go_wp2_with fail
  refine (rfind_v n _).mono ?_
  rintro e w2 ⟨A, rfl, _, hb2⟩
  have B2 := Lib.hid (B1.out.trans (hb2.mono B1.out.size))
  clear hb2
  rw [HR.out.1]
  unfold rc
  dsimp only
  obtain ⟨M, hM⟩ : ∃ M, ar.length = M := ⟨_, rfl⟩
  rw [hM]
  clear hM
  have hl1 : (w2.alloc (.cells #[.string nm, .string ds, .slice A M M, .int .i64 lb, .bool al] 25)).heap[w2.heap.size]? = some (.cells #[.string nm, .string ds, .slice A M M, .int .i64 lb, .bool al] 25 (0, 0)) := heap_alloc_new w2 _
  have B3 := Lib.hid (show Below w.heap.size w (w2.alloc (.cells #[.string nm, .string ds, .slice A M M, .int .i64 lb, .bool al] 25)) from B2.out.alloc B2.out.size _)
  obtain ⟨w3, hw3⟩ : ∃ w3, w2.alloc (.cells #[.string nm, .string ds, .slice A M M, .int .i64 lb, .bool al] 25) = w3 := ⟨_, rfl⟩
  rw [hw3] at hl1 B3
  have z4 : w3.cell? ⟨w2.heap.size, 4, none⟩ = some (.bool al) := by rw [cell_of_row _ _ _ _ _ _ hl1]; rfl
  clear hl1
  go_wp2_with fail
  refine (has_v s 103 103 rfl false HR.out.2.2.2.1 HR.out.2.2.1 _).mono ?_
  rintro e w4 ⟨rfl, rfl⟩
  go_wp2_with fail
  refine (has_v s 120 120 rfl xb HR.out.2.2.2.2 HR.out.2.2.1 _).mono ?_
  rintro e w4 ⟨rfl, rfl⟩
  go_wp2_with fail
  go_ret
  exact ⟨rfl, B3.out⟩
theorem rt0cf (n i : Int) (m : Bool) (nm ds : ByteArray) (ar : List ByteArray) (lb : Int) (al : Bool) (hR : rowOf n = ⟨nm, ds, ar, lb, al⟩) (s : ByteArray) (hs : placeOf n i = s) (hz : s.size ≤ 3) (hgb : has s 103 = false) (xb : Bool) (hxb : has s 120 = xb) (c0 : (i == -1) = true) (e1 : ¬ s.toList = []) (e2 : s.toList.isEmpty = false) (nb : Bool) (hnb : has s 110 = nb) (w : World) :
    Calls Tryd.prog 19 #[.int .i64 n, .int .i64 i, .int .i64 0, .bool m] w fun e w' => e = .returned (.bool nb) ∧ Below w.heap.size w w' := by
  have HR := Lib.hid (And.intro hR (And.intro hs (And.intro hz (And.intro hgb hxb))))
  clear hR hs hz hgb hxb
  have HN := Lib.hid hnb
  clear hnb
  go_enter Tryd.func19, Tryd.ntmps19
  go_wp2_with fail
  refine (place_v n i s HR.out.2.1 _).mono ?_
  rintro e w1 ⟨rfl, hb1⟩
  have B1 := Lib.hid hb1
  clear hb1
  go_wp2_with fail
  refine (rfind_v n _).mono ?_
  rintro e w2 ⟨A, rfl, _, hb2⟩
  have B2 := Lib.hid (B1.out.trans (hb2.mono B1.out.size))
  clear hb2
  rw [HR.out.1]
  unfold rc
  dsimp only
  obtain ⟨M, hM⟩ : ∃ M, ar.length = M := ⟨_, rfl⟩
  rw [hM]
  clear hM
  have hl1 : (w2.alloc (.cells #[.string nm, .string ds, .slice A M M, .int .i64 lb, .bool al] 25)).heap[w2.heap.size]? = some (.cells #[.string nm, .string ds, .slice A M M, .int .i64 lb, .bool al] 25 (0, 0)) := heap_alloc_new w2 _
  have B3 := Lib.hid (show Below w.heap.size w (w2.alloc (.cells #[.string nm, .string ds, .slice A M M, .int .i64 lb, .bool al] 25)) from B2.out.alloc B2.out.size _)
  obtain ⟨w3, hw3⟩ : ∃ w3, w2.alloc (.cells #[.string nm, .string ds, .slice A M M, .int .i64 lb, .bool al] 25) = w3 := ⟨_, rfl⟩
  rw [hw3] at hl1 B3
  have z4 : w3.cell? ⟨w2.heap.size, 4, none⟩ = some (.bool al) := by rw [cell_of_row _ _ _ _ _ _ hl1]; rfl
  clear hl1
  go_wp2_with fail
  refine (has_v s 103 103 rfl false HR.out.2.2.2.1 HR.out.2.2.1 _).mono ?_
  rintro e w4 ⟨rfl, rfl⟩
  go_wp2_with fail
  refine (has_v s 120 120 rfl xb HR.out.2.2.2.2 HR.out.2.2.1 _).mono ?_
  rintro e w4 ⟨rfl, rfl⟩
  go_wp2_with fail
  refine (has_v s 110 110 rfl nb HN.out HR.out.2.2.1 _).mono ?_
  rintro e w4 ⟨rfl, rfl⟩
  go_wp2_with fail
  go_ret
  exact ⟨rfl, B3.out⟩
theorem rt1af (n i : Int) (nm ds : ByteArray) (ar : List ByteArray) (lb : Int) (al : Bool) (hR : rowOf n = ⟨nm, ds, ar, lb, al⟩) (s : ByteArray) (hs : placeOf n i = s) (hz : s.size ≤ 3) (hgb : has s 103 = false) (xb : Bool) (hxb : has s 120 = xb) (w : World) :
    Calls Tryd.prog 19 #[.int .i64 n, .int .i64 i, .int .i64 1, .bool true] w fun e w' => e = .returned (.bool false) ∧ Below w.heap.size w w' := by
  have HR := Lib.hid (And.intro hR (And.intro hs (And.intro hz (And.intro hgb hxb))))
  clear hR hs hz hgb hxb
  go_enter Tryd.func19, Tryd.ntmps19
  go_wp2_with fail
  refine (place_v n i s HR.out.2.1 _).mono ?_
  rintro e w1 ⟨rfl, hb1⟩
  have B1 := Lib.hid hb1
  clear hb1
  go_wp2_with fail
  refine (rfind_v n _).mono ?_
  rintro e w2 ⟨A, rfl, _, hb2⟩
  have B2 := Lib.hid (B1.out.trans (hb2.mono B1.out.size))
  clear hb2
  rw [HR.out.1]
  unfold rc
  dsimp only
  obtain ⟨M, hM⟩ : ∃ M, ar.length = M := ⟨_, rfl⟩
  rw [hM]
  clear hM
  have hl1 : (w2.alloc (.cells #[.string nm, .string ds, .slice A M M, .int .i64 lb, .bool al] 25)).heap[w2.heap.size]? = some (.cells #[.string nm, .string ds, .slice A M M, .int .i64 lb, .bool al] 25 (0, 0)) := heap_alloc_new w2 _
  have B3 := Lib.hid (show Below w.heap.size w (w2.alloc (.cells #[.string nm, .string ds, .slice A M M, .int .i64 lb, .bool al] 25)) from B2.out.alloc B2.out.size _)
  obtain ⟨w3, hw3⟩ : ∃ w3, w2.alloc (.cells #[.string nm, .string ds, .slice A M M, .int .i64 lb, .bool al] 25) = w3 := ⟨_, rfl⟩
  rw [hw3] at hl1 B3
  have z4 : w3.cell? ⟨w2.heap.size, 4, none⟩ = some (.bool al) := by rw [cell_of_row _ _ _ _ _ _ hl1]; rfl
  clear hl1
  go_wp2_with fail
  refine (has_v s 103 103 rfl false HR.out.2.2.2.1 HR.out.2.2.1 _).mono ?_
  rintro e w4 ⟨rfl, rfl⟩
  go_wp2_with fail
  refine (has_v s 120 120 rfl xb HR.out.2.2.2.2 HR.out.2.2.1 _).mono ?_
  rintro e w4 ⟨rfl, rfl⟩
  go_wp2_with fail
  go_ret
  exact ⟨rfl, B3.out⟩
theorem rt1bf (n i : Int) (nm ds : ByteArray) (ar : List ByteArray) (lb : Int) (al : Bool) (hR : rowOf n = ⟨nm, ds, ar, lb, al⟩) (s : ByteArray) (hs : placeOf n i = s) (hz : s.size ≤ 3) (hgb : has s 103 = false) (xb : Bool) (hxb : has s 120 = xb) (cal : al = true) (w : World) :
    Calls Tryd.prog 19 #[.int .i64 n, .int .i64 i, .int .i64 1, .bool false] w fun e w' => e = .returned (.bool false) ∧ Below w.heap.size w w' := by
  have HR := Lib.hid (And.intro hR (And.intro hs (And.intro hz (And.intro hgb hxb))))
  clear hR hs hz hgb hxb
  have HAL := Lib.hid cal
  clear cal
  go_enter Tryd.func19, Tryd.ntmps19
  go_wp2_with fail
  refine (place_v n i s HR.out.2.1 _).mono ?_
  rintro e w1 ⟨rfl, hb1⟩
  have B1 := Lib.hid hb1
  clear hb1
  go_wp2_with fail
  refine (rfind_v n _).mono ?_
  rintro e w2 ⟨A, rfl, _, hb2⟩
  have B2 := Lib.hid (B1.out.trans (hb2.mono B1.out.size))
  clear hb2
  rw [HR.out.1]
  unfold rc
  dsimp only
  obtain ⟨M, hM⟩ : ∃ M, ar.length = M := ⟨_, rfl⟩
  rw [hM]
  clear hM
  have hl1 : (w2.alloc (.cells #[.string nm, .string ds, .slice A M M, .int .i64 lb, .bool al] 25)).heap[w2.heap.size]? = some (.cells #[.string nm, .string ds, .slice A M M, .int .i64 lb, .bool al] 25 (0, 0)) := heap_alloc_new w2 _
  have B3 := Lib.hid (show Below w.heap.size w (w2.alloc (.cells #[.string nm, .string ds, .slice A M M, .int .i64 lb, .bool al] 25)) from B2.out.alloc B2.out.size _)
  obtain ⟨w3, hw3⟩ : ∃ w3, w2.alloc (.cells #[.string nm, .string ds, .slice A M M, .int .i64 lb, .bool al] 25) = w3 := ⟨_, rfl⟩
  rw [hw3] at hl1 B3
  have z4 : w3.cell? ⟨w2.heap.size, 4, none⟩ = some (.bool true) := by rw [← HAL.out, cell_of_row _ _ _ _ _ _ hl1]; rfl
  clear hl1
  go_wp2_with fail
  refine (has_v s 103 103 rfl false HR.out.2.2.2.1 HR.out.2.2.1 _).mono ?_
  rintro e w4 ⟨rfl, rfl⟩
  go_wp2_with fail
  refine (has_v s 120 120 rfl xb HR.out.2.2.2.2 HR.out.2.2.1 _).mono ?_
  rintro e w4 ⟨rfl, rfl⟩
  go_wp2_with fail
  go_ret
  exact ⟨rfl, B3.out⟩
theorem rt1cf (n i : Int) (nm ds : ByteArray) (ar : List ByteArray) (lb : Int) (al : Bool) (hR : rowOf n = ⟨nm, ds, ar, lb, al⟩) (s : ByteArray) (hs : placeOf n i = s) (hz : s.size ≤ 3) (hgb : has s 103 = false) (xb : Bool) (hxb : has s 120 = xb) (cal : al = false) (w : World) :
    Calls Tryd.prog 19 #[.int .i64 n, .int .i64 i, .int .i64 1, .bool false] w fun e w' => e = .returned (.bool xb) ∧ Below w.heap.size w w' := by
  have HR := Lib.hid (And.intro hR (And.intro hs (And.intro hz (And.intro hgb hxb))))
  clear hR hs hz hgb hxb
  have HAL := Lib.hid cal
  clear cal
  go_enter Tryd.func19, Tryd.ntmps19
  go_wp2_with fail
  refine (place_v n i s HR.out.2.1 _).mono ?_
  rintro e w1 ⟨rfl, hb1⟩
  have B1 := Lib.hid hb1
  clear hb1
  go_wp2_with fail
  refine (rfind_v n _).mono ?_
  rintro e w2 ⟨A, rfl, _, hb2⟩
  have B2 := Lib.hid (B1.out.trans (hb2.mono B1.out.size))
  clear hb2
  rw [HR.out.1]
  unfold rc
  dsimp only
  obtain ⟨M, hM⟩ : ∃ M, ar.length = M := ⟨_, rfl⟩
  rw [hM]
  clear hM
  have hl1 : (w2.alloc (.cells #[.string nm, .string ds, .slice A M M, .int .i64 lb, .bool al] 25)).heap[w2.heap.size]? = some (.cells #[.string nm, .string ds, .slice A M M, .int .i64 lb, .bool al] 25 (0, 0)) := heap_alloc_new w2 _
  have B3 := Lib.hid (show Below w.heap.size w (w2.alloc (.cells #[.string nm, .string ds, .slice A M M, .int .i64 lb, .bool al] 25)) from B2.out.alloc B2.out.size _)
  obtain ⟨w3, hw3⟩ : ∃ w3, w2.alloc (.cells #[.string nm, .string ds, .slice A M M, .int .i64 lb, .bool al] 25) = w3 := ⟨_, rfl⟩
  rw [hw3] at hl1 B3
  have z4 : w3.cell? ⟨w2.heap.size, 4, none⟩ = some (.bool false) := by rw [← HAL.out, cell_of_row _ _ _ _ _ _ hl1]; rfl
  clear hl1
  go_wp2_with fail
  refine (has_v s 103 103 rfl false HR.out.2.2.2.1 HR.out.2.2.1 _).mono ?_
  rintro e w4 ⟨rfl, rfl⟩
  go_wp2_with fail
  refine (has_v s 120 120 rfl xb HR.out.2.2.2.2 HR.out.2.2.1 _).mono ?_
  rintro e w4 ⟨rfl, rfl⟩
  go_wp2_with fail
  go_ret
  exact ⟨rfl, B3.out⟩
theorem rt2af (n i : Int) (nm ds : ByteArray) (ar : List ByteArray) (lb : Int) (al : Bool) (hR : rowOf n = ⟨nm, ds, ar, lb, al⟩) (s : ByteArray) (hs : placeOf n i = s) (hz : s.size ≤ 3) (hgb : has s 103 = false) (xb : Bool) (hxb : has s 120 = xb) (w : World) :
    Calls Tryd.prog 19 #[.int .i64 n, .int .i64 i, .int .i64 2, .bool true] w fun e w' => e = .returned (.bool xb) ∧ Below w.heap.size w w' := by
  have HR := Lib.hid (And.intro hR (And.intro hs (And.intro hz (And.intro hgb hxb))))
  clear hR hs hz hgb hxb
  go_enter Tryd.func19, Tryd.ntmps19
  go_wp2_with fail
  refine (place_v n i s HR.out.2.1 _).mono ?_
  rintro e w1 ⟨rfl, hb1⟩
  have B1 := Lib.hid hb1
  clear hb1
  go_wp2_with fail
  refine (rfind_v n _).mono ?_
  rintro e w2 ⟨A, rfl, _, hb2⟩
  have B2 := Lib.hid (B1.out.trans (hb2.mono B1.out.size))
  clear hb2
  rw [HR.out.1]
  unfold rc
  dsimp only
  obtain ⟨M, hM⟩ : ∃ M, ar.length = M := ⟨_, rfl⟩
  rw [hM]
  clear hM
  have hl1 : (w2.alloc (.cells #[.string nm, .string ds, .slice A M M, .int .i64 lb, .bool al] 25)).heap[w2.heap.size]? = some (.cells #[.string nm, .string ds, .slice A M M, .int .i64 lb, .bool al] 25 (0, 0)) := heap_alloc_new w2 _
  have B3 := Lib.hid (show Below w.heap.size w (w2.alloc (.cells #[.string nm, .string ds, .slice A M M, .int .i64 lb, .bool al] 25)) from B2.out.alloc B2.out.size _)
  obtain ⟨w3, hw3⟩ : ∃ w3, w2.alloc (.cells #[.string nm, .string ds, .slice A M M, .int .i64 lb, .bool al] 25) = w3 := ⟨_, rfl⟩
  rw [hw3] at hl1 B3
  have z4 : w3.cell? ⟨w2.heap.size, 4, none⟩ = some (.bool al) := by rw [cell_of_row _ _ _ _ _ _ hl1]; rfl
  clear hl1
  go_wp2_with fail
  refine (has_v s 103 103 rfl false HR.out.2.2.2.1 HR.out.2.2.1 _).mono ?_
  rintro e w4 ⟨rfl, rfl⟩
  go_wp2_with fail
  refine (has_v s 120 120 rfl xb HR.out.2.2.2.2 HR.out.2.2.1 _).mono ?_
  rintro e w4 ⟨rfl, rfl⟩
  go_wp2_with fail
  go_ret
  exact ⟨rfl, B3.out⟩
theorem rt2bf (n i : Int) (nm ds : ByteArray) (ar : List ByteArray) (lb : Int) (al : Bool) (hR : rowOf n = ⟨nm, ds, ar, lb, al⟩) (s : ByteArray) (hs : placeOf n i = s) (hz : s.size ≤ 3) (hgb : has s 103 = false) (xb : Bool) (hxb : has s 120 = xb) (w : World) :
    Calls Tryd.prog 19 #[.int .i64 n, .int .i64 i, .int .i64 2, .bool false] w fun e w' => e = .returned (.bool false) ∧ Below w.heap.size w w' := by
  have HR := Lib.hid (And.intro hR (And.intro hs (And.intro hz (And.intro hgb hxb))))
  clear hR hs hz hgb hxb
  go_enter Tryd.func19, Tryd.ntmps19
  go_wp2_with fail
  refine (place_v n i s HR.out.2.1 _).mono ?_
  rintro e w1 ⟨rfl, hb1⟩
  have B1 := Lib.hid hb1
  clear hb1
  go_wp2_with fail
  refine (rfind_v n _).mono ?_
  rintro e w2 ⟨A, rfl, _, hb2⟩
  have B2 := Lib.hid (B1.out.trans (hb2.mono B1.out.size))
  clear hb2
  rw [HR.out.1]
  unfold rc
  dsimp only
  obtain ⟨M, hM⟩ : ∃ M, ar.length = M := ⟨_, rfl⟩
  rw [hM]
  clear hM
  have hl1 : (w2.alloc (.cells #[.string nm, .string ds, .slice A M M, .int .i64 lb, .bool al] 25)).heap[w2.heap.size]? = some (.cells #[.string nm, .string ds, .slice A M M, .int .i64 lb, .bool al] 25 (0, 0)) := heap_alloc_new w2 _
  have B3 := Lib.hid (show Below w.heap.size w (w2.alloc (.cells #[.string nm, .string ds, .slice A M M, .int .i64 lb, .bool al] 25)) from B2.out.alloc B2.out.size _)
  obtain ⟨w3, hw3⟩ : ∃ w3, w2.alloc (.cells #[.string nm, .string ds, .slice A M M, .int .i64 lb, .bool al] 25) = w3 := ⟨_, rfl⟩
  rw [hw3] at hl1 B3
  have z4 : w3.cell? ⟨w2.heap.size, 4, none⟩ = some (.bool al) := by rw [cell_of_row _ _ _ _ _ _ hl1]; rfl
  clear hl1
  go_wp2_with fail
  refine (has_v s 103 103 rfl false HR.out.2.2.2.1 HR.out.2.2.1 _).mono ?_
  rintro e w4 ⟨rfl, rfl⟩
  go_wp2_with fail
  refine (has_v s 120 120 rfl xb HR.out.2.2.2.2 HR.out.2.2.1 _).mono ?_
  rintro e w4 ⟨rfl, rfl⟩
  go_wp2_with fail
  go_ret
  exact ⟨rfl, B3.out⟩
theorem rt3af (n i : Int) (nm ds : ByteArray) (ar : List ByteArray) (lb : Int) (al : Bool) (hR : rowOf n = ⟨nm, ds, ar, lb, al⟩) (s : ByteArray) (hs : placeOf n i = s) (hz : s.size ≤ 3) (hgb : has s 103 = false) (xb : Bool) (hxb : has s 120 = xb) (nb : Bool) (hnb : has s 115 = nb) (w : World) :
    Calls Tryd.prog 19 #[.int .i64 n, .int .i64 i, .int .i64 3, .bool true] w fun e w' => e = .returned (.bool nb) ∧ Below w.heap.size w w' := by
  have HR := Lib.hid (And.intro hR (And.intro hs (And.intro hz (And.intro hgb hxb))))
  clear hR hs hz hgb hxb
  have HN := Lib.hid hnb
  clear hnb
  go_enter Tryd.func19, Tryd.ntmps19
  go_wp2_with fail
  refine (place_v n i s HR.out.2.1 _).mono ?_
  rintro e w1 ⟨rfl, hb1⟩
  have B1 := Lib.hid hb1
  clear hb1
  go_wp2_with fail
  refine (rfind_v n _).mono ?_
  rintro e w2 ⟨A, rfl, _, hb2⟩
  have B2 := Lib.hid (B1.out.trans (hb2.mono B1.out.size))
  clear hb2
  rw [HR.out.1]
  unfold rc
  dsimp only
  obtain ⟨M, hM⟩ : ∃ M, ar.length = M := ⟨_, rfl⟩
  rw [hM]
  clear hM
  have hl1 : (w2.alloc (.cells #[.string nm, .string ds, .slice A M M, .int .i64 lb, .bool al] 25)).heap[w2.heap.size]? = some (.cells #[.string nm, .string ds, .slice A M M, .int .i64 lb, .bool al] 25 (0, 0)) := heap_alloc_new w2 _
  have B3 := Lib.hid (show Below w.heap.size w (w2.alloc (.cells #[.string nm, .string ds, .slice A M M, .int .i64 lb, .bool al] 25)) from B2.out.alloc B2.out.size _)
  obtain ⟨w3, hw3⟩ : ∃ w3, w2.alloc (.cells #[.string nm, .string ds, .slice A M M, .int .i64 lb, .bool al] 25) = w3 := ⟨_, rfl⟩
  rw [hw3] at hl1 B3
  have z4 : w3.cell? ⟨w2.heap.size, 4, none⟩ = some (.bool al) := by rw [cell_of_row _ _ _ _ _ _ hl1]; rfl
  clear hl1
  go_wp2_with fail
  refine (has_v s 103 103 rfl false HR.out.2.2.2.1 HR.out.2.2.1 _).mono ?_
  rintro e w4 ⟨rfl, rfl⟩
  go_wp2_with fail
  refine (has_v s 120 120 rfl xb HR.out.2.2.2.2 HR.out.2.2.1 _).mono ?_
  rintro e w4 ⟨rfl, rfl⟩
  go_wp2_with fail
  refine (has_v s 115 115 rfl nb HN.out HR.out.2.2.1 _).mono ?_
  rintro e w4 ⟨rfl, rfl⟩
  go_wp2_with fail
  go_ret
  exact ⟨rfl, B3.out⟩
theorem rt3bf (n i : Int) (nm ds : ByteArray) (ar : List ByteArray) (lb : Int) (al : Bool) (hR : rowOf n = ⟨nm, ds, ar, lb, al⟩) (s : ByteArray) (hs : placeOf n i = s) (hz : s.size ≤ 3) (hgb : has s 103 = false) (xb : Bool) (hxb : has s 120 = xb) (w : World) :
    Calls Tryd.prog 19 #[.int .i64 n, .int .i64 i, .int .i64 3, .bool false] w fun e w' => e = .returned (.bool false) ∧ Below w.heap.size w w' := by
  have HR := Lib.hid (And.intro hR (And.intro hs (And.intro hz (And.intro hgb hxb))))
  clear hR hs hz hgb hxb
  go_enter Tryd.func19, Tryd.ntmps19
  go_wp2_with fail
  refine (place_v n i s HR.out.2.1 _).mono ?_
  rintro e w1 ⟨rfl, hb1⟩
  have B1 := Lib.hid hb1
  clear hb1
  go_wp2_with fail
  refine (rfind_v n _).mono ?_
  rintro e w2 ⟨A, rfl, _, hb2⟩
  have B2 := Lib.hid (B1.out.trans (hb2.mono B1.out.size))
  clear hb2
  rw [HR.out.1]
  unfold rc
  dsimp only
  obtain ⟨M, hM⟩ : ∃ M, ar.length = M := ⟨_, rfl⟩
  rw [hM]
  clear hM
  have hl1 : (w2.alloc (.cells #[.string nm, .string ds, .slice A M M, .int .i64 lb, .bool al] 25)).heap[w2.heap.size]? = some (.cells #[.string nm, .string ds, .slice A M M, .int .i64 lb, .bool al] 25 (0, 0)) := heap_alloc_new w2 _
  have B3 := Lib.hid (show Below w.heap.size w (w2.alloc (.cells #[.string nm, .string ds, .slice A M M, .int .i64 lb, .bool al] 25)) from B2.out.alloc B2.out.size _)
  obtain ⟨w3, hw3⟩ : ∃ w3, w2.alloc (.cells #[.string nm, .string ds, .slice A M M, .int .i64 lb, .bool al] 25) = w3 := ⟨_, rfl⟩
  rw [hw3] at hl1 B3
  have z4 : w3.cell? ⟨w2.heap.size, 4, none⟩ = some (.bool al) := by rw [cell_of_row _ _ _ _ _ _ hl1]; rfl
  clear hl1
  go_wp2_with fail
  refine (has_v s 103 103 rfl false HR.out.2.2.2.1 HR.out.2.2.1 _).mono ?_
  rintro e w4 ⟨rfl, rfl⟩
  go_wp2_with fail
  refine (has_v s 120 120 rfl xb HR.out.2.2.2.2 HR.out.2.2.1 _).mono ?_
  rintro e w4 ⟨rfl, rfl⟩
  go_wp2_with fail
  go_ret
  exact ⟨rfl, B3.out⟩
theorem rt4f (n i : Int) (m : Bool) (nm ds : ByteArray) (ar : List ByteArray) (lb : Int) (al : Bool) (hR : rowOf n = ⟨nm, ds, ar, lb, al⟩) (s : ByteArray) (hs : placeOf n i = s) (hz : s.size ≤ 3) (hgb : has s 103 = false) (xb : Bool) (hxb : has s 120 = xb) (nb : Bool) (hnb : has s 105 = nb) (w : World) :
    Calls Tryd.prog 19 #[.int .i64 n, .int .i64 i, .int .i64 4, .bool m] w fun e w' => e = .returned (.bool nb) ∧ Below w.heap.size w w' := by
  have HR := Lib.hid (And.intro hR (And.intro hs (And.intro hz (And.intro hgb hxb))))
  clear hR hs hz hgb hxb
  have HN := Lib.hid hnb
  clear hnb
  go_enter Tryd.func19, Tryd.ntmps19
  go_wp2_with fail
  refine (place_v n i s HR.out.2.1 _).mono ?_
  rintro e w1 ⟨rfl, hb1⟩
  have B1 := Lib.hid hb1
  clear hb1
  go_wp2_with fail
  refine (rfind_v n _).mono ?_
  rintro e w2 ⟨A, rfl, _, hb2⟩
  have B2 := Lib.hid (B1.out.trans (hb2.mono B1.out.size))
  clear hb2
  rw [HR.out.1]
  unfold rc
  dsimp only
  obtain ⟨M, hM⟩ : ∃ M, ar.length = M := ⟨_, rfl⟩
  rw [hM]
  clear hM
  have hl1 : (w2.alloc (.cells #[.string nm, .string ds, .slice A M M, .int .i64 lb, .bool al] 25)).heap[w2.heap.size]? = some (.cells #[.string nm, .string ds, .slice A M M, .int .i64 lb, .bool al] 25 (0, 0)) := heap_alloc_new w2 _
  have B3 := Lib.hid (show Below w.heap.size w (w2.alloc (.cells #[.string nm, .string ds, .slice A M M, .int .i64 lb, .bool al] 25)) from B2.out.alloc B2.out.size _)
  obtain ⟨w3, hw3⟩ : ∃ w3, w2.alloc (.cells #[.string nm, .string ds, .slice A M M, .int .i64 lb, .bool al] 25) = w3 := ⟨_, rfl⟩
  rw [hw3] at hl1 B3
  have z4 : w3.cell? ⟨w2.heap.size, 4, none⟩ = some (.bool al) := by rw [cell_of_row _ _ _ _ _ _ hl1]; rfl
  clear hl1
  go_wp2_with fail
  refine (has_v s 103 103 rfl false HR.out.2.2.2.1 HR.out.2.2.1 _).mono ?_
  rintro e w4 ⟨rfl, rfl⟩
  go_wp2_with fail
  refine (has_v s 120 120 rfl xb HR.out.2.2.2.2 HR.out.2.2.1 _).mono ?_
  rintro e w4 ⟨rfl, rfl⟩
  go_wp2_with fail
  refine (has_v s 105 105 rfl nb HN.out HR.out.2.2.1 _).mono ?_
  rintro e w4 ⟨rfl, rfl⟩
  go_wp2_with fail
  go_ret
  exact ⟨rfl, B3.out⟩
theorem rt5f (n i : Int) (k : Int) (d0 : (k == 0) = false) (d1 : (k == 1) = false) (d2 : (k == 2) = false) (d3 : (k == 3) = false) (d4 : (k == 4) = false) (m : Bool) (nm ds : ByteArray) (ar : List ByteArray) (lb : Int) (al : Bool) (hR : rowOf n = ⟨nm, ds, ar, lb, al⟩) (s : ByteArray) (hs : placeOf n i = s) (hz : s.size ≤ 3) (hgb : has s 103 = false) (xb : Bool) (hxb : has s 120 = xb) (w : World) :
    Calls Tryd.prog 19 #[.int .i64 n, .int .i64 i, .int .i64 k, .bool m] w fun e w' => e = .returned (.bool false) ∧ Below w.heap.size w w' := by
  have HR := Lib.hid (And.intro hR (And.intro hs (And.intro hz (And.intro hgb hxb))))
  clear hR hs hz hgb hxb
  go_enter Tryd.func19, Tryd.ntmps19
  go_wp2_with fail
  refine (place_v n i s HR.out.2.1 _).mono ?_
  rintro e w1 ⟨rfl, hb1⟩
  have B1 := Lib.hid hb1
  clear hb1
  go_wp2_with fail
  refine (rfind_v n _).mono ?_
  rintro e w2 ⟨A, rfl, _, hb2⟩
  have B2 := Lib.hid (B1.out.trans (hb2.mono B1.out.size))
  clear hb2
  rw [HR.out.1]
  unfold rc
  dsimp only
  obtain ⟨M, hM⟩ : ∃ M, ar.length = M := ⟨_, rfl⟩
  rw [hM]
  clear hM
  have hl1 : (w2.alloc (.cells #[.string nm, .string ds, .slice A M M, .int .i64 lb, .bool al] 25)).heap[w2.heap.size]? = some (.cells #[.string nm, .string ds, .slice A M M, .int .i64 lb, .bool al] 25 (0, 0)) := heap_alloc_new w2 _
  have B3 := Lib.hid (show Below w.heap.size w (w2.alloc (.cells #[.string nm, .string ds, .slice A M M, .int .i64 lb, .bool al] 25)) from B2.out.alloc B2.out.size _)
  obtain ⟨w3, hw3⟩ : ∃ w3, w2.alloc (.cells #[.string nm, .string ds, .slice A M M, .int .i64 lb, .bool al] 25) = w3 := ⟨_, rfl⟩
  rw [hw3] at hl1 B3
  have z4 : w3.cell? ⟨w2.heap.size, 4, none⟩ = some (.bool al) := by rw [cell_of_row _ _ _ _ _ _ hl1]; rfl
  clear hl1
  go_wp2_with fail
  refine (has_v s 103 103 rfl false HR.out.2.2.2.1 HR.out.2.2.1 _).mono ?_
  rintro e w4 ⟨rfl, rfl⟩
  go_wp2_with fail
  refine (has_v s 120 120 rfl xb HR.out.2.2.2.2 HR.out.2.2.1 _).mono ?_
  rintro e w4 ⟨rfl, rfl⟩
  go_wp2_with fail
  go_ret
  exact ⟨rfl, B3.out⟩
theorem rtakes_v (n i k : Int) (m : Bool) (w : World) : Calls Tryd.prog 19 #[.int .i64 n, .int .i64 i, .int .i64 k, .bool m] w fun e w' => e = .returned (.bool (takesR n i k m)) ∧ Below w.heap.size w w' := by
  obtain ⟨⟨nm, ds, ar, lb, al⟩, hR⟩ : ∃ R, rowOf n = R := ⟨_, rfl⟩
  obtain ⟨s1, s2, s3, s4, _, _⟩ := same_at n i
  have hal : machOf n = al := by rw [(table_same n).1, hR]
  have hz := place_small n i
  have hmu := must_same n
  rw [hR] at hmu
  have hto : i = -1 → placeOf n i = ds := fun h => by unfold placeOf; rw [if_pos h, hR]
  obtain ⟨s, hs⟩ : ∃ s, placeOf n i = s := ⟨_, rfl⟩
  rw [hs] at s1 s2 s3 s4 hz hto
  obtain ⟨xb, hxb⟩ : ∃ b, has s 120 = b := ⟨_, rfl⟩
  unfold takesR regR
  rw [s1, s2, s3, s4, hxb, hal]
  by_cases h0 : k = 0
  · subst h0
    rw [if_pos rfl]
    by_cases hi : i = -1
    · have c0 : (i == -1) = true := by rw [beq_iff_eq]; exact hi
      rw [decide_eq_true hi, Bool.true_and, hmu, ← hto hi]
      by_cases he : s = ⟨#[]⟩
      · have e1 : s.toList = [] := by rw [he]; decide +kernel
        have e2 : s.toList.isEmpty = true := by rw [e1]; rfl
        rw [decide_eq_true he, Bool.true_or]
        cases hgb : has s 103
        · exact rt0bf n i m nm ds ar lb al hR s hs hz hgb xb hxb c0 e1 e2 w
        · exact rt0bt n i m nm ds ar lb al hR s hs hz hgb xb hxb c0 e1 e2 w
      · have e1 : ¬ s.toList = [] := fun h => he (ByteArray.ext (Array.ext' (by rw [← ByteArray.toList_eq, h])))
        have e2 : s.toList.isEmpty = false := by cases h : s.toList; exact absurd h e1; rfl
        rw [decide_eq_false he, Bool.false_or]
        cases hgb : has s 103
        · exact rt0cf n i m nm ds ar lb al hR s hs hz hgb xb hxb c0 e1 e2 _ rfl w
        · exact rt0ct n i m nm ds ar lb al hR s hs hz hgb xb hxb c0 e1 e2 _ rfl w
    · have c0 : (i == -1) = false := by rw [beq_eq_false_iff_ne]; exact hi
      rw [decide_eq_false hi, Bool.false_and]
      cases hgb : has s 103
      · exact rt0af n i m nm ds ar lb al hR s hs hz hgb xb hxb c0 w
      · exact rt0at n i m nm ds ar lb al hR s hs hz hgb xb hxb c0 w
  rw [if_neg h0]
  by_cases h1 : k = 1
  · subst h1
    rw [if_pos rfl]
    cases hgb : has s 103 <;> cases m
    · cases al
      · simpa using rt1cf n i nm ds ar lb false hR s hs hz hgb xb hxb rfl w
      · simpa using rt1bf n i nm ds ar lb true hR s hs hz hgb xb hxb rfl w
    · simpa using rt1af n i nm ds ar lb al hR s hs hz hgb xb hxb w
    · cases al
      · simpa using rt1ct n i nm ds ar lb false hR s hs hz hgb xb hxb rfl w
      · simpa using rt1bt n i nm ds ar lb true hR s hs hz hgb xb hxb rfl w
    · simpa using rt1at n i nm ds ar lb al hR s hs hz hgb xb hxb w
  rw [if_neg h1]
  by_cases h2 : k = 2
  · subst h2
    rw [if_pos rfl]
    cases hgb : has s 103 <;> cases m
    · simpa using rt2bf n i nm ds ar lb al hR s hs hz hgb xb hxb w
    · simpa using rt2af n i nm ds ar lb al hR s hs hz hgb xb hxb w
    · simpa using rt2bt n i nm ds ar lb al hR s hs hz hgb xb hxb w
    · simpa using rt2at n i nm ds ar lb al hR s hs hz hgb xb hxb w
  rw [if_neg h2]
  by_cases h3 : k = 3
  · subst h3
    rw [if_pos rfl]
    cases hgb : has s 103 <;> cases m
    · simpa using rt3bf n i nm ds ar lb al hR s hs hz hgb xb hxb w
    · simpa using rt3af n i nm ds ar lb al hR s hs hz hgb xb hxb _ rfl w
    · simpa using rt3bt n i nm ds ar lb al hR s hs hz hgb xb hxb w
    · simpa using rt3at n i nm ds ar lb al hR s hs hz hgb xb hxb _ rfl w
  rw [if_neg h3]
  by_cases h4 : k = 4
  · subst h4
    rw [if_pos rfl]
    cases hgb : has s 103
    · exact rt4f n i m nm ds ar lb al hR s hs hz hgb xb hxb _ rfl w
    · exact rt4t n i m nm ds ar lb al hR s hs hz hgb xb hxb _ rfl w
  rw [if_neg h4]
  have d0 : (k == 0) = false := by rw [beq_eq_false_iff_ne]; exact h0
  have d1 : (k == 1) = false := by rw [beq_eq_false_iff_ne]; exact h1
  have d2 : (k == 2) = false := by rw [beq_eq_false_iff_ne]; exact h2
  have d3 : (k == 3) = false := by rw [beq_eq_false_iff_ne]; exact h3
  have d4 : (k == 4) = false := by rw [beq_eq_false_iff_ne]; exact h4
  cases hgb : has s 103
  · exact rt5f n i k d0 d1 d2 d3 d4 m nm ds ar lb al hR s hs hz hgb xb hxb w
  · exact rt5t n i k d0 d1 d2 d3 d4 m nm ds ar lb al hR s hs hz hgb xb hxb w
end Go.Proofs.YtmpcjjlffebljaaDoor
