/- What Place of the document answers. -/
import Derived.Test.YtmpcjjlffebljaaDoorPlaHas
import Derived.Test.YtmpcjjlffebljaaDoorTable
namespace Go.Proofs.YtmpcjjlffebljaaDoor
open Go.ChangeShapes Go.WideShapes Go.RowKit
set_option linter.unusedVariables false

theorem place_to (n : Int) (nm ds : ByteArray) (ar : List ByteArray) (lb : Int) (al : Bool) (M : Nat) (hR : rowOf n = ⟨nm, ds, ar, lb, al⟩) (hM : ar.length = M) (w : World) : Calls Tryd.prog 24 #[.int .i64 n, .int .i64 (-1)] w fun e w' => e = .returned (.string ds) ∧ Below w.heap.size w w' := by
  have HR := Lib.hid (And.intro hR hM)
  clear hR hM
  go_enter Tryd.func24, Tryd.ntmps24
  go_wp2_with fail
  refine (rfind_v n _).mono ?_
  rintro e w1 ⟨A, rfl, hA, hb1⟩
  have B1 := Lib.hid hb1
  have HA := Lib.hid hA
  clear hb1 hA
  rw [HR.out.1]
  unfold rc
  dsimp only
  rw [HR.out.2]
  have hl1 : (w1.alloc (.cells #[.string nm, .string ds, .slice A M M, .int .i64 lb, .bool al] 25)).heap[w1.heap.size]? = some (.cells #[.string nm, .string ds, .slice A M M, .int .i64 lb, .bool al] 25 (0, 0)) := heap_alloc_new w1 _
  have B2 := Lib.hid (show Below w.heap.size w (w1.alloc (.cells #[.string nm, .string ds, .slice A M M, .int .i64 lb, .bool al] 25)) from B1.out.alloc B1.out.size _)
  obtain ⟨w2, hw2⟩ : ∃ w2, w1.alloc (.cells #[.string nm, .string ds, .slice A M M, .int .i64 lb, .bool al] 25) = w2 := ⟨_, rfl⟩
  rw [hw2] at hl1 B2
  have z1 : w2.cell? ⟨w1.heap.size, 1, none⟩ = some (.string ds) := by rw [cell_of_row _ _ _ _ _ _ hl1]; rfl
  clear hl1
  go_wp2_with fail
  go_ret

  exact ⟨rfl, B2.out⟩
theorem place_in (n : Int) (k : Nat) (nm ds : ByteArray) (ar : List ByteArray) (lb : Int) (al : Bool) (M : Nat) (hR : rowOf n = ⟨nm, ds, ar, lb, al⟩) (hM : ar.length = M) (hk : k < M) (hM8 : M ≤ 8) (s : ByteArray) (hs : ar.getD k ⟨#[]⟩ = s) (w : World) : Calls Tryd.prog 24 #[.int .i64 n, .int .i64 (k : Int)] w fun e w' => e = .returned (.string s) ∧ Below w.heap.size w w' := by
  have c0 : ((k : Int) == -1) = false := by rw [beq_eq_false_iff_ne]; omega
  have c1 : decide (0 ≤ (k : Int)) = true := decide_eq_true (by omega)
  have c2 : decide ((k : Int) < (M : Int)) = true := decide_eq_true (by omega)
  have k1 : (k : Int) < (M : Int) := by omega
  have HS := Lib.hid hs
  clear hs
  have HR := Lib.hid (And.intro hR hM)
  clear hR hM
  go_enter Tryd.func24, Tryd.ntmps24
  go_wp2_with fail
  refine (rfind_v n _).mono ?_
  rintro e w1 ⟨A, rfl, hA, hb1⟩
  have B1 := Lib.hid hb1
  have HA := Lib.hid hA
  clear hb1 hA
  rw [HR.out.1]
  unfold rc
  dsimp only
  rw [HR.out.2]
  have hl1 : (w1.alloc (.cells #[.string nm, .string ds, .slice A M M, .int .i64 lb, .bool al] 25)).heap[w1.heap.size]? = some (.cells #[.string nm, .string ds, .slice A M M, .int .i64 lb, .bool al] 25 (0, 0)) := heap_alloc_new w1 _
  have B2 := Lib.hid (show Below w.heap.size w (w1.alloc (.cells #[.string nm, .string ds, .slice A M M, .int .i64 lb, .bool al] 25)) from B1.out.alloc B1.out.size _)
  obtain ⟨w2, hw2⟩ : ∃ w2, w1.alloc (.cells #[.string nm, .string ds, .slice A M M, .int .i64 lb, .bool al] 25) = w2 := ⟨_, rfl⟩
  have hA2 := HA.out
  rw [HR.out.1] at hA2
  obtain ⟨g, rfl, hz⟩ := (hA2.alloc (.cells #[.string nm, .string ds, .slice A M M, .int .i64 lb, .bool al] 25)).at k (by show k < ar.length; rw [HR.out.2]; exact hk)
  rw [hw2] at hl1 B2 hz
  have z2 : w2.cell? ⟨w1.heap.size, 2, none⟩ = some (.slice (some ⟨g, 0, none⟩) M M) := by rw [cell_of_row _ _ _ _ _ _ hl1]; rfl
  have z3 : w2.cell? ⟨g, k, none⟩ = some (.string s) := by rw [hz, ← HS.out]
  clear hl1 hz hA2
  go_wp2_with fail
  go_ret

  exact ⟨rfl, B2.out⟩
theorem place_low (n i : Int) (h1 : i ≠ -1) (h0 : i < 0) (nm ds : ByteArray) (ar : List ByteArray) (lb : Int) (al : Bool) (M : Nat) (hR : rowOf n = ⟨nm, ds, ar, lb, al⟩) (hM : ar.length = M) (w : World) : Calls Tryd.prog 24 #[.int .i64 n, .int .i64 i] w fun e w' => e = .returned (.string ⟨#[]⟩) ∧ Below w.heap.size w w' := by
  have c0 : (i == -1) = false := by rw [beq_eq_false_iff_ne]; exact h1
  have c1 : decide (0 ≤ i) = false := decide_eq_false (by omega)
  clear h1
  have HR := Lib.hid (And.intro hR hM)
  clear hR hM
  go_enter Tryd.func24, Tryd.ntmps24
  go_wp2_with fail
  refine (rfind_v n _).mono ?_
  rintro e w1 ⟨A, rfl, hA, hb1⟩
  have B1 := Lib.hid hb1
  have HA := Lib.hid hA
  clear hb1 hA
  rw [HR.out.1]
  unfold rc
  dsimp only
  rw [HR.out.2]
  have hl1 : (w1.alloc (.cells #[.string nm, .string ds, .slice A M M, .int .i64 lb, .bool al] 25)).heap[w1.heap.size]? = some (.cells #[.string nm, .string ds, .slice A M M, .int .i64 lb, .bool al] 25 (0, 0)) := heap_alloc_new w1 _
  have B2 := Lib.hid (show Below w.heap.size w (w1.alloc (.cells #[.string nm, .string ds, .slice A M M, .int .i64 lb, .bool al] 25)) from B1.out.alloc B1.out.size _)
  obtain ⟨w2, hw2⟩ : ∃ w2, w1.alloc (.cells #[.string nm, .string ds, .slice A M M, .int .i64 lb, .bool al] 25) = w2 := ⟨_, rfl⟩
  clear hl1
  go_wp2_with fail
  go_ret
  exact ⟨rfl, by rw [hw2] at B2; exact B2.out⟩
theorem place_high (n i : Int) (nm ds : ByteArray) (ar : List ByteArray) (lb : Int) (al : Bool) (M : Nat) (hR : rowOf n = ⟨nm, ds, ar, lb, al⟩) (hM : ar.length = M) (h0 : 0 ≤ i) (h1 : (M : Int) ≤ i) (w : World) : Calls Tryd.prog 24 #[.int .i64 n, .int .i64 i] w fun e w' => e = .returned (.string ⟨#[]⟩) ∧ Below w.heap.size w w' := by
  have c0 : (i == -1) = false := by rw [beq_eq_false_iff_ne]; omega
  have c1 : decide (0 ≤ i) = true := decide_eq_true h0
  have c2 : decide (i < (M : Int)) = false := decide_eq_false (by omega)
  have HR := Lib.hid (And.intro hR hM)
  clear hR hM
  go_enter Tryd.func24, Tryd.ntmps24
  go_wp2_with fail
  refine (rfind_v n _).mono ?_
  rintro e w1 ⟨A, rfl, hA, hb1⟩
  have B1 := Lib.hid hb1
  have HA := Lib.hid hA
  clear hb1 hA
  rw [HR.out.1]
  unfold rc
  dsimp only
  rw [HR.out.2]
  have hl1 : (w1.alloc (.cells #[.string nm, .string ds, .slice A M M, .int .i64 lb, .bool al] 25)).heap[w1.heap.size]? = some (.cells #[.string nm, .string ds, .slice A M M, .int .i64 lb, .bool al] 25 (0, 0)) := heap_alloc_new w1 _
  have B2 := Lib.hid (show Below w.heap.size w (w1.alloc (.cells #[.string nm, .string ds, .slice A M M, .int .i64 lb, .bool al] 25)) from B1.out.alloc B1.out.size _)
  obtain ⟨w2, hw2⟩ : ∃ w2, w1.alloc (.cells #[.string nm, .string ds, .slice A M M, .int .i64 lb, .bool al] 25) = w2 := ⟨_, rfl⟩
  rw [hw2] at hl1 B2
  have z2 : w2.cell? ⟨w1.heap.size, 2, none⟩ = some (.slice A M M) := by rw [cell_of_row _ _ _ _ _ _ hl1]; rfl
  clear hl1
  go_wp2_with fail
  go_ret

  exact ⟨rfl, B2.out⟩
theorem place_v (n i : Int) (s : ByteArray) (h : placeOf n i = s) (w : World) : Calls Tryd.prog 24 #[.int .i64 n, .int .i64 i] w fun e w' => e = .returned (.string s) ∧ Below w.heap.size w w' := by
  obtain ⟨⟨nm, ds, ar, lb, al⟩, hR⟩ : ∃ R, rowOf n = R := ⟨_, rfl⟩
  have hM8 := (many_at n).2.2
  unfold many at hM8
  unfold placeOf many at h
  rw [hR] at h hM8
  by_cases hi : i = -1
  · subst hi
    rw [if_pos rfl] at h
    subst h
    exact place_to n nm ds ar lb al _ hR rfl w
  · rw [if_neg hi] at h
    by_cases h0 : i < 0
    · rw [if_neg (by omega)] at h
      subst h
      exact place_low n i hi h0 nm ds ar lb al _ hR rfl w
    · by_cases h1 : (ar.length : Int) ≤ i
      · rw [if_neg (by show ¬ (0 ≤ i ∧ i < (ar.length : Int)); omega)] at h
        subst h
        exact place_high n i nm ds ar lb al _ hR rfl (by omega) h1 w
      · rw [if_pos (by show 0 ≤ i ∧ i < (ar.length : Int); omega)] at h
        have := place_in n i.toNat nm ds ar lb al _ hR rfl (by omega) hM8 s h w
        rwa [show ((i.toNat : Nat) : Int) = i by omega] at this
end Go.Proofs.YtmpcjjlffebljaaDoor
