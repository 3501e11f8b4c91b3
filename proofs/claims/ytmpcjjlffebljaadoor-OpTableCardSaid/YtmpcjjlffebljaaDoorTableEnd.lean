/- OpTable's walk, all its ways together. -/
import Derived.Test.YtmpcjjlffebljaaDoorTableWA
import Derived.Test.YtmpcjjlffebljaaDoorTableWB
import Derived.Test.YtmpcjjlffebljaaDoorTableWC
import Derived.Test.YtmpcjjlffebljaaDoorTableWD
namespace Go.Proofs.YtmpcjjlffebljaaDoor
open Go.ChangeShapes Go.WideShapes Go.RowKit
set_option linter.unusedVariables false

theorem list_empty (l : List UInt8) : (l = [] → l.isEmpty = true) ∧ (¬ l = [] → l.isEmpty = false) := by cases l <;> simp
/-- What stands between 20 and 23 gives nothing; only the switch has cases. -/
theorem may_last (n : Int) (h1 : 20 ≤ n) (h2 : n ≤ 23) : mayOf n = false := by
  have : n = 20 ∨ n = 21 ∨ n = 22 ∨ n = 23 := by omega
  rcases this with rfl | rfl | rfl | rfl <;> decide +kernel
theorem lb_low (n : Int) (h : (rowOf n).lb < 0) : n = 22 := by
  rcases ops n with h1 | rfl | rfl | rfl | rfl | rfl | rfl | rfl | rfl | rfl | rfl | rfl | rfl | h1
  · obtain ⟨s, hs⟩ := rowOf_two n h1
    rw [hs] at h
    exact absurd h (by show ¬ (0 : Int) < 0; omega)
  all_goals first
    | rfl
    | exact absurd h (by decide +kernel)
    | (rw [rowOf_none n h1] at h; exact absurd h (by show ¬ (0 : Int) < 0; omega))
theorem opTable_in (n cs : Int) (h0 : 0 ≤ cs) (h1 : cs ≤ 4096) (w : World) (hG : Glob w) : Calls Tryd.prog 3 #[.int .i64 n, .int .i64 cs] w fun e w' => e = .returned (.bool true) ∧ Below w.heap.size w w' := by
  obtain ⟨⟨nm, ds, ar, lb, al⟩, hR⟩ : ∃ R, rowOf n = R := ⟨_, rfl⟩
  obtain ⟨hma, hla, hlb⟩ := table_same n
  rw [hR] at hma hlb
  have hlb := hlb cs
  have hM8 := (many_at n).2.2
  unfold many at hM8
  rw [hR] at hM8
  have hmay : mayOf n = (ds.toList != []) := by unfold mayOf; rw [hR]
  have hneg : lb < 0 → n = 22 := fun h => lb_low n (by rw [hR]; exact h)
  obtain ⟨e1, e2⟩ := list_empty ds.toList
  by_cases h20 : 20 ≤ n
  · have c20 := decide_eq_true h20
    have h19 : ¬ n = 19 := by omega
    have c19 : (n == 19) = false := by rw [beq_eq_false_iff_ne]; exact h19
    by_cases h23 : n ≤ 23
    · have c23 := decide_eq_true h23
      have hm := may_last n h20 h23
      have hd : ds.toList = [] := by
        rw [hmay] at hm
        simpa using hm
      rw [c20, c23] at hla
      by_cases hl : lb < 0
      · exact table_e n cs h0 h1 nm ds ar lb al _ _ hR rfl hM8 rfl c19 c20 c23 hd (e1 hd) (decide_eq_true hl) (if_neg h19) (by unfold mustOf; rw [hm]; rfl) hm hma hla (by rw [hlb, if_pos hl]) w hG
      · exact table_d n cs h0 h1 nm ds ar lb al _ _ hR rfl hM8 rfl c19 c20 c23 hd (e1 hd) (decide_eq_false hl) (if_neg h19) (by unfold mustOf; rw [hm]; rfl) hm hma hla (by rw [hlb, if_neg hl]) w hG
    · have c23 := decide_eq_false h23
      have hl : ¬ lb < 0 := fun h => by have := hneg h; omega
      rw [c20, c23] at hla
      by_cases hd : ds.toList = []
      · have hm : mayOf n = false := by rw [hmay, hd]; rfl
        exact table_g n cs h0 h1 nm ds ar lb al _ _ hR rfl hM8 rfl c19 c20 c23 hd (e1 hd) (decide_eq_false hl) (if_neg h19) (by unfold mustOf; rw [hm]; rfl) hm hma hla (by rw [hlb, if_neg hl]) w hG
      · have hm : mayOf n = true := by rw [hmay, bne_iff_ne]; exact hd
        exact table_f n cs h0 h1 nm ds ar lb al _ _ hR rfl hM8 rfl c19 c20 c23 hd (e2 hd) (decide_eq_false hl) (if_neg h19) (by unfold mustOf; rw [hm, bne, c19]; rfl) hm hma hla (by rw [hlb, if_neg hl]) w hG
  · have c20 := decide_eq_false h20
    have c23 : decide (n ≤ 23) = true := decide_eq_true (by omega)
    have hl : ¬ lb < 0 := fun h => by have := hneg h; omega
    rw [c20, c23] at hla
    by_cases hd : ds.toList = []
    · have hm : mayOf n = false := by rw [hmay, hd]; rfl
      have h19 : ¬ n = 19 := by rintro rfl; rw [show mayOf 19 = true by decide +kernel] at hm; cases hm
      have c19 : (n == 19) = false := by rw [beq_eq_false_iff_ne]; exact h19
      exact table_b n cs h0 h1 nm ds ar lb al _ _ hR rfl hM8 rfl c19 c20 c23 hd (e1 hd) (decide_eq_false hl) (if_neg h19) (by unfold mustOf; rw [hm]; rfl) hm hma hla (by rw [hlb, if_neg hl]) w hG
    · have hm : mayOf n = true := by rw [hmay, bne_iff_ne]; exact hd
      by_cases h19 : n = 19
      · have c19 : (n == 19) = true := by rw [beq_iff_eq]; exact h19
        exact table_c n cs h0 h1 nm ds ar lb al _ _ hR rfl hM8 rfl c19 c20 c23 hd (e2 hd) (decide_eq_false hl) (if_pos h19) (by unfold mustOf; rw [hm, bne, c19]; rfl) hm hma hla (by rw [hlb, if_neg hl]) w hG
      · have c19 : (n == 19) = false := by rw [beq_eq_false_iff_ne]; exact h19
        exact table_a n cs h0 h1 nm ds ar lb al _ _ hR rfl hM8 rfl c19 c20 c23 hd (e2 hd) (decide_eq_false hl) (if_neg h19) (by unfold mustOf; rw [hm, bne, c19]; rfl) hm hma hla (by rw [hlb, if_neg hl]) w hG
theorem opTable_v (n cs : Int) (w : World) (hG : Glob w) : Calls Tryd.prog 3 #[.int .i64 n, .int .i64 cs] w fun e w' => e = .returned (.bool true) ∧ Below w.heap.size w w' := by
  by_cases h : cs < 0 ∨ 4096 < cs
  · exact opTable_out n cs h w hG
  · exact opTable_in n cs (by omega) (by omega) w hG
end Go.Proofs.YtmpcjjlffebljaaDoor
