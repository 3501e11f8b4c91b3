/- What the table says is what the small functions say; OpTable with cases beyond the bounds. -/
import Derived.Test.YtmpcjjlffebljaaDoorRFind
import Derived.Test.YtmpcjjlffebljaaDoorWorks
import Derived.StillTailTactics
namespace Go.Proofs.YtmpcjjlffebljaaDoor
open Go.ChangeShapes Go.WideShapes Go.RowKit
set_option linter.unusedVariables false

theorem spot_lt {w : World} {a : Addr} {v : Value} (h : w.cell? a = some v) : a.block < w.heap.size := by
  unfold World.cell? at h
  cases hb : w.heap[a.block]? with
  | none => simp [hb] at h
  | some c => exact (Array.getElem?_eq_some_iff.1 hb).1
/-- What the table says is what the small functions say. -/
theorem table_same (n : Int) : machOf n = (rowOf n).al ∧ lastOf n = (decide (20 ≤ n) && decide (n ≤ 23)) ∧ (∀ cs, labsOf n cs = if (rowOf n).lb < 0 then cs + 1 else (rowOf n).lb) := by
  have hl : lastOf n = (decide (20 ≤ n) && decide (n ≤ 23)) := by
    unfold lastOf
    rw [Bool.eq_iff_iff]
    simp
    omega
  refine ⟨?_, hl, ?_⟩
  · unfold machOf
    rcases ops n with h | rfl | rfl | rfl | rfl | rfl | rfl | rfl | rfl | rfl | rfl | rfl | rfl | h
    · obtain ⟨s, hs⟩ := rowOf_two n h
      rw [hs]
      have : (two s).al = false := rfl
      rw [this, ← Bool.not_eq_true]
      simp
      omega
    all_goals try rfl
    · rw [rowOf_none n h]
      have : rw0.al = false := rfl
      rw [this, ← Bool.not_eq_true]
      simp
      omega
  · intro cs
    unfold labsOf
    rcases ops n with h | rfl | rfl | rfl | rfl | rfl | rfl | rfl | rfl | rfl | rfl | rfl | rfl | h
    · obtain ⟨s, hs⟩ := rowOf_two n h
      rw [hs]
      have : (two s).lb = 0 := rfl
      rw [this, if_neg (by omega), if_neg (by omega), if_neg (by omega), if_neg (by omega)]
    all_goals try rfl
    · rw [rowOf_none n h]
      have : rw0.lb = 0 := rfl
      rw [this, if_neg (by omega), if_neg (by omega), if_neg (by omega), if_neg (by omega)]
theorem four_below {w w' : World} {g : Nat} {x0 x1 x2 x4 : Value} (hb : Below w.heap.size w w') (h0 : w.cell? ⟨g, 0, none⟩ = some x0) (h1 : w.cell? ⟨g, 1, none⟩ = some x1) (h2 : w.cell? ⟨g, 2, none⟩ = some x2) (h4 : w.cell? ⟨g, 4, none⟩ = some x4) :
    w'.cell? ⟨g, 0, none⟩ = some x0 ∧ w'.cell? ⟨g, 1, none⟩ = some x1 ∧ w'.cell? ⟨g, 2, none⟩ = some x2 ∧ w'.cell? ⟨g, 4, none⟩ = some x4 := by
  have hg : g < w.heap.size := spot_lt h0
  exact ⟨(hb.cell (p := ⟨g, 0, none⟩) hg).trans h0, (hb.cell (p := ⟨g, 1, none⟩) hg).trans h1, (hb.cell (p := ⟨g, 2, none⟩) hg).trans h2, (hb.cell (p := ⟨g, 4, none⟩) hg).trans h4⟩
theorem below_drew (B : Nat) (w : World) : Below B w w.drew := ⟨rfl, rfl, rfl, Nat.le_refl _, fun _ _ => rfl⟩
theorem is_w (n : Int) (b : Bool) (h : isOp n = b) (w : World) : Calls Tryd.prog 10 #[.int .i64 n] w fun e w' => e = .returned (.bool b) ∧ w' = w := (is_v n b h w).mono fun e w' k => ⟨k.1, k.2.symm⟩
theorem name_w (n : Int) (s : ByteArray) (h : nameOf n = s) (w : World) (hG : Glob w) : Calls Tryd.prog 11 #[.int .i64 n] w fun e w' => e = .returned (.string s) ∧ w' = w := (name_v n s h w hG).mono fun e w' k => ⟨k.1, k.2.symm⟩
theorem mach_w (n : Int) (b : Bool) (h : machOf n = b) (w : World) : Calls Tryd.prog 12 #[.int .i64 n] w fun e w' => e = .returned (.bool b) ∧ w' = w := (mach_v n b h w).mono fun e w' k => ⟨k.1, k.2.symm⟩
theorem last_w (n : Int) (b : Bool) (h : lastOf n = b) (w : World) : Calls Tryd.prog 13 #[.int .i64 n] w fun e w' => e = .returned (.bool b) ∧ w' = w := (last_v n b h w).mono fun e w' k => ⟨k.1, k.2.symm⟩
theorem labs_w (n cs : Int) (h0 : 0 ≤ cs) (h1 : cs ≤ 4096) (v : Int) (h : labsOf n cs = v) (w : World) : Calls Tryd.prog 14 #[.int .i64 n, .int .i64 cs] w fun e w' => e = .returned (.int .i64 v) ∧ w' = w := (labs_v n cs h0 h1 v h w).mono fun e w' k => ⟨k.1, k.2.symm⟩
theorem opTable_out (n cs : Int) (h : cs < 0 ∨ 4096 < cs) (w : World) (hG : Glob w) : Calls Tryd.prog 3 #[.int .i64 n, .int .i64 cs] w fun e w' => e = .returned (.bool true) ∧ Below w.heap.size w w' := by
  have HG := Lib.hid hG
  clear hG
  by_cases h0 : cs < 0
  · have c0 : decide (cs < 0) = true := decide_eq_true h0
    clear h h0
    go_enter Tryd.func3, Tryd.ntmps3
    go_wp2_with fail
    refine (works_v _ HG.out).mono ?_
    rintro e w1 ⟨rfl, hb⟩
    have B1 := Lib.hid hb
    clear hb
    go_wp2_with fail
    go_ret
    exact ⟨rfl, B1.out⟩
  · have c0 : decide (cs < 0) = false := decide_eq_false h0
    have c1 : decide (4096 < cs) = true := decide_eq_true (by omega)
    clear h h0
    go_enter Tryd.func3, Tryd.ntmps3
    go_wp2_with fail
    refine (works_v _ HG.out).mono ?_
    rintro e w1 ⟨rfl, hb⟩
    have B1 := Lib.hid hb
    clear hb
    go_wp2_with fail
    go_ret
    exact ⟨rfl, B1.out⟩
end Go.Proofs.YtmpcjjlffebljaaDoor
