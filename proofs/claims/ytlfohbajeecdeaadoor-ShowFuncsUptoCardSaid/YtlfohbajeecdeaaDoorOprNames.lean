
/- The table of names, and what Name and Find of op answer. -/
import Derived.Test.YtlfohbajeecdeaaDoorOprMid
import Derived.Deep.MidRow
namespace Go.Proofs.YtlfohbajeecdeaaDoor.Opr
open Go.ChangeShapes Go.WideShapes Go.RowKit
set_option linter.unusedVariables false

def nameOf (n : Int) : ByteArray := (rowOf n).nm
/-- The table as a value. -/
def nameRow : Array Value := #[.string ⟨#[]⟩, .string ⟨#[97, 100, 100]⟩, .string ⟨#[115, 117, 98]⟩, .string ⟨#[109, 117, 108]⟩, .string ⟨#[97, 110, 100]⟩, .string ⟨#[111, 114]⟩, .string ⟨#[120, 111, 114]⟩, .string ⟨#[115, 104, 108]⟩, .string ⟨#[115, 104, 114]⟩, .string ⟨#[115, 97, 114]⟩, .string ⟨#[100, 105, 118]⟩, .string ⟨#[114, 101, 109]⟩, .string ⟨#[101, 113]⟩, .string ⟨#[110, 101]⟩, .string ⟨#[108, 116]⟩, .string ⟨#[108, 101]⟩, .string ⟨#[99, 111, 112, 121]⟩, .string ⟨#[108, 111, 97, 100]⟩, .string ⟨#[115, 116, 111, 114, 101]⟩, .string ⟨#[99, 97, 108, 108]⟩, .string ⟨#[98, 114]⟩, .string ⟨#[98, 114, 105, 102]⟩, .string ⟨#[115, 119, 105, 116, 99, 104]⟩, .string ⟨#[114, 101, 116]⟩, .string ⟨#[109, 111, 118, 101]⟩, .string ⟨#[115, 112, 105, 108, 108]⟩, .string ⟨#[114, 101, 108, 111, 97, 100]⟩, .string ⟨#[115, 119, 97, 112]⟩]
theorem nameRow_at (k : Nat) (hk : k < 28) : nameRow[k]? = some (.string (nameOf (k : Int))) := by
  have h : k = 0 ∨ k = 1 ∨ k = 2 ∨ k = 3 ∨ k = 4 ∨ k = 5 ∨ k = 6 ∨ k = 7 ∨ k = 8 ∨ k = 9 ∨ k = 10 ∨ k = 11 ∨ k = 12 ∨ k = 13 ∨ k = 14 ∨ k = 15 ∨ k = 16 ∨ k = 17 ∨ k = 18 ∨ k = 19 ∨ k = 20 ∨ k = 21 ∨ k = 22 ∨ k = 23 ∨ k = 24 ∨ k = 25 ∨ k = 26 ∨ k = 27 := by omega
  clear hk
  rcases h with rfl | rfl | rfl | rfl | rfl | rfl | rfl | rfl | rfl | rfl | rfl | rfl | rfl | rfl | rfl | rfl | rfl | rfl | rfl | rfl | rfl | rfl | rfl | rfl | rfl | rfl | rfl | rfl
  all_goals rfl
/-- The program's table of names, in memory. -/
def Glob (w : World) : Prop := 0 < w.heap.size ∧ w.rangeAt 0 0 nameRow.toList
theorem Glob.below {B : Nat} {w w' : World} (h : Glob w) (hb : Below B w w') (hB : 0 < B) : Glob w' :=
  ⟨Nat.lt_of_lt_of_le h.1 hb.size, fun j v hj => (hb.cell (p := ⟨0, 0 + j, none⟩) hB).trans (h.2 j v hj)⟩
theorem Glob.at {w : World} (h : Glob w) (k : Nat) (hk : k < 28) : w.cell? ⟨0, k, none⟩ = some (.string (nameOf (k : Int))) := by
  have := h.2 k _ (by rw [Array.getElem?_toList]; exact nameRow_at k hk)
  rwa [Nat.zero_add] at this
theorem size47 : (Tryd.prog.info? 91).map (·.size) = some nameRow.toList.length := by kernel_rfl
theorem load_names {ops : Array Oper} {rest : List Oper} {o : Oper} {a : Act} {w : World} {Q : Exit → Act → World → Prop} (hgd : o.guard = none) (x : Operand) (ho : o.op = .load 91 x)
    (hx : a.eval x = .pointer (some ⟨0, 0, none⟩)) (hG : Glob w) (h : wpList Tryd.prog ops Q rest (a.put o.dst (.agg nameRow)) w) : wpList Tryd.prog ops Q (o :: rest) a w :=
  wpList_load_mid hgd 91 x ho 0 0 hx nameRow.toList _ hG.2 Tryd.underlying91 rfl size47 h
theorem index_0 (W : World) : (Instr.index 91 (.agg nameRow) (.int .i64 0)).run Tryd.prog W = .ok (.string (nameOf 0)) W := by kernel_rfl
theorem index_1 (W : World) : (Instr.index 91 (.agg nameRow) (.int .i64 1)).run Tryd.prog W = .ok (.string (nameOf 1)) W := by kernel_rfl
theorem index_2 (W : World) : (Instr.index 91 (.agg nameRow) (.int .i64 2)).run Tryd.prog W = .ok (.string (nameOf 2)) W := by kernel_rfl
theorem index_3 (W : World) : (Instr.index 91 (.agg nameRow) (.int .i64 3)).run Tryd.prog W = .ok (.string (nameOf 3)) W := by kernel_rfl
theorem index_4 (W : World) : (Instr.index 91 (.agg nameRow) (.int .i64 4)).run Tryd.prog W = .ok (.string (nameOf 4)) W := by kernel_rfl
theorem index_5 (W : World) : (Instr.index 91 (.agg nameRow) (.int .i64 5)).run Tryd.prog W = .ok (.string (nameOf 5)) W := by kernel_rfl
theorem index_6 (W : World) : (Instr.index 91 (.agg nameRow) (.int .i64 6)).run Tryd.prog W = .ok (.string (nameOf 6)) W := by kernel_rfl
theorem index_7 (W : World) : (Instr.index 91 (.agg nameRow) (.int .i64 7)).run Tryd.prog W = .ok (.string (nameOf 7)) W := by kernel_rfl
theorem index_8 (W : World) : (Instr.index 91 (.agg nameRow) (.int .i64 8)).run Tryd.prog W = .ok (.string (nameOf 8)) W := by kernel_rfl
theorem index_9 (W : World) : (Instr.index 91 (.agg nameRow) (.int .i64 9)).run Tryd.prog W = .ok (.string (nameOf 9)) W := by kernel_rfl
theorem index_10 (W : World) : (Instr.index 91 (.agg nameRow) (.int .i64 10)).run Tryd.prog W = .ok (.string (nameOf 10)) W := by kernel_rfl
theorem index_11 (W : World) : (Instr.index 91 (.agg nameRow) (.int .i64 11)).run Tryd.prog W = .ok (.string (nameOf 11)) W := by kernel_rfl
theorem index_12 (W : World) : (Instr.index 91 (.agg nameRow) (.int .i64 12)).run Tryd.prog W = .ok (.string (nameOf 12)) W := by kernel_rfl
theorem index_13 (W : World) : (Instr.index 91 (.agg nameRow) (.int .i64 13)).run Tryd.prog W = .ok (.string (nameOf 13)) W := by kernel_rfl
theorem index_14 (W : World) : (Instr.index 91 (.agg nameRow) (.int .i64 14)).run Tryd.prog W = .ok (.string (nameOf 14)) W := by kernel_rfl
theorem index_15 (W : World) : (Instr.index 91 (.agg nameRow) (.int .i64 15)).run Tryd.prog W = .ok (.string (nameOf 15)) W := by kernel_rfl
theorem index_16 (W : World) : (Instr.index 91 (.agg nameRow) (.int .i64 16)).run Tryd.prog W = .ok (.string (nameOf 16)) W := by kernel_rfl
theorem index_17 (W : World) : (Instr.index 91 (.agg nameRow) (.int .i64 17)).run Tryd.prog W = .ok (.string (nameOf 17)) W := by kernel_rfl
theorem index_18 (W : World) : (Instr.index 91 (.agg nameRow) (.int .i64 18)).run Tryd.prog W = .ok (.string (nameOf 18)) W := by kernel_rfl
theorem index_19 (W : World) : (Instr.index 91 (.agg nameRow) (.int .i64 19)).run Tryd.prog W = .ok (.string (nameOf 19)) W := by kernel_rfl
theorem index_20 (W : World) : (Instr.index 91 (.agg nameRow) (.int .i64 20)).run Tryd.prog W = .ok (.string (nameOf 20)) W := by kernel_rfl
theorem index_21 (W : World) : (Instr.index 91 (.agg nameRow) (.int .i64 21)).run Tryd.prog W = .ok (.string (nameOf 21)) W := by kernel_rfl
theorem index_22 (W : World) : (Instr.index 91 (.agg nameRow) (.int .i64 22)).run Tryd.prog W = .ok (.string (nameOf 22)) W := by kernel_rfl
theorem index_23 (W : World) : (Instr.index 91 (.agg nameRow) (.int .i64 23)).run Tryd.prog W = .ok (.string (nameOf 23)) W := by kernel_rfl
theorem index_24 (W : World) : (Instr.index 91 (.agg nameRow) (.int .i64 24)).run Tryd.prog W = .ok (.string (nameOf 24)) W := by kernel_rfl
theorem index_25 (W : World) : (Instr.index 91 (.agg nameRow) (.int .i64 25)).run Tryd.prog W = .ok (.string (nameOf 25)) W := by kernel_rfl
theorem index_26 (W : World) : (Instr.index 91 (.agg nameRow) (.int .i64 26)).run Tryd.prog W = .ok (.string (nameOf 26)) W := by kernel_rfl
theorem index_27 (W : World) : (Instr.index 91 (.agg nameRow) (.int .i64 27)).run Tryd.prog W = .ok (.string (nameOf 27)) W := by kernel_rfl
theorem index_run (k : Nat) (hk : k < 28) (s : ByteArray) (hs : nameOf (k : Int) = s) (W : World) : (Instr.index 91 (.agg nameRow) (.int .i64 (k : Int))).run Tryd.prog W = .ok (.string s) W := by
  subst hs
  have h : k = 0 ∨ k = 1 ∨ k = 2 ∨ k = 3 ∨ k = 4 ∨ k = 5 ∨ k = 6 ∨ k = 7 ∨ k = 8 ∨ k = 9 ∨ k = 10 ∨ k = 11 ∨ k = 12 ∨ k = 13 ∨ k = 14 ∨ k = 15 ∨ k = 16 ∨ k = 17 ∨ k = 18 ∨ k = 19 ∨ k = 20 ∨ k = 21 ∨ k = 22 ∨ k = 23 ∨ k = 24 ∨ k = 25 ∨ k = 26 ∨ k = 27 := by omega
  clear hk
  rcases h with rfl | rfl | rfl | rfl | rfl | rfl | rfl | rfl | rfl | rfl | rfl | rfl | rfl | rfl | rfl | rfl | rfl | rfl | rfl | rfl | rfl | rfl | rfl | rfl | rfl | rfl | rfl | rfl
  · exact index_0 W
  · exact index_1 W
  · exact index_2 W
  · exact index_3 W
  · exact index_4 W
  · exact index_5 W
  · exact index_6 W
  · exact index_7 W
  · exact index_8 W
  · exact index_9 W
  · exact index_10 W
  · exact index_11 W
  · exact index_12 W
  · exact index_13 W
  · exact index_14 W
  · exact index_15 W
  · exact index_16 W
  · exact index_17 W
  · exact index_18 W
  · exact index_19 W
  · exact index_20 W
  · exact index_21 W
  · exact index_22 W
  · exact index_23 W
  · exact index_24 W
  · exact index_25 W
  · exact index_26 W
  · exact index_27 W
theorem nameOf_none (n : Int) (h : n < 1 ∨ 27 < n) : nameOf n = ⟨#[]⟩ := by unfold nameOf; rw [rowOf_none n h]; rfl
theorem name_in (k : Nat) (hk : k < 28) (h0 : 0 < k) (s : ByteArray) (h : nameOf (k : Int) = s) (w : World) (hG : Glob w) :
    Calls Tryd.prog 51 #[.int .i64 (k : Int)] w fun e w' => e = .returned (.string s) ∧ w = w' := by
  have hc := hG.at k hk
  rw [h] at hc
  have HG := Lib.hid hG
  have k1 : (k : Int) < 28 := by omega
  have ho : isOp (k : Int) = true := by unfold isOp; simp; omega
  have HO := Lib.hid ho
  clear h ho hG
  go_enter Tryd.func51, Tryd.ntmps51
  go_wp2_with fail
  refine (is_v (k : Int) true HO.out _).mono ?_
  rintro e w1 ⟨rfl, rfl⟩
  go_wp2_with fail
  go_ret
  exact ⟨rfl, rfl⟩
theorem name_out (n : Int) (h : n < 1 ∨ 27 < n) (w : World) : Calls Tryd.prog 51 #[.int .i64 n] w fun e w' => e = .returned (.string ⟨#[]⟩) ∧ w = w' := by
  have ho : isOp n = false := by
    unfold isOp
    rw [Bool.and_eq_false_iff, decide_eq_false_iff_not, decide_eq_false_iff_not]
    omega
  have HO := Lib.hid ho
  clear h ho
  go_enter Tryd.func51, Tryd.ntmps51
  go_wp2_with fail
  refine (is_v n false HO.out _).mono ?_
  rintro e w1 ⟨rfl, rfl⟩
  go_wp2_with fail
  go_ret
  exact ⟨rfl, rfl⟩
theorem name_v (n : Int) (s : ByteArray) (h : nameOf n = s) (w : World) (hG : Glob w) : Calls Tryd.prog 51 #[.int .i64 n] w fun e w' => e = .returned (.string s) ∧ w = w' := by
  by_cases hn : n < 1 ∨ 27 < n
  · rw [nameOf_none n hn] at h
    subst h
    exact name_out n hn w
  · obtain ⟨k, rfl⟩ : ∃ k : Nat, n = (k : Int) := ⟨n.toNat, by omega⟩
    exact name_in k (by omega) (by omega) s h w hG
/-- What Find answers of a text. -/
def FindS (s : ByteArray) (r : Int) (b : Bool) : Prop := (b = true ∧ 1 ≤ r ∧ r ≤ 27 ∧ nameOf r = s) ∨ (b = false ∧ r = 0 ∧ ∀ k : Nat, 1 ≤ k → k < 28 → nameOf (k : Int) ≠ s)
def FindQ (s : ByteArray) (w : World) (e : Ending) (w' : World) : Prop := ∃ r b, FindS s r b ∧ e = .returned (.tuple #[.int .i64 r, .bool b]) ∧ w = w'
theorem names_apart : ∀ j k : Fin 28, 1 ≤ j.val → 1 ≤ k.val → nameOf (j.val : Int) = nameOf (k.val : Int) → j = k := by decide +kernel
theorem names_some : ∀ k : Fin 28, 1 ≤ k.val → nameOf (k.val : Int) ≠ ⟨#[]⟩ := by decide +kernel
theorem FindS.of_op {n : Int} (h1 : 1 ≤ n) (h2 : n ≤ 27) {s : ByteArray} (hs : nameOf n = s) {r : Int} {b : Bool} (h : FindS s r b) : b = true ∧ r = n := by
  rcases h with ⟨hb, h3, h4, h5⟩ | ⟨hb, _, h5⟩
  · refine ⟨hb, ?_⟩
    have := names_apart ⟨r.toNat, by omega⟩ ⟨n.toNat, by omega⟩ (by simp; omega) (by simp; omega) (by
      show nameOf (r.toNat : Int) = nameOf (n.toNat : Int)
      rw [show (r.toNat : Int) = r by omega, show (n.toNat : Int) = n by omega, h5, hs])
    injection this with this
    omega
  · exact absurd (by rw [show ((n.toNat : Nat) : Int) = n by omega]; exact hs) (h5 n.toNat (by omega) (by omega))
theorem FindS.of_none {r : Int} {b : Bool} (h : FindS ⟨#[]⟩ r b) : b = false ∧ r = 0 := by
  rcases h with ⟨hb, h3, h4, h5⟩ | ⟨hb, h3, _⟩
  · exact absurd (by rw [show ((r.toNat : Nat) : Int) = r by omega]; exact h5) (names_some ⟨r.toNat, by omega⟩ (by simp; omega))
  · exact ⟨hb, h3⟩
theorem FindS.is {s : ByteArray} {r : Int} {b : Bool} (h : FindS s r b) : isOp r = b := by
  rcases h with ⟨rfl, h3, h4, _⟩ | ⟨rfl, rfl, _⟩
  · unfold isOp; simp; omega
  · rfl
end Go.Proofs.YtlfohbajeecdeaaDoor.Opr
