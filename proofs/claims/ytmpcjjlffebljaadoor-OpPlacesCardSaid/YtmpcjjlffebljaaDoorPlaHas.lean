/- What has and Place of the document answer. -/
import Derived.Test.YtmpcjjlffebljaaDoorRFind
import Derived.Test.YtmpcjjlffebljaaDoorPlaMath
namespace Go.Proofs.YtmpcjjlffebljaaDoor
open Go.ChangeShapes Go.WideShapes Go.RowKit
set_option linter.unusedVariables false

theorem size_list (s : ByteArray) : s.data.toList.length = s.size := Array.length_toList
theorem at_list (s : ByteArray) (a : Nat) (h : a < s.size) : s.data.toList[a]'(by rw [size_list]; exact h) = s[a] := by
  rw [ByteArray.getElem_eq_getElem_data]; simp
theorem drop_has (s : ByteArray) (c : UInt8) (k : Nat) (h : k < s.size) : (s.data.toList.drop k).contains c = (c == s[k] || (s.data.toList.drop (k + 1)).contains c) := by
  rw [List.drop_eq_getElem_cons (by rw [size_list]; exact h), List.contains_cons, at_list s k h]
theorem byte_test (x c : UInt8) (z : Int) (hz : (c.toNat : Int) = z) : ((x.toNat : Int) == z) = (c == x) := by
  subst hz
  rw [Bool.eq_iff_iff, beq_iff_eq, beq_iff_eq]
  constructor
  · intro h; exact UInt8.toNat_inj.1 (by omega)
  · rintro rfl; rfl
theorem has_v (s : ByteArray) (c : UInt8) (z : Int) (hz : (c.toNat : Int) = z) (b : Bool) (hb : has s c = b) (hs : s.size ≤ 3) (w : World) : Calls Tryd.prog 23 #[.string s, .int .u8 z] w fun e w' => e = .returned (.bool b) ∧ w = w' := by
  have HZ := Lib.hid (And.intro hz hb)
  clear hz hb
  go_enter Tryd.func23, Tryd.ntmps23
  go_wp2_with fail
  go_loopg [5] s.size (fun gk x wr => ∃ k : Nat, k ≤ s.size ∧ x = .int .i64 (k : Int) ∧ Hid (gk = s.size - k ∧ (s.data.toList.drop k).contains c = b ∧ w = wr))
  case atStart => exact ⟨0, by omega, rfl, rfl, by rw [List.drop_zero]; exact HZ.out.2, rfl⟩
  case round =>
    obtain ⟨k, hk, rfl, HH⟩ := hrel
    by_cases hl : k < s.size
    · have hl' : (k : Int) < (s.size : Int) := by omega
      have ht := byte_test s[k] c z HZ.out.1
      cases hc : (c == s[k])
      · rw [hc] at ht
        have hn : ¬ (s[k].toNat : Int) = z := by simpa using ht
        have HT := Lib.hid hc
        clear hc
        go_wp2_with fail
        go_roundg (gk - 1)
        case measure => have := HH.out.1; omega
        case rel =>
          refine ⟨k + 1, by omega, by go_num, ⟨?_, ?_, HH.out.2.2⟩⟩
          · have := HH.out.1; omega
          · have h2 := HH.out.2.1
            rw [drop_has s c k hl] at h2
            rw [HT.out, Bool.false_or] at h2
            exact h2
      · rw [hc] at ht
        have hn : (s[k].toNat : Int) = z := by simpa using ht
        have HT := Lib.hid hc
        clear hc ht
        go_wp2_with fail
        go_ret
        refine ⟨?_, HH.out.2.2⟩
        have h2 := HH.out.2.1
        rw [drop_has s c k hl] at h2
        rw [HT.out, Bool.true_or] at h2
        rw [← h2]
        rfl
    · obtain rfl : k = s.size := by omega
      go_wp2_with fail
      go_ret
      refine ⟨?_, HH.out.2.2⟩
      have h2 := HH.out.2.1
      rw [List.drop_eq_nil_of_le (by rw [size_list]; omega)] at h2
      rw [← h2]
      rfl
theorem ar_getD (l : List ByteArray) (k : Nat) (h : k < l.length) : (l.map Value.string)[k]? = some (.string (l.getD k ⟨#[]⟩)) := by
  rw [List.getElem?_map, List.getD_eq_getElem?_getD, List.getElem?_eq_getElem h]
  rfl
/-- A text of a row's list, in memory. -/
theorem Argd.at {B : Nat} {w : World} {A : Option Addr} {ar : List ByteArray} (h : Argd B w A ar) (k : Nat) (hk : k < ar.length) : ∃ g, A = some ⟨g, 0, none⟩ ∧ w.cell? ⟨g, k, none⟩ = some (.string (ar.getD k ⟨#[]⟩)) := by
  rcases h with ⟨h1, _⟩ | ⟨g, cs, h1, _, h3, h4⟩
  · rw [h1] at hk; exact absurd hk (Nat.not_lt_zero _)
  · refine ⟨g, h1, ?_⟩
    rw [cell_of_row _ _ _ _ _ _ h3, ← Array.getElem?_toList, h4]
    exact ar_getD ar k hk
end Go.Proofs.YtmpcjjlffebljaaDoor
