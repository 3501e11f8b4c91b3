/- What strings.Cut answers at a point, and the program's Ends, Label and Edge. -/
import Derived.Test.YtpdodiloddkabaaDoorRight
import Derived.Lib.Bytealg
import Derived.Lib.Strings
import Derived.Lib.Slices
import Derived.Lib.Walk
import Derived.Deep.QuietTactic
import Derived.BigQuiet
namespace Go.Proofs.YtpdodiloddkabaaDoor
open Go.ChangeShapes Go.WideShapes Go.RowKit
set_option linter.unusedVariables false

theorem index_no : ∀ l : List UInt8, (46 : UInt8) ∉ l → Lib.indexByte l 46 = -1
  | [], _ => rfl
  | c :: r, h => by
    have hc : (c == 46) = false := by rw [beq_eq_false_iff_ne]; intro e; subst e; simp at h
    have := index_no r (fun h' => h (by simp [h']))
    unfold Lib.indexByte; rw [hc, this]; rfl
theorem index_cat : ∀ (a b : List UInt8), (46 : UInt8) ∉ a → Lib.indexByte (a ++ 46 :: b) 46 = (a.length : Int)
  | [], b, _ => by unfold Lib.indexByte; rfl
  | c :: r, b, h => by
    have hc : (c == 46) = false := by rw [beq_eq_false_iff_ne]; intro e; subst e; simp at h
    have := index_cat r b (fun h' => h (by simp [h']))
    rw [List.cons_append]
    unfold Lib.indexByte
    rw [hc, this]
    have h2 : ((r.length : Int) == -1) = false := by rw [beq_eq_false_iff_ne]; omega
    rw [h2]; simp
/-- The first point, or none. -/
theorem point_ways (l : List UInt8) : ((46 : UInt8) ∉ l ∧ Lib.indexByte l 46 = -1 ∧ ahead l = l ∧ behind l = []) ∨
    ∃ i, i < l.length ∧ Lib.indexByte l 46 = (i : Int) ∧ ahead l = l.take i ∧ behind l = l.drop (i + 1) := by
  by_cases hm : (46 : UInt8) ∈ l
  · right
    obtain ⟨i, hi, hp, hn⟩ : ∃ i, ∃ hi : i < l.length, l[i] = 46 ∧ (46 : UInt8) ∉ l.take i := by
      induction l with
      | nil => simp at hm
      | cons c r ih =>
        by_cases hc : c = 46
        · exact ⟨0, by simp, hc, by simp⟩
        · obtain ⟨i, hi, hp, hn⟩ := ih (by simpa [Ne.symm hc] using hm)
          exact ⟨i + 1, by simp; omega, by simpa using hp, by simp [hn, Ne.symm hc]⟩
    have e : l = l.take i ++ 46 :: l.drop (i + 1) := by
      conv => lhs; rw [← List.take_append_drop i l, List.drop_eq_getElem_cons hi, hp]
    have h1 := ahead_cat (l.take i) (l.drop (i + 1)) hn
    have h2 := index_cat (l.take i) (l.drop (i + 1)) hn
    rw [← e] at h1 h2
    rw [List.length_take, Nat.min_eq_left (by omega)] at h2
    exact ⟨i, hi, h2, h1.1, h1.2⟩
  · left; exact ⟨hm, index_no l hm, ahead_eq l hm⟩
set_option maxRecDepth 100000 in
theorem indexByte_v (s : ByteArray) (w : World) : Calls Tryd.prog 30 #[.string s, .int .u8 46] w fun e w' => e = .returned (.int .i64 (Lib.indexByte s.data.toList 46)) ∧ w = w' := by
  go_enter Tryd.func30, Tryd.ntmps30
  go_wp2
  rw [run_callFunc_extern Tryd.func38 (by kernel_rfl) (by kernel_rfl) (by kernel_rfl) (e := Extern.BytealgIndexByte.indexByte) (by kernel_rfl), Lib.run_indexByteString]
  simp only [Result.andThen]
  rw [Oper.upon_value]
  go_wp2
  go_ret
  exact ⟨rfl, rfl⟩
set_option maxHeartbeats 2000000 in
set_option maxRecDepth 100000 in
theorem index_v (s : ByteArray) (z : Int) (hz : Lib.indexByte s.data.toList 46 = z) (w : World) : Calls Tryd.prog 28 #[.string s, .string ⟨#[46]⟩] w fun e w' => e = .returned (.int .i64 z) ∧ w = w' := by
  subst hz
  go_enter Tryd.func28, Tryd.ntmps28
  go_wp2_with (go_at_call 30; refine (indexByte_v _ _).mono ?_; rintro e w' ⟨rfl, rfl⟩)
  · have h : ([46] == s.toList) = true := by assumption
    go_ret
    refine ⟨?_, rfl⟩
    have e : s.data.toList = [46] := by rw [← Lib.toList_data]; exact (beq_iff_eq.1 h).symm
    rw [e]
    simp [Lib.indexByte]
  · go_ret
    exact ⟨rfl, rfl⟩
theorem mk_list (s : ByteArray) : s = ⟨s.data.toList.toArray⟩ := by cases s; simp
theorem list_mk (l : List UInt8) : (⟨l.toArray⟩ : ByteArray).data.toList = l := by simp
theorem extract_to (s : ByteArray) (n : Nat) : s.extract 0 n = ⟨(s.data.toList.take n).toArray⟩ := by
  rw [mk_list (s.extract 0 n)]; congr 2; rw [ByteArray.data_extract]; simp
theorem extract_from (s : ByteArray) (n : Nat) : s.extract n s.size = ⟨(s.data.toList.drop n).toArray⟩ := by
  rw [mk_list (s.extract n s.size)]; congr 2; rw [ByteArray.data_extract]; simp
  rw [List.take_of_length_le]; rw [List.length_drop]; exact Nat.le_refl _
theorem to_run (s : ByteArray) (n : Nat) (h : n ≤ s.size) (W : World) :
    (Instr.slice 9 (.string s) none (some (.int .i64 (n : Int))) none).run Tryd.prog W = .ok (.string ⟨(s.data.toList.take n).toArray⟩) W := by
  rw [run_slice_string_to_if W 9 s .i64 _ Tryd.underlying9, if_pos (by omega), show ((n : Int)).toNat = n by omega, extract_to]
theorem from_run (s : ByteArray) (n : Nat) (z : Int) (hz : z = (n : Int)) (h : n ≤ s.size) (W : World) :
    (Instr.slice 9 (.string s) (some (.int .i64 z)) none none).run Tryd.prog W = .ok (.string ⟨(s.data.toList.drop n).toArray⟩) W := by
  subst hz
  rw [run_slice_string_from_if W 9 s .i64 _ Tryd.underlying9, if_pos (by omega), show ((n : Int)).toNat = n by omega, extract_from]
theorem below_drewN (B : Nat) (w : World) (n : Nat) : Below B w (w.drewN n) := ⟨rfl, rfl, rfl, Nat.le_refl _, fun _ _ => rfl⟩
/-- Two texts, and whether. -/
def E3 (a b : List UInt8) (x : Bool) : Ending := .returned (.tuple #[.string ⟨a.toArray⟩, .string ⟨b.toArray⟩, .bool x])
theorem ret_E3 {a b : List UInt8} {x : Bool} {A B : ByteArray} (hA : ⟨a.toArray⟩ = A) (hB : ⟨b.toArray⟩ = B) : Ending.returned (.tuple #[.string A, .string B, .bool x]) = E3 a b x := by rw [← hA, ← hB]; rfl
theorem cutlite_no (s : ByteArray) (h : Lib.indexByte s.data.toList 46 = -1) (w : World) : Calls Tryd.prog 24 #[.string s, .string ⟨#[46]⟩] w fun e w' => e = E3 s.data.toList [] false ∧ Below w.heap.size w w' := by
  have H := Lib.hid h
  clear h
  go_enter Tryd.func24, Tryd.ntmps24
  go_wp2_with fail
  refine (index_v s _ H.out _).mono ?_
  rintro e w1 ⟨rfl, rfl⟩
  go_wp2_with fail
  go_ret3
  exact ⟨ret_E3 (mk_list s).symm rfl, Below.refl _ _⟩
set_option maxHeartbeats 400000 in
theorem cutlite_yes (s : ByteArray) (i : Nat) (hi : i < s.size) (hs : s.size ≤ 9223372036854775806) (h : Lib.indexByte s.data.toList 46 = (i : Int)) (w : World) : Calls Tryd.prog 24 #[.string s, .string ⟨#[46]⟩] w fun e w' => e = E3 (s.data.toList.take i) (s.data.toList.drop (i + 1)) true ∧ Below w.heap.size w w' := by
  have H := Lib.hid h
  have h1 := to_run s i (by omega)
  have h2 := from_run s (i + 1) ((i : Int) + 1) (by omega) (by omega)
  have h3 : IntKind.i64.wrap ((i : Int) + 1) = (i : Int) + 1 := IntWalk.i64_in _ (by omega)
  generalize hA : (⟨(s.data.toList.take i).toArray⟩ : ByteArray) = A at *
  generalize hB : (⟨(s.data.toList.drop (i + 1)).toArray⟩ : ByteArray) = B at *
  have HA := Lib.hid (And.intro hA hB)
  clear h hA hB
  go_enter Tryd.func24, Tryd.ntmps24
  go_wp2_with fail
  refine (index_v s _ H.out _).mono ?_
  rintro e w1 ⟨rfl, rfl⟩
  go_wp2_with fail
  go_quiet (fail)
  go_wp2_with fail
  go_ret3
  exact ⟨ret_E3 HA.out.1 HA.out.2, below_drewN _ _ _⟩
theorem cut_v (s : ByteArray) (a b : List UInt8) (hs : s.size ≤ 9223372036854775806) (ha : ahead s.data.toList = a) (hb : behind s.data.toList = b) (w : World) :
    Calls Tryd.prog 19 #[.string s, .string ⟨#[46]⟩] w fun e w' => ∃ x, e = E3 a b x ∧ Below w.heap.size w w' := by
  have hc : Calls Tryd.prog 24 #[.string s, .string ⟨#[46]⟩] w fun e w' => ∃ x, e = E3 a b x ∧ Below w.heap.size w w' := by
    rcases point_ways s.data.toList with ⟨_, h1, h2, h3⟩ | ⟨i, h0, h1, h2, h3⟩
    · rw [← ha, ← hb, h2, h3]
      exact (cutlite_no s h1 w).mono fun e w' h => ⟨false, h⟩
    · rw [← ha, ← hb, h2, h3]
      exact (cutlite_yes s i h0 hs h1 w).mono fun e w' h => ⟨true, h⟩
  have HC := Lib.hid hc
  clear hc ha hb
  go_enter Tryd.func19, Tryd.ntmps19
  go_wp2_with fail
  refine HC.out.mono ?_
  rintro e w1 ⟨x, rfl, hb⟩
  have B := Lib.hid hb
  clear hb
  unfold E3
  go_wp2_with fail
  go_ret3
  exact ⟨x, rfl, B.out⟩
set_option maxHeartbeats 400000 in
theorem ends_is (s : ByteArray) (hs : s.size ≤ 9223372036854775806) (w : World) :
    Calls Tryd.prog 7 #[.string s] w fun e w' => e = E3 (ends s.data.toList).1 (ends s.data.toList).2.1 (ends s.data.toList).2.2 ∧ Below w.heap.size w w' := by
  obtain ⟨a, ha⟩ : ∃ a, ahead s.data.toList = a := ⟨_, rfl⟩
  obtain ⟨b, hb⟩ : ∃ b, behind s.data.toList = b := ⟨_, rfl⟩
  have HA := Lib.hid ha
  have HB := Lib.hid hb
  have he : ends s.data.toList = if right a && right b then (a, b, true) else ([], [], false) := by unfold ends; rw [ha, hb]
  rw [he]
  clear ha hb he
  obtain ⟨x, hx⟩ : ∃ x, right a = x := ⟨_, rfl⟩
  obtain ⟨y, hy⟩ : ∃ y, right b = y := ⟨_, rfl⟩
  have HX := Lib.hid hx
  have HY := Lib.hid hy
  rw [hx, hy]
  clear hx hy
  cases x
  · go_enter Tryd.func7, Tryd.ntmps7
    go_wp2_with fail
    refine (cut_v s a b hs HA.out HB.out _).mono ?_
    rintro e w1 ⟨f, rfl, hb⟩
    have B := Lib.hid hb
    clear hb
    unfold E3
    go_wp2_with fail
    refine (right_v ⟨a.toArray⟩ false (by rw [list_mk]; exact HX.out) _).mono ?_
    rintro e w2 ⟨rfl, rfl⟩
    go_wp2_with fail
    go_ret3
    exact ⟨rfl, B.out⟩
  · cases y
    · go_enter Tryd.func7, Tryd.ntmps7
      go_wp2_with fail
      refine (cut_v s a b hs HA.out HB.out _).mono ?_
      rintro e w1 ⟨f, rfl, hb⟩
      have B := Lib.hid hb
      clear hb
      unfold E3
      go_wp2_with fail
      refine (right_v ⟨a.toArray⟩ true (by rw [list_mk]; exact HX.out) _).mono ?_
      rintro e w2 ⟨rfl, rfl⟩
      go_wp2_with fail
      refine (right_v ⟨b.toArray⟩ false (by rw [list_mk]; exact HY.out) _).mono ?_
      rintro e w2 ⟨rfl, rfl⟩
      go_wp2_with fail
      go_ret3
      exact ⟨rfl, B.out⟩
    · go_enter Tryd.func7, Tryd.ntmps7
      go_wp2_with fail
      refine (cut_v s a b hs HA.out HB.out _).mono ?_
      rintro e w1 ⟨f, rfl, hb⟩
      have B := Lib.hid hb
      clear hb
      unfold E3
      go_wp2_with fail
      refine (right_v ⟨a.toArray⟩ true (by rw [list_mk]; exact HX.out) _).mono ?_
      rintro e w2 ⟨rfl, rfl⟩
      go_wp2_with fail
      refine (right_v ⟨b.toArray⟩ true (by rw [list_mk]; exact HY.out) _).mono ?_
      rintro e w2 ⟨rfl, rfl⟩
      go_wp2_with fail
      go_ret3
      exact ⟨rfl, B.out⟩
theorem ends_v (s : ByteArray) (a b : List UInt8) (x : Bool) (hs : s.size ≤ 9223372036854775806) (h : ends s.data.toList = (a, b, x)) (w : World) :
    Calls Tryd.prog 7 #[.string s] w fun e w' => e = E3 a b x ∧ Below w.heap.size w w' := by
  have := ends_is s hs w
  rw [h] at this; exact this
theorem label_v (s : ByteArray) (edge x : Bool) (hs : s.size ≤ 9223372036854775806) (hx : (if edge then (ends s.data.toList).2.2 else right s.data.toList) = x) (w : World) :
    Calls Tryd.prog 13 #[.string s, .bool edge] w fun e w' => e = .returned (.bool x) ∧ Below w.heap.size w w' := by
  cases edge
  · have HX := Lib.hid hx
    clear hx
    go_enter Tryd.func13, Tryd.ntmps13
    go_wp2_with fail
    refine (right_v s x HX.out _).mono ?_
    rintro e w2 ⟨rfl, rfl⟩
    go_wp2_with fail
    go_ret
    exact ⟨rfl, Below.refl _ _⟩
  · obtain ⟨a, b, y, h⟩ : ∃ a b y, ends s.data.toList = (a, b, y) := ⟨_, _, _, rfl⟩
    rw [h] at hx
    obtain rfl : y = x := hx
    have H := Lib.hid h
    clear h
    go_enter Tryd.func13, Tryd.ntmps13
    go_wp2_with fail
    refine (ends_v s a b y hs H.out _).mono ?_
    rintro e w1 ⟨rfl, hb⟩
    have B := Lib.hid hb
    clear hb
    unfold E3
    go_wp2_with fail
    go_ret
    exact ⟨rfl, B.out⟩
theorem edge_v (a b : ByteArray) (w : World) (h : a.size + b.size ≤ 1000000) : Calls Tryd.prog 14 #[.string a, .string b] w fun e w' => e = .returned (.string ⟨(a.data.toList ++ 46 :: b.data.toList).toArray⟩) ∧ w = w' := by
  go_enter Tryd.func14, Tryd.ntmps14
  go_wp2_with fail
  go_ret
  refine ⟨?_, rfl⟩
  show Ending.returned (.string (a ++ ByteArray.mk #[46] ++ b)) = _
  congr 2
  rw [mk_list (a ++ ByteArray.mk #[46] ++ b)]
  congr 2
  simp
end Go.Proofs.YtpdodiloddkabaaDoor
