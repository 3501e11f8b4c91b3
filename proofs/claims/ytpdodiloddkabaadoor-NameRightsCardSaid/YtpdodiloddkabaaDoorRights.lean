/- NameRights: whether any text is a name, of a block, of a block on an edge, and where the name at any place of it ends. -/
import Derived.Test.YtpdodiloddkabaaDoorWorks
import Derived.Test.YtpdodiloddkabaaDoorRefEnds
namespace Go.Proofs.YtpdodiloddkabaaDoor
open Go.ChangeShapes Go.WideShapes Go.RowKit
set_option linter.unusedVariables false

set_option maxHeartbeats 1000000 in
theorem rights_true (s : ByteArray) (z : Int) (w : World) (hs : s.size ≤ 200) : Calls Tryd.prog 3 #[.string s, .int .i64 z, .bool true] w fun e w' => e = .returned (.bool true) ∧ Below w.heap.size w w' := by
  have h1 : decide (200 < s.size) = false := by rw [decide_eq_false_iff_not]; omega
  obtain ⟨a, b, x, he⟩ : ∃ a b x, ends s.data.toList = (a, b, x) := ⟨_, _, _, rfl⟩
  obtain ⟨y, hy⟩ : ∃ y, right s.data.toList = y := ⟨_, rfl⟩
  obtain ⟨v, hv⟩ : ∃ v, scanZ s.data.toList z = v := ⟨_, rfl⟩
  have H := Lib.hid (And.intro he (And.intro hy hv))
  clear he hy hv
  go_enter Tryd.func3, Tryd.ntmps3
  go_wp2_with fail
  refine (ends_v s a b x (by omega) H.out.1 _).mono ?_
  rintro e w1 ⟨rfl, hb⟩
  have B1 := Lib.hid hb
  clear hb
  unfold E3
  go_wp2_with fail
  refine (refends_v s a b x (by omega) H.out.1 _).mono ?_
  rintro e w2 ⟨rfl, hb⟩
  have B2 := Lib.hid (B1.out.trans (hb.mono B1.out.size))
  clear hb
  unfold E3
  go_wp2_with fail
  refine (refright_v s y H.out.2.1 _).mono ?_
  rintro e w3 ⟨rfl, rfl⟩
  go_wp2_with fail
  refine (right_v s y H.out.2.1 _).mono ?_
  rintro e w3 ⟨rfl, rfl⟩
  go_wp2_with fail
  refine (refright_v s y H.out.2.1 _).mono ?_
  rintro e w3 ⟨rfl, rfl⟩
  go_wp2_with fail
  refine (scan_v s z v (by omega) H.out.2.2 _).mono ?_
  rintro e w3 ⟨rfl, rfl⟩
  go_wp2_with fail
  refine (refscan_v s z v (by omega) H.out.2.2 _).mono ?_
  rintro e w3 ⟨rfl, rfl⟩
  go_wp2_with fail
  refine (label_v s true x (by omega) (by first | (rw [H.out.1]; rfl) | exact H.out.2.1) _).mono ?_
  rintro e w3 ⟨rfl, hb⟩
  have B3 := Lib.hid (B2.out.trans (hb.mono B2.out.size))
  clear hb
  go_wp2_with fail
  refine (works_v _).mono ?_
  rintro e w4 ⟨rfl, hb⟩
  have B4 := Lib.hid (B3.out.trans (hb.mono B3.out.size))
  clear hb
  go_wp2_with fail
  go_ret
  exact ⟨rfl, B4.out⟩
set_option maxHeartbeats 1000000 in
theorem rights_false (s : ByteArray) (z : Int) (w : World) (hs : s.size ≤ 200) : Calls Tryd.prog 3 #[.string s, .int .i64 z, .bool false] w fun e w' => e = .returned (.bool true) ∧ Below w.heap.size w w' := by
  have h1 : decide (200 < s.size) = false := by rw [decide_eq_false_iff_not]; omega
  obtain ⟨a, b, x, he⟩ : ∃ a b x, ends s.data.toList = (a, b, x) := ⟨_, _, _, rfl⟩
  obtain ⟨y, hy⟩ : ∃ y, right s.data.toList = y := ⟨_, rfl⟩
  obtain ⟨v, hv⟩ : ∃ v, scanZ s.data.toList z = v := ⟨_, rfl⟩
  have H := Lib.hid (And.intro he (And.intro hy hv))
  clear he hy hv
  go_enter Tryd.func3, Tryd.ntmps3
  go_wp2_with fail
  refine (ends_v s a b x (by omega) H.out.1 _).mono ?_
  rintro e w1 ⟨rfl, hb⟩
  have B1 := Lib.hid hb
  clear hb
  unfold E3
  go_wp2_with fail
  refine (refends_v s a b x (by omega) H.out.1 _).mono ?_
  rintro e w2 ⟨rfl, hb⟩
  have B2 := Lib.hid (B1.out.trans (hb.mono B1.out.size))
  clear hb
  unfold E3
  go_wp2_with fail
  refine (refright_v s y H.out.2.1 _).mono ?_
  rintro e w3 ⟨rfl, rfl⟩
  go_wp2_with fail
  refine (right_v s y H.out.2.1 _).mono ?_
  rintro e w3 ⟨rfl, rfl⟩
  go_wp2_with fail
  refine (refright_v s y H.out.2.1 _).mono ?_
  rintro e w3 ⟨rfl, rfl⟩
  go_wp2_with fail
  refine (scan_v s z v (by omega) H.out.2.2 _).mono ?_
  rintro e w3 ⟨rfl, rfl⟩
  go_wp2_with fail
  refine (refscan_v s z v (by omega) H.out.2.2 _).mono ?_
  rintro e w3 ⟨rfl, rfl⟩
  go_wp2_with fail
  refine (label_v s false y (by omega) (by first | (rw [H.out.1]; rfl) | exact H.out.2.1) _).mono ?_
  rintro e w3 ⟨rfl, hb⟩
  have B3 := Lib.hid (B2.out.trans (hb.mono B2.out.size))
  clear hb
  go_wp2_with fail
  refine (works_v _).mono ?_
  rintro e w4 ⟨rfl, hb⟩
  have B4 := Lib.hid (B3.out.trans (hb.mono B3.out.size))
  clear hb
  go_wp2_with fail
  go_ret
  exact ⟨rfl, B4.out⟩
theorem rights_long (s : ByteArray) (z : Int) (x : Bool) (w : World) (hs : 200 < s.size) : Calls Tryd.prog 3 #[.string s, .int .i64 z, .bool x] w fun e w' => e = .returned (.bool true) ∧ Below w.heap.size w w' := by
  go_enter Tryd.func3, Tryd.ntmps3
  go_wp2_with fail
  refine (works_v _).mono ?_
  rintro e w1 ⟨rfl, hb⟩
  have B := Lib.hid hb
  clear hb
  go_wp2_with fail
  go_ret
  exact ⟨rfl, B.out⟩
theorem rights_walk (s : ByteArray) (z : Int) (x : Bool) (w : World) : Calls Tryd.prog 3 #[.string s, .int .i64 z, .bool x] w fun e w' => e = .returned (.bool true) ∧ Below w.heap.size w w' := by
  by_cases h : s.size ≤ 200
  · cases x
    · exact rights_false s z w h
    · exact rights_true s z w h
  · exact rights_long s z x w (by omega)
end Go.Proofs.YtpdodiloddkabaaDoor
