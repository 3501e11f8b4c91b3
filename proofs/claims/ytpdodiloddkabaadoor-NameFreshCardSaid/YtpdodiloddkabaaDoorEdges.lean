/- NameEdges: the name of an edge's block tells both ends, and is no name of a block that stands on none; no two edges have one. -/
import Derived.Test.YtpdodiloddkabaaDoorWorks
import Derived.Test.YtpdodiloddkabaaDoorRefRight
namespace Go.Proofs.YtpdodiloddkabaaDoor
open Go.ChangeShapes Go.WideShapes Go.RowKit
set_option linter.unusedVariables false

theorem of_list {s : ByteArray} {l : List UInt8} (h : s.data.toList = l) : s = ⟨l.toArray⟩ := h ▸ mk_list s
theorem edge_n (a b E : ByteArray) (ha : right a.data.toList = true) (hb : right b.data.toList = true) (hE : E.data.toList = a.data.toList ++ 46 :: b.data.toList) (w : World) :
    Calls Tryd.prog 14 #[.string a, .string b] w fun e w' => e = .returned (.string E) ∧ w = w' := by
  rw [of_list hE]
  have h1 := right_len ha
  have h2 := right_len hb
  rw [len_list] at h1 h2
  exact edge_v a b w (by omega)
theorem ends_n (E a b : ByteArray) (ha : right a.data.toList = true) (hb : right b.data.toList = true) (hE : E.data.toList = a.data.toList ++ 46 :: b.data.toList) (w : World) :
    Calls Tryd.prog 7 #[.string E] w fun e w' => e = .returned (.tuple #[.string a, .string b, .bool true]) ∧ Below w.heap.size w w' := by
  have h1 := right_len ha
  have h2 := right_len hb
  have h3 : E.size ≤ 49 := by
    rw [← len_list, hE]; simp; simp at h1 h2; omega
  have := ends_v E a.data.toList b.data.toList true (by omega) (by rw [hE]; exact ends_cat ha hb) w
  unfold E3 at this
  rw [← mk_list, ← mk_list] at this
  exact this
theorem edges_not0 (a b c d : ByteArray) (w : World) (h0 : right a.data.toList = false) : Calls Tryd.prog 4 #[.string a, .string b, .string c, .string d] w fun e w' => e = .returned (.bool true) ∧ Below w.heap.size w w' := by
  have H0 := Lib.hid h0
  clear h0
  go_enter Tryd.func4, Tryd.ntmps4
  go_wp2_with fail
  refine (refright_v a false H0.out _).mono ?_
  rintro e w1 ⟨rfl, rfl⟩
  go_wp2_with fail
  refine (works_v _).mono ?_
  rintro e w1 ⟨rfl, hb⟩
  have B := Lib.hid hb
  clear hb
  go_wp2_with fail
  go_ret
  exact ⟨rfl, B.out⟩
theorem edges_not1 (a b c d : ByteArray) (w : World) (h0 : right a.data.toList = true) (h1 : right b.data.toList = false) : Calls Tryd.prog 4 #[.string a, .string b, .string c, .string d] w fun e w' => e = .returned (.bool true) ∧ Below w.heap.size w w' := by
  have H0 := Lib.hid h0
  have H1 := Lib.hid h1
  clear h0 h1
  go_enter Tryd.func4, Tryd.ntmps4
  go_wp2_with fail
  refine (refright_v a true H0.out _).mono ?_
  rintro e w1 ⟨rfl, rfl⟩
  go_wp2_with fail
  refine (refright_v b false H1.out _).mono ?_
  rintro e w1 ⟨rfl, rfl⟩
  go_wp2_with fail
  refine (works_v _).mono ?_
  rintro e w1 ⟨rfl, hb⟩
  have B := Lib.hid hb
  clear hb
  go_wp2_with fail
  go_ret
  exact ⟨rfl, B.out⟩
theorem edges_not2 (a b c d : ByteArray) (w : World) (h0 : right a.data.toList = true) (h1 : right b.data.toList = true) (h2 : right c.data.toList = false) : Calls Tryd.prog 4 #[.string a, .string b, .string c, .string d] w fun e w' => e = .returned (.bool true) ∧ Below w.heap.size w w' := by
  have H0 := Lib.hid h0
  have H1 := Lib.hid h1
  have H2 := Lib.hid h2
  clear h0 h1 h2
  go_enter Tryd.func4, Tryd.ntmps4
  go_wp2_with fail
  refine (refright_v a true H0.out _).mono ?_
  rintro e w1 ⟨rfl, rfl⟩
  go_wp2_with fail
  refine (refright_v b true H1.out _).mono ?_
  rintro e w1 ⟨rfl, rfl⟩
  go_wp2_with fail
  refine (refright_v c false H2.out _).mono ?_
  rintro e w1 ⟨rfl, rfl⟩
  go_wp2_with fail
  refine (works_v _).mono ?_
  rintro e w1 ⟨rfl, hb⟩
  have B := Lib.hid hb
  clear hb
  go_wp2_with fail
  go_ret
  exact ⟨rfl, B.out⟩
theorem edges_not3 (a b c d : ByteArray) (w : World) (h0 : right a.data.toList = true) (h1 : right b.data.toList = true) (h2 : right c.data.toList = true) (h3 : right d.data.toList = false) : Calls Tryd.prog 4 #[.string a, .string b, .string c, .string d] w fun e w' => e = .returned (.bool true) ∧ Below w.heap.size w w' := by
  have H0 := Lib.hid h0
  have H1 := Lib.hid h1
  have H2 := Lib.hid h2
  have H3 := Lib.hid h3
  clear h0 h1 h2 h3
  go_enter Tryd.func4, Tryd.ntmps4
  go_wp2_with fail
  refine (refright_v a true H0.out _).mono ?_
  rintro e w1 ⟨rfl, rfl⟩
  go_wp2_with fail
  refine (refright_v b true H1.out _).mono ?_
  rintro e w1 ⟨rfl, rfl⟩
  go_wp2_with fail
  refine (refright_v c true H2.out _).mono ?_
  rintro e w1 ⟨rfl, rfl⟩
  go_wp2_with fail
  refine (refright_v d false H3.out _).mono ?_
  rintro e w1 ⟨rfl, rfl⟩
  go_wp2_with fail
  refine (works_v _).mono ?_
  rintro e w1 ⟨rfl, hb⟩
  have B := Lib.hid hb
  clear hb
  go_wp2_with fail
  go_ret
  exact ⟨rfl, B.out⟩
set_option maxHeartbeats 1000000 in
theorem edges_true_true (a b c d E F : ByteArray) (w : World) (h0 : right a.data.toList = true) (h1 : right b.data.toList = true) (h2 : right c.data.toList = true) (h3 : right d.data.toList = true)
    (hE : E.data.toList = a.data.toList ++ 46 :: b.data.toList) (hF : F.data.toList = c.data.toList ++ 46 :: d.data.toList) (hx : (a.toList == c.toList) = true) (hy : (b.toList == d.toList) = true) (hp : (E.toList == F.toList) = true) :
    Calls Tryd.prog 4 #[.string a, .string b, .string c, .string d] w fun e w' => e = .returned (.bool true) ∧ Below w.heap.size w w' := by
  have H := Lib.hid (And.intro h0 (And.intro h1 (And.intro h2 (And.intro h3 (And.intro hE hF)))))
  clear h0 h1 h2 h3 hE hF
  go_enter Tryd.func4, Tryd.ntmps4
  go_wp2_with fail
  refine (refright_v a true H.out.1 _).mono ?_
  rintro e w1 ⟨rfl, rfl⟩
  go_wp2_with fail
  refine (refright_v b true H.out.2.1 _).mono ?_
  rintro e w1 ⟨rfl, rfl⟩
  go_wp2_with fail
  refine (refright_v c true H.out.2.2.1 _).mono ?_
  rintro e w1 ⟨rfl, rfl⟩
  go_wp2_with fail
  refine (refright_v d true H.out.2.2.2.1 _).mono ?_
  rintro e w1 ⟨rfl, rfl⟩
  go_wp2_with fail
  refine (edge_n a b E H.out.1 H.out.2.1 H.out.2.2.2.2.1 _).mono ?_
  rintro e w1 ⟨rfl, rfl⟩
  go_wp2_with fail
  refine (ends_n E a b H.out.1 H.out.2.1 H.out.2.2.2.2.1 _).mono ?_
  rintro e w1 ⟨rfl, hb⟩
  have B1 := Lib.hid hb
  clear hb
  go_wp2_with fail
  refine (right_v E false (by rw [H.out.2.2.2.2.1]; exact edge_not_right _ _) _).mono ?_
  rintro e w2 ⟨rfl, rfl⟩
  go_wp2_with fail
  refine (edge_n c d F H.out.2.2.1 H.out.2.2.2.1 H.out.2.2.2.2.2 _).mono ?_
  rintro e w2 ⟨rfl, rfl⟩
  go_wp2_with fail
  refine (works_v _).mono ?_
  rintro e w2 ⟨rfl, hb⟩
  have B2 := Lib.hid (B1.out.trans (hb.mono B1.out.size))
  clear hb
  go_wp2_with fail
  go_ret
  exact ⟨rfl, B2.out⟩
set_option maxHeartbeats 1000000 in
theorem edges_true_false (a b c d E F : ByteArray) (w : World) (h0 : right a.data.toList = true) (h1 : right b.data.toList = true) (h2 : right c.data.toList = true) (h3 : right d.data.toList = true)
    (hE : E.data.toList = a.data.toList ++ 46 :: b.data.toList) (hF : F.data.toList = c.data.toList ++ 46 :: d.data.toList) (hx : (a.toList == c.toList) = true) (hy : (b.toList == d.toList) = false) (hp : (E.toList == F.toList) = false) :
    Calls Tryd.prog 4 #[.string a, .string b, .string c, .string d] w fun e w' => e = .returned (.bool true) ∧ Below w.heap.size w w' := by
  have H := Lib.hid (And.intro h0 (And.intro h1 (And.intro h2 (And.intro h3 (And.intro hE hF)))))
  clear h0 h1 h2 h3 hE hF
  go_enter Tryd.func4, Tryd.ntmps4
  go_wp2_with fail
  refine (refright_v a true H.out.1 _).mono ?_
  rintro e w1 ⟨rfl, rfl⟩
  go_wp2_with fail
  refine (refright_v b true H.out.2.1 _).mono ?_
  rintro e w1 ⟨rfl, rfl⟩
  go_wp2_with fail
  refine (refright_v c true H.out.2.2.1 _).mono ?_
  rintro e w1 ⟨rfl, rfl⟩
  go_wp2_with fail
  refine (refright_v d true H.out.2.2.2.1 _).mono ?_
  rintro e w1 ⟨rfl, rfl⟩
  go_wp2_with fail
  refine (edge_n a b E H.out.1 H.out.2.1 H.out.2.2.2.2.1 _).mono ?_
  rintro e w1 ⟨rfl, rfl⟩
  go_wp2_with fail
  refine (ends_n E a b H.out.1 H.out.2.1 H.out.2.2.2.2.1 _).mono ?_
  rintro e w1 ⟨rfl, hb⟩
  have B1 := Lib.hid hb
  clear hb
  go_wp2_with fail
  refine (right_v E false (by rw [H.out.2.2.2.2.1]; exact edge_not_right _ _) _).mono ?_
  rintro e w2 ⟨rfl, rfl⟩
  go_wp2_with fail
  refine (edge_n c d F H.out.2.2.1 H.out.2.2.2.1 H.out.2.2.2.2.2 _).mono ?_
  rintro e w2 ⟨rfl, rfl⟩
  go_wp2_with fail
  refine (works_v _).mono ?_
  rintro e w2 ⟨rfl, hb⟩
  have B2 := Lib.hid (B1.out.trans (hb.mono B1.out.size))
  clear hb
  go_wp2_with fail
  go_ret
  exact ⟨rfl, B2.out⟩
set_option maxHeartbeats 1000000 in
theorem edges_false_true (a b c d E F : ByteArray) (w : World) (h0 : right a.data.toList = true) (h1 : right b.data.toList = true) (h2 : right c.data.toList = true) (h3 : right d.data.toList = true)
    (hE : E.data.toList = a.data.toList ++ 46 :: b.data.toList) (hF : F.data.toList = c.data.toList ++ 46 :: d.data.toList) (hx : (a.toList == c.toList) = false) (hy : (b.toList == d.toList) = true) (hp : (E.toList == F.toList) = false) :
    Calls Tryd.prog 4 #[.string a, .string b, .string c, .string d] w fun e w' => e = .returned (.bool true) ∧ Below w.heap.size w w' := by
  have H := Lib.hid (And.intro h0 (And.intro h1 (And.intro h2 (And.intro h3 (And.intro hE hF)))))
  clear h0 h1 h2 h3 hE hF
  go_enter Tryd.func4, Tryd.ntmps4
  go_wp2_with fail
  refine (refright_v a true H.out.1 _).mono ?_
  rintro e w1 ⟨rfl, rfl⟩
  go_wp2_with fail
  refine (refright_v b true H.out.2.1 _).mono ?_
  rintro e w1 ⟨rfl, rfl⟩
  go_wp2_with fail
  refine (refright_v c true H.out.2.2.1 _).mono ?_
  rintro e w1 ⟨rfl, rfl⟩
  go_wp2_with fail
  refine (refright_v d true H.out.2.2.2.1 _).mono ?_
  rintro e w1 ⟨rfl, rfl⟩
  go_wp2_with fail
  refine (edge_n a b E H.out.1 H.out.2.1 H.out.2.2.2.2.1 _).mono ?_
  rintro e w1 ⟨rfl, rfl⟩
  go_wp2_with fail
  refine (ends_n E a b H.out.1 H.out.2.1 H.out.2.2.2.2.1 _).mono ?_
  rintro e w1 ⟨rfl, hb⟩
  have B1 := Lib.hid hb
  clear hb
  go_wp2_with fail
  refine (right_v E false (by rw [H.out.2.2.2.2.1]; exact edge_not_right _ _) _).mono ?_
  rintro e w2 ⟨rfl, rfl⟩
  go_wp2_with fail
  refine (edge_n c d F H.out.2.2.1 H.out.2.2.2.1 H.out.2.2.2.2.2 _).mono ?_
  rintro e w2 ⟨rfl, rfl⟩
  go_wp2_with fail
  refine (works_v _).mono ?_
  rintro e w2 ⟨rfl, hb⟩
  have B2 := Lib.hid (B1.out.trans (hb.mono B1.out.size))
  clear hb
  go_wp2_with fail
  go_ret
  exact ⟨rfl, B2.out⟩
set_option maxHeartbeats 1000000 in
theorem edges_false_false (a b c d E F : ByteArray) (w : World) (h0 : right a.data.toList = true) (h1 : right b.data.toList = true) (h2 : right c.data.toList = true) (h3 : right d.data.toList = true)
    (hE : E.data.toList = a.data.toList ++ 46 :: b.data.toList) (hF : F.data.toList = c.data.toList ++ 46 :: d.data.toList) (hx : (a.toList == c.toList) = false) (hy : (b.toList == d.toList) = false) (hp : (E.toList == F.toList) = false) :
    Calls Tryd.prog 4 #[.string a, .string b, .string c, .string d] w fun e w' => e = .returned (.bool true) ∧ Below w.heap.size w w' := by
  have H := Lib.hid (And.intro h0 (And.intro h1 (And.intro h2 (And.intro h3 (And.intro hE hF)))))
  clear h0 h1 h2 h3 hE hF
  go_enter Tryd.func4, Tryd.ntmps4
  go_wp2_with fail
  refine (refright_v a true H.out.1 _).mono ?_
  rintro e w1 ⟨rfl, rfl⟩
  go_wp2_with fail
  refine (refright_v b true H.out.2.1 _).mono ?_
  rintro e w1 ⟨rfl, rfl⟩
  go_wp2_with fail
  refine (refright_v c true H.out.2.2.1 _).mono ?_
  rintro e w1 ⟨rfl, rfl⟩
  go_wp2_with fail
  refine (refright_v d true H.out.2.2.2.1 _).mono ?_
  rintro e w1 ⟨rfl, rfl⟩
  go_wp2_with fail
  refine (edge_n a b E H.out.1 H.out.2.1 H.out.2.2.2.2.1 _).mono ?_
  rintro e w1 ⟨rfl, rfl⟩
  go_wp2_with fail
  refine (ends_n E a b H.out.1 H.out.2.1 H.out.2.2.2.2.1 _).mono ?_
  rintro e w1 ⟨rfl, hb⟩
  have B1 := Lib.hid hb
  clear hb
  go_wp2_with fail
  refine (right_v E false (by rw [H.out.2.2.2.2.1]; exact edge_not_right _ _) _).mono ?_
  rintro e w2 ⟨rfl, rfl⟩
  go_wp2_with fail
  refine (edge_n c d F H.out.2.2.1 H.out.2.2.2.1 H.out.2.2.2.2.2 _).mono ?_
  rintro e w2 ⟨rfl, rfl⟩
  go_wp2_with fail
  refine (works_v _).mono ?_
  rintro e w2 ⟨rfl, hb⟩
  have B2 := Lib.hid (B1.out.trans (hb.mono B1.out.size))
  clear hb
  go_wp2_with fail
  go_ret
  exact ⟨rfl, B2.out⟩
theorem same_iff (a b : ByteArray) : (a.toList == b.toList) = decide (a.data.toList = b.data.toList) := by
  rw [Lib.toList_data, Lib.toList_data]
  by_cases h : a.data.toList = b.data.toList
  · rw [h]; simp
  · rw [decide_eq_false h, beq_eq_false_iff_ne]; exact h
theorem edges_walk (a b c d : ByteArray) (w : World) : Calls Tryd.prog 4 #[.string a, .string b, .string c, .string d] w fun e w' => e = .returned (.bool true) ∧ Below w.heap.size w w' := by
  cases h0 : right a.data.toList
  · exact edges_not0 a b c d w h0
  · cases h1 : right b.data.toList
    · exact edges_not1 a b c d w h0 h1
    · cases h2 : right c.data.toList
      · exact edges_not2 a b c d w h0 h1 h2
      · cases h3 : right d.data.toList
        · exact edges_not3 a b c d w h0 h1 h2 h3
        · have hp : ∀ x y : Bool, (a.toList == c.toList) = x → (b.toList == d.toList) = y → (((⟨(a.data.toList ++ 46 :: b.data.toList).toArray⟩ : ByteArray).toList == (⟨(c.data.toList ++ 46 :: d.data.toList).toArray⟩ : ByteArray).toList) = (x && y)) := by
            intro x y hx hy
            rw [same_iff] at hx hy ⊢
            rw [list_mk, list_mk, ← hx, ← hy]
            have := edge_inj h0 h1 h2 h3
            simp only [this, Bool.decide_and]
          cases hx : (a.toList == c.toList)
          · cases hy : (b.toList == d.toList)
            · exact edges_false_false a b c d _ _ w h0 h1 h2 h3 (list_mk _) (list_mk _) hx hy (hp _ _ hx hy)
            · exact edges_false_true a b c d _ _ w h0 h1 h2 h3 (list_mk _) (list_mk _) hx hy (hp _ _ hx hy)
          · cases hy : (b.toList == d.toList)
            · exact edges_true_false a b c d _ _ w h0 h1 h2 h3 (list_mk _) (list_mk _) hx hy (hp _ _ hx hy)
            · exact edges_true_true a b c d _ _ w h0 h1 h2 h3 (list_mk _) (list_mk _) hx hy (hp _ _ hx hy)
end Go.Proofs.YtpdodiloddkabaaDoor
