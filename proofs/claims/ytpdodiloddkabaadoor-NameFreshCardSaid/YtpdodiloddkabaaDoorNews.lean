/- NameFresh: the name that is made anew is none of those that there are, and the first such one, or there is none. -/
import Derived.Test.YtpdodiloddkabaaDoorWorks
import Derived.Test.YtpdodiloddkabaaDoorRefFresh
import Derived.Test.YtpdodiloddkabaaDoorEdges
namespace Go.Proofs.YtpdodiloddkabaaDoor
open Go.ChangeShapes Go.WideShapes Go.RowKit
set_option linter.unusedVariables false

theorem fresh_n (w : World) (s R : ByteArray) (A : Option Addr) (cap N : Nat) (ss : List ByteArray) (hs : s.size ≤ 60) (hN : ss.length = N) (hl : N ≤ 60) (h : Strs w A ss) (hr : fresh s.data.toList (bs ss) (ss.length + 1) 0 = R.data.toList) :
    Calls Tryd.prog 15 #[.string s, .slice A N cap] w fun e w' => e = .returned (.string R) ∧ Below w.heap.size w w' := by
  subst hN
  have := fresh_v w s A cap ss _ hs hl h hr
  rw [← mk_list] at this; exact this
theorem reffresh_n (w : World) (s R : ByteArray) (A : Option Addr) (cap N : Nat) (ss : List ByteArray) (hs : s.size ≤ 60) (hN : ss.length = N) (hl : N ≤ 60) (h : Strs w A ss) (hr : fresh s.data.toList (bs ss) (ss.length + 1) 0 = R.data.toList) :
    Calls Tryd.prog 16 #[.string s, .slice A N cap] w fun e w' => e = .returned (.string R) ∧ Below w.heap.size w w' := by
  subst hN
  have := reffresh_v w s A cap ss _ hs hl h hr
  rw [← mk_list] at this; exact this
theorem mem_bs {t : ByteArray} {ss : List ByteArray} (h : t ∈ ss) : t.data.toList ∈ bs ss := List.mem_map.2 ⟨t, h, rfl⟩
set_option maxHeartbeats 1000000 in
theorem news_none (w : World) (s : ByteArray) (A : Option Addr) (cap : Nat) (ss : List ByteArray) (hs : s.size ≤ 60) (hl : ss.length ≤ 60) (h : Strs w A ss) (hr : fresh s.data.toList (bs ss) (ss.length + 1) 0 = (⟨#[]⟩ : ByteArray).data.toList) :
    Calls Tryd.prog 5 #[.string s, .slice A ss.length cap] w fun e w' => e = .returned (.bool true) ∧ Below w.heap.size w w' := by
  have HR := Lib.hid hr
  have HS := Lib.hid h
  clear hr h
  obtain ⟨N, hN⟩ : ∃ N, ss.length = N := ⟨_, rfl⟩
  have HN := Lib.hid hN
  rw [hN] at hl ⊢
  clear hN
  have d1 : decide (60 < N) = false := by rw [decide_eq_false_iff_not]; omega
  have d2 : decide (60 < s.size) = false := by rw [decide_eq_false_iff_not]; omega
  go_enter Tryd.func5, Tryd.ntmps5
  go_wp2_with fail
  refine (fresh_n w s ⟨#[]⟩ A cap N ss hs HN.out hl HS.out HR.out).mono ?_
  rintro e w1 ⟨rfl, hb⟩
  have B1 := Lib.hid hb
  clear hb
  go_wp2_with fail
  clear d1 d2
  go_loopg [6] N (fun gk i wr => ∃ j : Nat, j + gk = N ∧ i = .int .i64 (j : Int) ∧ w1 = wr)
  case atStart => exact ⟨0, by omega, rfl, rfl⟩
  case round =>
    obtain ⟨j, hj, rfl, rfl⟩ := hrel
    by_cases hg : gk = 0
    · subst hg
      obtain rfl : j = N := by omega
      clear hj
      go_wp2_with fail
      refine (reffresh_n w1 s ⟨#[]⟩ A cap j ss hs HN.out hl (HS.out.below B1.out) HR.out).mono ?_
      rintro e w2 ⟨rfl, hb⟩
      have B2 := Lib.hid (B1.out.trans (hb.mono B1.out.size))
      clear hb
      go_wp2_with fail
      refine (works_v _).mono ?_
      rintro e w3 ⟨rfl, hb⟩
      have B3 := Lib.hid (B2.out.trans (hb.mono B2.out.size))
      clear hb
      go_wp2_with fail
      go_ret
      exact ⟨rfl, B3.out⟩
    · obtain ⟨q, rfl⟩ : ∃ q, gk = q + 1 := ⟨gk - 1, by omega⟩
      have hjN : (j : Int) < (N : Int) := by omega
      have hjN' : j < N := by omega
      obtain ⟨bb, off, t, hA, ht, hc⟩ := cell_at HS.out B1.out j (by rw [HN.out]; exact hjN')
      obtain ⟨y, hy⟩ : ∃ y, (t.toList == (⟨#[]⟩ : ByteArray).toList) = y := ⟨_, rfl⟩
      have hy' := hy
      rw [Lib.toList_data (⟨#[]⟩ : ByteArray)] at hy'
      have HJ := Lib.hid hj
      clear hg hj ht
      subst hA
      cases y
      · go_wp2_with fail
        go_roundg q
        case measure => omega
        case rel => exact ⟨j + 1, by have := HJ.out; omega, by go_num, rfl⟩
      · go_wp2_with fail
        go_roundg q
        case measure => omega
        case rel => exact ⟨j + 1, by have := HJ.out; omega, by go_num, rfl⟩
set_option maxHeartbeats 1000000 in
theorem news_some (w : World) (s R : ByteArray) (A : Option Addr) (cap : Nat) (ss : List ByteArray) (hs : s.size ≤ 60) (hl : ss.length ≤ 60) (h : Strs w A ss) (hr : fresh s.data.toList (bs ss) (ss.length + 1) 0 = R.data.toList) (hne : ∀ t ∈ ss, (t.toList == R.toList) = false) :
    Calls Tryd.prog 5 #[.string s, .slice A ss.length cap] w fun e w' => e = .returned (.bool true) ∧ Below w.heap.size w w' := by
  have HR := Lib.hid (And.intro hr hne)
  have HS := Lib.hid h
  clear hr h hne
  obtain ⟨N, hN⟩ : ∃ N, ss.length = N := ⟨_, rfl⟩
  have HN := Lib.hid hN
  rw [hN] at hl ⊢
  clear hN
  have d1 : decide (60 < N) = false := by rw [decide_eq_false_iff_not]; omega
  have d2 : decide (60 < s.size) = false := by rw [decide_eq_false_iff_not]; omega
  go_enter Tryd.func5, Tryd.ntmps5
  go_wp2_with fail
  refine (fresh_n w s R A cap N ss hs HN.out hl HS.out HR.out.1).mono ?_
  rintro e w1 ⟨rfl, hb⟩
  have B1 := Lib.hid hb
  clear hb
  go_wp2_with fail
  clear d1 d2
  go_loopg [6] N (fun gk i wr => ∃ j : Nat, j + gk = N ∧ i = .int .i64 (j : Int) ∧ w1 = wr)
  case atStart => exact ⟨0, by omega, rfl, rfl⟩
  case round =>
    obtain ⟨j, hj, rfl, rfl⟩ := hrel
    by_cases hg : gk = 0
    · subst hg
      obtain rfl : j = N := by omega
      clear hj
      go_wp2_with fail
      refine (reffresh_n w1 s R A cap j ss hs HN.out hl (HS.out.below B1.out) HR.out.1).mono ?_
      rintro e w2 ⟨rfl, hb⟩
      have B2 := Lib.hid (B1.out.trans (hb.mono B1.out.size))
      clear hb
      go_wp2_with fail
      refine (works_v _).mono ?_
      rintro e w3 ⟨rfl, hb⟩
      have B3 := Lib.hid (B2.out.trans (hb.mono B2.out.size))
      clear hb
      go_wp2_with fail
      go_ret
      exact ⟨rfl, B3.out⟩
    · obtain ⟨q, rfl⟩ : ∃ q, gk = q + 1 := ⟨gk - 1, by omega⟩
      have hjN : (j : Int) < (N : Int) := by omega
      have hjN' : j < N := by omega
      obtain ⟨bb, off, t, hA, ht, hc⟩ := cell_at HS.out B1.out j (by rw [HN.out]; exact hjN')
      have hy := HR.out.2 t (List.mem_of_getElem? ht)
      have HJ := Lib.hid hj
      clear hg hj ht
      subst hA
      go_wp2_with fail
      go_roundg q
      case measure => omega
      case rel => exact ⟨j + 1, by have := HJ.out; omega, by go_num, rfl⟩
theorem news_long (w : World) (s : ByteArray) (A : Option Addr) (n cap : Nat) (h : 60 < n ∨ 60 < s.size) :
    Calls Tryd.prog 5 #[.string s, .slice A n cap] w fun e w' => e = .returned (.bool true) ∧ Below w.heap.size w w' := by
  by_cases h0 : 60 < n
  · have d1 : decide (60 < n) = true := decide_eq_true h0
    clear h
    go_enter Tryd.func5, Tryd.ntmps5
    go_wp2_with fail
    refine (works_v _).mono ?_
    rintro e w3 ⟨rfl, hb⟩
    have B3 := Lib.hid hb
    clear hb
    go_wp2_with fail
    go_ret
    exact ⟨rfl, B3.out⟩
  · have d1 : decide (60 < n) = false := decide_eq_false h0
    have h2 : 60 < s.size := by omega
    have d2 : decide (60 < s.size) = true := decide_eq_true h2
    have h3 : n ≤ 60 := by omega
    clear h h0
    go_enter Tryd.func5, Tryd.ntmps5
    go_wp2_with fail
    refine (works_v _).mono ?_
    rintro e w3 ⟨rfl, hb⟩
    have B3 := Lib.hid hb
    clear hb
    go_wp2_with fail
    go_ret
    exact ⟨rfl, B3.out⟩
theorem news_walk (w : World) (s : ByteArray) (A : Option Addr) (cap : Nat) (ss : List ByteArray) (h : Strs w A ss) :
    Calls Tryd.prog 5 #[.string s, .slice A ss.length cap] w fun e w' => e = .returned (.bool true) ∧ Below w.heap.size w w' := by
  by_cases h1 : ss.length ≤ 60 ∧ s.size ≤ 60
  · obtain ⟨r, hr⟩ : ∃ r, fresh s.data.toList (bs ss) (ss.length + 1) 0 = r := ⟨_, rfl⟩
    by_cases h2 : r = []
    · subst h2
      exact news_none w s A cap ss h1.2 h1.1 h hr
    · refine news_some w s ⟨r.toArray⟩ A cap ss h1.2 h1.1 h (by rw [list_mk]; exact hr) (fun t ht => ?_)
      rw [same_iff, list_mk r, decide_eq_false_iff_not]
      intro e
      have := fresh_not s.data.toList (bs ss) (ss.length + 1) 0 (by rw [hr]; exact h2)
      rw [hr, ← e] at this
      exact this (mem_bs ht)
  · exact news_long w s A _ cap (by omega)
end Go.Proofs.YtpdodiloddkabaaDoor
