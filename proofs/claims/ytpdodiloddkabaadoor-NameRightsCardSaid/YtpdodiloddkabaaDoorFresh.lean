/- What the program's Fresh answers. -/
import Derived.Test.YtpdodiloddkabaaDoorOneOf
import Derived.Test.YtpdodiloddkabaaDoorItoa
import Derived.Test.YtpdodiloddkabaaDoorCut
namespace Go.Proofs.YtpdodiloddkabaaDoor
open Go.ChangeShapes Go.WideShapes Go.RowKit Go.WideMaps Go.Maps
set_option linter.unusedVariables false

theorem cat_list (s : ByteArray) (l : List UInt8) : (s ++ ⟨l.toArray⟩ : ByteArray).data.toList = s.data.toList ++ l := by simp
theorem ret_s {P : ByteArray} {l : List UInt8} (h : P.data.toList = l) : Ending.returned (.string P) = .returned (.string ⟨l.toArray⟩) := by rw [← h, ← mk_list]
/-- At a number: all lesser ones are used, and from it on the first is still to come. -/
def Seek (stem : List UInt8) (used : List (List UInt8)) (r : List UInt8) (gk k : Nat) : Prop :=
  k + gk = used.length ∧ (∀ i, i < k → stem ++ num i ∈ used) ∧ fresh stem used (gk + 1) k = r
theorem Seek.bad {stem : List UInt8} {used : List (List UInt8)} {r : List UInt8} {gk k : Nat} (h : Seek stem used r gk k) (hr : right (stem ++ num k) = false) : [] = r := by
  rw [← h.2.2]; unfold fresh; rw [hr]; rfl
theorem Seek.free {stem : List UInt8} {used : List (List UInt8)} {r : List UInt8} {gk k : Nat} (h : Seek stem used r gk k) (hr : right (stem ++ num k) = true) (hu : decide (stem ++ num k ∈ used) = false) : stem ++ num k = r := by
  rw [← h.2.2]; unfold fresh; rw [hr, if_pos rfl, if_neg (by simpa using hu)]
theorem Seek.next {stem : List UInt8} {used : List (List UInt8)} {r : List UInt8} {gk k : Nat} (h : Seek stem used r gk k) (hl : used.length ≤ 60) (hr : right (stem ++ num k) = true) (hu : decide (stem ++ num k ∈ used) = true) :
    ∃ q, gk = q + 1 ∧ Seek stem used r q (k + 1) := by
  have hu' : stem ++ num k ∈ used := by simpa using hu
  have hall : ∀ i, i < k + 1 → stem ++ num i ∈ used := fun i hi => by
    by_cases e : i = k
    · subst e; exact hu'
    · exact h.2.1 i (by omega)
  by_cases h0 : gk = 0
  · exfalso
    subst h0
    exact some_free stem used hl fun i hi => hall i (by have := h.1; omega)
  · obtain ⟨q, rfl⟩ : ∃ q, gk = q + 1 := ⟨gk - 1, by omega⟩
    refine ⟨q, rfl, by have := h.1; omega, hall, ?_⟩
    have := h.2.2
    unfold fresh at this
    rw [hr, if_pos rfl, if_pos hu'] at this
    exact this
set_option maxHeartbeats 1000000 in
theorem fresh_v (w : World) (s : ByteArray) (A : Option Addr) (cap : Nat) (ss : List ByteArray) (r : List UInt8) (hs : s.size ≤ 60) (hl : ss.length ≤ 60) (h : Strs w A ss) (hr : fresh s.data.toList (bs ss) (ss.length + 1) 0 = r) :
    Calls Tryd.prog 15 #[.string s, .slice A ss.length cap] w fun e w' => e = .returned (.string ⟨r.toArray⟩) ∧ Below w.heap.size w w' := by
  have HR := Lib.hid hr
  have HS := Lib.hid h
  clear hr h
  go_enter Tryd.func15, Tryd.ntmps15
  go_wp2_with fail
  refine (oneOf_v A cap ss _ hl HS.out).mono ?_
  rintro e w1 ⟨p, rfl, hk, hb⟩
  have HK := Lib.hid hk
  have B := Lib.hid hb
  clear hk hb
  go_wp2_with fail
  go_loopg [6] ss.length (fun gk i wr => ∃ k : Nat, k ≤ 60 ∧ i = .int .i64 (k : Int) ∧ Hid (Seek s.data.toList (bs ss) r gk k ∧ w1 = wr))
  case atStart => exact ⟨0, by omega, rfl, ⟨by rw [bs_len]; omega, fun i hi => by omega, HR.out⟩, rfl⟩
  case round =>
    obtain ⟨k, hk, rfl, HH⟩ := hrel
    obtain rfl := HH.out.2
    obtain ⟨l, hn⟩ : ∃ l, num k = l := ⟨_, rfl⟩
    have hll : l.length ≤ 2 := by rw [← hn]; exact num_le k
    obtain ⟨x, hx⟩ : ∃ x, right (s.data.toList ++ l) = x := ⟨_, rfl⟩
    obtain ⟨y, hy⟩ : ∃ y, decide (s.data.toList ++ l ∈ bs ss) = y := ⟨_, rfl⟩
    have HX := Lib.hid (And.intro hn (And.intro hx hy))
    have hsz : (⟨l.toArray⟩ : ByteArray).size ≤ 2 := by simpa [ByteArray.size] using hll
    clear hn hx hy hll
    cases x
    · go_wp2_with fail
      refine (itoa_v k l HX.out.1 (by omega) _).mono ?_
      rintro e w2 ⟨rfl, rfl⟩
      go_wp2_with fail
      refine (right_v (s ++ ByteArray.mk l.toArray) false (by rw [cat_list]; exact HX.out.2.1) _).mono ?_
      rintro e w2 ⟨rfl, rfl⟩
      go_wp2_with fail
      go_ret
      have hf := HH.out.1.bad (by rw [HX.out.1]; exact HX.out.2.1)
      refine ⟨?_, B.out⟩
      show Ending.returned (.string ⟨#[]⟩) = _
      rw [← hf]
    · cases y
      · go_wp2_with fail
        refine (itoa_v k l HX.out.1 (by omega) _).mono ?_
        rintro e w2 ⟨rfl, rfl⟩
        go_wp2_with fail
        refine (right_v (s ++ ByteArray.mk l.toArray) true (by rw [cat_list]; exact HX.out.2.1) _).mono ?_
        rintro e w2 ⟨rfl, rfl⟩
        go_wp2_with fail
        refine (is_v _ p (bs ss) (s ++ ByteArray.mk l.toArray) false HK.out (by rw [ByteArray.size_append]; unfold maxLen; omega) (by rw [cat_list]; exact HX.out.2.2) ).mono ?_
        rintro e w2 ⟨rfl, rfl⟩
        go_wp2_with fail
        go_ret
        have hf := HH.out.1.free (by rw [HX.out.1]; exact HX.out.2.1) (by rw [HX.out.1]; exact HX.out.2.2)
        rw [HX.out.1] at hf
        refine ⟨?_, B.out⟩
        show Ending.returned (.string (s ++ ByteArray.mk l.toArray)) = _
        exact ret_s ((cat_list s l).trans hf)
      · obtain ⟨q, rfl, hq⟩ := HH.out.1.next (by rw [bs_len]; exact hl) (by rw [HX.out.1]; exact HX.out.2.1) (by rw [HX.out.1]; exact HX.out.2.2)
        have HQ := Lib.hid hq
        clear hq
        go_wp2_with fail
        refine (itoa_v k l HX.out.1 (by omega) _).mono ?_
        rintro e w2 ⟨rfl, rfl⟩
        go_wp2_with fail
        refine (right_v (s ++ ByteArray.mk l.toArray) true (by rw [cat_list]; exact HX.out.2.1) _).mono ?_
        rintro e w2 ⟨rfl, rfl⟩
        go_wp2_with fail
        refine (is_v _ p (bs ss) (s ++ ByteArray.mk l.toArray) true HK.out (by rw [ByteArray.size_append]; unfold maxLen; omega) (by rw [cat_list]; exact HX.out.2.2) ).mono ?_
        rintro e w2 ⟨rfl, rfl⟩
        go_wp2_with fail
        go_roundg q
        case measure => omega
        case rel => exact ⟨k + 1, by have := HQ.out.1; rw [bs_len] at this; omega, by go_num, HQ.out, rfl⟩
end Go.Proofs.YtpdodiloddkabaaDoor
