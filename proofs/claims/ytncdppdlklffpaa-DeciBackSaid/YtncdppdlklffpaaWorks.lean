/- The statements' own small check of the program answers true. -/
import Derived.Test.YtncdppdlklffpaaScanTop
import Derived.Test.YtncdppdlklffpaaPut
namespace Go.Proofs.Ytncdppdlklffpaa
open Go.ChangeShapes Go.WideShapes Go.RowKit
set_option linter.unusedVariables false

theorem scn42 : Scn ⟨#[45, 52, 50]⟩ 0 true 1 3 where
  ha := by decide
  hy := fun _ => ⟨by decide, by decide⟩
  hn := fun h => by cases h
  hfr := rfl
  hle := by decide
  hfin := by decide
  dig := by
    intro i h h1 h2
    have : i = 1 ∨ i = 2 := by omega
    rcases this with rfl | rfl <;> exact ⟨by decide +revert, by decide +revert⟩
  stop := fun h => absurd h (by decide)
theorem scn7 : Scn ⟨#[97, 55, 98]⟩ 1 false 1 2 where
  ha := by decide
  hy := fun h => by cases h
  hn := fun _ h => by decide +revert
  hfr := rfl
  hle := by decide
  hfin := by decide
  dig := by
    intro i h h1 h2
    have : i = 1 := by omega
    subst this; exact ⟨by decide +revert, by decide +revert⟩
  stop := fun h => by unfold isDig; decide +revert
theorem scn007 : Scn ⟨#[48, 48, 55]⟩ 0 false 0 3 where
  ha := by decide
  hy := fun h => by cases h
  hn := fun _ h => by decide +revert
  hfr := rfl
  hle := by decide
  hfin := by decide
  dig := by
    intro i h h1 h2
    have : i = 0 ∨ i = 1 ∨ i = 2 := by omega
    rcases this with rfl | rfl | rfl <;> exact ⟨by decide +revert, by decide +revert⟩
  stop := fun h => absurd h (by decide)
theorem d42 : dgs ⟨#[45, 52, 50]⟩ 1 3 = [52, 50] := by rfl
theorem d7 : dgs ⟨#[97, 55, 98]⟩ 1 2 = [55] := by rfl
theorem d007 : dgs ⟨#[48, 48, 55]⟩ 0 3 = [48, 48, 55] := by rfl
theorem t42 : scanT (dgs ⟨#[45, 52, 50]⟩ 1 3) true 3 = (-42, 3, 0) := by
  rw [d42, scanT_ok ⟨by simp, fun c hc h => by simp at hc; subst hc; revert h; decide⟩ (by decide)]; rfl
theorem t7 : scanT (dgs ⟨#[97, 55, 98]⟩ 1 2) false 2 = (7, 2, 0) := by
  rw [d7, scanT_ok ⟨by simp, fun c hc h => by simp at hc; subst hc; revert h; decide⟩ (by decide)]; rfl
theorem t007 : scanT (dgs ⟨#[48, 48, 55]⟩ 0 3) false 3 = (0, 0, 12) := by
  rw [d007, scanT_bad]
  intro h
  have := (h.2 48 rfl (by decide)).1
  revert this; decide
theorem get42 (w : World) : Calls Try.prog 14 #[.string ⟨#[45, 52, 50]⟩] w fun e w' => e = .returned (.tuple #[.int .i64 (-42), .int .i64 0]) ∧ w = w' :=
  get_v _ true 1 3 (-42) 3 0 (-42) 0 (by decide) scn42 t42 (by decide) w
theorem get007 (w : World) : Calls Try.prog 14 #[.string ⟨#[48, 48, 55]⟩] w fun e w' => e = .returned (.tuple #[.int .i64 0, .int .i64 12]) ∧ w = w' :=
  get_v _ false 0 3 0 0 12 0 12 (by decide) scn007 t007 (by decide) w
theorem scan7 (w : World) : Calls Try.prog 12 #[.string ⟨#[97, 55, 98]⟩, .int .i64 1] w fun e w' => e = .returned (.tuple #[.int .i64 7, .int .i64 2, .int .i64 0]) ∧ w = w' :=
  scan_v _ 1 false 1 2 7 2 0 (by decide) scn7 t7 w
theorem digs_of (l : List UInt8) (u : Nat) (hv : val l = u) (h0 : 0 < l.length) (hd : ∀ c ∈ l, 48 ≤ c.toNat ∧ c.toNat ≤ 57) (hh : ∀ c, l.head? = some c → c.toNat ≠ 48) : digs u = l := by
  rw [← hv]; exact digs_val l.length l rfl h0 hd (fun c hc h => absurd h (hh c hc))
theorem txt_least : txt (-9223372036854775808) = [45, 57, 50, 50, 51, 51, 55, 50, 48, 51, 54, 56, 53, 52, 55, 55, 53, 56, 48, 56] := by
  unfold txt
  rw [if_pos (by decide), digs_of [57, 50, 50, 51, 51, 55, 50, 48, 51, 54, 56, 53, 52, 55, 55, 53, 56, 48, 56] _ (by decide) (by decide) (by decide) (fun c hc => by simp at hc; subst hc; decide)]
theorem txt_5 : txt 5 = [53] := by
  unfold txt
  rw [if_neg (by decide), digs_of [53] _ (by decide) (by decide) (by decide) (fun c hc => by simp at hc; subst hc; decide)]
theorem txt_10 : txt (-10) = [45, 49, 48] := by
  unfold txt
  rw [if_pos (by decide), digs_of [49, 48] _ (by decide) (by decide) (by decide) (fun c hc => by simp at hc; subst hc; decide)]
theorem put_least (w : World) : Calls Try.prog 7 #[.int .i64 (-9223372036854775808)] w fun e w' => e = .returned (.string ⟨#[45, 57, 50, 50, 51, 51, 55, 50, 48, 51, 54, 56, 53, 52, 55, 55, 53, 56, 48, 56]⟩) ∧ Below w.heap.size w w' :=
  put_v _ _ txt_least ⟨by decide, by decide⟩ w
theorem pad_53 (w : World) : Calls Try.prog 9 #[.int .i64 5, .int .i64 3] w fun e w' => e = .returned (.string ⟨#[32, 32, 53]⟩) ∧ Below w.heap.size w w' :=
  pad_v 5 3 _ txt_5 ⟨by decide, by decide⟩ (by decide) w
theorem long_10 (w : World) : Calls Try.prog 11 #[.int .i64 (-10)] w fun e w' => e = .returned (.int .i64 3) ∧ Below w.heap.size w w' :=
  long_v (-10) _ txt_10 ⟨by decide, by decide⟩ w
theorem works_is (w : World) : Calls Try.prog 6 #[] w fun e w' => e = .returned (.bool true) ∧ Below w.heap.size w w' := by
  go_enter Try.func6, Try.ntmps6
  go_wp2_with fail
  refine (get42 _).mono ?_
  rintro e w' ⟨rfl, rfl⟩
  go_wp2_with fail
  refine (scan7 _).mono ?_
  rintro e w' ⟨rfl, rfl⟩
  go_wp2_with fail
  refine (get007 _).mono ?_
  rintro e w' ⟨rfl, rfl⟩
  go_wp2_with fail
  refine (put_least _).mono ?_
  rintro e w1 ⟨rfl, hb1⟩
  have B1 := Lib.hid hb1
  clear hb1
  go_wp2_with fail
  refine (pad_53 _).mono ?_
  rintro e w2 ⟨rfl, hb2⟩
  have B2 := Lib.hid hb2
  clear hb2
  go_wp2_with fail
  refine (long_10 _).mono ?_
  rintro e w3 ⟨rfl, hb3⟩
  have B3 := Lib.hid hb3
  clear hb3
  go_wp2_with fail
  go_ret
  have h2 := B1.out.trans (B2.out.mono B1.out.size)
  exact ⟨rfl, h2.trans (B3.out.mono h2.size)⟩
end Go.Proofs.Ytncdppdlklffpaa
