/- OpPlaces' walk. -/
import Derived.Test.YtmpcjjlffebljaaDoorPlaRef
import Derived.StillTailTactics
namespace Go.Proofs.YtmpcjjlffebljaaDoor
open Go.ChangeShapes Go.WideShapes Go.RowKit
set_option linter.unusedVariables false

theorem cls_at (v : Int) (x : Nat) (hx : x < 2) (hf : fitR v (x : Int) = true) : (clsR v x).length < (clsR v 2).length ∧ (clsR v 2).getD (clsR v x).length 0 = (x : Int) := by
  have : x = 0 ∨ x = 1 := by omega
  rcases this with rfl | rfl
  · have e1 : clsR v 1 = [0] := clsR_yes v 0 hf
    have e2 : clsR v 2 = [0] ++ if fitR v 1 then [1] else [] := by rw [← e1]; rfl
    rw [e2]
    simp [clsR]
  · have e2 := clsR_yes v 1 hf
    rw [e2]
    simp
/-- What Classes answered, in memory. -/
def Cp (v : Int) (w : World) (A : Option Addr) (N : Nat) : Prop :=
  N = (clsR v 2).length ∧ ∀ j, j < N → ∃ g, A = some ⟨g, 0, none⟩ ∧ w.cell? ⟨g, j, none⟩ = some (.int .i64 ((clsR v 2).getD j 0))
theorem Cp.below {v : Int} {w w' : World} {A : Option Addr} {N : Nat} (h : Cp v w A N) (hb : Below w.heap.size w w') : Cp v w' A N := by
  refine ⟨h.1, fun j hj => ?_⟩
  obtain ⟨g, h1, h2⟩ := h.2 j hj
  exact ⟨g, h1, (hb.cell (p := ⟨g, j, none⟩) (spot_lt h2)).trans h2⟩
theorem cp_of {v : Int} {w : World} {B c : Nat} {A : Option Addr} {N : Nat} (hN : N = (clsR v 2).length) (h : w.ownsRow B 3 1 (.slice A N c) N (ints (clsR v 2))) : Cp v w A N := by
  refine ⟨hN, fun j hj => ?_⟩
  rcases h.2 with ⟨h1, h2, _⟩ | ⟨g, cap, cur, h1, _⟩
  · omega
  · injection h1 with h1 _ _
    subst h1
    refine ⟨g, rfl, ?_⟩
    have hc := h.cellAt j (by omega)
    rw [hc]
    unfold ints
    rw [List.getElem?_map, List.getD_eq_getElem?_getD, List.getElem?_eq_getElem (by omega)]
    rfl
theorem opPlaces_v (n i kd cl : Int) (w : World) (hG : Glob w) : Calls Tryd.prog 4 #[.int .i64 n, .int .i64 i, .int .i64 kd, .int .i64 cl] w fun e w' => e = .returned (.bool true) ∧ Below w.heap.size w w' := by
  have HG := Lib.hid hG
  clear hG
  obtain ⟨v, hv⟩ : ∃ v, atR n i = v := ⟨_, rfl⟩
  have HV := Lib.hid hv
  clear hv
  go_enter Tryd.func4, Tryd.ntmps4
  go_wp2_with fail
  refine (classes_v n i v HV.out _).mono ?_
  rintro e w1 ⟨A, c, rfl, ho, hb⟩
  have B1 := Lib.hid hb
  obtain ⟨N, hN⟩ : ∃ N, (clsR v 2).length = N := ⟨_, rfl⟩
  rw [hN] at ho ⊢
  have C1 := Lib.hid (cp_of hN.symm ho)
  clear hb ho hN
  go_wp2_with fail
  go_loopg [10, 11] 2 (fun gk y x wr => ∃ k a : Nat, k + gk = 2 ∧ a ≤ k ∧ x = .int .i64 (k : Int) ∧ y = .int .i64 (a : Int) ∧ Hid (a = (clsR v k).length ∧ Cp v wr A N ∧ Below w.heap.size w wr))
  case atStart => exact ⟨0, 0, rfl, Nat.le_refl _, rfl, rfl, rfl, C1.out, B1.out⟩
  case round =>
    obtain ⟨k, a, hk, ha, rfl, rfl, HH⟩ := hrel
    by_cases hlt : k < 2
    · cases hb : fitR v (k : Int) with
      | true =>
        have HB := Lib.hid hb
        clear hb
        go_wp2_with fail
        refine (rfits_v n i (k : Int) true (by rw [HV.out]; exact HB.out) _).mono ?_
        rintro e w2 ⟨rfl, hb2⟩
        have B2 := Lib.hid hb2
        clear hb2
        have hc := cls_at v k hlt HB.out
        rw [← HH.out.1, ← HH.out.2.1.1] at hc
        obtain ⟨g, hA, hz⟩ := (HH.out.2.1.below B2.out).2 a hc.1
        rw [hc.2] at hz
        have H2 := Lib.hid (And.intro HH.out.1 (And.intro (HH.out.2.1.below B2.out) (HH.out.2.2.trans (B2.out.mono HH.out.2.2.size))))
        have hi : (a : Int) < (N : Int) := by omega
        have ci : decide (N ≤ a) = false := decide_eq_false (by omega)
        clear hc C1 HH
        subst hA
        go_wp2_with fail
        go_roundg (gk - 1)
        case measure => omega
        case rel => exact ⟨k + 1, a + 1, by omega, by omega, by go_num, by go_num, by rw [clsR_yes v k HB.out, List.length_append, ← H2.out.1]; rfl, H2.out.2⟩
      | false =>
        have HB := Lib.hid hb
        clear hb
        go_wp2_with fail
        refine (rfits_v n i (k : Int) false (by rw [HV.out]; exact HB.out) _).mono ?_
        rintro e w2 ⟨rfl, hb2⟩
        have B2 := Lib.hid hb2
        clear hb2
        go_wp2_with fail
        go_roundg (gk - 1)
        case measure => omega
        case rel => exact ⟨k + 1, a, by omega, by omega, by go_num, rfl, by rw [clsR_no v k HB.out]; exact HH.out.1, HH.out.2.1.below B2.out, HH.out.2.2.trans (B2.out.mono HH.out.2.2.size)⟩
    · obtain rfl : k = 2 := by omega
      obtain rfl : a = N := HH.out.1.trans HH.out.2.1.1.symm
      clear hlt
      go_wp2_with fail
      have B0 := Lib.hid HH.out.2.2
      obtain ⟨f, hf⟩ : ∃ f, fitR v cl = f := ⟨_, rfl⟩
      obtain ⟨t, ht⟩ : ∃ t, takesR n i kd false = t := ⟨_, rfl⟩
      obtain ⟨u, hu⟩ : ∃ u, takesR n i kd true = u := ⟨_, rfl⟩
      have HF := Lib.hid (And.intro hf (And.intro ht hu))
      clear hf ht hu HH C1
      refine (fits_v n i cl f (by rw [HV.out]; exact HF.out.1) _).mono ?_
      rintro e w2 ⟨rfl, rfl⟩
      go_wp2_with fail
      refine (rfits_v n i cl f (by rw [HV.out]; exact HF.out.1) _).mono ?_
      rintro e w3 ⟨rfl, hb3⟩
      have B3 := Lib.hid (B0.out.trans (hb3.mono B0.out.size))
      clear hb3
      go_wp2_with fail
      refine (takes_v n i kd false _).mono ?_
      rintro e w4 ⟨rfl, rfl⟩
      rw [HF.out.2.1]
      go_wp2_with fail
      refine (rtakes_v n i kd false _).mono ?_
      rintro e w5 ⟨rfl, hb5⟩
      have B5 := Lib.hid (B3.out.trans (hb5.mono B3.out.size))
      clear hb5
      rw [HF.out.2.1]
      go_wp2_with fail
      refine (takes_v n i kd true _).mono ?_
      rintro e w6 ⟨rfl, rfl⟩
      rw [HF.out.2.2]
      go_wp2_with fail
      refine (rtakes_v n i kd true _).mono ?_
      rintro e w7 ⟨rfl, hb7⟩
      have B7 := Lib.hid (B5.out.trans (hb7.mono B5.out.size))
      clear hb7
      rw [HF.out.2.2]
      go_wp2_with fail
      refine (works_v _ (HG.out.below B7.out HG.out.1)).mono ?_
      rintro e w8 ⟨rfl, hb8⟩
      have B8 := Lib.hid (B7.out.trans (hb8.mono B7.out.size))
      clear hb8
      go_wp2_with fail
      go_ret
      exact ⟨rfl, B8.out⟩
end Go.Proofs.YtmpcjjlffebljaaDoor
