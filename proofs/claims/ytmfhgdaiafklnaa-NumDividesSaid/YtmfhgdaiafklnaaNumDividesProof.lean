/- The statement NumDivides holds at every input: quotient, divisor and what is left belong together as the chapter says. Its conditions: none but those of the row itself. -/
import Derived.Test.YtmfhgdaiafklnaaRows
import Derived.WalkKit
import Derived.ProofKit
import Derived.OpenShut
import Derived.Test.YtmfhgdaiafklnaaFold
namespace Go.Proofs.Ytmfhgdaiafklnaa.numDivides
open Go.ChangeShapes Go.WideShapes Go.ChangeAt Go.RowKit
set_option linter.unusedVariables false      -- a walk need not use every 'w<i>' (that an integer argument fits its kind)

theorem own : ownKnob Try.prog.godebug = none := by kernel_rfl

theorem rem_facts (a b : Int) (hb : ¬ b = 0) : (b < 0 → b < remV a b ∧ remV a b < -b) ∧ (0 < b → -b < remV a b ∧ remV a b < b) ∧ (0 ≤ a → 0 ≤ remV a b) ∧ (a < 0 → remV a b ≤ 0) := by
  unfold remV
  refine ⟨fun h => ?_, fun h => ⟨Int.lt_tmod_of_pos a h, Int.tmod_lt_of_pos a h⟩, fun h => Int.tmod_nonneg b h, fun h => ?_⟩
  · have h1 := Int.lt_tmod_of_pos a (show 0 < -b by omega)
    have h2 := Int.tmod_lt_of_pos a (show 0 < -b by omega)
    rw [Int.tmod_neg] at h1 h2
    omega
  · have := Int.tmod_nonneg b (show 0 ≤ -a by omega)
    rw [Int.neg_tmod] at this
    omega
theorem div_back (a b : Int) (h : fit a) : (addV (mulV (divV a b) b) (remV a b) == a) = true := by
  rw [beq_iff_eq, add_B, B_mul]
  have e : B (divV a b) = B (a.tdiv b) := by unfold divV; rw [wrap_toInt, B_toInt]
  rw [e]
  unfold remV
  rw [← BitVec.ofInt_mul, ← BitVec.ofInt_add, Int.mul_comm, Int.mul_tdiv_add_tmod]
  exact toInt_B h
theorem walk0 (a0 : Int) (w : World) :
    Calls Try.prog 5 #[.int .i64 a0, .int .i64 0] w fun e w' => e = .returned (.bool true) ∧ Below w.heap.size w w' := by
  go_enter Try.func5, Try.ntmps5
  go_wp2_with (first
    | (go_at_call 8; (with_reducible refine (do_div0 _ _).mono ?_); rintro e w' ⟨rfl, rfl⟩)
    | (go_at_call 8; (with_reducible refine (do_rem0 _ _).mono ?_); rintro e w' ⟨rfl, rfl⟩)
    | (go_at_call 11; (with_reducible refine (works_is _).mono ?_); rintro e w' ⟨rfl, hb⟩))
  go_ret
  exact ⟨rfl, hb⟩
set_option maxRecDepth 100000 in
set_option maxHeartbeats 1000000 in
theorem walk1 (a0 a1 : Int) (w : World) (hb : (a1 == 0) = false) (hb2 : ¬ a1 = 0) (f1 : -9223372036854775808 ≤ a1) (f2 : a1 ≤ 9223372036854775807) (q : (addV (mulV (divV a0 a1) a1) (remV a0 a1) == a0) = true)
    (hr : (remV a0 a1 == 0) = true) :
    Calls Try.prog 5 #[.int .i64 a0, .int .i64 a1] w fun e w' => e = .returned (.bool true) ∧ Below w.heap.size w w' := by
  go_enter Try.func5, Try.ntmps5
  go_wp2_with (first
    | (go_at_call 8; (with_reducible refine (do_div _ _ hb hb2 _).mono ?_); rintro e w' ⟨rfl, rfl⟩)
    | (go_at_call 8; (with_reducible refine (do_rem _ _ hb hb2 _).mono ?_); rintro e w' ⟨rfl, rfl⟩)
    | (go_at_call 8; (with_reducible refine (do_mul _ _ _).mono ?_); rintro e w' ⟨rfl, rfl⟩)
    | (go_at_call 8; (with_reducible refine (do_add _ _ _).mono ?_); rintro e w' ⟨rfl, rfl⟩)
    | (go_at_call 11; (with_reducible refine (works_is _).mono ?_); rintro e w' ⟨rfl, hb⟩))
  go_ret
  exact ⟨rfl, hb⟩
set_option maxRecDepth 100000 in
set_option maxHeartbeats 1000000 in
theorem walk2 (a0 a1 : Int) (w : World) (hb : (a1 == 0) = false) (hb2 : ¬ a1 = 0) (f1 : -9223372036854775808 ≤ a1) (f2 : a1 ≤ 9223372036854775807) (q : (addV (mulV (divV a0 a1) a1) (remV a0 a1) == a0) = true)
    (hr : (remV a0 a1 == 0) = false) (hn : a1 < 0) (hm : (a1 == -9223372036854775808) = true) (h1 : a1 < remV a0 a1) (p1 : decide (remV a0 a1 < 0) = decide (a0 < 0)) :
    Calls Try.prog 5 #[.int .i64 a0, .int .i64 a1] w fun e w' => e = .returned (.bool true) ∧ Below w.heap.size w w' := by
  go_enter Try.func5, Try.ntmps5
  go_wp2_with (first
    | (go_at_call 8; (with_reducible refine (do_div _ _ hb hb2 _).mono ?_); rintro e w' ⟨rfl, rfl⟩)
    | (go_at_call 8; (with_reducible refine (do_rem _ _ hb hb2 _).mono ?_); rintro e w' ⟨rfl, rfl⟩)
    | (go_at_call 8; (with_reducible refine (do_mul _ _ _).mono ?_); rintro e w' ⟨rfl, rfl⟩)
    | (go_at_call 8; (with_reducible refine (do_add _ _ _).mono ?_); rintro e w' ⟨rfl, rfl⟩)
    | (go_at_call 11; (with_reducible refine (works_is _).mono ?_); rintro e w' ⟨rfl, hb⟩))
  go_ret
  exact ⟨rfl, hb⟩
set_option maxRecDepth 100000 in
set_option maxHeartbeats 1000000 in
theorem walk3 (a0 a1 : Int) (w : World) (hb : (a1 == 0) = false) (hb2 : ¬ a1 = 0) (f1 : -9223372036854775808 < a1) (f2 : a1 ≤ 9223372036854775807) (q : (addV (mulV (divV a0 a1) a1) (remV a0 a1) == a0) = true)
    (hr : (remV a0 a1 == 0) = false) (hn : a1 < 0) (hm : (a1 == -9223372036854775808) = false) (h1 : a1 < remV a0 a1) (h2 : remV a0 a1 < -a1) (p1 : decide (remV a0 a1 < 0) = decide (a0 < 0)) :
    Calls Try.prog 5 #[.int .i64 a0, .int .i64 a1] w fun e w' => e = .returned (.bool true) ∧ Below w.heap.size w w' := by
  go_enter Try.func5, Try.ntmps5
  go_wp2_with (first
    | (go_at_call 8; (with_reducible refine (do_div _ _ hb hb2 _).mono ?_); rintro e w' ⟨rfl, rfl⟩)
    | (go_at_call 8; (with_reducible refine (do_rem _ _ hb hb2 _).mono ?_); rintro e w' ⟨rfl, rfl⟩)
    | (go_at_call 8; (with_reducible refine (do_mul _ _ _).mono ?_); rintro e w' ⟨rfl, rfl⟩)
    | (go_at_call 8; (with_reducible refine (do_add _ _ _).mono ?_); rintro e w' ⟨rfl, rfl⟩)
    | (go_at_call 11; (with_reducible refine (works_is _).mono ?_); rintro e w' ⟨rfl, hb⟩))
  go_ret
  exact ⟨rfl, hb⟩
set_option maxRecDepth 100000 in
set_option maxHeartbeats 1000000 in
theorem walk4 (a0 a1 : Int) (w : World) (hb : (a1 == 0) = false) (hb2 : ¬ a1 = 0) (f2 : a1 ≤ 9223372036854775807) (q : (addV (mulV (divV a0 a1) a1) (remV a0 a1) == a0) = true)
    (hr : (remV a0 a1 == 0) = false) (hn : 0 < a1) (h1 : remV a0 a1 < a1) (h2 : -a1 < remV a0 a1) (p1 : decide (remV a0 a1 < 0) = decide (a0 < 0)) :
    Calls Try.prog 5 #[.int .i64 a0, .int .i64 a1] w fun e w' => e = .returned (.bool true) ∧ Below w.heap.size w w' := by
  go_enter Try.func5, Try.ntmps5
  go_wp2_with (first
    | (go_at_call 8; (with_reducible refine (do_div _ _ hb hb2 _).mono ?_); rintro e w' ⟨rfl, rfl⟩)
    | (go_at_call 8; (with_reducible refine (do_rem _ _ hb hb2 _).mono ?_); rintro e w' ⟨rfl, rfl⟩)
    | (go_at_call 8; (with_reducible refine (do_mul _ _ _).mono ?_); rintro e w' ⟨rfl, rfl⟩)
    | (go_at_call 8; (with_reducible refine (do_add _ _ _).mono ?_); rintro e w' ⟨rfl, rfl⟩)
    | (go_at_call 11; (with_reducible refine (works_is _).mono ?_); rintro e w' ⟨rfl, hb⟩))
  go_ret
  exact ⟨rfl, hb⟩
theorem walk (a0 : Int) (a1 : Int) (w0 : (Lit.int .i64 a0).wf = true) (w1 : (Lit.int .i64 a1).wf = true) (w : World) :
    Calls Try.prog 5 #[.int .i64 a0, .int .i64 a1] w fun e w' => e = .returned (.bool true) ∧ Below w.heap.size w w' := by
  by_cases h0 : a1 = 0
  · subst h0; exact walk0 a0 w
  · have hb : (a1 == 0) = false := by simpa using h0
    obtain ⟨f1, f2⟩ := wf_fit w1
    have q := div_back a0 a1 (wf_fit w0)
    obtain ⟨g1, g2, g3, g4⟩ := rem_facts a0 a1 h0
    by_cases hr : remV a0 a1 = 0
    · exact walk1 a0 a1 w hb h0 f1 f2 q (by simpa using hr)
    · have hr' : (remV a0 a1 == 0) = false := by simpa using hr
      have p1 : decide (remV a0 a1 < 0) = decide (a0 < 0) := by
        rw [decide_eq_decide]
        by_cases ha : a0 < 0
        · have := g4 ha; omega
        · have := g3 (by omega); omega
      by_cases hn : a1 < 0
      · by_cases hm : a1 = -9223372036854775808
        · exact walk2 a0 a1 w hb h0 f1 f2 q hr' hn (by simpa using hm) (g1 hn).1 p1
        · exact walk3 a0 a1 w hb h0 (by omega) f2 q hr' hn (by simpa using hm) (g1 hn).1 (g1 hn).2 p1
      · have hp : 0 < a1 := by omega
        exact walk4 a0 a1 w hb h0 f2 q hr' hp (g2 hp).2 (g2 hp).1 p1

/-! ### THE ROW's STEP: WRITTEN OUT: LEAVE IT -/
set_option maxRecDepth 100000 in
theorem lifted (os : Os) (started : os.Started) (H : Type) (enc : TypeId × Value → H) :
    ReturnsInHanded {} Try.checked os 5 .any (Rows.numDividesSpec.pre6 enc Try.prog Try.f5 Rows.numDividesRow.domain false) (Rows.numDividesSpec.post enc Try.prog Try.f5 false true false false) := by
  refine returnsInHanded_of_change (C := Try.checked) own started (by kernel_rfl) Try.func5
    (ChangeSpec.witness6 (enc := enc) (C := Try.checked) false ⟨#[], #[.int .i64 0, .int .i64 0], []⟩ 8 (by kernel_rfl) (by kernel_rfl) (by kernel_rfl) (by kernel_rfl)) ?_
  intro W base args ds gs before hval0 hW hcnd _
  have hval : ∀ (j : Nat) t v, Try.f5.params[j]? = some t → args[j]? = some v → Value.okWide Try.prog W .any base t v := hval0
  have hW' := hW
  obtain ⟨p, q, hA0, hV, rfl, hfz, hnd⟩ := hW
  have hA : DataW.TrodAll enc Try.prog W 0 (fun _ => true) true Try.f5.params.toList args.toList ds p := hA0
  rw [Try.params5] at hA hval
  obtain ⟨v0, vs0, d0, ds0, p0, q0, hargs, rfl, rfl, h0, r0⟩ := trodAll_cons hA
  obtain ⟨v1, vs1, d1, ds1, p1, q1, rfl, rfl, rfl, h1, r1⟩ := trodAll_cons r0
  obtain ⟨rfl, rfl, rfl⟩ := trodAll_nil r1
  obtain rfl : args = #[v0, v1] := by cases args; simp_all
  obtain ⟨rfl, rfl⟩ := trodVars_none hV
  obtain ⟨a0, rfl, rfl, rfl, w0⟩ := open_int Try.underlying3 (hval 0 3 v0 rfl rfl) h0
  obtain ⟨a1, rfl, rfl, rfl, w1⟩ := open_int Try.underlying3 (hval 1 3 v1 rfl rfl) h1
  clear hA0 hval0
  simp only [List.append_nil] at hW'
  refine (walk a0 a1 w0 w1 W).mono fun e W' ⟨he, bel⟩ => ?_
  subst he
  exact ⟨_, rfl, _, _, _, [], [], [], hW', trodAll_mk1 (shut_bool Try.underlying4 _), (trodAll_cons_mk (shut_int Try.underlying3 w0) (trodAll_cons_mk (shut_int Try.underlying3 w1) trodAll_mk0)), rfl, bel.frame _, fun h => by cases h⟩

theorem over : Rows.numDividesRow.holds Try.pinned (OpenSpec.ofChange Rows.numDividesSpec) :=
  OpenClaim.holds_of_wide 5 Try.f5 rfl rfl rfl rfl rfl rfl rfl ⟨rfl, rfl, rfl, rfl, rfl⟩ rfl rfl rfl rfl rfl (by kernel_rfl) Try.func5 (by kernel_rfl)
    (of_decide_eq_true (by kernel_rfl)) (by unfold Func.isWrapper; first | (rw [if_pos (by decide +kernel)]; kernel_rfl) | (rw [if_neg (by decide +kernel)]; exact ⟨rfl, rfl⟩))
    (fun os started H enc _ => lifted os started H enc)

/-- ████ THE STATEMENT ████ -/
theorem proved : Rows.NumDividesSaid :=
  over
#print axioms proved
end Go.Proofs.Ytmfhgdaiafklnaa.numDivides
