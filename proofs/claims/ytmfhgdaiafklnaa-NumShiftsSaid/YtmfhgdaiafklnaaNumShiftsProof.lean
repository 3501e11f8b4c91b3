/- The statement NumShifts holds at every input: shifts go by what the number leaves by 64, and lose just the bits that went out. Its conditions: none but those of the row itself. -/
import Derived.Test.YtmfhgdaiafklnaaRows
import Derived.WalkKit
import Derived.ProofKit
import Derived.OpenShut
import Derived.Test.YtmfhgdaiafklnaaFold
import Derived.Test.YtmfhgdaiafklnaaShiftMath
namespace Go.Proofs.Ytmfhgdaiafklnaa.numShifts
open Go.ChangeShapes Go.WideShapes Go.ChangeAt Go.RowKit
set_option linter.unusedVariables false      -- a walk need not use every 'w<i>' (that an integer argument fits its kind)

theorem own : ownKnob Try.prog.godebug = none := by kernel_rfl

theorem sh_sh (b : Int) : shV (shV b) = shV b := by rw [sh_mod, sh_mod]; omega
theorem shiftN (b : Int) (n : Nat) (h : shV b = n) (w : World) : Calls Try.prog 15 #[.int .i64 b] w fun e w' => e = .returned (.int .i64 n) ∧ w = w' := by
  rw [← h]; exact shift_is b w
theorem shlN (a b : Int) (n : Nat) (h : shV b = n) (w : World) : Calls Try.prog 8 #[.int .i64 7, .int .i64 a, .int .i64 b] w fun e w' => e = .returned (.tuple #[.int .i64 (shlV a n), .bool true]) ∧ w = w' := by
  rw [← h]; exact do_shl a b w
theorem shrN (a b : Int) (n : Nat) (h : shV b = n) (w : World) : Calls Try.prog 8 #[.int .i64 8, .int .i64 a, .int .i64 b] w fun e w' => e = .returned (.tuple #[.int .i64 (shrV a n), .bool true]) ∧ w = w' := by
  rw [← h]; exact do_shr a b w
theorem sarN (a b : Int) (n : Nat) (h : shV b = n) (w : World) : Calls Try.prog 8 #[.int .i64 9, .int .i64 a, .int .i64 b] w fun e w' => e = .returned (.tuple #[.int .i64 (sarV a n), .bool true]) ∧ w = w' := by
  rw [← h]; exact do_sar a b w
theorem shlM (a : Int) (n : Nat) (hn : n ≤ 63) (w : World) : Calls Try.prog 8 #[.int .i64 7, .int .i64 a, .int .i64 n] w fun e w' => e = .returned (.tuple #[.int .i64 (shlV a n), .bool true]) ∧ w = w' :=
  shlN a n n (by rw [sh_mod]; omega) w
theorem keptN (a b : Int) (n : Nat) (h : shV b = n) (w : World) : Calls Try.prog 8 #[.int .i64 8, .int .i64 (shlV a n), .int .i64 b] w fun e w' => e = .returned (.tuple #[.int .i64 (keptV a n), .bool true]) ∧ w = w' := by
  rw [← kept_n]; exact shrN _ b n h w
theorem lowN (a : Int) (n : Nat) (hn : n ≤ 63) (ha : fit a) (w : World) : Calls Try.prog 8 #[.int .i64 2, .int .i64 a, .int .i64 (shlV (sarV a n) n)] w fun e w' => e = .returned (.tuple #[.int .i64 (a % 2 ^ n), .bool true]) ∧ w = w' := by
  rw [← low_is a ha n hn]; exact do_sub _ _ w
theorem keptStep (a : Int) (i : Nat) (h : i < 64) : Hid (bits .andNot .i64 (keptV a i) ((-9223372036854775808 : Int) / 2 ^ i) = keptV a (i + 1)) := kept_step a i h
theorem lows (a : Int) (n : Nat) : 0 ≤ a % (2 : Int) ^ n ∧ a % (2 : Int) ^ n < 2 ^ n :=
  ⟨Int.emod_nonneg _ (Int.ne_of_gt (Int.pow_pos (by omega))), Int.emod_lt_of_pos _ (Int.pow_pos (by omega))⟩
theorem pow_in (k : Nat) (h : k ≤ 62) : wrap64 (2 ^ k) = 2 ^ k := by
  have h1 : (2 : Int) ^ k ≤ 2 ^ 62 := by exact_mod_cast Nat.pow_le_pow_right (by omega) h
  have h2 : (0 : Int) < 2 ^ k := Int.pow_pos (by omega)
  exact IntWalk.wrap64_in _ ⟨by omega, by omega⟩
set_option maxRecDepth 100000 in
set_option maxHeartbeats 1000000 in
theorem walk (a0 : Int) (a1 : Int) (w0 : (Lit.int .i64 a0).wf = true) (w1 : (Lit.int .i64 a1).wf = true) (w : World) :
    Calls Try.prog 7 #[.int .i64 a0, .int .i64 a1] w fun e w' => e = .returned (.bool true) ∧ Below w.heap.size w w' := by
  obtain ⟨sb0, sb1⟩ := sh_bd a1
  obtain ⟨n, hn⟩ := Int.eq_ofNat_of_zero_le sb0
  have hn63 : n ≤ 63 := by omega
  have HN : Hid (shV a1 = n) := hn
  have HA : Hid (fit a0) := wf_fit w0
  have H0 : Hid (keptV a0 0 = a0) := kept_0 a0 (wf_fit w0)
  clear hn sb0 sb1 w0 w1
  go_enter Try.func7, Try.ntmps7
  go_wp2_with (first
    | (go_at_call 15; (with_reducible refine (shiftN _ n HN.out _).mono ?_); rintro e w' ⟨rfl, rfl⟩)
    | (go_at_call 8; (with_reducible refine (lowN _ n hn63 HA.out _).mono ?_); rintro e w' ⟨rfl, rfl⟩)
    | (go_at_call 8; (with_reducible refine (keptN _ _ n HN.out _).mono ?_); rintro e w' ⟨rfl, rfl⟩)
    | (go_at_call 8; (with_reducible refine (shlM _ n hn63 _).mono ?_); rintro e w' ⟨rfl, rfl⟩)
    | (go_at_call 8; (with_reducible refine (shlN _ _ n HN.out _).mono ?_); rintro e w' ⟨rfl, rfl⟩)
    | (go_at_call 8; (with_reducible refine (sarN _ _ n HN.out _).mono ?_); rintro e w' ⟨rfl, rfl⟩))
  go_loop [18, 19] (fun t i => ∃ k : Nat, k ≤ n ∧ i = .int .i64 k ∧ t = .int .i64 (keptV a0 k)) (fun _ i => n - (intOf i).toNat)
  case atStart => exact ⟨0, Nat.zero_le _, rfl, by rw [H0.out]⟩
  case round =>
    obtain ⟨k, hk, rfl, rfl⟩ := hrel
    by_cases hlt : k < n
    · have hst := (keptStep a0 k (by omega)).out
      have hlt2 : k < 64 := by omega
      go_wp2
      go_round
      case rel => exact ⟨k + 1, by omega, by go_num, by first | rfl | rw [hst]⟩
      case measure => simp [intOf]; omega
    · obtain rfl : k = n := by omega
      obtain ⟨l1, l2⟩ := lows a0 k
      by_cases z : k = 0
      · have z1 : ((k : Int) == 0) = true := by simpa using z
        have z2 : (a0 % 2 ^ k == 0) = true := by subst z; simp
        clear z l2
        go_wp2_with (go_at_call 11; (with_reducible refine (works_is _).mono ?_); rintro e w' ⟨rfl, hb⟩)
        go_ret
        exact ⟨rfl, hb⟩
      · have z1 : ((k : Int) == 0) = false := by simpa using z
        have z3 : 0 < k := by omega
        clear z
        by_cases t : k = 63
        · have t1 : ((k : Int) == 63) = true := by simp; omega
          clear t
          go_wp2_with (go_at_call 11; (with_reducible refine (works_is _).mono ?_); rintro e w' ⟨rfl, hb⟩)
          go_ret
          exact ⟨rfl, hb⟩
        · have t1 : ((k : Int) == 63) = false := by simp; omega
          have t2 : a0 % 2 ^ k < wrap64 (2 ^ k) := by rw [pow_in k (by omega)]; exact l2
          clear t
          go_wp2_with (go_at_call 11; (with_reducible refine (works_is _).mono ?_); rintro e w' ⟨rfl, hb⟩)
          go_ret
          exact ⟨rfl, hb⟩

/-! ### THE ROW's STEP: WRITTEN OUT: LEAVE IT -/
set_option maxRecDepth 100000 in
theorem lifted (os : Os) (started : os.Started) (H : Type) (enc : TypeId × Value → H) :
    ReturnsInHanded {} Try.checked os 7 .any (Rows.numShiftsSpec.pre6 enc Try.prog Try.f7 Rows.numShiftsRow.domain false) (Rows.numShiftsSpec.post enc Try.prog Try.f7 false true false false) := by
  refine returnsInHanded_of_change (C := Try.checked) own started (by kernel_rfl) Try.func7
    (ChangeSpec.witness6 (enc := enc) (C := Try.checked) false ⟨#[], #[.int .i64 0, .int .i64 0], []⟩ 8 (by kernel_rfl) (by kernel_rfl) (by kernel_rfl) (by kernel_rfl)) ?_
  intro W base args ds gs before hval0 hW hcnd _
  have hval : ∀ (j : Nat) t v, Try.f7.params[j]? = some t → args[j]? = some v → Value.okWide Try.prog W .any base t v := hval0
  have hW' := hW
  obtain ⟨p, q, hA0, hV, rfl, hfz, hnd⟩ := hW
  have hA : DataW.TrodAll enc Try.prog W 0 (fun _ => true) true Try.f7.params.toList args.toList ds p := hA0
  rw [Try.params7] at hA hval
  obtain ⟨v0, vs0, d0, ds0, p0, q0, hargs, rfl, rfl, h0, r0⟩ := trodAll_cons hA
  obtain ⟨v1, vs1, d1, ds1, p1, q1, rfl, rfl, rfl, h1, r1⟩ := trodAll_cons r0
  obtain ⟨rfl, rfl, rfl⟩ := trodAll_nil r1
  obtain rfl : args = #[v0, v1] := by cases args; simp_all
  obtain ⟨rfl, rfl⟩ := trodVars_none hV
  obtain ⟨a0, rfl, rfl, rfl, w0⟩ := open_int Try.underlying3 (hval 0 3 v0 rfl rfl) h0
  obtain ⟨a1, rfl, rfl, rfl, w1⟩ := open_int Try.underlying3 (hval 1 3 v1 rfl rfl) h1
  clear hA0 hval0
  simp only [List.append_nil] at hW'
  refine (walk a0 a1 w0 w1 W).mono fun e W' ⟨he, bel⟩ => ?_
  subst he
  exact ⟨_, rfl, _, _, _, [], [], [], hW', trodAll_mk1 (shut_bool Try.underlying4 _), (trodAll_cons_mk (shut_int Try.underlying3 w0) (trodAll_cons_mk (shut_int Try.underlying3 w1) trodAll_mk0)), rfl, bel.frame _, fun h => by cases h⟩

theorem over : Rows.numShiftsRow.holds Try.pinned (OpenSpec.ofChange Rows.numShiftsSpec) :=
  OpenClaim.holds_of_wide 7 Try.f7 rfl rfl rfl rfl rfl rfl rfl ⟨rfl, rfl, rfl, rfl, rfl⟩ rfl rfl rfl rfl rfl (by kernel_rfl) Try.func7 (by kernel_rfl)
    (of_decide_eq_true (by kernel_rfl)) (by unfold Func.isWrapper; first | (rw [if_pos (by decide +kernel)]; kernel_rfl) | (rw [if_neg (by decide +kernel)]; exact ⟨rfl, rfl⟩))
    (fun os started H enc _ => lifted os started H enc)

/-- ████ THE STATEMENT ████ -/
theorem proved : Rows.NumShiftsSaid :=
  over
#print axioms proved
end Go.Proofs.Ytmfhgdaiafklnaa.numShifts
