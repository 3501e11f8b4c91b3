/- What errors.is, errors.Is and the program's Has answer. -/
import Derived.Test.YtnpdmcgfhieepaaDoorIs
namespace Go.Proofs.YtnpdmcgfhieepaaDoor
open Go.RowKit Go.Extern.Stop Go.Stop Go.Extern
set_option linter.unusedVariables false

set_option maxRecDepth 100000 in
set_option maxHeartbeats 4000000 in
theorem is_v (code place other : Int) (path : List ByteArray) (z : Bool) (hz : (code == other) = z) (w : World) :
    Calls Tryd.prog 31 #[err code place path, .iface 41 (.agg #[.int .i64 other, .int .i64 0]), .bool true] w fun e w' => e = .returned (.bool z) ∧ Below w.heap.size w w' := by
  have hty : ∀ (v : Value) (w : World), (binOp .eql 26 (.iface 52 v) (.iface 41 (.agg #[.int .i64 other, .int .i64 0]))).run Tryd.prog w = .ok (.bool false) w := fun v w => run_eql_iface_types (P := Tryd.prog) 52 41 v _ Tryd.underlying26 (by decide) w
  have nI := noIs52
  have hI := hasIs41
  have hU := hasUnwrap52
  have mU := methodUnwrap
  have mI := methodIs
  have nU := noUnwrap41
  have nV := noUnwraps41
  have HZ := Lib.hid hz
  clear hz
  go_enter Tryd.func31, Tryd.ntmps31
  go_wp2_with fail
  go_loopg [0] path.length (fun gk v wr => ∃ r : List ByteArray, r.length = gk ∧ v = err code place r ∧ Hid (Below w.heap.size w wr))
  case atStart => exact ⟨path, rfl, rfl, Below.refl _ _⟩
  case round =>
    obtain ⟨r, hr, rfl, HB⟩ := hrel
    cases r with
    | nil =>
      clear hr
      simp only [err, bare]
      by_cases hc : code = other
      · have hz : true = z := by rw [← HZ.out]; simp [hc]
        subst hz
        by_cases hp : place = 0
        · have heq : ∀ w : World, (binOp .eql 26 (.iface 41 (.agg #[.int .i64 code, .int .i64 place])) (.iface 41 (.agg #[.int .i64 other, .int .i64 0]))).run Tryd.prog w = .ok (.bool true) w := fun w => by
            rw [eql41]; simp [hc, hp]
          clear hc hp
          go_wp2_with fail
          go_ret
          exact ⟨rfl, HB.out⟩
        · have heq : ∀ w : World, (binOp .eql 26 (.iface 41 (.agg #[.int .i64 code, .int .i64 place])) (.iface 41 (.agg #[.int .i64 other, .int .i64 0]))).run Tryd.prog w = .ok (.bool false) w := fun w => by
            rw [eql41]; simp [hp]
          have HC := Lib.hid hc
          clear hc hp
          go_wp2_with fail
          refine (fis_v code place other 0 true (by rw [HC.out]; simp) _).mono ?_
          rintro e w1 ⟨rfl, hb⟩
          have H1 := Lib.hid (HB.out.trans (hb.mono HB.out.size))
          clear hb
          go_wp2_with fail
          go_ret
          exact ⟨rfl, H1.out⟩
      · have hz : false = z := by rw [← HZ.out]; simp [hc]
        subst hz
        have heq : ∀ w : World, (binOp .eql 26 (.iface 41 (.agg #[.int .i64 code, .int .i64 place])) (.iface 41 (.agg #[.int .i64 other, .int .i64 0]))).run Tryd.prog w = .ok (.bool false) w := fun w => by
          rw [eql41]; simp [hc]
        have HC := Lib.hid hc
        clear hc
        go_wp2_with fail
        refine (fis_v code place other 0 false (by simpa using fun h => HC.out h.symm) _).mono ?_
        rintro e w1 ⟨rfl, hb⟩
        have H1 := Lib.hid (HB.out.trans (hb.mono HB.out.size))
        clear hb
        go_wp2_with fail
        go_ret
        exact ⟨rfl, H1.out⟩
    | cons p r =>
      obtain ⟨T, v, hE, hC⟩ := err_cons code place p r
      have HE := Lib.hid hE
      rw [hC]
      clear hE hC
      obtain ⟨q, rfl⟩ : ∃ q, gk = q + 1 := ⟨r.length, by simpa using hr.symm⟩
      have HR := Lib.hid hr
      clear hr
      go_wp2_with (go_at_call 57; refine (unwrap_v p T v _).mono ?_; rintro e w' ⟨rfl, rfl⟩)
      go_roundg q
      case measure => omega
      case rel => exact ⟨r, by have := HR.out; simpa using this, HE.out.symm, HB.out.alloc HB.out.size _⟩

theorem comparable_run (w : World) : (callFunc 63 #[.agg #[.pointer (some ⟨1, 41, none⟩)]]).run Tryd.prog w = .ok (.value (.bool true)) w := by
  rw [@run_callFunc_extern Tryd.prog 63 _ (ReflectliteType.method fun t => do Rtype.noPackHeld "Comparable" t; pure (.bool (← typeInfo t).comparable)) Tryd.func63 (by kernel_rfl) (by kernel_rfl) (by kernel_rfl) (by kernel_rfl)]
  rw [show ((ReflectliteType.method fun t => do Rtype.noPackHeld "Comparable" t; pure (.bool (← typeInfo t).comparable)) #[.agg #[.pointer (some ⟨1, 41, none⟩)]]).run Tryd.prog w = .ok (.bool true) w by kernel_rfl]
  rfl
set_option maxRecDepth 100000 in
set_option maxHeartbeats 4000000 in
theorem has_v (code place other : Int) (path : List ByteArray) (z : Bool) (hz : (code == other) = z) (w : World) :
    Calls Tryd.prog 13 #[err code place path, .int .i64 other] w fun e w' => e = .returned (.bool z) ∧ Below w.heap.size w w' := by
  have h22 : Calls Tryd.prog 22 #[err code place path, .iface 41 (.agg #[.int .i64 other, .int .i64 0])] w fun e w' => e = .returned (.bool z) ∧ Below w.heap.size w w' := by
    have h30 := @run_callFunc_extern Tryd.prog 30 _ ReflectliteType.typeOf Tryd.func30 (by kernel_rfl) (by kernel_rfl) (by kernel_rfl) (by kernel_rfl)
    have h63 := comparable_run
    have tT := typeOf41
    have mR := methodComparable
    have HZ := Lib.hid hz
    clear hz
    obtain ⟨T, v, hE⟩ := err_iface code place path
    have HE := Lib.hid hE
    rw [hE]
    clear hE
    go_enter Tryd.func22, Tryd.ntmps22
    go_wp2_with fail
    rw [← HE.out]
    refine (is_v code place other path z HZ.out _).mono ?_
    rintro e w1 ⟨rfl, hb⟩
    have H1 := Lib.hid hb
    clear hb
    go_wp2_with fail
    go_ret
    exact ⟨rfl, H1.out⟩
  have H22 := Lib.hid h22
  clear h22 hz
  go_enter Tryd.func13, Tryd.ntmps13
  go_wp2_with fail
  refine H22.out.mono ?_
  rintro e w1 ⟨rfl, hb⟩
  have H1 := Lib.hid hb
  clear hb
  go_wp2_with fail
  go_ret
  exact ⟨rfl, H1.out⟩
theorem has_nil (other : Int) (w : World) :
    Calls Tryd.prog 13 #[.nilIface, .int .i64 other] w fun e w' => e = .returned (.bool false) ∧ w = w' := by
  have h22 : Calls Tryd.prog 22 #[.nilIface, .iface 41 (.agg #[.int .i64 other, .int .i64 0])] w fun e w' => e = .returned (.bool false) ∧ w = w' := by
    have hn := run_eql_iface_nil_left (P := Tryd.prog) w 41 (.agg #[.int .i64 other, .int .i64 0]) Tryd.underlying26
    go_enter Tryd.func22, Tryd.ntmps22
    go_wp2
    go_ret
    exact ⟨rfl, rfl⟩
  have H22 := Lib.hid h22
  clear h22
  go_enter Tryd.func13, Tryd.ntmps13
  go_wp2_with fail
  refine H22.out.mono ?_
  rintro e w1 ⟨rfl, rfl⟩
  go_wp2_with fail
  go_ret
  exact ⟨rfl, rfl⟩
end Go.Proofs.YtnpdmcgfhieepaaDoor
