
/- The statement on units: what the calls answer is given. -/
import Derived.Test.YtakfoncdiejhaaaDoorNotOpen
import Derived.Test.YtakfoncdiejhaaaDoorIrLarge
import Derived.Deep.RegionHeld3
namespace Go.Proofs.YtakfoncdiejhaaaDoor
open Go.ChangeShapes Go.WideShapes Go.RowKit
set_option linter.unusedVariables false
set_option maxRecDepth 20000

theorem toList_same (X : ByteArray) : (X.toList == X.toList) = true := by simp
/-- What a call of the program, or of the document, answers, wherever what came in lies. -/
def Ans (F : FuncId) (a : Value) (X : ByteArray) (W : World) : Prop := ∀ W', Below W.heap.size W W' → Calls Tryd.prog F #[a] W' fun e w' => e = .returned (.string X) ∧ Below W'.heap.size W' w'
set_option maxHeartbeats 8000000 in
theorem units_w (r0 r1 : Int) (slots : Int) (a0 : Option Addr) (n0 p0 : Nat) (a1 : Option Addr) (n1 p1 : Nat) (f : Fun) (v : FunV) (has : Bool) (asl : Int) (sa : Option Addr) (sn sc : Nat)
    (fm : Bool) (fname : ByteArray) (ra : Option Addr) (rn rc : Nat) (pa : Option Addr) (pn pc : Nat) (ba : Option Addr) (bn bc : Nat) (hfr : funR f v = #[.bool fm, .string fname, .slice ra rn rc, .slice pa pn pc, .slice ba bn bc])
    (X1 X2 X3 : ByteArray) (W : World) (hI : IsFun W f v)
    (c7 : Ans 7 (.agg #[.int .i64 r0, .int .i64 r1, .slice a0 n0 p0, .slice a1 n1 p1, .int .i64 slots, .bool fm, .string fname, .slice ra rn rc, .slice pa pn pc, .slice ba bn bc, .bool has, .int .i64 asl, .slice sa sn sc]) X1 W) (c8 : Ans 8 (.agg #[.int .i64 r0, .int .i64 r1, .slice a0 n0 p0, .slice a1 n1 p1, .int .i64 slots, .bool fm, .string fname, .slice ra rn rc, .slice pa pn pc, .slice ba bn bc, .bool has, .int .i64 asl, .slice sa sn sc]) X1 W) (c9 : Ans 9 (.agg #[.int .i64 r0, .int .i64 r1, .slice a0 n0 p0, .slice a1 n1 p1, .int .i64 slots]) X2 W) (c10 : Ans 10 (.agg #[.int .i64 r0, .int .i64 r1, .slice a0 n0 p0, .slice a1 n1 p1, .int .i64 slots]) X2 W) (c11 : Ans 11 (.agg #[.int .i64 asl, .slice sa sn sc]) X3 W) (c12 : Ans 12 (.agg #[.int .i64 asl, .slice sa sn sc]) X3 W)
    (c6 : ∀ W', Below W.heap.size W W' → Calls Tryd.prog 6 #[] W' fun e w' => e = .returned (.bool true) ∧ Below W'.heap.size W' w') :
    Calls Tryd.prog 3 #[.agg #[.int .i64 r0, .int .i64 r1, .slice a0 n0 p0, .slice a1 n1 p1, .int .i64 slots, .bool fm, .string fname, .slice ra rn rc, .slice pa pn pc, .slice ba bn bc, .bool has, .int .i64 asl, .slice sa sn sc]] W fun e w' => e = .returned (.bool true) ∧ Below W.heap.size W w' := by
  have BA : Below W.heap.size W (W.alloc (.cells #[.int .i64 r0, .int .i64 r1, .slice a0 n0 p0, .slice a1 n1 p1, .int .i64 slots, .bool fm, .string fname, .slice ra rn rc, .slice pa pn pc, .slice ba bn bc, .bool has, .int .i64 asl, .slice sa sn sc] 36)) := (Below.refl _ W).alloc (Nat.le_refl _) _
  have hbx := heap_alloc_new W (.cells #[.int .i64 r0, .int .i64 r1, .slice a0 n0 p0, .slice a1 n1 p1, .int .i64 slots, .bool fm, .string fname, .slice ra rn rc, .slice pa pn pc, .slice ba bn bc, .bool has, .int .i64 asl, .slice sa sn sc] 36)
  obtain ⟨wa, hwa⟩ : ∃ wa, W.alloc (.cells #[.int .i64 r0, .int .i64 r1, .slice a0 n0 p0, .slice a1 n1 p1, .int .i64 slots, .bool fm, .string fname, .slice ra rn rc, .slice pa pn pc, .slice ba bn bc, .bool has, .int .i64 asl, .slice sa sn sc] 36) = wa := ⟨_, rfl⟩
  rw [hwa] at BA hbx
  have up : ∀ W', Below wa.heap.size wa W' → Below W.heap.size W W' := fun W' hb => BA.trans (hb.mono BA.size)
  have CL := Lib.hid (show Calls Tryd.prog 5 #[.agg #[.bool fm, .string fname, .slice ra rn rc, .slice pa pn pc, .slice ba bn bc]] wa fun e w' => SomeBool e ∧ Below wa.heap.size wa w' from by
    have := large_v f v wa (hI.below BA)
    rw [hfr] at this
    exact this)
  have C7 := Lib.hid (fun W' (hb : Below wa.heap.size wa W') => c7 W' (up W' hb))
  have C8 := Lib.hid (fun W' (hb : Below wa.heap.size wa W') => c8 W' (up W' hb))
  have C9 := Lib.hid (fun W' (hb : Below wa.heap.size wa W') => c9 W' (up W' hb))
  have C10 := Lib.hid (fun W' (hb : Below wa.heap.size wa W') => c10 W' (up W' hb))
  have C11 := Lib.hid (fun W' (hb : Below wa.heap.size wa W') => c11 W' (up W' hb))
  have C12 := Lib.hid (fun W' (hb : Below wa.heap.size wa W') => c12 W' (up W' hb))
  have C6 := Lib.hid (fun W' (hb : Below wa.heap.size wa W') => c6 W' (up W' hb))
  have HA := Lib.hid (And.intro BA hbx)
  clear c6 c7 c8 c9 c10 c11 c12 hI hfr BA hbx up
  obtain ⟨P, hP⟩ : ∃ P, W.heap.size = P := ⟨_, rfl⟩
  have hcells := Lib.hid (show ∀ w', Below wa.heap.size wa w' → w'.cell? ⟨P, 0, none⟩ = some (.int .i64 r0) ∧ w'.cell? ⟨P, 1, none⟩ = some (.int .i64 r1) ∧ w'.cell? ⟨P, 2, none⟩ = some (.slice a0 n0 p0) ∧ w'.cell? ⟨P, 3, none⟩ = some (.slice a1 n1 p1) ∧ w'.cell? ⟨P, 4, none⟩ = some (.int .i64 slots) ∧ w'.cell? ⟨P, 5, none⟩ = some (.bool fm) ∧ w'.cell? ⟨P, 6, none⟩ = some (.string fname) ∧ w'.cell? ⟨P, 7, none⟩ = some (.slice ra rn rc) ∧ w'.cell? ⟨P, 8, none⟩ = some (.slice pa pn pc) ∧ w'.cell? ⟨P, 9, none⟩ = some (.slice ba bn bc) ∧ w'.cell? ⟨P, 10, none⟩ = some (.bool has) ∧ w'.cell? ⟨P, 11, none⟩ = some (.int .i64 asl) ∧ w'.cell? ⟨P, 12, none⟩ = some (.slice sa sn sc) from fun w' hb => by
    have h := kept_box HA.out.2 hb
    rw [hP] at h
    exact ⟨cell_in h 0, cell_in h 1, cell_in h 2, cell_in h 3, cell_in h 4, cell_in h 5, cell_in h 6, cell_in h 7, cell_in h 8, cell_in h 9, cell_in h 10, cell_in h 11, cell_in h 12⟩)
  have HPP := Lib.hid hP
  clear hP
  have q1 := toList_same X1
  have q2 := toList_same X2
  have q3 := toList_same X3
  obtain ⟨k0, k1, k2, k3, k4, k5, k6, k7, k8, k9, k10, k11, k12⟩ := hcells.out wa (Below.refl _ _)
  rw [← HPP.out] at k0 k1 k2 k3 k4 k5 k6 k7 k8 k9 k10 k11 k12
  go_enter Tryd.func3, Tryd.ntmps3
  go_wp2_with fail
  clear hwa k0 k1 k2 k3 k4 k5 k6 k7 k8 k9 k10 k11 k12
  rw [HPP.out]
  refine CL.out.mono ?_
  rintro e w1 ⟨⟨bl, rfl⟩, hb⟩
  have B1 := Lib.hid hb
  clear hb
  obtain ⟨k0, k1, k2, k3, k4, k5, k6, k7, k8, k9, k10, k11, k12⟩ := hcells.out w1 B1.out
  have fin : ∀ w', Below wa.heap.size wa w' → Below W.heap.size W w' := fun w' hb => HA.out.1.trans (hb.mono HA.out.1.size)
  have Fin := Lib.hid fin
  clear fin
  cases bl with
  | true =>
    go_wp2_with fail
    refine (C6.out w1 B1.out).mono ?_
    rintro e w2 ⟨rfl, hb⟩
    have B2 := Lib.hid (B1.out.trans (hb.mono B1.out.size))
    clear hb
    go_wp2_with fail
    go_ret
    exact ⟨rfl, Fin.out _ B2.out⟩
  | false =>
    by_cases g1 : (200 : Int) < (sn : Int)
    · go_wp2_with fail
      refine (C6.out w1 B1.out).mono ?_
      rintro e w2 ⟨rfl, hb⟩
      have B2 := Lib.hid (B1.out.trans (hb.mono B1.out.size))
      clear hb
      go_wp2_with fail
      go_ret
      exact ⟨rfl, Fin.out _ B2.out⟩
    · by_cases g2 : (60 : Int) < (n0 : Int)
      · go_wp2_with fail
        refine (C6.out w1 B1.out).mono ?_
        rintro e w2 ⟨rfl, hb⟩
        have B2 := Lib.hid (B1.out.trans (hb.mono B1.out.size))
        clear hb
        go_wp2_with fail
        go_ret
        exact ⟨rfl, Fin.out _ B2.out⟩
      · by_cases g3 : (60 : Int) < (n1 : Int)
        · go_wp2_with fail
          refine (C6.out w1 B1.out).mono ?_
          rintro e w2 ⟨rfl, hb⟩
          have B2 := Lib.hid (B1.out.trans (hb.mono B1.out.size))
          clear hb
          go_wp2_with fail
          go_ret
          exact ⟨rfl, Fin.out _ B2.out⟩
        · go_upto_region 3 with fail
          go_region_held3 (fun w' => w'.cell? ⟨P, 0, none⟩ = some (.int .i64 r0) ∧ w'.cell? ⟨P, 1, none⟩ = some (.int .i64 r1) ∧ w'.cell? ⟨P, 2, none⟩ = some (.slice a0 n0 p0) ∧ w'.cell? ⟨P, 3, none⟩ = some (.slice a1 n1 p1) ∧ w'.cell? ⟨P, 4, none⟩ = some (.int .i64 slots) ∧ w'.cell? ⟨P, 5, none⟩ = some (.bool fm) ∧ w'.cell? ⟨P, 6, none⟩ = some (.string fname) ∧ w'.cell? ⟨P, 7, none⟩ = some (.slice ra rn rc) ∧ w'.cell? ⟨P, 8, none⟩ = some (.slice pa pn pc) ∧ w'.cell? ⟨P, 9, none⟩ = some (.slice ba bn bc) ∧ w'.cell? ⟨P, 10, none⟩ = some (.bool has) ∧ w'.cell? ⟨P, 11, none⟩ = some (.int .i64 asl) ∧ w'.cell? ⟨P, 12, none⟩ = some (.slice sa sn sc))
            (first | exact K8.out | exact K7.out | exact K6.out | exact K5.out | exact K4.out | exact K3.out | exact K2.out | exact ⟨k0, k1, k2, k3, k4, k5, k6, k7, k8, k9, k10, k11, k12⟩)
            (first
              | (go_at_call 6; refine (C6.out w7 B7.out).mono ?_; rintro e w8 ⟨rfl, hb⟩; have B8 := Lib.hid (B7.out.trans (hb.mono B7.out.size)); clear hb; have K8 := Lib.hid (hcells.out w8 B8.out))
              | (go_at_call 12; refine (C12.out w6 B6.out).mono ?_; rintro e w7 ⟨rfl, hb⟩; have B7 := Lib.hid (B6.out.trans (hb.mono B6.out.size)); clear hb; have K7 := Lib.hid (hcells.out w7 B7.out))
              | (go_at_call 11; refine (C11.out w5 B5.out).mono ?_; rintro e w6 ⟨rfl, hb⟩; have B6 := Lib.hid (B5.out.trans (hb.mono B5.out.size)); clear hb; have K6 := Lib.hid (hcells.out w6 B6.out))
              | (go_at_call 10; refine (C10.out w4 B4.out).mono ?_; rintro e w5 ⟨rfl, hb⟩; have B5 := Lib.hid (B4.out.trans (hb.mono B4.out.size)); clear hb; have K5 := Lib.hid (hcells.out w5 B5.out))
              | (go_at_call 9; refine (C9.out w3 B3.out).mono ?_; rintro e w4 ⟨rfl, hb⟩; have B4 := Lib.hid (B3.out.trans (hb.mono B3.out.size)); clear hb; have K4 := Lib.hid (hcells.out w4 B4.out))
              | (go_at_call 8; refine (C8.out w2 B2.out).mono ?_; rintro e w3 ⟨rfl, hb⟩; have B3 := Lib.hid (B2.out.trans (hb.mono B2.out.size)); clear hb; have K3 := Lib.hid (hcells.out w3 B3.out))
              | (go_at_call 7; refine (C7.out _ (B1.out.trans (Below.mono (below_drewN w1 1) B1.out.size))).mono ?_; rintro e w2 ⟨rfl, hb⟩; have B2 := Lib.hid (B1.out.trans (Below.mono ((below_drewN w1 1).trans hb) B1.out.size)); clear hb; have K2 := Lib.hid (hcells.out w2 B2.out)))
          clear k0 k1 k2 k3 k4 k5 k6 k7 k8 k9 k10 k11 k12 K2 K3 K4 K5 K6 K7 K8 C6 C7 C8 C9 C10 C11 C12 CL
          go_wp2_with fail
          go_ret
          exact ⟨rfl, Fin.out _ B8.out⟩
end Go.Proofs.YtakfoncdiejhaaaDoor
