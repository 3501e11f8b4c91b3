
/- The document's own text of a unit. -/
import Derived.Test.YtakfoncdiejhaaaDoorNotRefA
import Derived.Test.YtakfoncdiejhaaaDoorShoRefF
import Derived.Deep.RegionHeld3
namespace Go.Proofs.YtakfoncdiejhaaaDoor
open Go.ChangeShapes Go.WideShapes Go.RowKit
set_option linter.unusedVariables false
set_option maxRecDepth 20000

/-- A unit's text, of its parts'. -/
def untT (tg fu : List UInt8) (has : Bool) (al : List UInt8) : List UInt8 := tg ++ (fu ++ if has then al else [])
set_option maxHeartbeats 4000000 in
theorem runit_v (r0 r1 : Int) (c0 c1 : List Int) (slots : Int) (a0 : Option Addr) (n0 p0 : Nat) (a1 : Option Addr) (n1 p1 : Nat) (f : Fun) (v : FunV) (has : Bool) (asl : Int) (segs : List Sg) (sa : Option Addr) (sn sc : Nat)
    (fm : Bool) (fname : ByteArray) (ra : Option Addr) (rn rc : Nat) (pa : Option Addr) (pn pc : Nat) (ba : Option Addr) (bn bc : Nat) (hfr : funR f v = #[.bool fm, .string fname, .slice ra rn rc, .slice pa pn pc, .slice ba bn bc])
    (tg fu al t : List UInt8) (W : World) (h0 : IsInts W a0 n0 c0) (h1 : IsInts W a1 n1 c1) (hI : IsFun W f v) (hs : IsSegs W sa sn segs)
    (f0 : Deci.fit r0) (f1 : Deci.fit r1) (f2 : Deci.fit slots) (f3 : Deci.fit asl) (g0 : ∀ n ∈ c0, Deci.fit n) (g1 : ∀ n ∈ c1, Deci.fit n) (g2 : ∀ s ∈ segs, SgF s) (hG : FunG f) (s0 : n0 ≤ 1048576) (s1 : n1 ≤ 1048576) (s2 : sn ≤ 1048576)
    (htg : tgtT r0 r1 c0 c1 slots = tg) (hfu : funT f = fu) (hal : alloT asl segs = al) (ht : untT tg fu has al = t) (hlen : t.length ≤ big) (hall : al.length ≤ big) :
    Calls Tryd.prog 8 #[.agg #[.int .i64 r0, .int .i64 r1, .slice a0 n0 p0, .slice a1 n1 p1, .int .i64 slots, .bool fm, .string fname, .slice ra rn rc, .slice pa pn pc, .slice ba bn bc, .bool has, .int .i64 asl, .slice sa sn sc]] W (SaysT t W) := by
  have BA : Below W.heap.size W (W.alloc (.cells #[.int .i64 r0, .int .i64 r1, .slice a0 n0 p0, .slice a1 n1 p1, .int .i64 slots, .bool fm, .string fname, .slice ra rn rc, .slice pa pn pc, .slice ba bn bc, .bool has, .int .i64 asl, .slice sa sn sc] 36)) := (Below.refl _ W).alloc (Nat.le_refl _) _
  have hbx := heap_alloc_new W (.cells #[.int .i64 r0, .int .i64 r1, .slice a0 n0 p0, .slice a1 n1 p1, .int .i64 slots, .bool fm, .string fname, .slice ra rn rc, .slice pa pn pc, .slice ba bn bc, .bool has, .int .i64 asl, .slice sa sn sc] 36)
  have b63 := (show big = 140737488355328 from rfl)
  obtain ⟨wa, hwa⟩ : ∃ wa, W.alloc (.cells #[.int .i64 r0, .int .i64 r1, .slice a0 n0 p0, .slice a1 n1 p1, .int .i64 slots, .bool fm, .string fname, .slice ra rn rc, .slice pa pn pc, .slice ba bn bc, .bool has, .int .i64 asl, .slice sa sn sc] 36) = wa := ⟨_, rfl⟩
  rw [hwa] at BA hbx
  have htl := congrArg List.length ht
  unfold untT at htl
  simp only [List.length_append] at htl
  obtain ⟨T1, hT1⟩ : ∃ T, tg ++ fu = T := ⟨_, rfl⟩
  have hT1l := congrArg List.length hT1
  rw [List.length_append] at hT1l
  have CT := Lib.hid (fun w' (hb : Below wa.heap.size wa w') => rtarget_v r0 r1 c0 c1 slots a0 n0 p0 a1 n1 p1 tg w' (h0.below (BA.trans (hb.mono BA.size))) (h1.below (BA.trans (hb.mono BA.size))) f0 f1 f2 g0 g1 s0 s1 htg (by omega))
  have CF := Lib.hid (show ∀ w', Below wa.heap.size wa w' → Calls Tryd.prog 13 #[.agg #[.bool fm, .string fname, .slice ra rn rc, .slice pa pn pc, .slice ba bn bc]] w' (SaysT fu w') from fun w' hb => by
    have := rfunc_v f v fu w' (hI.below (BA.trans (hb.mono BA.size))) hG hfu (by omega)
    rw [hfr] at this
    exact this)
  have CA := Lib.hid (fun w' (hb : Below wa.heap.size wa w') => ralloc_v asl segs sa sn sc al w' (hs.below (BA.trans (hb.mono BA.size))) f3 g2 s2 hal hall)
  have HA := Lib.hid (And.intro BA hbx)
  clear h0 h1 hI hs f0 f1 f2 f3 g0 g1 g2 hG s0 s1 s2 htg hfu hal hfr BA hbx hall
  obtain ⟨P, hP⟩ : ∃ P, W.heap.size = P := ⟨_, rfl⟩
  have hcells := Lib.hid (show ∀ w', Below wa.heap.size wa w' → w'.cell? ⟨P, 0, none⟩ = some (.int .i64 r0) ∧ w'.cell? ⟨P, 1, none⟩ = some (.int .i64 r1) ∧ w'.cell? ⟨P, 2, none⟩ = some (.slice a0 n0 p0) ∧ w'.cell? ⟨P, 3, none⟩ = some (.slice a1 n1 p1) ∧ w'.cell? ⟨P, 4, none⟩ = some (.int .i64 slots) ∧ w'.cell? ⟨P, 5, none⟩ = some (.bool fm) ∧ w'.cell? ⟨P, 6, none⟩ = some (.string fname) ∧ w'.cell? ⟨P, 7, none⟩ = some (.slice ra rn rc) ∧ w'.cell? ⟨P, 8, none⟩ = some (.slice pa pn pc) ∧ w'.cell? ⟨P, 9, none⟩ = some (.slice ba bn bc) ∧ w'.cell? ⟨P, 10, none⟩ = some (.bool has) ∧ w'.cell? ⟨P, 11, none⟩ = some (.int .i64 asl) ∧ w'.cell? ⟨P, 12, none⟩ = some (.slice sa sn sc) from fun w' hb => by
    have h := kept_box HA.out.2 hb
    rw [hP] at h
    exact ⟨cell_in h 0, cell_in h 1, cell_in h 2, cell_in h 3, cell_in h 4, cell_in h 5, cell_in h 6, cell_in h 7, cell_in h 8, cell_in h 9, cell_in h 10, cell_in h 11, cell_in h 12⟩)
  have HPP := Lib.hid hP
  clear hP
  have e1 : ∀ W : World, (Op.stringOp .add (tx tg) (tx fu)).run Tryd.prog W = .ok (.string (tx T1)) W := add_tx tg fu T1 hT1 (by omega)
  have HT := Lib.hid (And.intro hT1 (And.intro ht (And.intro hlen b63)))
  clear hT1 ht hlen htl hT1l b63
  go_enter Tryd.func8, Tryd.ntmps8
  go_wp2_with fail
  clear hwa
  rw [HPP.out]
  have K0 := Lib.hid (show wa.cell? ⟨P, 0, none⟩ = some (.int .i64 r0) ∧ wa.cell? ⟨P, 1, none⟩ = some (.int .i64 r1) ∧ wa.cell? ⟨P, 2, none⟩ = some (.slice a0 n0 p0) ∧ wa.cell? ⟨P, 3, none⟩ = some (.slice a1 n1 p1) ∧ wa.cell? ⟨P, 4, none⟩ = some (.int .i64 slots) ∧ wa.cell? ⟨P, 5, none⟩ = some (.bool fm) ∧ wa.cell? ⟨P, 6, none⟩ = some (.string fname) ∧ wa.cell? ⟨P, 7, none⟩ = some (.slice ra rn rc) ∧ wa.cell? ⟨P, 8, none⟩ = some (.slice pa pn pc) ∧ wa.cell? ⟨P, 9, none⟩ = some (.slice ba bn bc) from by
    obtain ⟨k0, k1, k2, k3, k4, k5, k6, k7, k8, k9, -⟩ := hcells.out wa (Below.refl _ _)
    exact ⟨k0, k1, k2, k3, k4, k5, k6, k7, k8, k9⟩)
  obtain ⟨k0, k1, k2, k3, k4, k5, k6, k7, k8, k9⟩ := K0.out
  go_region_held3 (fun w' => w'.cell? ⟨P, 0, none⟩ = some (.int .i64 r0) ∧ w'.cell? ⟨P, 1, none⟩ = some (.int .i64 r1) ∧ w'.cell? ⟨P, 2, none⟩ = some (.slice a0 n0 p0) ∧ w'.cell? ⟨P, 3, none⟩ = some (.slice a1 n1 p1) ∧ w'.cell? ⟨P, 4, none⟩ = some (.int .i64 slots) ∧ w'.cell? ⟨P, 5, none⟩ = some (.bool fm) ∧ w'.cell? ⟨P, 6, none⟩ = some (.string fname) ∧ w'.cell? ⟨P, 7, none⟩ = some (.slice ra rn rc) ∧ w'.cell? ⟨P, 8, none⟩ = some (.slice pa pn pc) ∧ w'.cell? ⟨P, 9, none⟩ = some (.slice ba bn bc))
    (first | exact K2.out | exact K1.out | exact ⟨k0, k1, k2, k3, k4, k5, k6, k7, k8, k9⟩)
    (first
      | (go_at_call 13; refine (CF.out w1 B1.out).mono ?_; rintro e w2 ⟨rfl, hb⟩; have B2 := Lib.hid (B1.out.trans (hb.mono B1.out.size)); clear hb; have K2 := Lib.hid (show w2.cell? ⟨P, 0, none⟩ = some (.int .i64 r0) ∧ w2.cell? ⟨P, 1, none⟩ = some (.int .i64 r1) ∧ w2.cell? ⟨P, 2, none⟩ = some (.slice a0 n0 p0) ∧ w2.cell? ⟨P, 3, none⟩ = some (.slice a1 n1 p1) ∧ w2.cell? ⟨P, 4, none⟩ = some (.int .i64 slots) ∧ w2.cell? ⟨P, 5, none⟩ = some (.bool fm) ∧ w2.cell? ⟨P, 6, none⟩ = some (.string fname) ∧ w2.cell? ⟨P, 7, none⟩ = some (.slice ra rn rc) ∧ w2.cell? ⟨P, 8, none⟩ = some (.slice pa pn pc) ∧ w2.cell? ⟨P, 9, none⟩ = some (.slice ba bn bc) from by
          obtain ⟨k0, k1, k2, k3, k4, k5, k6, k7, k8, k9, -⟩ := hcells.out w2 B2.out
          exact ⟨k0, k1, k2, k3, k4, k5, k6, k7, k8, k9⟩))
      | (go_at_call 10; refine (CT.out _ (below_drewN wa 1)).mono ?_; rintro e w1 ⟨rfl, hb⟩; have B1 := Lib.hid (show Below wa.heap.size wa w1 from (below_drewN wa 1).trans hb); clear hb; have K1 := Lib.hid (show w1.cell? ⟨P, 0, none⟩ = some (.int .i64 r0) ∧ w1.cell? ⟨P, 1, none⟩ = some (.int .i64 r1) ∧ w1.cell? ⟨P, 2, none⟩ = some (.slice a0 n0 p0) ∧ w1.cell? ⟨P, 3, none⟩ = some (.slice a1 n1 p1) ∧ w1.cell? ⟨P, 4, none⟩ = some (.int .i64 slots) ∧ w1.cell? ⟨P, 5, none⟩ = some (.bool fm) ∧ w1.cell? ⟨P, 6, none⟩ = some (.string fname) ∧ w1.cell? ⟨P, 7, none⟩ = some (.slice ra rn rc) ∧ w1.cell? ⟨P, 8, none⟩ = some (.slice pa pn pc) ∧ w1.cell? ⟨P, 9, none⟩ = some (.slice ba bn bc) from by
          obtain ⟨k0, k1, k2, k3, k4, k5, k6, k7, k8, k9, -⟩ := hcells.out w1 B1.out
          exact ⟨k0, k1, k2, k3, k4, k5, k6, k7, k8, k9⟩)))
  clear k0 k1 k2 k3 k4 k5 k6 k7 k8 k9 K0 K1 K2 e1
  obtain ⟨k0, k1, k2, k3, k4, k5, k6, k7, k8, k9, k10, k11, k12⟩ := hcells.out w2 B2.out
  cases has with
  | true =>
    have e2 : ∀ W : World, (Op.stringOp .add (tx T1) (tx al)).run Tryd.prog W = .ok (.string (tx t)) W := add_tx T1 al t (by rw [← HT.out.2.1, ← HT.out.1]; simp [untT]) HT.out.2.2.1
    go_wp2_with fail
    refine (CA.out w2 B2.out).mono ?_
    rintro e w3 ⟨rfl, hb⟩
    have B3 := Lib.hid (B2.out.trans (hb.mono B2.out.size))
    clear hb k0 k1 k2 k3 k4 k5 k6 k7 k8 k9 k10 k11 k12
    go_wp2_with fail
    go_ret
    exact ⟨rfl, HA.out.1.trans (B3.out.mono HA.out.1.size)⟩
  | false =>
    have hT : T1 = t := by rw [← HT.out.2.1, ← HT.out.1]; simp [untT]
    rw [hT]
    clear hT
    go_wp2_with fail
    go_ret
    exact ⟨rfl, HA.out.1.trans (B2.out.mono HA.out.1.size)⟩
end Go.Proofs.YtakfoncdiejhaaaDoor
