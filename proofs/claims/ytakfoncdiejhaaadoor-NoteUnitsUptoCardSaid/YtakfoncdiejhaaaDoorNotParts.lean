
/- The statement on a unit's parts: what the calls answer is given. -/
import Derived.Test.YtakfoncdiejhaaaDoorNotUnits
import Derived.Deep.CutRange
namespace Go.Proofs.YtakfoncdiejhaaaDoor
open Go.ChangeShapes Go.WideShapes Go.RowKit
set_option linter.unusedVariables false
set_option maxRecDepth 20000

/-- Was it met at one of the first so many places? -/
def fnd (al ts : List UInt8) (i : Nat) : Bool := (List.range i).any fun j => ((al.drop j).take ts.length == ts)
theorem fnd_step (al ts : List UInt8) (i : Nat) : fnd al ts (i + 1) = (fnd al ts i || ((al.drop i).take ts.length == ts)) := by
  unfold fnd
  rw [List.range_succ, List.any_append]
  simp
theorem fnd_in (pre ts post : List UInt8) (i : Nat) (h : pre.length < i) : fnd (pre ++ (ts ++ post)) ts i = true := by
  unfold fnd
  rw [List.any_eq_true]
  refine ⟨pre.length, by simpa using h, ?_⟩
  rw [List.drop_left, List.take_left]
  simp
theorem seg_in (asl : Int) (segs : List Sg) (k : Nat) (x : Sg) (h : segs[k]? = some x) : ∃ pre post, alloT asl segs = pre ++ (segT x ++ post) := by
  have h1 : segsT segs = segsTo segs (k + 1) ++ ((segs.mapIdx (segAt segs)).drop (k + 1)).flatten := by
    unfold segsT segsTo
    rw [← List.flatten_append, List.take_append_drop]
  refine ⟨[97, 108, 108, 111, 99, 32, 115, 108, 111, 116, 115, 32] ++ (Deci.txt asl ++ ([32, 123, 10] ++ (segsTo segs k ++ fstT (fstB segs k x) x.v))), lstT (lstB segs k x) ++ (((segs.mapIdx (segAt segs)).drop (k + 1)).flatten ++ [125, 10]), ?_⟩
  unfold alloT
  rw [h1, segsTo_step segs k x h]
  unfold segAt
  simp
theorem size_b (s : ByteArray) : s.data.toList.length = s.size := by rw [Array.length_toList]; rfl
theorem cut_ab (l : List UInt8) (a b : Nat) (h1 : a ≤ b) (h : b ≤ l.length) (W : World) : (Instr.slice 9 (.string (tx l)) (some (.int .i64 (a : Int))) (some (.int .i64 (b : Int))) none).run Tryd.prog W = .ok (.string (tx ((l.drop a).take (b - a)))) W := by
  have hs := tx_size l
  rw [run_slice_string W 9 (tx l) .i64 .i64 _ _ Tryd.underlying9 (by omega) (by omega) (by omega), show ((a : Int)).toNat = a by omega, show ((b : Int)).toNat = b by omega]
  congr 2
  apply ByteArray.ext
  rw [ByteArray.data_extract]
  apply Array.toList_inj.1
  rw [Array.toList_extract, List.extract_eq_take_drop]
  rfl
set_option maxHeartbeats 8000000 in
theorem parts_w (r0 r1 : Int) (slots : Int) (a0 : Option Addr) (n0 p0 : Nat) (a1 : Option Addr) (n1 p1 : Nat) (f : Fun) (v : FunV) (has : Bool) (asl : Int) (segs : List Sg) (sa : Option Addr) (sn sc : Nat) (kz : Int)
    (fm : Bool) (fname : ByteArray) (ra : Option Addr) (rn rc : Nat) (pa : Option Addr) (pn pc : Nat) (ba : Option Addr) (bn bc : Nat) (hfr : funR f v = #[.bool fm, .string fname, .slice ra rn rc, .slice pa pn pc, .slice ba bn bc])
    (tg fu al un : List UInt8) (W : World) (hI : IsFun W f v) (hS : IsSegs W sa sn segs) (hal : alloT asl segs = al) (hun : untT tg fu has al = un) (l1 : un.length ≤ big) (l2 : tg.length + fu.length ≤ big) (l3 : al.length ≤ big)
    (c7 : Ans 7 (.agg #[.int .i64 r0, .int .i64 r1, .slice a0 n0 p0, .slice a1 n1 p1, .int .i64 slots, .bool fm, .string fname, .slice ra rn rc, .slice pa pn pc, .slice ba bn bc, .bool has, .int .i64 asl, .slice sa sn sc]) (tx un) W) (c9 : Ans 9 (.agg #[.int .i64 r0, .int .i64 r1, .slice a0 n0 p0, .slice a1 n1 p1, .int .i64 slots]) (tx tg) W) (c13 : Ans 13 (.agg #[.bool fm, .string fname, .slice ra rn rc, .slice pa pn pc, .slice ba bn bc]) (tx fu) W) (c11 : Ans 11 (.agg #[.int .i64 asl, .slice sa sn sc]) (tx al) W) (c14 : ∀ s ∈ segs, Ans 14 (.agg #[.int .i64 s.v, .int .i64 s.f, .int .i64 s.t, .int .i64 s.k, .int .i64 s.c, .int .i64 s.n]) (tx (segT s)) W)
    (c6 : ∀ W', Below W.heap.size W W' → Calls Tryd.prog 6 #[] W' fun e w' => e = .returned (.bool true) ∧ Below W'.heap.size W' w') :
    Calls Tryd.prog 4 #[.agg #[.int .i64 r0, .int .i64 r1, .slice a0 n0 p0, .slice a1 n1 p1, .int .i64 slots, .bool fm, .string fname, .slice ra rn rc, .slice pa pn pc, .slice ba bn bc, .bool has, .int .i64 asl, .slice sa sn sc], .int .i64 kz] W fun e w' => e = .returned (.bool true) ∧ Below W.heap.size W w' := by
  have BA : Below W.heap.size W (W.alloc (.cells #[.int .i64 r0, .int .i64 r1, .slice a0 n0 p0, .slice a1 n1 p1, .int .i64 slots, .bool fm, .string fname, .slice ra rn rc, .slice pa pn pc, .slice ba bn bc, .bool has, .int .i64 asl, .slice sa sn sc] 36)) := (Below.refl _ W).alloc (Nat.le_refl _) _
  have hbx := heap_alloc_new W (.cells #[.int .i64 r0, .int .i64 r1, .slice a0 n0 p0, .slice a1 n1 p1, .int .i64 slots, .bool fm, .string fname, .slice ra rn rc, .slice pa pn pc, .slice ba bn bc, .bool has, .int .i64 asl, .slice sa sn sc] 36)
  obtain ⟨wa, hwa⟩ : ∃ wa, W.alloc (.cells #[.int .i64 r0, .int .i64 r1, .slice a0 n0 p0, .slice a1 n1 p1, .int .i64 slots, .bool fm, .string fname, .slice ra rn rc, .slice pa pn pc, .slice ba bn bc, .bool has, .int .i64 asl, .slice sa sn sc] 36) = wa := ⟨_, rfl⟩
  rw [hwa] at BA hbx
  have up : ∀ W', Below wa.heap.size wa W' → Below W.heap.size W W' := fun W' hb => BA.trans (hb.mono BA.size)
  have CL := Lib.hid (show Calls Tryd.prog 5 #[.agg #[.bool fm, .string fname, .slice ra rn rc, .slice pa pn pc, .slice ba bn bc]] wa fun e w' => SomeBool e ∧ Below wa.heap.size wa w' from by
    have := large_v f v wa (hI.below BA)
    rw [hfr] at this
    exact this)
  have C7 := Lib.hid (fun W' (hb : Below wa.heap.size wa W') => c7 W' (up W' hb))
  have C9 := Lib.hid (fun W' (hb : Below wa.heap.size wa W') => c9 W' (up W' hb))
  have C13 := Lib.hid (fun W' (hb : Below wa.heap.size wa W') => c13 W' (up W' hb))
  have C11 := Lib.hid (fun W' (hb : Below wa.heap.size wa W') => c11 W' (up W' hb))
  have C14 := Lib.hid (fun s (hs : s ∈ segs) W' (hb : Below wa.heap.size wa W') => c14 s hs W' (up W' hb))
  have C6 := Lib.hid (fun W' (hb : Below wa.heap.size wa W') => c6 W' (up W' hb))
  have HS := Lib.hid (hS.below BA)
  have HA := Lib.hid (And.intro BA hbx)
  have HL := Lib.hid (And.intro hal (And.intro hun (And.intro l1 (And.intro l2 l3))))
  obtain ⟨T1, hT1⟩ : ∃ T, tg ++ fu = T := ⟨_, rfl⟩
  have e1 : ∀ W : World, (Op.stringOp .add (tx tg) (tx fu)).run Tryd.prog W = .ok (.string (tx T1)) W := add_tx tg fu T1 hT1 (by rw [← hT1, List.length_append]; exact l2)
  have HT := Lib.hid hT1
  clear c6 c7 c9 c11 c13 c14 hI hS hfr BA hbx up hal hun l1 l2 l3 hT1
  obtain ⟨P, hP⟩ : ∃ P, W.heap.size = P := ⟨_, rfl⟩
  have hcells := Lib.hid (show ∀ w', Below wa.heap.size wa w' → w'.cell? ⟨P, 0, none⟩ = some (.int .i64 r0) ∧ w'.cell? ⟨P, 1, none⟩ = some (.int .i64 r1) ∧ w'.cell? ⟨P, 2, none⟩ = some (.slice a0 n0 p0) ∧ w'.cell? ⟨P, 3, none⟩ = some (.slice a1 n1 p1) ∧ w'.cell? ⟨P, 4, none⟩ = some (.int .i64 slots) ∧ w'.cell? ⟨P, 5, none⟩ = some (.bool fm) ∧ w'.cell? ⟨P, 6, none⟩ = some (.string fname) ∧ w'.cell? ⟨P, 7, none⟩ = some (.slice ra rn rc) ∧ w'.cell? ⟨P, 8, none⟩ = some (.slice pa pn pc) ∧ w'.cell? ⟨P, 9, none⟩ = some (.slice ba bn bc) ∧ w'.cell? ⟨P, 10, none⟩ = some (.bool has) ∧ w'.cell? ⟨P, 11, none⟩ = some (.int .i64 asl) ∧ w'.cell? ⟨P, 12, none⟩ = some (.slice sa sn sc) from fun w' hb => by
    have h := kept_box HA.out.2 hb
    rw [hP] at h
    exact ⟨cell_in h 0, cell_in h 1, cell_in h 2, cell_in h 3, cell_in h 4, cell_in h 5, cell_in h 6, cell_in h 7, cell_in h 8, cell_in h 9, cell_in h 10, cell_in h 11, cell_in h 12⟩)
  have HPP := Lib.hid hP
  clear hP
  obtain ⟨k0, k1, k2, k3, k4, k5, k6, k7, k8, k9, k10, k11, k12⟩ := hcells.out wa (Below.refl _ _)
  rw [← HPP.out] at k0 k1 k2 k3 k4 k5 k6 k7 k8 k9 k10 k11 k12
  go_enter Tryd.func4, Tryd.ntmps4
  go_wp2_with fail
  clear hwa k0 k1 k2 k3 k4 k5 k6 k7 k8 k9 k10 k11 k12
  rw [HPP.out]
  refine CL.out.mono ?_
  rintro e w1 ⟨⟨bl, rfl⟩, hb⟩
  have B1 := Lib.hid hb
  clear hb
  obtain ⟨k0, k1, k2, k3, k4, k5, k6, k7, k8, k9, k10, k11, k12⟩ := hcells.out w1 B1.out
  have fin : ∀ w', Below wa.heap.size wa w' → Below W.heap.size W w' := fun w' hb => HA.out.1.trans (hb.mono HA.out.1.size)
  have Fin := Lib.hid fin
  clear fin
  cases bl with
  | true =>
    go_wp2_with fail
    refine (C6.out w1 B1.out).mono ?_
    rintro e w2 ⟨rfl, hb⟩
    have B2 := Lib.hid (B1.out.trans (hb.mono B1.out.size))
    clear hb
    go_wp2_with fail
    go_ret
    exact ⟨rfl, Fin.out _ B2.out⟩
  | false =>
    by_cases g1 : (200 : Int) < (sn : Int)
    · go_wp2_with fail
      refine (C6.out w1 B1.out).mono ?_
      rintro e w2 ⟨rfl, hb⟩
      have B2 := Lib.hid (B1.out.trans (hb.mono B1.out.size))
      clear hb
      go_wp2_with fail
      go_ret
      exact ⟨rfl, Fin.out _ B2.out⟩
    · by_cases g2 : (60 : Int) < (n0 : Int)
      · go_wp2_with fail
        refine (C6.out w1 B1.out).mono ?_
        rintro e w2 ⟨rfl, hb⟩
        have B2 := Lib.hid (B1.out.trans (hb.mono B1.out.size))
        clear hb
        go_wp2_with fail
        go_ret
        exact ⟨rfl, Fin.out _ B2.out⟩
      · by_cases g3 : (60 : Int) < (n1 : Int)
        · go_wp2_with fail
          refine (C6.out w1 B1.out).mono ?_
          rintro e w2 ⟨rfl, hb⟩
          have B2 := Lib.hid (B1.out.trans (hb.mono B1.out.size))
          clear hb
          go_wp2_with fail
          go_ret
          exact ⟨rfl, Fin.out _ B2.out⟩
        · go_upto_region 3 with fail
          go_region_held3 (fun w' => w'.cell? ⟨P, 0, none⟩ = some (.int .i64 r0) ∧ w'.cell? ⟨P, 1, none⟩ = some (.int .i64 r1) ∧ w'.cell? ⟨P, 2, none⟩ = some (.slice a0 n0 p0) ∧ w'.cell? ⟨P, 3, none⟩ = some (.slice a1 n1 p1) ∧ w'.cell? ⟨P, 4, none⟩ = some (.int .i64 slots) ∧ w'.cell? ⟨P, 5, none⟩ = some (.bool fm) ∧ w'.cell? ⟨P, 6, none⟩ = some (.string fname) ∧ w'.cell? ⟨P, 7, none⟩ = some (.slice ra rn rc) ∧ w'.cell? ⟨P, 8, none⟩ = some (.slice pa pn pc) ∧ w'.cell? ⟨P, 9, none⟩ = some (.slice ba bn bc) ∧ w'.cell? ⟨P, 10, none⟩ = some (.bool has) ∧ w'.cell? ⟨P, 11, none⟩ = some (.int .i64 asl) ∧ w'.cell? ⟨P, 12, none⟩ = some (.slice sa sn sc))
            (first | exact K3.out | exact K2.out | exact ⟨k0, k1, k2, k3, k4, k5, k6, k7, k8, k9, k10, k11, k12⟩)
            (first
              | (go_at_call 13; refine (C13.out w2 B2.out).mono ?_; rintro e w3 ⟨rfl, hb⟩; have B3 := Lib.hid (B2.out.trans (hb.mono B2.out.size)); clear hb; have K3 := Lib.hid (hcells.out w3 B3.out))
              | (go_at_call 9; refine (C9.out _ (B1.out.trans (Below.mono (below_drewN w1 1) B1.out.size))).mono ?_; rintro e w2 ⟨rfl, hb⟩; have B2 := Lib.hid (B1.out.trans (Below.mono ((below_drewN w1 1).trans hb) B1.out.size)); clear hb; have K2 := Lib.hid (hcells.out w2 B2.out)))
          clear k0 k1 k2 k3 k4 k5 k6 k7 k8 k9 k10 k11 k12 K2 K3 B2 e1
          obtain ⟨k0, k1, k2, k3, k4, k5, k6, k7, k8, k9, k10, k11, k12⟩ := hcells.out w3 B3.out
          go_upto_if 45 with fail
          go_cut [5] from 46 to 50 (fun s5 wx => s5 = .string (tx un) ∧ Hid (Below wa.heap.size wa wx))
          case first =>
            cases has with
            | true =>
              have e2 : ∀ W : World, (Op.stringOp .add (tx T1) (tx al)).run Tryd.prog W = .ok (.string (tx un)) W := add_tx T1 al un (by rw [← HL.out.2.1, ← HT.out]; simp [untT]) HL.out.2.2.1
              go_wp2_with fail
              refine (C11.out w3 B3.out).mono ?_
              rintro e w4 ⟨rfl, hb⟩
              have B4 := Lib.hid (B3.out.trans (hb.mono B3.out.size))
              clear hb
              go_wp2_with fail
              go_meet
              case rel => exact ⟨rfl, B4.out⟩
            | false =>
              have hT : T1 = un := by rw [← HL.out.2.1, ← HT.out]; simp [untT]
              have HTT := Lib.hid hT
              clear hT
              go_wp2_with fail
              go_meet
              case rel => exact ⟨by rw [HTT.out], B3.out⟩
          case rest =>
            obtain ⟨rfl, hcw⟩ := hcut
            have BC := Lib.hid hcw.out
            clear hcw k0 k1 k2 k3 k4 k5 k6 k7 k8 k9 k10 k11 k12
            obtain ⟨k0, k1, k2, k3, k4, k5, k6, k7, k8, k9, k10, k11, k12⟩ := hcells.out wc BC.out
            by_cases hk0 : (0 : Int) ≤ kz
            · by_cases hk1 : kz < (sn : Int)
              · obtain ⟨k, rfl⟩ : ∃ k : Nat, kz = (k : Int) := ⟨kz.toNat, by omega⟩
                obtain ⟨b, o, rfl, hb, x, hx, c0, c1, c2, c3, c4, c5⟩ := (HS.out.below BC.out).at (k := k) (by omega)
                have CX := Lib.hid (C14.out x (List.mem_of_getElem? hx))
                have hmx := hx
                obtain ⟨sx, hsx⟩ : ∃ sx, segT x = sx := ⟨_, rfl⟩
                rw [hsx] at CX
                have HX := Lib.hid (And.intro hx hsx)
                obtain ⟨xv, xf, xt, xk, xc, xn⟩ := x
                dsimp only at c0 c1 c2 c3 c4 c5 CX
                clear hx hsx hmx hb
                go_wp2_with fail
                refine (CX.out wc BC.out).mono ?_
                rintro e w5 ⟨rfl, hb⟩
                have B5 := Lib.hid (BC.out.trans (hb.mono BC.out.size))
                clear hb c0 c1 c2 c3 c4 c5 k0 k1 k2 k3 k4 k5 k6 k7 k8 k9 k10 k11 k12
                obtain ⟨k0, k1, k2, k3, k4, k5, k6, k7, k8, k9, k10, k11, k12⟩ := hcells.out w5 B5.out
                go_wp2_with fail
                refine (C11.out w5 B5.out).mono ?_
                rintro e w6 ⟨rfl, hb⟩
                have B6 := Lib.hid (B5.out.trans (hb.mono B5.out.size))
                clear hb k0 k1 k2 k3 k4 k5 k6 k7 k8 k9 k10 k11 k12
                obtain ⟨m, hm⟩ : ∃ m, sx.length = m := ⟨_, rfl⟩
                obtain ⟨M, hM⟩ : ∃ M, al.length = M := ⟨_, rfl⟩
                have z1 : (tx sx).size = m := by rw [tx_size]; exact hm
                have z2 : (tx al).size = M := by rw [tx_size]; exact hM
                have hMb : M ≤ 140737488355328 := by rw [← hM]; exact HL.out.2.2.2.2
                obtain ⟨pre, post, hin⟩ := seg_in asl segs k _ HX.out.1
                rw [HL.out.1, HX.out.2] at hin
                have hmM : pre.length + m ≤ M := by
                  have := congrArg List.length hin
                  simp only [List.length_append] at this
                  omega
                have HIN := Lib.hid (And.intro hin (And.intro hm hM))
                clear hin hm hM
                go_wp2_with fail
                go_loopg [8, 9] (M + 1) (fun gk u1 u2 wr => ∃ i : Nat, i + gk = M + 1 ∧ u2 = .int .i64 (i : Int) ∧ u1 = .bool (fnd al sx i) ∧ Hid (Below wa.heap.size wa wr))
                case atStart => exact ⟨0, by omega, rfl, rfl, B6.out⟩
                case round =>
                  obtain ⟨i, hi, rfl, rfl, HH⟩ := hrel
                  by_cases hle : i + m ≤ M
                  · have j1 : (i : Int) + (m : Int) ≤ (M : Int) := by omega
                    have hst := fnd_step al sx i
                    rw [HIN.out.2.1] at hst
                    cases hf : fnd al sx i with
                    | true =>
                      rw [hf, Bool.true_or] at hst
                      have Hst := Lib.hid hst
                      clear hst hf
                      go_wp2_with fail
                      go_roundg (M - i)
                      case measure => omega
                      case rel => exact ⟨i + 1, by omega, by go_num, by rw [Hst.out], HH.out⟩
                    | false =>
                      rw [hf, Bool.false_or] at hst
                      have hcut := cut_ab al i (i + m) (by omega) (by rw [HIN.out.2.2]; exact hle)
                      rw [show i + m - i = m by omega] at hcut
                      obtain ⟨wd, hwd⟩ : ∃ wd, (al.drop i).take m = wd := ⟨_, rfl⟩
                      rw [hwd] at hst hcut
                      have hcut2 : ∀ W : World, (Instr.slice 9 (.string (tx al)) (some (.int .i64 (i : Int))) (some (.int .i64 ((i : Int) + (m : Int)))) none).run Tryd.prog W = .ok (.string (tx wd)) W := fun W => hcut W
                      by_cases hw : wd = sx
                      · have q1 : ((tx wd).toList == (tx sx).toList) = true := by rw [hw]; simp
                        have hst2 : fnd al sx (i + 1) = true := by rw [hst, hw]; simp
                        have Hst := Lib.hid hst2
                        clear hst hf hw hst2 hwd hcut
                        go_wp2_with fail
                        go_roundg (M - i)
                        case measure => omega
                        case rel => exact ⟨i + 1, by omega, by go_num, by rw [Hst.out], HH.out⟩
                      · have q1 : ((tx wd).toList == (tx sx).toList) = false := by
                          rw [beq_eq_false_iff_ne]
                          intro e
                          apply hw
                          rw [ByteArray.toList_eq, ByteArray.toList_eq, data_tx, data_tx] at e
                          exact e
                        have hst2 : fnd al sx (i + 1) = false := by rw [hst]; simpa using hw
                        have Hst := Lib.hid hst2
                        clear hst hf hw hst2 hwd hcut
                        go_wp2_with fail
                        go_roundg (M - i)
                        case measure => omega
                        case rel => exact ⟨i + 1, by omega, by go_num, by rw [Hst.out], HH.out⟩
                  · have j1 : ¬ (i : Int) + (m : Int) ≤ (M : Int) := by omega
                    have j2 : (M : Int) < (i : Int) + (m : Int) := by omega
                    have j3 : decide ((i : Int) + (m : Int) ≤ (M : Int)) = false := by simpa using j1
                    have hf : fnd al sx i = true := by
                      rw [HIN.out.1]
                      exact fnd_in pre sx post i (by omega)
                    rw [hf]
                    have q1 := toList_same (tx un)
                    obtain ⟨k0, k1, k2, k3, k4, k5, k6, k7, k8, k9, k10, k11, k12⟩ := hcells.out wr HH.out
                    clear hf
                    go_wp2_with fail
                    refine (C7.out wr HH.out).mono ?_
                    rintro e w8 ⟨rfl, hb⟩
                    have B8 := Lib.hid (HH.out.trans (hb.mono HH.out.size))
                    clear hb k0 k1 k2 k3 k4 k5 k6 k7 k8 k9 k10 k11 k12
                    go_wp2_with fail
                    refine (C6.out w8 B8.out).mono ?_
                    rintro e w9 ⟨rfl, hb⟩
                    have B9 := Lib.hid (B8.out.trans (hb.mono B8.out.size))
                    clear hb
                    go_wp2_with fail
                    go_ret
                    exact ⟨rfl, Fin.out _ B9.out⟩
              · have q1 := toList_same (tx un)
                go_wp2_with fail
                refine (C7.out wc BC.out).mono ?_
                rintro e w8 ⟨rfl, hb⟩
                have B8 := Lib.hid (BC.out.trans (hb.mono BC.out.size))
                clear hb k0 k1 k2 k3 k4 k5 k6 k7 k8 k9 k10 k11 k12
                go_wp2_with fail
                refine (C6.out w8 B8.out).mono ?_
                rintro e w9 ⟨rfl, hb⟩
                have B9 := Lib.hid (B8.out.trans (hb.mono B8.out.size))
                clear hb
                go_wp2_with fail
                go_ret
                exact ⟨rfl, Fin.out _ B9.out⟩
            · have q1 := toList_same (tx un)
              go_wp2_with fail
              refine (C7.out wc BC.out).mono ?_
              rintro e w8 ⟨rfl, hb⟩
              have B8 := Lib.hid (BC.out.trans (hb.mono BC.out.size))
              clear hb k0 k1 k2 k3 k4 k5 k6 k7 k8 k9 k10 k11 k12
              go_wp2_with fail
              refine (C6.out w8 B8.out).mono ?_
              rintro e w9 ⟨rfl, hb⟩
              have B9 := Lib.hid (B8.out.trans (hb.mono B8.out.size))
              clear hb
              go_wp2_with fail
              go_ret
              exact ⟨rfl, Fin.out _ B9.out⟩
end Go.Proofs.YtakfoncdiejhaaaDoor
