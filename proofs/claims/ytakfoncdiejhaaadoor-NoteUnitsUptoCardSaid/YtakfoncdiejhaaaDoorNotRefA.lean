
/- The document's own text of an allocation. -/
import Derived.Test.YtakfoncdiejhaaaDoorNotRefT
import Derived.Deep.RegionHeld3
import Derived.Deep.CutRange
import Derived.IntWalk
import Derived.Deep.QuietTactic
namespace Go.Proofs.YtakfoncdiejhaaaDoor
open Go.ChangeShapes Go.WideShapes Go.RowKit
set_option linter.unusedVariables false
set_option maxRecDepth 20000

theorem two_in {W : World} {Q : Nat} {a0 a1 : Value} {t : TypeId} (h : W.heap[Q]? = some (.cells #[a0, a1] t (0, 0))) : W.cell? ⟨Q, 0, none⟩ = some a0 ∧ W.cell? ⟨Q, 1, none⟩ = some a1 := ⟨cell_in h 0, cell_in h 1⟩
theorem six_in {W : World} {Q : Nat} {a0 a1 a2 a3 a4 a5 : Value} {t : TypeId} (h : W.heap[Q]? = some (.cells #[a0, a1, a2, a3, a4, a5] t (0, 0))) :
    W.cell? ⟨Q, 0, none⟩ = some a0 ∧ W.cell? ⟨Q, 1, none⟩ = some a1 ∧ W.cell? ⟨Q, 2, none⟩ = some a2 ∧ W.cell? ⟨Q, 3, none⟩ = some a3 ∧ W.cell? ⟨Q, 4, none⟩ = some a4 ∧ W.cell? ⟨Q, 5, none⟩ = some a5 := ⟨cell_in h 0, cell_in h 1, cell_in h 2, cell_in h 3, cell_in h 4, cell_in h 5⟩
/-- A segment's numbers are numbers of 64 bits. -/
def SgF (s : Sg) : Prop := Deci.fit s.v ∧ Deci.fit s.f ∧ Deci.fit s.t ∧ Deci.fit s.n
set_option maxHeartbeats 4000000 in
theorem ralloc_v (slots : Int) (segs : List Sg) (sa : Option Addr) (sn sc : Nat) (t : List UInt8) (W : World) (h0 : IsSegs W sa sn segs)
    (f0 : Deci.fit slots) (g0 : ∀ s ∈ segs, SgF s) (s0 : sn ≤ 1048576) (ht : alloT slots segs = t) (hlen : t.length ≤ big) :
    Calls Tryd.prog 12 #[.agg #[.int .i64 slots, .slice sa sn sc]] W (SaysT t W) := by
  have BA : Below W.heap.size W (W.alloc (.cells #[.int .i64 slots, .slice sa sn sc] 34)) := (Below.refl _ W).alloc (Nat.le_refl _) _
  have hal := heap_alloc_new W (.cells #[.int .i64 slots, .slice sa sn sc] 34)
  have hl0 := h0.1
  have HI := Lib.hid (And.intro (h0.below BA) (And.intro g0 (And.intro s0 hl0)))
  clear h0 g0
  obtain ⟨wa, hwa⟩ : ∃ wa, W.alloc (.cells #[.int .i64 slots, .slice sa sn sc] 34) = wa := ⟨_, rfl⟩
  rw [hwa] at BA hal HI
  have HA := Lib.hid (And.intro BA hal)
  clear BA hal
  have hcells := Lib.hid (show ∀ w', Below wa.heap.size wa w' → w'.cell? ⟨W.heap.size, 0, none⟩ = some (.int .i64 slots) ∧ w'.cell? ⟨W.heap.size, 1, none⟩ = some (.slice sa sn sc) from fun w' hb => two_in (kept_box HA.out.2 hb))
  obtain ⟨k0, k1⟩ := hcells.out wa (Below.refl _ _)
  obtain ⟨x0, hx0⟩ : ∃ x, Deci.txt slots = x := ⟨_, rfl⟩
  obtain ⟨T1, hT1⟩ : ∃ T, [97, 108, 108, 111, 99, 32, 115, 108, 111, 116, 115, 32] ++ x0 = T := ⟨_, rfl⟩
  obtain ⟨T2, hT2⟩ : ∃ T, T1 ++ [32, 123, 10] = T := ⟨_, rfl⟩
  have h2 : T2 ++ (segsT segs ++ [125, 10]) = t := by rw [← ht, ← hT2, ← hT1, ← hx0]; unfold alloT; simp
  have h2l := congrArg List.length h2
  simp only [List.length_append, List.length_cons, List.length_nil] at h2l
  have l1 : T2.length = T1.length + 3 := by rw [← hT2]; simp
  have e1 : ∀ W : World, (Op.stringOp .add ⟨#[97, 108, 108, 111, 99, 32, 115, 108, 111, 116, 115, 32]⟩ (tx x0)).run Tryd.prog W = .ok (.string (tx T1)) W := add_tx [97, 108, 108, 111, 99, 32, 115, 108, 111, 116, 115, 32] x0 T1 hT1 (by omega)
  have e2 : ∀ W : World, (Op.stringOp .add (tx T1) ⟨#[32, 123, 10]⟩).run Tryd.prog W = .ok (.string (tx T2)) W := add_tx T1 [32, 123, 10] T2 hT2 (by omega)
  have C1 := Lib.hid (fun w => rput_t slots x0 hx0 f0 w)
  have HT := Lib.hid (And.intro h2 (And.intro h2l (And.intro hlen s0)))
  clear hT1 hT2 hx0 ht hlen h2 h2l l1 f0
  go_enter Tryd.func12, Tryd.ntmps12
  go_wp2_with fail
  clear hwa
  refine (C1.out wa).mono ?_
  rintro e w1 ⟨rfl, hb⟩
  have B1 := Lib.hid hb
  clear hb k0 k1 C1
  go_wp2_with fail
  clear e1 e2
  go_loopg [3, 4] sn (fun gk u1 u2 wr => ∃ k : Nat, k + gk = sn ∧ u2 = .int .i64 (k : Int) ∧ u1 = .string (tx (T2 ++ segsTo segs k)) ∧ Hid (Below wa.heap.size wa wr))
  case atStart => exact ⟨0, by omega, rfl, by rw [segsTo_zero, List.append_nil], B1.out⟩
  case round =>
    obtain ⟨k, hk, rfl, rfl, HH⟩ := hrel
    obtain ⟨k0, k1⟩ := hcells.out wr HH.out
    by_cases hlt : k < sn
    · obtain ⟨b, o, rfl, hb, x, hx, c0, c1, c2, c3, c4, c5⟩ := (HI.out.1.below HH.out).at hlt
      obtain ⟨Y, hY⟩ : ∃ Y, T2 ++ segsTo segs k = Y := ⟨_, rfl⟩
      obtain ⟨b1, hb1⟩ : ∃ c, fstB segs k x = c := ⟨_, rfl⟩
      obtain ⟨b2, hb2⟩ : ∃ c, lstB segs k x = c := ⟨_, rfl⟩
      obtain ⟨Y1, hY1⟩ : ∃ Y1, Y ++ fstT b1 x.v = Y1 := ⟨_, rfl⟩
      obtain ⟨Y2, hY2⟩ : ∃ Y2, Y1 ++ segT x = Y2 := ⟨_, rfl⟩
      obtain ⟨Y3, hY3⟩ : ∃ Y3, Y2 ++ lstT b2 = Y3 := ⟨_, rfl⟩
      have hst : T2 ++ segsTo segs (k + 1) = Y3 := by
        rw [segsTo_step segs k x hx, ← hY3, ← hY2, ← hY1, ← hY]; unfold segAt; rw [hb1, hb2]; simp
      have hbig : Y3.length ≤ big := by
        have := congrArg List.length hst
        have le := segsTo_le segs (k + 1)
        have := HT.out.2.1
        have := HT.out.2.2.1
        simp only [List.length_append] at *
        omega
      have hfx := HI.out.2.1 x (List.mem_of_getElem? hx)
      have hkle := HT.out.2.2.2
      have hin := List.getElem?_eq_some_iff.1 hx
      have hlen := HI.out.2.2.2
      have hY12 : Y1.length ≤ Y3.length ∧ Y2.length ≤ Y3.length := by
        have q1 := congrArg List.length hY2
        have q2 := congrArg List.length hY3
        simp only [List.length_append] at q1 q2
        omega
      have HY := Lib.hid (show Y1.length ≤ big from by omega)
      have HYb := Lib.hid (show Y2.length ≤ big from by omega)
      have HG := Lib.hid (And.intro hst (And.intro hbig (And.intro hfx (And.intro hb1 (And.intro hb2 (And.intro hY1 (And.intro hY2 (And.intro hY3 hx))))))))
      obtain ⟨xv, xf, xt, xk, xc, xn⟩ := x
      dsimp only at c0 c1 c2 c3 c4 c5
      have i1 : (k : Int) < (sn : Int) := by omega
      have i2 : (0 : Int) ≤ (k : Int) := by omega
      rw [hY]
      clear hY hb1 hb2 hY1 hY2 hY3 hst hbig hfx hY12
      go_upto_region 6 with fail
      have b2' : Below wr.heap.size wr (wr.alloc (.cells #[.int .i64 xv, .int .i64 xf, .int .i64 xt, .int .i64 xk, .int .i64 xc, .int .i64 xn] 48)) := (Below.refl _ wr).alloc (Nat.le_refl _) _
      have x2 := heap_alloc_new wr (.cells #[.int .i64 xv, .int .i64 xf, .int .i64 xt, .int .i64 xk, .int .i64 xc, .int .i64 xn] 48)
      obtain ⟨w2, hw2⟩ : ∃ w2, wr.alloc (.cells #[.int .i64 xv, .int .i64 xf, .int .i64 xt, .int .i64 xk, .int .i64 xc, .int .i64 xn] 48) = w2 := ⟨_, rfl⟩
      rw [hw2] at b2' x2 ⊢
      obtain ⟨O, hO⟩ : ∃ O, wr.heap.size = O := ⟨_, rfl⟩
      have B2 := Lib.hid (HH.out.trans (b2'.mono HH.out.size))
      rw [hO] at x2 ⊢
      have HO := Lib.hid x2
      have hsix := Lib.hid (show ∀ w', Below w2.heap.size w2 w' → (w'.cell? ⟨O, 0, none⟩ = some (.int .i64 xv) ∧ w'.cell? ⟨O, 1, none⟩ = some (.int .i64 xf) ∧ w'.cell? ⟨O, 2, none⟩ = some (.int .i64 xt) ∧ w'.cell? ⟨O, 3, none⟩ = some (.int .i64 xk) ∧ w'.cell? ⟨O, 4, none⟩ = some (.int .i64 xc) ∧ w'.cell? ⟨O, 5, none⟩ = some (.int .i64 xn)) ∧ Below wa.heap.size wa w' from fun w' hb => ⟨six_in (kept_box HO.out hb), B2.out.trans (hb.mono B2.out.size)⟩)
      clear hw2 hO b2' x2 c0 c1 c2 c3 c4 c5 k0 k1
      go_cut [36] from 23 to 36 (fun s36 wx => s36 = .bool b1 ∧ Hid (Below w2.heap.size w2 wx))
      case first =>
        obtain ⟨⟨o0, -⟩, hbw⟩ := hsix.out w2 (Below.refl _ _)
        obtain ⟨k0, k1⟩ := hcells.out w2 hbw
        by_cases hk0 : k = 0
        · subst hk0
          have hbt : b1 = true := by rw [← HG.out.2.2.2.1]; simp [fstB]
          have Hbt := Lib.hid hbt
          clear hbt
          go_quiet (fail)
          go_wp2_with fail
          go_meet
          case rel => exact ⟨by rw [Hbt.out], below_drewN _ _⟩
        · obtain ⟨q, hq⟩ : ∃ q, k = q + 1 := ⟨k - 1, by omega⟩
          obtain ⟨b', o', e, _, y, hy, c0, -⟩ := (HI.out.1.below hbw).at (k := q) (by omega)
          injection e with e
          injection e with e1 e2
          subst e1; subst e2
          have hbt : (y.v != xv) = b1 := by
            rw [← HG.out.2.2.2.1]
            unfold fstB
            have h1 : (k == 0) = false := by simp; omega
            rw [h1, show k - 1 = q by omega, List.getD_eq_getElem?_getD, hy]
            rfl
          obtain ⟨yv, hyv⟩ : ∃ v, y.v = v := ⟨_, rfl⟩
          rw [hyv] at c0 hbt
          have hk1 : ¬ (k : Int) = 0 := by omega
          have hk2 : ((k : Int) == 0) = false := by simpa using hk1
          have r1 : (k : Int) - 1 = (q : Int) := by omega
          have r2 : IntKind.i64.wrap ((k : Int) - 1) = (q : Int) := by rw [IntWalk.i64_in _ (by omega)]; exact r1
          have r3 : IntKind.i64.wrap (q : Int) = (q : Int) := IntWalk.i64_in _ (by omega)
          have r4 : (q : Int) < (sn : Int) := by omega
          have r5 : (0 : Int) ≤ (q : Int) := by omega
          have Hbt := Lib.hid hbt
          clear hbt hyv hy hq
          by_cases hv : yv = xv
          · have d1 : (yv != xv) = false := by simpa using hv
            subst hv
            go_quiet (fail)
            go_wp2_with fail
            go_meet
            case rel => exact ⟨by rw [← Hbt.out]; simp, below_drewN _ _⟩
          · have d1 : (yv != xv) = true := by simpa using hv
            go_quiet (fail)
            go_wp2_with fail
            go_meet
            case rel => exact ⟨by rw [← Hbt.out, d1], below_drewN _ _⟩
      case rest =>
        obtain ⟨rfl, hcw⟩ := hcut
        have BX := Lib.hid hcw.out
        clear hcw
        obtain ⟨⟨o0, -⟩, -⟩ := hsix.out wc BX.out
        go_upto_if 36 with fail
        go_cut [3] from 37 to 43 (fun s3 wy => s3 = .string (tx Y1) ∧ Hid (Below w2.heap.size w2 wy))
        case first =>
          cases b1 with
          | true =>
            obtain ⟨v1, hv1⟩ : ∃ v1, Deci.txt xv = v1 := ⟨_, rfl⟩
            obtain ⟨Z1, hZ1⟩ : ∃ Z1, Y ++ [32, 32, 37] = Z1 := ⟨_, rfl⟩
            obtain ⟨Z2, hZ2⟩ : ∃ Z2, Z1 ++ v1 = Z2 := ⟨_, rfl⟩
            have hZ3 : Z2 ++ [58, 32] = Y1 := by rw [← HG.out.2.2.2.2.2.1, ← hZ2, ← hZ1, ← hv1]; simp [fstT]
            have a1 := congrArg List.length hZ2
            have a2 := congrArg List.length hZ3
            have a3 := HY.out
            simp only [List.length_append] at a1 a2
            have e1 : ∀ W : World, (Op.stringOp .add (tx Y) ⟨#[32, 32, 37]⟩).run Tryd.prog W = .ok (.string (tx Z1)) W := add_tx Y [32, 32, 37] Z1 hZ1 (by omega)
            have e2 : ∀ W : World, (Op.stringOp .add (tx Z1) (tx v1)).run Tryd.prog W = .ok (.string (tx Z2)) W := add_tx Z1 v1 Z2 hZ2 (by omega)
            have e3 : ∀ W : World, (Op.stringOp .add (tx Z2) ⟨#[58, 32]⟩).run Tryd.prog W = .ok (.string (tx Y1)) W := add_tx Z2 [58, 32] Y1 hZ3 (by omega)
            have C1 := Lib.hid (fun w => rput_t xv v1 hv1 HG.out.2.2.1.1 w)
            clear hv1 hZ1 hZ2 hZ3 a1 a2 a3
            go_wp2_with fail
            refine (C1.out wc).mono ?_
            rintro e w5 ⟨rfl, hb5⟩
            have B5 := Lib.hid (BX.out.trans (hb5.mono BX.out.size))
            clear hb5
            go_wp2_with fail
            go_meet
            case rel => exact ⟨rfl, B5.out⟩
          | false =>
            have hZ : Y = Y1 := by rw [← HG.out.2.2.2.2.2.1]; simp [fstT]
            have HZ := Lib.hid hZ
            clear hZ
            go_wp2_with fail
            go_meet
            case rel => exact ⟨by rw [HZ.out], BX.out⟩
        case rest =>
          obtain ⟨rfl, hcw⟩ := hcut
          have BY := Lib.hid hcw.out
          clear hcw
          obtain ⟨⟨o0, o1, o2, o3, o4, o5⟩, hbw⟩ := hsix.out _ BY.out
          obtain ⟨k0, k1⟩ := hcells.out _ hbw
          obtain ⟨v1, hv1⟩ : ∃ v1, Deci.txt xf = v1 := ⟨_, rfl⟩
          obtain ⟨v2, hv2⟩ : ∃ v2, Deci.txt xt = v2 := ⟨_, rfl⟩
          obtain ⟨v3, hv3⟩ : ∃ v3, Tg.nameOf xk xc xn = v3 := ⟨_, rfl⟩
          obtain ⟨Z1, hZ1⟩ : ∃ Z1, Y1 ++ v1 = Z1 := ⟨_, rfl⟩
          obtain ⟨Z2, hZ2⟩ : ∃ Z2, Z1 ++ [46, 46] = Z2 := ⟨_, rfl⟩
          obtain ⟨Z3, hZ3⟩ : ∃ Z3, Z2 ++ v2 = Z3 := ⟨_, rfl⟩
          obtain ⟨Z4, hZ4⟩ : ∃ Z4, Z3 ++ [32] = Z4 := ⟨_, rfl⟩
          have hZ5 : Z4 ++ v3 = Y2 := by rw [← HG.out.2.2.2.2.2.2.1, ← hZ4, ← hZ3, ← hZ2, ← hZ1, ← hv1, ← hv2, ← hv3]; simp [segT]
          have a1 := congrArg List.length hZ1
          have a2 := congrArg List.length hZ2
          have a3 := congrArg List.length hZ3
          have a4 := congrArg List.length hZ4
          have a5 := congrArg List.length hZ5
          have a6 := HYb.out
          simp only [List.length_append] at a1 a2 a3 a4 a5
          have e1 : ∀ W : World, (Op.stringOp .add (tx Y1) (tx v1)).run Tryd.prog W = .ok (.string (tx Z1)) W := add_tx Y1 v1 Z1 hZ1 (by omega)
          have e2 : ∀ W : World, (Op.stringOp .add (tx Z1) ⟨#[46, 46]⟩).run Tryd.prog W = .ok (.string (tx Z2)) W := add_tx Z1 [46, 46] Z2 hZ2 (by omega)
          have e3 : ∀ W : World, (Op.stringOp .add (tx Z2) (tx v2)).run Tryd.prog W = .ok (.string (tx Z3)) W := add_tx Z2 v2 Z3 hZ3 (by omega)
          have e4 : ∀ W : World, (Op.stringOp .add (tx Z3) ⟨#[32]⟩).run Tryd.prog W = .ok (.string (tx Z4)) W := add_tx Z3 [32] Z4 hZ4 (by omega)
          have e5 : ∀ W : World, (Op.stringOp .add (tx Z4) (tx v3)).run Tryd.prog W = .ok (.string (tx Y2)) W := add_tx Z4 v3 Y2 hZ5 (by omega)
          have C1 := Lib.hid (fun w => rput_t xf v1 hv1 HG.out.2.2.1.2.1 w)
          have C2 := Lib.hid (fun w => rput_t xt v2 hv2 HG.out.2.2.1.2.2.1 w)
          have C3 := Lib.hid (fun w => rname_t xk xc xn v3 hv3 HG.out.2.2.1.2.2.2 w)
          clear hv1 hv2 hv3 hZ1 hZ2 hZ3 hZ4 hZ5 a1 a2 a3 a4 a5 a6 hbw
          go_upto_region 8 with fail
          go_region_held3 (fun w' => w'.cell? ⟨O, 1, none⟩ = some (.int .i64 xf) ∧ w'.cell? ⟨O, 2, none⟩ = some (.int .i64 xt) ∧ w'.cell? ⟨O, 3, none⟩ = some (.int .i64 xk) ∧ w'.cell? ⟨O, 4, none⟩ = some (.int .i64 xc) ∧ w'.cell? ⟨O, 5, none⟩ = some (.int .i64 xn))
            (first | exact K3.out | exact K2.out | exact K1.out | exact ⟨o1, o2, o3, o4, o5⟩)
            (first
              | (go_at_call 20; refine (C3.out w7).mono ?_; rintro e w8 ⟨rfl, hb⟩; have B8 := Lib.hid (B7.out.trans (hb.mono B7.out.size)); clear hb; have K3 := Lib.hid ((hsix.out w8 B8.out).1.2))
              | (go_at_call 19; refine (C2.out w6).mono ?_; rintro e w7 ⟨rfl, hb⟩; have B7 := Lib.hid (B6.out.trans (hb.mono B6.out.size)); clear hb; have K2 := Lib.hid ((hsix.out w7 B7.out).1.2))
              | (go_at_call 19; refine (C1.out _).mono ?_; rintro e w6 ⟨rfl, hb⟩; have B6 := Lib.hid (BY.out.trans (Below.mono ((below_drewN _ 1).trans hb) BY.out.size)); clear hb; have K1 := Lib.hid ((hsix.out w6 B6.out).1.2)))
          clear o0 o1 o2 o3 o4 o5 e1 e2 e3 e4 e5 K1 K2 K3 B6 B7 C1 C2 C3 k0 k1
          go_upto_region 9 with fail
          go_cut [76] from 59 to 76 (fun s76 wx => s76 = .bool b2 ∧ Hid (Below w2.heap.size w2 wx))
          case first =>
            obtain ⟨⟨o0, -⟩, hbw⟩ := hsix.out _ B8.out
            obtain ⟨k0, k1⟩ := hcells.out _ hbw
            by_cases hk0 : k + 1 = sn
            · have hbt : b2 = true := by
                rw [← HG.out.2.2.2.2.1]
                unfold lstB
                rw [hlen, hk0]
                simp
              have Hbt := Lib.hid hbt
              have r1 : (sn : Int) - 1 = (k : Int) := by omega
              have r2 : IntKind.i64.wrap ((sn : Int) - 1) = (k : Int) := by rw [IntWalk.i64_in _ (by omega)]; exact r1
              clear hbt hk0
              go_quiet (fail)
              go_wp2_with fail
              go_meet
              case rel => exact ⟨by rw [Hbt.out], B8.out.trans ((below_drewN _ _).mono B8.out.size)⟩
            · obtain ⟨q, hq⟩ : ∃ q, q = k + 1 := ⟨_, rfl⟩
              obtain ⟨m, hm⟩ : ∃ m, sn = m + 1 := ⟨sn - 1, by omega⟩
              obtain ⟨b', o', e, _, y, hy, c0, -⟩ := (HI.out.1.below hbw).at (k := q) (by omega)
              injection e with e
              injection e with e1 e2
              subst e1; subst e2
              have hbt : (y.v != xv) = b2 := by
                rw [← HG.out.2.2.2.2.1]
                unfold lstB
                have h1 : (k + 1 == segs.length) = false := by rw [hlen]; simpa using hk0
                rw [h1, ← hq, List.getD_eq_getElem?_getD, hy]
                rfl
              obtain ⟨yv, hyv⟩ : ∃ v, y.v = v := ⟨_, rfl⟩
              rw [hyv] at c0 hbt
              have t1 : (sn : Int) - 1 = (m : Int) := by omega
              have t2 : IntKind.i64.wrap ((sn : Int) - 1) = (m : Int) := by rw [IntWalk.i64_in _ (by omega)]; exact t1
              have t3 : ¬ (k : Int) = (m : Int) := by omega
              have t4 : ((k : Int) == (m : Int)) = false := by simpa using t3
              have r1 : (k : Int) + 1 = (q : Int) := by omega
              have r2 : IntKind.i64.wrap ((k : Int) + 1) = (q : Int) := by rw [IntWalk.i64_in _ (by omega)]; exact r1
              have r3 : IntKind.i64.wrap (q : Int) = (q : Int) := IntWalk.i64_in _ (by omega)
              have r4 : (q : Int) < (sn : Int) := by omega
              have r5 : (0 : Int) ≤ (q : Int) := by omega
              have Hbt := Lib.hid hbt
              clear hbt hyv hy hq hm hk0
              by_cases hv : yv = xv
              · have d1 : (yv != xv) = false := by simpa using hv
                subst hv
                go_quiet (fail)
                go_wp2_with fail
                go_meet
                case rel => exact ⟨by rw [← Hbt.out]; simp, B8.out.trans ((below_drewN _ _).mono B8.out.size)⟩
              · have d1 : (yv != xv) = true := by simpa using hv
                go_quiet (fail)
                go_wp2_with fail
                go_meet
                case rel => exact ⟨by rw [← Hbt.out, d1], B8.out.trans ((below_drewN _ _).mono B8.out.size)⟩
          case rest =>
            obtain ⟨rfl, hcw⟩ := hcut
            have BZ := Lib.hid hcw.out
            clear hcw
            have hfin := HG.out.2.2.2.2.2.2.2.1
            have hbg := HG.out.2.1
            cases b2 with
            | true =>
              have e1 : ∀ W : World, (Op.stringOp .add (tx Y2) ⟨#[59, 10]⟩).run Tryd.prog W = .ok (.string (tx Y3)) W := add_tx Y2 [59, 10] Y3 hfin hbg
              clear hfin hbg
              go_wp2_with fail
              go_roundg (sn - k - 1)
              case measure => omega
              case rel => exact ⟨k + 1, by omega, by go_num, by rw [HG.out.1], B2.out.trans (BZ.out.mono B2.out.size)⟩
            | false =>
              have e1 : ∀ W : World, (Op.stringOp .add (tx Y2) ⟨#[44, 32]⟩).run Tryd.prog W = .ok (.string (tx Y3)) W := add_tx Y2 [44, 32] Y3 hfin hbg
              clear hfin hbg
              go_wp2_with fail
              go_roundg (sn - k - 1)
              case measure => omega
              case rel => exact ⟨k + 1, by omega, by go_num, by rw [HG.out.1], B2.out.trans (BZ.out.mono B2.out.size)⟩
    · obtain rfl : k = sn := by omega
      have hge : ¬ (k : Int) < (k : Int) := by omega
      have hlen := HI.out.2.2.2
      have e9 : ∀ W : World, (Op.stringOp .add (tx (T2 ++ segsTo segs k)) ⟨#[125, 10]⟩).run Tryd.prog W = .ok (.string (tx t)) W := add_tx (T2 ++ segsTo segs k) [125, 10] t (by rw [← HT.out.1, ← hlen, segsTo_all]; simp) HT.out.2.2.1
      obtain ⟨T9, hT9⟩ : ∃ T, T2 ++ segsTo segs k = T := ⟨_, rfl⟩
      rw [hT9] at e9 ⊢
      clear hT9 hlen
      go_wp2_with fail
      go_ret
      exact ⟨rfl, HA.out.1.trans (HH.out.mono HA.out.1.size)⟩
end Go.Proofs.YtakfoncdiejhaaaDoor
