/- The statement on blocks' texts. -/
import Derived.Test.YtlfohbajeecdeaaDoorShoLaws
namespace Go.Proofs.YtlfohbajeecdeaaDoor
open Go.ChangeShapes Go.WideShapes Go.RowKit
set_option linter.unusedVariables false
set_option maxRecDepth 20000

theorem cut_two (H V : List UInt8) (m : Nat) (hV : H ++ [125, 10] = V) (hm : H.length = m) (W : World) : (Instr.slice 9 (.string (tx V)) none (some (.int .i64 (m : Int))) none).run Tryd.prog W = .ok (.string (tx H)) W := by
  subst hV
  rw [run_slice_string_h W 9 (tx (H ++ [125, 10])) Tryd.underlying9 .i64 (m : Int) (by omega) (by rw [tx_size, List.length_append]; omega)]
  congr 2
  apply ByteArray.ext
  unfold tx
  rw [ByteArray.data_extract]
  have : ((m : Int)).toNat = m := by omega
  rw [this, ← hm]
  simp
theorem neq_self (X : ByteArray) : (X.toList != X.toList) = false := by simp
set_option maxHeartbeats 8000000 in
theorem blocks_w (machine : Bool) (name : ByteArray) (regs : List Rg) (params : List Opn) (blocks : List Blk) (ra : Option Addr) (rn rc : Nat) (pa : Option Addr) (pn pc : Nat) (ba : Option Addr) (bn bc : Nat) (R : Nat → BlkV) (W0 : World) (hG : Opr.Glob W0) (hI : IsFun W0 ⟨machine, name, regs, params, blocks⟩ ⟨ra, rn, rc, pa, pn, pc, ba, bn, bc, R⟩) (hF : FunG ⟨machine, name, regs, params, blocks⟩) (hlen : (funT ⟨machine, name, regs, params, blocks⟩).length ≤ big) :
    Calls Tryd.prog 5 #[.agg #[.bool machine, .string name, .slice ra rn rc, .slice pa pn pc, .slice ba bn bc]] W0 fun e w' => e = .returned (.bool true) ∧ Below W0.heap.size W0 w' := by
  have hbn := hI.blocks.1
  have hbm := hI.blocks.2.1
  dsimp only at hbn hbm
  have BA : Below W0.heap.size W0 (W0.alloc (.cells #[.bool machine, .string name, .slice ra rn rc, .slice pa pn pc, .slice ba bn bc] 26)) := (Below.refl _ W0).alloc (Nat.le_refl _) _
  have hal := heap_alloc_new W0 (.cells #[.bool machine, .string name, .slice ra rn rc, .slice pa pn pc, .slice ba bn bc] 26)
  have HI := hI.below BA
  have HGl := hG.below BA hG.1
  obtain ⟨wa, hwa⟩ : ∃ wa, W0.alloc (.cells #[.bool machine, .string name, .slice ra rn rc, .slice pa pn pc, .slice ba bn bc] 26) = wa := ⟨_, rfl⟩
  rw [hwa] at BA hal HI HGl
  obtain ⟨k0, k1, k2, k3, k4⟩ := five_cells hal
  obtain ⟨H, hH⟩ : ∃ H, funT1 ⟨machine, name, regs, params, blocks⟩ ++ regsT regs = H := ⟨_, rfl⟩
  obtain ⟨m, hm⟩ : ∃ m, H.length = m := ⟨_, rfl⟩
  obtain ⟨V, hV⟩ : ∃ V, H ++ [125, 10] = V := ⟨_, rfl⟩
  obtain ⟨T, hT⟩ : ∃ T, funT ⟨machine, name, regs, params, blocks⟩ = T := ⟨_, rfl⟩
  have hTT : H ++ blocks.flatMap blkT ++ [125, 10] = T := by rw [← hT, ← hH]; simp [funT]
  have hV0 : funT ⟨machine, name, regs, params, []⟩ = V := by rw [← hV, ← hH]; simp [funT, funT1]
  rw [hT] at hlen
  have mB : (H ++ blocks.flatMap blkT).length ≤ big := by rw [← hTT, List.length_append] at hlen; omega
  have mK : ∀ k, (H ++ (blocks.take k).flatMap blkT).length ≤ big := fun k => by
    have h1 := flat_le blkT blocks k
    simp only [List.length_append] at mB ⊢
    omega
  have mV : V.length ≤ big := by rw [← hV]; rw [← hTT] at hlen; simp only [List.length_append] at hlen ⊢; omega
  obtain ⟨N, hN⟩ : ∃ N, (tx V).size = N := ⟨_, rfl⟩
  have hNm : N = m + 2 := by rw [← hN, tx_size, ← hV, List.length_append, hm]; rfl
  have hNb : N ≤ 140737488355328 := by rw [← hN, tx_size]; exact mV
  have HA := Lib.hid (And.intro BA (And.intro hal (And.intro HGl (And.intro HI hF))))
  have HP := Lib.hid (And.intro hbn (And.intro hTT (And.intro mK hlen)))
  have CL := Lib.hid (show ∀ W', Below wa.heap.size wa W' → Calls Tryd.prog 6 #[.agg #[.bool machine, .string name, .slice ra rn rc, .slice pa pn pc, .slice ba bn bc]] W' fun e w' => SomeBool e ∧ Below W'.heap.size W' w' from fun W' h => large_v ⟨machine, name, regs, params, blocks⟩ ⟨ra, rn, rc, pa, pn, pc, ba, bn, bc, R⟩ W' (HI.below h))
  have C8 := Lib.hid (show ∀ W', Below wa.heap.size wa W' → Calls Tryd.prog 8 #[.agg #[.bool machine, .string name, .slice ra rn rc, .slice pa pn pc, .slice ba bn bc]] W' fun e w' => e = .returned (.string (tx T)) ∧ Below W'.heap.size W' w' from fun W' h => sfunc_w machine name regs params blocks ra rn rc pa pn pc ba bn bc R _ W' (HGl.below h HGl.1) (HI.below h) hF.fits hT hlen)
  have C0 := Lib.hid (show ∀ W', Below wa.heap.size wa W' → Calls Tryd.prog 8 #[.agg #[.bool machine, .string name, .slice ra rn rc, .slice pa pn pc, .slice none 0 0]] W' fun e w' => e = .returned (.string (tx V)) ∧ Below W'.heap.size W' w' from fun W' h => sfunc_w machine name regs params [] ra rn rc pa pn pc none 0 0 (fun _ => ⟨none, 0, 0, none, 0, 0, fun _ => ⟨none, 0, 0, none, 0, 0, none, 0, 0⟩⟩) _ W' (HGl.below h HGl.1) ⟨(HI.below h).regs, (HI.below h).params, IsBlks.nil _ _ _⟩ ⟨hF.fits.regs, hF.fits.params, fun x hx => (by cases hx)⟩ hV0 mV)
  have hcut := cut_two H V m hV hm
  clear BA hal HI HGl hI hF hlen hG hH hm hV hT hTT hV0 mB mK mV hbn
  go_enter Tryd.func5, Tryd.ntmps5
  go_wp2_with fail
  clear hwa k0 k1 k2 k3 k4
  refine (CL.out wa (Below.refl _ _)).mono ?_
  rintro e w1 ⟨⟨b1, rfl⟩, hb⟩
  have B1 := Lib.hid hb
  clear hb
  cases b1
  case true =>
    go_wp2_with fail
    refine (works_v _ (HA.out.2.2.1.below B1.out HA.out.2.2.1.1)).mono ?_
    rintro e w2 ⟨rfl, hb⟩
    have B2 := Lib.hid (B1.out.trans (hb.mono B1.out.size))
    clear hb
    go_wp2_with fail
    go_ret
    exact ⟨rfl, HA.out.1.trans (B2.out.mono HA.out.1.size)⟩
  obtain ⟨k0, k1, k2, k3, k4⟩ := five_cells (kept_box HA.out.2.1 B1.out)
  go_wp2_with fail
  clear k0 k1 k2 k3 k4
  refine (C0.out w1 B1.out).mono ?_
  rintro e w2 ⟨rfl, hb⟩
  have B2 := Lib.hid (B1.out.trans (hb.mono B1.out.size))
  clear hb
  have q1 : (N : Int) - 2 = (m : Int) := by omega
  have q2 : IntKind.i64.wrap ((N : Int) - 2) = (m : Int) := by rw [IntWalk.i64_in _ (by omega)]; exact q1
  have q3 : IntKind.i64.wrap (m : Int) = (m : Int) := IntWalk.i64_in _ (by omega)
  have q4 : ¬ (N : Int) < 2 := by omega
  clear hNm
  go_wp2_with fail
  clear q1 q2 q3 hcut hN
  go_loopg [3, 4] bn (fun gk u1 u2 wr => ∃ (j : Nat) (S : List UInt8), j + gk = bn ∧ u1 = .string (tx S) ∧ u2 = .int .i64 (j : Int) ∧ Hid (H ++ (blocks.take j).flatMap blkT = S ∧ Below wa.heap.size wa wr))
  case atStart => exact ⟨0, H, by omega, rfl, rfl, by simp, B2.out⟩
  case round =>
    obtain ⟨j, S, hj, rfl, rfl, HH⟩ := hrel
    obtain ⟨k0, k1, k2, k3, k4⟩ := five_cells (kept_box HA.out.2.1 HH.out.2)
    by_cases hlj : j < bn
    · obtain ⟨bk, o, hba, hb, x, hx, hix, c0, c1, c2, c3⟩ := HA.out.2.2.2.1.blocks.at hlj
      subst hba
      dsimp only at hix c0 c1 c2 c3
      have i1 : (j : Int) < (bn : Int) := by omega
      have hnext := flat_take blkT blocks j x hx
      have hmax := HP.out.2.2.1 (j + 1)
      rw [hnext] at hmax
      have hxf := HA.out.2.2.2.2.fits.blocks x (List.mem_of_getElem? hx)
      obtain ⟨hd, hhd⟩ : ∃ hd, headT x = hd := ⟨_, rfl⟩
      obtain ⟨V1, hV1⟩ : ∃ V1, hd ++ [10] = V1 := ⟨_, rfl⟩
      obtain ⟨B, hB⟩ : ∃ B, blkT x = B := ⟨_, rfl⟩
      obtain ⟨S2, hS2⟩ : ∃ S2, S ++ B = S2 := ⟨_, rfl⟩
      have hBV : V1 ++ x.code.flatMap lineT = B := by rw [← hV1, ← hhd, ← hB]; simp [blkT]
      have hSn : H ++ (blocks.take (j + 1)).flatMap blkT = S2 := by rw [hnext, ← hS2, ← HH.out.1, hB]; simp
      have mS : S2.length ≤ big := by rw [← hSn, hnext]; exact hmax
      have mB : B.length ≤ big := by rw [← hS2, List.length_append] at mS; omega
      have mC : ∀ q, (V1 ++ (x.code.take q).flatMap lineT).length ≤ big := fun q => by
        have h1 := flat_le lineT x.code q
        rw [← hBV] at mB
        simp only [List.length_append] at mB ⊢
        omega
      have m1 : V1.length ≤ big := by have := mC 0; simpa using this
      have mh : hd.length ≤ big := by rw [← hV1, List.length_append] at m1; omega
      have s1 : ∀ W : World, (Op.stringOp .add (tx hd) ⟨#[10]⟩).run Tryd.prog W = .ok (.string (tx V1)) W := add_tx hd [10] V1 hV1 m1
      have s9 := add_tx S B S2 hS2 mS
      have q9 := neq_self (tx B)
      have HHd := Lib.hid (show ∀ W', Below wa.heap.size wa W' → Calls Tryd.prog 15 #[.agg (blkR x (R j))] W' fun e w' => e = .returned (.string (tx hd)) ∧ Below W'.heap.size W' w' from fun W' h => by
        have h2 := shead_w x.label x.edge x.ins x.code (R j).ia (R j).il (R j).ic (R j).ka (R j).kn (R j).kc (R j).R hd W' (hix.below h) hxf hhd mh
        exact h2)
      have HBk := Lib.hid (show ∀ W', Below wa.heap.size wa W' → Calls Tryd.prog 16 #[.agg (blkR x (R j))] W' fun e w' => e = .returned (.string (tx B)) ∧ Below W'.heap.size W' w' from fun W' h => by
        have h2 := sblock_w x.label x.edge x.ins x.code (R j).ia (R j).il (R j).ic (R j).ka (R j).kn (R j).kc (R j).R B W' (HA.out.2.2.1.below h HA.out.2.2.1.1) (hix.below h) hxf hB mB
        exact h2)
      have HV := Lib.hid (And.intro hBV (And.intro mC (And.intro hix.code (And.intro hxf.code hSn))))
      have hkm := hix.code.2.1
      have hkn := hix.code.1
      clear hx hnext hmax hxf hhd hV1 hB hBV hS2 hSn mS mB mC m1 mh hix
      generalize R j = r2 at HHd HBk HV c2 c3 hkm hkn
      obtain ⟨label, edge, ins, code⟩ := x
      obtain ⟨ia, il, ic, ka, kn, kc, R2⟩ := r2
      unfold blkR at HHd HBk
      dsimp only at HHd HBk HV c0 c1 c2 c3 hkm hkn
      have HCC := Lib.hid (show ∀ W', Below wa.heap.size wa W' → W'.cell? ⟨bk, o + j * 4, none⟩ = some (.string label) ∧ W'.cell? ⟨bk, o + j * 4 + 1, none⟩ = some (.bool edge) ∧ W'.cell? ⟨bk, o + j * 4 + 2, none⟩ = some (.slice ia il ic) ∧ W'.cell? ⟨bk, o + j * 4 + 3, none⟩ = some (.slice ka kn kc) from fun W' h => ⟨(h.cell (p := ⟨bk, o + j * 4, none⟩) hb).trans c0, (h.cell (p := ⟨bk, o + j * 4 + 1, none⟩) hb).trans c1, (h.cell (p := ⟨bk, o + j * 4 + 2, none⟩) hb).trans c2, (h.cell (p := ⟨bk, o + j * 4 + 3, none⟩) hb).trans c3⟩)
      have HKN := Lib.hid hkn
      clear c0 c1 c2 c3 hb hkn
      obtain ⟨c0, c1, c2, c3⟩ := HCC.out wr HH.out.2
      go_wp2_with fail
      clear k0 k1 k2 k3 k4 c0 c1 c2 c3
      refine (HHd.out wr HH.out.2).mono ?_
      rintro e w3 ⟨rfl, hb⟩
      have H3 := Lib.hid (HH.out.2.trans (hb.mono HH.out.2.size))
      clear hb
      go_wp2_with fail
      clear s1
      go_loopg [5, 6] kn (fun gk u1 u2 wr => ∃ (q : Nat) (S3 : List UInt8), q + gk = kn ∧ u1 = .string (tx S3) ∧ u2 = .int .i64 (q : Int) ∧ Hid (V1 ++ (code.take q).flatMap lineT = S3 ∧ Below wa.heap.size wa wr))
      case atStart => exact ⟨0, V1, by omega, rfl, rfl, by simp, H3.out⟩
      case round =>
        obtain ⟨q, S3, hq, rfl, rfl, HH3⟩ := hrel
        obtain ⟨k0, k1, k2, k3, k4⟩ := five_cells (kept_box HA.out.2.1 HH3.out.2)
        obtain ⟨c0, c1, c2, c3⟩ := HCC.out wr HH3.out.2
        by_cases hlq : q < kn
        · obtain ⟨b2, o2, hka, hb2, z, hz, hiz, d0, d1, d2, d3, d4, d5, d6, d7, d8, d9⟩ := HV.out.2.2.1.at hlq
          subst hka
          have i2 : (q : Int) < (kn : Int) := by omega
          have hnx := flat_take lineT code q z hz
          have hmx := HV.out.2.1 (q + 1)
          rw [hnx] at hmx
          obtain ⟨v, hv⟩ : ∃ v, insT z = v := ⟨_, rfl⟩
          obtain ⟨Y1, hY1⟩ : ∃ Y1, S3 ++ [32, 32] = Y1 := ⟨_, rfl⟩
          obtain ⟨Y2, hY2⟩ : ∃ Y2, Y1 ++ v = Y2 := ⟨_, rfl⟩
          obtain ⟨Y3, hY3⟩ : ∃ Y3, Y2 ++ [59, 10] = Y3 := ⟨_, rfl⟩
          have hYY : V1 ++ ((code.take q).flatMap lineT ++ lineT z) = Y3 := by rw [← hY3, ← hY2, ← hY1, ← HH3.out.1, ← hv]; simp [lineT]
          have n3 : Y3.length ≤ big := by rw [← hYY]; exact hmx
          have n2 : Y2.length ≤ big := by rw [← hY3, List.length_append] at n3; omega
          have n1 : Y1.length ≤ big := by rw [← hY2, List.length_append] at n2; omega
          have nv : v.length ≤ big := by rw [← hY2, List.length_append] at n2; omega
          have s1 : ∀ W : World, (Op.stringOp .add (tx S3) ⟨#[32, 32]⟩).run Tryd.prog W = .ok (.string (tx Y1)) W := add_tx S3 [32, 32] Y1 hY1 n1
          have s2 : ∀ W : World, (Op.stringOp .add (tx Y1) (tx v)).run Tryd.prog W = .ok (.string (tx Y2)) W := add_tx Y1 v Y2 hY2 n2
          have s3 : ∀ W : World, (Op.stringOp .add (tx Y2) ⟨#[59, 10]⟩).run Tryd.prog W = .ok (.string (tx Y3)) W := add_tx Y2 [59, 10] Y3 hY3 n3
          have HIn := Lib.hid (show ∀ W', Below wa.heap.size wa W' → Calls Tryd.prog 10 #[.agg (insR z (R2 q))] W' fun e w' => e = .returned (.string (tx v)) ∧ Below W'.heap.size W' w' from fun W' h => by
            have h2 := sinstr_w z.op z.dst.k z.dst.c z.dst.n z.dst.t z.args z.name z.off z.labels z.cases (R2 q).aa (R2 q).an (R2 q).ac (R2 q).la (R2 q).ln (R2 q).lc (R2 q).ca (R2 q).cn (R2 q).cc v W' (HA.out.2.2.1.below h HA.out.2.2.1.1) (hiz.below h) (HV.out.2.2.2.1 z (List.mem_of_getElem? hz)) hv nv
            exact h2)
          have HY := Lib.hid (show V1 ++ (code.take (q + 1)).flatMap lineT = Y3 by rw [hnx]; exact hYY)
          clear hz hiz hnx hmx hv hY1 hY2 hY3 hYY n1 n2 n3 nv
          generalize R2 q = r3 at HIn d5 d8 d9
          obtain ⟨op, ⟨dk, dc, dn, dt⟩, args, nm, off, labels, cas⟩ := z
          obtain ⟨aa, an, ac, la, ln, lc, ca, cn, cc⟩ := r3
          unfold insR at HIn
          dsimp only at d0 d1 d2 d3 d4 d5 d6 d7 d8 d9 HIn
          have d0 := (HH3.out.2.cell (p := ⟨b2, o2 + q * 10, none⟩) hb2).trans d0
          have d1 := (HH3.out.2.cell (p := ⟨b2, o2 + q * 10 + 1, none⟩) hb2).trans d1
          have d2 := (HH3.out.2.cell (p := ⟨b2, o2 + q * 10 + 2, none⟩) hb2).trans d2
          have d3 := (HH3.out.2.cell (p := ⟨b2, o2 + q * 10 + 3, none⟩) hb2).trans d3
          have d4 := (HH3.out.2.cell (p := ⟨b2, o2 + q * 10 + 4, none⟩) hb2).trans d4
          have d5 := (HH3.out.2.cell (p := ⟨b2, o2 + q * 10 + 5, none⟩) hb2).trans d5
          have d6 := (HH3.out.2.cell (p := ⟨b2, o2 + q * 10 + 6, none⟩) hb2).trans d6
          have d7 := (HH3.out.2.cell (p := ⟨b2, o2 + q * 10 + 7, none⟩) hb2).trans d7
          have d8 := (HH3.out.2.cell (p := ⟨b2, o2 + q * 10 + 8, none⟩) hb2).trans d8
          have d9 := (HH3.out.2.cell (p := ⟨b2, o2 + q * 10 + 9, none⟩) hb2).trans d9
          clear hb2
          go_wp2_with fail
          clear k0 k1 k2 k3 k4 c0 c1 c2 c3 d0 d1 d2 d3 d4 d5 d6 d7 d8 d9
          refine (HIn.out wr HH3.out.2).mono ?_
          rintro e w4 ⟨rfl, hb⟩
          have H4 := Lib.hid (HH3.out.2.trans (hb.mono HH3.out.2.size))
          clear hb
          go_wp2_with fail
          go_roundg (gk - 1)
          case measure => omega
          case rel => exact ⟨q + 1, Y3, by omega, rfl, by go_num, HY.out, H4.out⟩
        · obtain rfl : q = kn := by omega
          have hge2 : ¬ (q : Int) < (q : Int) := by omega
          have HE := Lib.hid (show S3 = B by
            have h1 := HH3.out.1
            rw [List.take_of_length_le (by rw [HKN.out]; exact Nat.le_refl _)] at h1
            rw [← h1]; exact HV.out.1)
          obtain rfl := HE.out
          go_wp2_with fail
          clear k0 k1 k2 k3 k4 c0 c1 c2 c3
          refine (HBk.out wr HH3.out.2).mono ?_
          rintro e w5 ⟨rfl, hb⟩
          have H5 := Lib.hid (HH3.out.2.trans (hb.mono HH3.out.2.size))
          clear hb
          go_wp2_with fail
          go_roundg (bn - j - 1)
          case measure => omega
          case rel => exact ⟨j + 1, S2, by omega, rfl, by go_num, HV.out.2.2.2.2, H5.out⟩
    · obtain rfl : j = bn := by omega
      have hge2 : ¬ (j : Int) < (j : Int) := by omega
      have hST : S ++ [125, 10] = T := by
        rw [← HP.out.2.1, ← HH.out.1, List.take_of_length_le (by rw [HP.out.1]; exact Nat.le_refl _)]
      have s1 : ∀ W : World, (Op.stringOp .add (tx S) ⟨#[125, 10]⟩).run Tryd.prog W = .ok (.string (tx T)) W := add_tx S [125, 10] T hST HP.out.2.2.2
      have q9 := toList_self (tx T)
      clear hST
      go_wp2_with fail
      clear k0 k1 k2 k3 k4
      refine (C8.out wr HH.out.2).mono ?_
      rintro e w6 ⟨rfl, hb⟩
      have H6 := Lib.hid (HH.out.2.trans (hb.mono HH.out.2.size))
      clear hb
      go_wp2_with fail
      refine (works_v _ (HA.out.2.2.1.below H6.out HA.out.2.2.1.1)).mono ?_
      rintro e w7 ⟨rfl, hb⟩
      have H7 := Lib.hid (H6.out.trans (hb.mono H6.out.size))
      clear hb
      go_wp2_with fail
      go_ret
      exact ⟨rfl, HA.out.1.trans (H7.out.mono HA.out.1.size)⟩
theorem blocks_v (f : Fun) (v : FunV) (W : World) (hG : Opr.Glob W) (hI : IsFun W f v) (hF : FunG f) (hw : wF f ≤ 1048576) :
    Calls Tryd.prog 5 #[.agg (funR f v)] W fun e w' => e = .returned (.bool true) ∧ Below W.heap.size W w' := by
  have hlen := funT_le f hF.fits hw
  obtain ⟨machine, name, regs, params, blocks⟩ := f
  obtain ⟨ra, rn, rc, pa, pn, pc, ba, bn, bc, R⟩ := v
  exact blocks_w machine name regs params blocks ra rn rc pa pn pc ba bn bc R W hG hI hF hlen
end Go.Proofs.YtlfohbajeecdeaaDoor
