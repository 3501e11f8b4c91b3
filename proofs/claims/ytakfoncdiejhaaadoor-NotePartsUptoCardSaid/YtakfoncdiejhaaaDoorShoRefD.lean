
/- The document's own text of an instruction, the other ways. -/
import Derived.Test.YtakfoncdiejhaaaDoorShoRefC
namespace Go.Proofs.YtakfoncdiejhaaaDoor
open Go.ChangeShapes Go.WideShapes Go.RowKit
set_option linter.unusedVariables false
set_option linter.unusedSimpArgs false
set_option maxRecDepth 20000

set_option maxHeartbeats 4000000 in
theorem rins_17_s (dk dc dn dt : Int) (args : List Opn) (nm : ByteArray) (off : Int) (labels : List ByteArray) (cas : List Int) (aa : Option Addr) (an ac : Nat) (la : Option Addr) (ln lc : Nat) (ca : Option Addr) (cn cc : Nat) (t : List UInt8) (W : World) (hI : IsIns W ⟨17, ⟨dk, dc, dn, dt⟩, args, nm, off, labels, cas⟩ ⟨aa, an, ac, la, ln, lc, ca, cn, cc⟩) (hF : InsF ⟨17, ⟨dk, dc, dn, dt⟩, args, nm, off, labels, cas⟩) (hno : Opr.isOp 17 = true) (hz : (an : Int) > 0) (hne : ¬ args = []) (hoff : ¬ off = 0) (ho2 : (off != 0) = true) (ht : insT ⟨17, ⟨dk, dc, dn, dt⟩, args, nm, off, labels, cas⟩ = t) (hlen : t.length ≤ big) :
    Calls Tryd.prog 25 #[.agg #[.int .i64 17, .int .i64 dk, .int .i64 dc, .int .i64 dn, .int .i64 dt, .slice aa an ac, .string nm, .int .i64 off, .slice la ln lc, .slice ca cn cc]] W (SaysT t W) := by
  have hrest : restT ⟨17, ⟨dk, dc, dn, dt⟩, args, nm, off, labels, cas⟩ = (takenT args [] ++ offT args off) := by simp [restT]
  obtain ⟨D, hD⟩ : ∃ D, dstT ⟨dk, dc, dn, dt⟩ = D := ⟨_, rfl⟩
  obtain ⟨p, hp⟩ : ∃ p, opT 17 = p := ⟨_, rfl⟩
  obtain ⟨T1, hT1⟩ : ∃ T1, D ++ p = T1 := ⟨_, rfl⟩
  have t2 : T1 ++ (takenT args [] ++ offT args off) = t := by rw [← ht, ← hrest, ← hT1, ← hD, ← hp]; simp [insT]
  have n1 : T1.length ≤ big := by rw [← t2, List.length_append] at hlen; omega
  have nD : D.length ≤ big := by rw [← hT1, List.length_append] at n1; omega
  have s1 := add_tx D p T1 hT1 n1
  have ha1 := hI.args.1
  have hl1 := hI.labels.1
  have hc1 := hI.cases.1
  dsimp only at ha1 hl1 hc1
  have han : an ≤ 1048576 := by have := hF.an; dsimp only at this; omega
  have hln : ln ≤ 1048576 := by have := hF.ln; dsimp only at this; omega
  have hcn : cn ≤ 1048576 := by have := hF.cn; dsimp only at this; omega
  have hnm : nm.size ≤ 20000000 := by have := hF.nm; dsimp only at this; omega
  obtain ⟨L, hL⟩ : ∃ L, args.map opnT = L := ⟨_, rfl⟩
  have hLn : L.length = an := by rw [← hL, List.length_map]; exact ha1
  have h0n : 0 < an := by omega
  obtain ⟨k, hk⟩ : ∃ k, an = k + 1 := ⟨an - 1, by omega⟩
  obtain ⟨I, hI2⟩ : ∃ I, L.take k = I := ⟨_, rfl⟩
  obtain ⟨y, hy⟩ : ∃ y, L[k]? = some y := ⟨_, List.getElem?_eq_getElem (by omega)⟩
  have hIl : k = I.length := by rw [← hI2, List.length_take]; omega
  have hLI : L = I ++ [y] := by
    have e1 : L.take (k + 1) = I ++ [y] := by rw [List.take_add_one, hy, hI2]; rfl
    rw [← e1, List.take_of_length_le (by omega)]
  obtain ⟨v, hv⟩ : ∃ v, Deci.txt off = v := ⟨_, rfl⟩
  obtain ⟨Y1, hY1⟩ : ∃ Y1, y ++ [32, 43, 32] = Y1 := ⟨_, rfl⟩
  obtain ⟨Y2, hY2⟩ : ∃ Y2, Y1 ++ v = Y2 := ⟨_, rfl⟩
  obtain ⟨J2, hJ2⟩ : ∃ J2, rowT (I ++ [Y2]) = J2 := ⟨_, rfl⟩
  have hJ3 : rowT L ++ ([32, 43, 32] ++ Deci.txt off) = J2 := by
    rw [← hJ2, ← hY2, ← hY1, hv, List.append_assoc y, rowT_end, ← hLI]
  have hJ4 : rowT L ++ 32 :: 43 :: 32 :: Deci.txt off = J2 := by simpa using hJ3
  obtain ⟨T2, hT2⟩ : ∃ T2, T1 ++ [32] = T2 := ⟨_, rfl⟩
  have hfin : T2 ++ J2 = t := by rw [← t2, ← hT2]; simp [takenT, offT, hne, hL, hoff, txs, hJ4]
  have mfin := hlen
  rw [← hfin] at mfin
  have mT2 : T2.length ≤ big := by rw [List.length_append] at mfin; omega
  have s2 : ∀ W : World, (Op.stringOp .add (tx T1) ⟨#[32]⟩).run Tryd.prog W = .ok (.string (tx T2)) W := add_tx T1 [32] T2 hT2 mT2
  have s3 : ∀ W : World, (Op.stringOp .add (tx T2) (tx J2)).run Tryd.prog W = .ok (.string (tx t)) W := add_tx T2 J2 t hfin hlen
  have nJ : J2.length ≤ big := by rw [← hfin, List.length_append] at hlen; omega
  have nY2 : Y2.length ≤ big := by rw [← hJ2, rowT_snoc] at nJ; simp only [List.length_append] at nJ; omega
  have nY1 : Y1.length ≤ big := by rw [← hY2, List.length_append] at nY2; omega
  have s8 : ∀ W : World, (Op.stringOp .add (tx y) ⟨#[32, 43, 32]⟩).run Tryd.prog W = .ok (.string (tx Y1)) W := add_tx y [32, 43, 32] Y1 hY1 nY1
  have s9 : ∀ W : World, (Op.stringOp .add (tx Y1) (tx v)).run Tryd.prog W = .ok (.string (tx Y2)) W := add_tx Y1 v Y2 hY2 nY2
  have q1 : (an : Int) - 1 = (k : Int) := by omega
  have q2 : IntKind.i64.wrap ((an : Int) - 1) = (k : Int) := by rw [IntWalk.i64_in _ (by omega)]; exact q1
  have q3 : IntKind.i64.wrap (k : Int) = (k : Int) := IntWalk.i64_in _ (by omega)
  have b1 : k < an := by omega
  have b2 : (k : Int) < (an : Int) := by omega
  have b3 : (0 : Int) ≤ (k : Int) := by omega
  have HJ := Lib.hid (And.intro hJ2 (And.intro nJ (And.intro hv (And.intro hIl (And.intro hLI (And.intro hy h0n))))))
  have BA : Below W.heap.size W (W.alloc (.cells #[.int .i64 17, .int .i64 dk, .int .i64 dc, .int .i64 dn, .int .i64 dt, .slice aa an ac, .string nm, .int .i64 off, .slice la ln lc, .slice ca cn cc] 57)) := (Below.refl _ W).alloc (Nat.le_refl _) _
  have hal := heap_alloc_new W (.cells #[.int .i64 17, .int .i64 dk, .int .i64 dc, .int .i64 dn, .int .i64 dt, .slice aa an ac, .string nm, .int .i64 off, .slice la ln lc, .slice ca cn cc] 57)
  have HI := hI.below BA
  obtain ⟨wa, hwa⟩ : ∃ wa, W.alloc (.cells #[.int .i64 17, .int .i64 dk, .int .i64 dc, .int .i64 dn, .int .i64 dt, .slice aa an ac, .string nm, .int .i64 off, .slice la ln lc, .slice ca cn cc] 57) = wa := ⟨_, rfl⟩
  rw [hwa] at BA hal HI
  obtain ⟨e0, e1, e2, e3, e4, e5, e6, e7, e8, e9⟩ := ten_cells hal
  have HA := Lib.hid (And.intro BA (And.intro hal (And.intro HI hF)))
  have HD := Lib.hid (And.intro hD (And.intro nD hp))
  have HL := Lib.hid (And.intro ha1 (And.intro hl1 (And.intro hc1 (And.intro hL (And.intro hLn (And.intro han (And.intro hln (And.intro hcn hnm))))))))
  clear BA hal HI hI hF hD nD hT1 n1 ht hlen t2 hrest hp ha1 hl1 hc1 hL hLn han hln hcn hnm hfin mfin hT2 mT2 hJ2 nJ hv hIl hLI hy h0n hI2 hY1 hY2 nY1 nY2 hJ3 hJ4 hk hne hoff
  go_enter Tryd.func25, Tryd.ntmps25
  go_upto_if 12 with fail
  go_cut [3] from 12 to 16 (fun s3 wx => s3 = .string (tx D) ∧ Hid (Below wa.heap.size wa wx))
  case first =>
    clear hwa
    by_cases hd : dk = 0
    · have hd1 : (dk != 0) = false := by simp [hd]
      have hDe : D = [] := by rw [← HD.out.1, hd]; rfl
      have HDe := Lib.hid hDe
      clear hd hDe
      go_wp2_with fail
      go_meet
      case rel => exact ⟨by rw [HDe.out]; rfl, Below.refl _ _⟩
    · have hd1 : (dk != 0) = true := by simp [hd]
      obtain ⟨x, hx⟩ : ∃ x, opnT ⟨dk, dc, dn, dt⟩ = x := ⟨_, rfl⟩
      have hDe : x ++ [32, 61, 32] = D := by rw [← HD.out.1, ← hx]; simp [dstT, hd]
      have s0 : ∀ W : World, (Op.stringOp .add (tx x) ⟨#[32, 61, 32]⟩).run Tryd.prog W = .ok (.string (tx D)) W := add_tx x [32, 61, 32] D hDe HD.out.2.1
      have HX := Lib.hid hx
      clear hd hDe hx
      go_wp2_with fail
      refine (rop_v ⟨dk, dc, dn, dt⟩ x wa HA.out.2.2.2.dst HX.out).mono ?_
      rintro e w1 ⟨rfl, hb⟩
      have H1 := Lib.hid hb
      clear hb
      go_wp2_with fail
      go_meet
      case rel => exact ⟨rfl, H1.out⟩
  case rest =>
    obtain ⟨rfl, hcw⟩ := hcut
    have B0 := Lib.hid hcw.out
    clear hcw hwa e0 e1 e2 e3 e4 e5 e6 e7 e8 e9
    obtain ⟨e0, e1, e2, e3, e4, e5, e6, e7, e8, e9⟩ := ten_cells (kept_box HA.out.2.1 B0.out)
    go_wp2_with fail
    refine (rfind_t 17 p HD.out.2.2 hno wc).mono ?_
    rintro e w1 ⟨r1, RA, rm, r3, r4, rfl, hb⟩
    have hal := heap_alloc_new w1 (.cells #[.string (tx p), .string r1, .slice RA rm rm, .int .i64 r3, .bool r4] 98)
    have BB : Below wa.heap.size wa (w1.alloc (.cells #[.string (tx p), .string r1, .slice RA rm rm, .int .i64 r3, .bool r4] 98)) := (B0.out.trans (hb.mono B0.out.size)).alloc (Nat.le_trans B0.out.size hb.size) _
    obtain ⟨w3, hw3⟩ : ∃ w3, w1.alloc (.cells #[.string (tx p), .string r1, .slice RA rm rm, .int .i64 r3, .bool r4] 98) = w3 := ⟨_, rfl⟩
    rw [hw3] at hal BB
    have f0 : w3.cell? ⟨w1.heap.size, 0, none⟩ = some (.string (tx p)) := cell_in hal 0
    have B3 := Lib.hid BB
    clear BB hal hb e0 e1 e2 e3 e4 e5 e6 e7 e8 e9
    obtain ⟨e0, e1, e2, e3, e4, e5, e6, e7, e8, e9⟩ := ten_cells (kept_box HA.out.2.1 B3.out)
    go_wp2_with fail
    clear hw3 f0
    refine (rows_v aa an ac args w3 (HA.out.2.2.1.args.below B3.out) HA.out.2.2.2.args HL.out.2.2.2.2.2.1).mono ?_
    rintro e w4 ⟨A1, c1, rfl, ho, hb⟩
    rw [HL.out.2.2.2.1] at ho
    have H4 := Lib.hid (And.intro (B3.out.trans (hb.mono B3.out.size)) (ho.mono B3.out.size))
    clear ho hb e0 e1 e2 e3 e4 e5 e6 e7 e8 e9
    obtain ⟨e0, e1, e2, e3, e4, e5, e6, e7, e8, e9⟩ := ten_cells (kept_box HA.out.2.1 H4.out.1)
    have a63 : an ≤ 9223372036854775807 := by have := HL.out.2.2.2.2.2.1; omega
    obtain ⟨g, hA1, hg1, hg2⟩ := H4.out.2.ptr HJ.out.2.2.2.2.2.2
    subst hA1
    have HG := Lib.hid (And.intro hg1 hg2)
    clear hg1 hg2
    obtain ⟨d0, z0⟩ := H4.out.2.at k y HJ.out.2.2.2.2.2.1
    go_upto_region 12 with fail
    have FO := Lib.hid (show ∀ W', Below w4.heap.size w4 W' → W'.cell? ⟨g, k, none⟩ = some (.string (tx y)) ∧ W'.frozen? ⟨g, k, none⟩ = false from fun W' hb => (H4.out.2.below hb).at k y HJ.out.2.2.2.2.2.1)
    go_region_with (go_at_call 19; (refine (rput_t off v HJ.out.2.2.1 HA.out.2.2.2.off w4.drew).mono ?_); rintro e w5 ⟨rfl, hb⟩; have H5 := Lib.hid (show Below w4.heap.size w4 w5 from (Below.refl _ w4).drew.trans hb); obtain ⟨d0, z0⟩ := FO.out w5 H5.out; clear hb)
    all_goals
      have BW : Below wa.heap.size wa (w5.setCell ⟨g, k, none⟩ (.string (tx Y2))) := (H4.out.1.trans (H5.out.mono H4.out.1.size)).setCell (p := ⟨g, k, none⟩) HG.out.1 _
      have OW : OwnS wa.heap.size (w5.setCell ⟨g, k, none⟩ (.string (tx Y2))) (some ⟨g, 0, none⟩) an c1 (I ++ [Y2]) := by
        have h1 := H4.out.2.below H5.out
        rw [HJ.out.2.2.2.2.1] at h1
        exact h1.put k HJ.out.2.2.2.1 Y2
      obtain ⟨w6, hw6⟩ : ∃ w6, w5.setCell ⟨g, k, none⟩ (.string (tx Y2)) = w6 := ⟨_, rfl⟩
      rw [hw6] at BW OW ⊢
      have H6 := Lib.hid (And.intro BW OW)
      clear BW OW hw6 d0 z0 e0 e1 e2 e3 e4 e5 e6 e7 e8 e9 s8 s9 q1 q2 q3 b1 b2 b3
      obtain ⟨e0, e1, e2, e3, e4, e5, e6, e7, e8, e9⟩ := ten_cells (kept_box HA.out.2.1 H6.out.1)
      go_wp2_with fail
      clear e0 e1 e2 e3 e4 e5 e6 e7 e8 e9
      refine (join_v (some ⟨g, 0, none⟩) an c1 (I ++ [Y2]) J2 w6 (H6.out.2.strs a63) HJ.out.1 HJ.out.2.1).mono ?_
      rintro e w7 ⟨rfl, hb⟩
      have H7 := Lib.hid (H6.out.1.trans (hb.mono H6.out.1.size))
      clear hb
      obtain ⟨e0, e1, e2, e3, e4, e5, e6, e7, e8, e9⟩ := ten_cells (kept_box HA.out.2.1 H7.out)
      go_wp2_with fail
      clear e0 e1 e2 e3 e4 e5 e6 e7 e8 e9
      go_ret
      exact ⟨rfl, HA.out.1.trans (H7.out.mono HA.out.1.size)⟩
set_option maxHeartbeats 4000000 in
theorem rins_18_s (dk dc dn dt : Int) (args : List Opn) (nm : ByteArray) (off : Int) (labels : List ByteArray) (cas : List Int) (aa : Option Addr) (an ac : Nat) (la : Option Addr) (ln lc : Nat) (ca : Option Addr) (cn cc : Nat) (t : List UInt8) (W : World) (hI : IsIns W ⟨18, ⟨dk, dc, dn, dt⟩, args, nm, off, labels, cas⟩ ⟨aa, an, ac, la, ln, lc, ca, cn, cc⟩) (hF : InsF ⟨18, ⟨dk, dc, dn, dt⟩, args, nm, off, labels, cas⟩) (hno : Opr.isOp 18 = true) (hz : (an : Int) > 0) (hne : ¬ args = []) (hoff : ¬ off = 0) (ho2 : (off != 0) = true) (ht : insT ⟨18, ⟨dk, dc, dn, dt⟩, args, nm, off, labels, cas⟩ = t) (hlen : t.length ≤ big) :
    Calls Tryd.prog 25 #[.agg #[.int .i64 18, .int .i64 dk, .int .i64 dc, .int .i64 dn, .int .i64 dt, .slice aa an ac, .string nm, .int .i64 off, .slice la ln lc, .slice ca cn cc]] W (SaysT t W) := by
  have hrest : restT ⟨18, ⟨dk, dc, dn, dt⟩, args, nm, off, labels, cas⟩ = (takenT args [] ++ offT args off) := by simp [restT]
  obtain ⟨D, hD⟩ : ∃ D, dstT ⟨dk, dc, dn, dt⟩ = D := ⟨_, rfl⟩
  obtain ⟨p, hp⟩ : ∃ p, opT 18 = p := ⟨_, rfl⟩
  obtain ⟨T1, hT1⟩ : ∃ T1, D ++ p = T1 := ⟨_, rfl⟩
  have t2 : T1 ++ (takenT args [] ++ offT args off) = t := by rw [← ht, ← hrest, ← hT1, ← hD, ← hp]; simp [insT]
  have n1 : T1.length ≤ big := by rw [← t2, List.length_append] at hlen; omega
  have nD : D.length ≤ big := by rw [← hT1, List.length_append] at n1; omega
  have s1 := add_tx D p T1 hT1 n1
  have ha1 := hI.args.1
  have hl1 := hI.labels.1
  have hc1 := hI.cases.1
  dsimp only at ha1 hl1 hc1
  have han : an ≤ 1048576 := by have := hF.an; dsimp only at this; omega
  have hln : ln ≤ 1048576 := by have := hF.ln; dsimp only at this; omega
  have hcn : cn ≤ 1048576 := by have := hF.cn; dsimp only at this; omega
  have hnm : nm.size ≤ 20000000 := by have := hF.nm; dsimp only at this; omega
  obtain ⟨L, hL⟩ : ∃ L, args.map opnT = L := ⟨_, rfl⟩
  have hLn : L.length = an := by rw [← hL, List.length_map]; exact ha1
  have h0n : 0 < an := by omega
  obtain ⟨k, hk⟩ : ∃ k, an = k + 1 := ⟨an - 1, by omega⟩
  obtain ⟨I, hI2⟩ : ∃ I, L.take k = I := ⟨_, rfl⟩
  obtain ⟨y, hy⟩ : ∃ y, L[k]? = some y := ⟨_, List.getElem?_eq_getElem (by omega)⟩
  have hIl : k = I.length := by rw [← hI2, List.length_take]; omega
  have hLI : L = I ++ [y] := by
    have e1 : L.take (k + 1) = I ++ [y] := by rw [List.take_add_one, hy, hI2]; rfl
    rw [← e1, List.take_of_length_le (by omega)]
  obtain ⟨v, hv⟩ : ∃ v, Deci.txt off = v := ⟨_, rfl⟩
  obtain ⟨Y1, hY1⟩ : ∃ Y1, y ++ [32, 43, 32] = Y1 := ⟨_, rfl⟩
  obtain ⟨Y2, hY2⟩ : ∃ Y2, Y1 ++ v = Y2 := ⟨_, rfl⟩
  obtain ⟨J2, hJ2⟩ : ∃ J2, rowT (I ++ [Y2]) = J2 := ⟨_, rfl⟩
  have hJ3 : rowT L ++ ([32, 43, 32] ++ Deci.txt off) = J2 := by
    rw [← hJ2, ← hY2, ← hY1, hv, List.append_assoc y, rowT_end, ← hLI]
  have hJ4 : rowT L ++ 32 :: 43 :: 32 :: Deci.txt off = J2 := by simpa using hJ3
  obtain ⟨T2, hT2⟩ : ∃ T2, T1 ++ [32] = T2 := ⟨_, rfl⟩
  have hfin : T2 ++ J2 = t := by rw [← t2, ← hT2]; simp [takenT, offT, hne, hL, hoff, txs, hJ4]
  have mfin := hlen
  rw [← hfin] at mfin
  have mT2 : T2.length ≤ big := by rw [List.length_append] at mfin; omega
  have s2 : ∀ W : World, (Op.stringOp .add (tx T1) ⟨#[32]⟩).run Tryd.prog W = .ok (.string (tx T2)) W := add_tx T1 [32] T2 hT2 mT2
  have s3 : ∀ W : World, (Op.stringOp .add (tx T2) (tx J2)).run Tryd.prog W = .ok (.string (tx t)) W := add_tx T2 J2 t hfin hlen
  have nJ : J2.length ≤ big := by rw [← hfin, List.length_append] at hlen; omega
  have nY2 : Y2.length ≤ big := by rw [← hJ2, rowT_snoc] at nJ; simp only [List.length_append] at nJ; omega
  have nY1 : Y1.length ≤ big := by rw [← hY2, List.length_append] at nY2; omega
  have s8 : ∀ W : World, (Op.stringOp .add (tx y) ⟨#[32, 43, 32]⟩).run Tryd.prog W = .ok (.string (tx Y1)) W := add_tx y [32, 43, 32] Y1 hY1 nY1
  have s9 : ∀ W : World, (Op.stringOp .add (tx Y1) (tx v)).run Tryd.prog W = .ok (.string (tx Y2)) W := add_tx Y1 v Y2 hY2 nY2
  have q1 : (an : Int) - 1 = (k : Int) := by omega
  have q2 : IntKind.i64.wrap ((an : Int) - 1) = (k : Int) := by rw [IntWalk.i64_in _ (by omega)]; exact q1
  have q3 : IntKind.i64.wrap (k : Int) = (k : Int) := IntWalk.i64_in _ (by omega)
  have b1 : k < an := by omega
  have b2 : (k : Int) < (an : Int) := by omega
  have b3 : (0 : Int) ≤ (k : Int) := by omega
  have HJ := Lib.hid (And.intro hJ2 (And.intro nJ (And.intro hv (And.intro hIl (And.intro hLI (And.intro hy h0n))))))
  have BA : Below W.heap.size W (W.alloc (.cells #[.int .i64 18, .int .i64 dk, .int .i64 dc, .int .i64 dn, .int .i64 dt, .slice aa an ac, .string nm, .int .i64 off, .slice la ln lc, .slice ca cn cc] 57)) := (Below.refl _ W).alloc (Nat.le_refl _) _
  have hal := heap_alloc_new W (.cells #[.int .i64 18, .int .i64 dk, .int .i64 dc, .int .i64 dn, .int .i64 dt, .slice aa an ac, .string nm, .int .i64 off, .slice la ln lc, .slice ca cn cc] 57)
  have HI := hI.below BA
  obtain ⟨wa, hwa⟩ : ∃ wa, W.alloc (.cells #[.int .i64 18, .int .i64 dk, .int .i64 dc, .int .i64 dn, .int .i64 dt, .slice aa an ac, .string nm, .int .i64 off, .slice la ln lc, .slice ca cn cc] 57) = wa := ⟨_, rfl⟩
  rw [hwa] at BA hal HI
  obtain ⟨e0, e1, e2, e3, e4, e5, e6, e7, e8, e9⟩ := ten_cells hal
  have HA := Lib.hid (And.intro BA (And.intro hal (And.intro HI hF)))
  have HD := Lib.hid (And.intro hD (And.intro nD hp))
  have HL := Lib.hid (And.intro ha1 (And.intro hl1 (And.intro hc1 (And.intro hL (And.intro hLn (And.intro han (And.intro hln (And.intro hcn hnm))))))))
  clear BA hal HI hI hF hD nD hT1 n1 ht hlen t2 hrest hp ha1 hl1 hc1 hL hLn han hln hcn hnm hfin mfin hT2 mT2 hJ2 nJ hv hIl hLI hy h0n hI2 hY1 hY2 nY1 nY2 hJ3 hJ4 hk hne hoff
  go_enter Tryd.func25, Tryd.ntmps25
  go_upto_if 12 with fail
  go_cut [3] from 12 to 16 (fun s3 wx => s3 = .string (tx D) ∧ Hid (Below wa.heap.size wa wx))
  case first =>
    clear hwa
    by_cases hd : dk = 0
    · have hd1 : (dk != 0) = false := by simp [hd]
      have hDe : D = [] := by rw [← HD.out.1, hd]; rfl
      have HDe := Lib.hid hDe
      clear hd hDe
      go_wp2_with fail
      go_meet
      case rel => exact ⟨by rw [HDe.out]; rfl, Below.refl _ _⟩
    · have hd1 : (dk != 0) = true := by simp [hd]
      obtain ⟨x, hx⟩ : ∃ x, opnT ⟨dk, dc, dn, dt⟩ = x := ⟨_, rfl⟩
      have hDe : x ++ [32, 61, 32] = D := by rw [← HD.out.1, ← hx]; simp [dstT, hd]
      have s0 : ∀ W : World, (Op.stringOp .add (tx x) ⟨#[32, 61, 32]⟩).run Tryd.prog W = .ok (.string (tx D)) W := add_tx x [32, 61, 32] D hDe HD.out.2.1
      have HX := Lib.hid hx
      clear hd hDe hx
      go_wp2_with fail
      refine (rop_v ⟨dk, dc, dn, dt⟩ x wa HA.out.2.2.2.dst HX.out).mono ?_
      rintro e w1 ⟨rfl, hb⟩
      have H1 := Lib.hid hb
      clear hb
      go_wp2_with fail
      go_meet
      case rel => exact ⟨rfl, H1.out⟩
  case rest =>
    obtain ⟨rfl, hcw⟩ := hcut
    have B0 := Lib.hid hcw.out
    clear hcw hwa e0 e1 e2 e3 e4 e5 e6 e7 e8 e9
    obtain ⟨e0, e1, e2, e3, e4, e5, e6, e7, e8, e9⟩ := ten_cells (kept_box HA.out.2.1 B0.out)
    go_wp2_with fail
    refine (rfind_t 18 p HD.out.2.2 hno wc).mono ?_
    rintro e w1 ⟨r1, RA, rm, r3, r4, rfl, hb⟩
    have hal := heap_alloc_new w1 (.cells #[.string (tx p), .string r1, .slice RA rm rm, .int .i64 r3, .bool r4] 98)
    have BB : Below wa.heap.size wa (w1.alloc (.cells #[.string (tx p), .string r1, .slice RA rm rm, .int .i64 r3, .bool r4] 98)) := (B0.out.trans (hb.mono B0.out.size)).alloc (Nat.le_trans B0.out.size hb.size) _
    obtain ⟨w3, hw3⟩ : ∃ w3, w1.alloc (.cells #[.string (tx p), .string r1, .slice RA rm rm, .int .i64 r3, .bool r4] 98) = w3 := ⟨_, rfl⟩
    rw [hw3] at hal BB
    have f0 : w3.cell? ⟨w1.heap.size, 0, none⟩ = some (.string (tx p)) := cell_in hal 0
    have B3 := Lib.hid BB
    clear BB hal hb e0 e1 e2 e3 e4 e5 e6 e7 e8 e9
    obtain ⟨e0, e1, e2, e3, e4, e5, e6, e7, e8, e9⟩ := ten_cells (kept_box HA.out.2.1 B3.out)
    go_wp2_with fail
    clear hw3 f0
    refine (rows_v aa an ac args w3 (HA.out.2.2.1.args.below B3.out) HA.out.2.2.2.args HL.out.2.2.2.2.2.1).mono ?_
    rintro e w4 ⟨A1, c1, rfl, ho, hb⟩
    rw [HL.out.2.2.2.1] at ho
    have H4 := Lib.hid (And.intro (B3.out.trans (hb.mono B3.out.size)) (ho.mono B3.out.size))
    clear ho hb e0 e1 e2 e3 e4 e5 e6 e7 e8 e9
    obtain ⟨e0, e1, e2, e3, e4, e5, e6, e7, e8, e9⟩ := ten_cells (kept_box HA.out.2.1 H4.out.1)
    have a63 : an ≤ 9223372036854775807 := by have := HL.out.2.2.2.2.2.1; omega
    obtain ⟨g, hA1, hg1, hg2⟩ := H4.out.2.ptr HJ.out.2.2.2.2.2.2
    subst hA1
    have HG := Lib.hid (And.intro hg1 hg2)
    clear hg1 hg2
    obtain ⟨d0, z0⟩ := H4.out.2.at k y HJ.out.2.2.2.2.2.1
    go_upto_region 12 with fail
    have FO := Lib.hid (show ∀ W', Below w4.heap.size w4 W' → W'.cell? ⟨g, k, none⟩ = some (.string (tx y)) ∧ W'.frozen? ⟨g, k, none⟩ = false from fun W' hb => (H4.out.2.below hb).at k y HJ.out.2.2.2.2.2.1)
    go_region_with (go_at_call 19; (refine (rput_t off v HJ.out.2.2.1 HA.out.2.2.2.off w4.drew).mono ?_); rintro e w5 ⟨rfl, hb⟩; have H5 := Lib.hid (show Below w4.heap.size w4 w5 from (Below.refl _ w4).drew.trans hb); obtain ⟨d0, z0⟩ := FO.out w5 H5.out; clear hb)
    all_goals
      have BW : Below wa.heap.size wa (w5.setCell ⟨g, k, none⟩ (.string (tx Y2))) := (H4.out.1.trans (H5.out.mono H4.out.1.size)).setCell (p := ⟨g, k, none⟩) HG.out.1 _
      have OW : OwnS wa.heap.size (w5.setCell ⟨g, k, none⟩ (.string (tx Y2))) (some ⟨g, 0, none⟩) an c1 (I ++ [Y2]) := by
        have h1 := H4.out.2.below H5.out
        rw [HJ.out.2.2.2.2.1] at h1
        exact h1.put k HJ.out.2.2.2.1 Y2
      obtain ⟨w6, hw6⟩ : ∃ w6, w5.setCell ⟨g, k, none⟩ (.string (tx Y2)) = w6 := ⟨_, rfl⟩
      rw [hw6] at BW OW ⊢
      have H6 := Lib.hid (And.intro BW OW)
      clear BW OW hw6 d0 z0 e0 e1 e2 e3 e4 e5 e6 e7 e8 e9 s8 s9 q1 q2 q3 b1 b2 b3
      obtain ⟨e0, e1, e2, e3, e4, e5, e6, e7, e8, e9⟩ := ten_cells (kept_box HA.out.2.1 H6.out.1)
      go_wp2_with fail
      clear e0 e1 e2 e3 e4 e5 e6 e7 e8 e9
      refine (join_v (some ⟨g, 0, none⟩) an c1 (I ++ [Y2]) J2 w6 (H6.out.2.strs a63) HJ.out.1 HJ.out.2.1).mono ?_
      rintro e w7 ⟨rfl, hb⟩
      have H7 := Lib.hid (H6.out.1.trans (hb.mono H6.out.1.size))
      clear hb
      obtain ⟨e0, e1, e2, e3, e4, e5, e6, e7, e8, e9⟩ := ten_cells (kept_box HA.out.2.1 H7.out)
      go_wp2_with fail
      clear e0 e1 e2 e3 e4 e5 e6 e7 e8 e9
      go_ret
      exact ⟨rfl, HA.out.1.trans (H7.out.mono HA.out.1.size)⟩
set_option maxHeartbeats 4000000 in
theorem rins_20_0 (dk dc dn dt : Int) (args : List Opn) (nm : ByteArray) (off : Int) (labels : List ByteArray) (cas : List Int) (aa : Option Addr) (an ac : Nat) (la : Option Addr) (ln lc : Nat) (ca : Option Addr) (cn cc : Nat) (t : List UInt8) (W : World) (hI : IsIns W ⟨20, ⟨dk, dc, dn, dt⟩, args, nm, off, labels, cas⟩ ⟨aa, an, ac, la, ln, lc, ca, cn, cc⟩) (hF : InsF ⟨20, ⟨dk, dc, dn, dt⟩, args, nm, off, labels, cas⟩) (hno : Opr.isOp 20 = true) (M : Nat) (hM : an + ln = M) (hM0 : M = 0) (ht : insT ⟨20, ⟨dk, dc, dn, dt⟩, args, nm, off, labels, cas⟩ = t) (hlen : t.length ≤ big) :
    Calls Tryd.prog 25 #[.agg #[.int .i64 20, .int .i64 dk, .int .i64 dc, .int .i64 dn, .int .i64 dt, .slice aa an ac, .string nm, .int .i64 off, .slice la ln lc, .slice ca cn cc]] W (SaysT t W) := by
  have hrest : restT ⟨20, ⟨dk, dc, dn, dt⟩, args, nm, off, labels, cas⟩ = takenT args labels := by simp [restT]
  obtain ⟨D, hD⟩ : ∃ D, dstT ⟨dk, dc, dn, dt⟩ = D := ⟨_, rfl⟩
  obtain ⟨p, hp⟩ : ∃ p, opT 20 = p := ⟨_, rfl⟩
  obtain ⟨T1, hT1⟩ : ∃ T1, D ++ p = T1 := ⟨_, rfl⟩
  have t2 : T1 ++ takenT args labels = t := by rw [← ht, ← hrest, ← hT1, ← hD, ← hp]; simp [insT]
  have n1 : T1.length ≤ big := by rw [← t2, List.length_append] at hlen; omega
  have nD : D.length ≤ big := by rw [← hT1, List.length_append] at n1; omega
  have s1 := add_tx D p T1 hT1 n1
  have ha1 := hI.args.1
  have hl1 := hI.labels.1
  have hc1 := hI.cases.1
  dsimp only at ha1 hl1 hc1
  have han : an ≤ 1048576 := by have := hF.an; dsimp only at this; omega
  have hln : ln ≤ 1048576 := by have := hF.ln; dsimp only at this; omega
  have hcn : cn ≤ 1048576 := by have := hF.cn; dsimp only at this; omega
  have hnm : nm.size ≤ 20000000 := by have := hF.nm; dsimp only at this; omega
  obtain ⟨L, hL⟩ : ∃ L, args.map opnT = L := ⟨_, rfl⟩
  have hLn : L.length = an := by rw [← hL, List.length_map]; exact ha1
  have hlen0 : L.length + (txs labels).length = 0 := by unfold txs; rw [List.length_map, hLn, hl1]; omega
  have hargs : args = [] := by apply List.eq_nil_of_length_eq_zero; omega
  have hlabs : labels = [] := by apply List.eq_nil_of_length_eq_zero; omega
  have hfin : T1 = t := by rw [← t2, hargs, hlabs]; simp [takenT]
  have HT := Lib.hid hfin
  have hM1 : ¬ (M : Int) > 0 := by omega
  have hMb : an + ln ≤ 100000000 := by omega
  have HM := Lib.hid (And.intro hM hMb)
  have BA : Below W.heap.size W (W.alloc (.cells #[.int .i64 20, .int .i64 dk, .int .i64 dc, .int .i64 dn, .int .i64 dt, .slice aa an ac, .string nm, .int .i64 off, .slice la ln lc, .slice ca cn cc] 57)) := (Below.refl _ W).alloc (Nat.le_refl _) _
  have hal := heap_alloc_new W (.cells #[.int .i64 20, .int .i64 dk, .int .i64 dc, .int .i64 dn, .int .i64 dt, .slice aa an ac, .string nm, .int .i64 off, .slice la ln lc, .slice ca cn cc] 57)
  have HI := hI.below BA
  obtain ⟨wa, hwa⟩ : ∃ wa, W.alloc (.cells #[.int .i64 20, .int .i64 dk, .int .i64 dc, .int .i64 dn, .int .i64 dt, .slice aa an ac, .string nm, .int .i64 off, .slice la ln lc, .slice ca cn cc] 57) = wa := ⟨_, rfl⟩
  rw [hwa] at BA hal HI
  obtain ⟨e0, e1, e2, e3, e4, e5, e6, e7, e8, e9⟩ := ten_cells hal
  have HA := Lib.hid (And.intro BA (And.intro hal (And.intro HI hF)))
  have HD := Lib.hid (And.intro hD (And.intro nD hp))
  have HL := Lib.hid (And.intro ha1 (And.intro hl1 (And.intro hc1 (And.intro hL (And.intro hLn (And.intro han (And.intro hln (And.intro hcn hnm))))))))
  clear BA hal HI hI hF hD nD hT1 n1 ht hlen t2 hrest hp ha1 hl1 hc1 hL hLn han hln hcn hnm hfin hargs hlabs hlen0 hM hM0 hMb
  go_enter Tryd.func25, Tryd.ntmps25
  go_upto_if 12 with fail
  go_cut [3] from 12 to 16 (fun s3 wx => s3 = .string (tx D) ∧ Hid (Below wa.heap.size wa wx))
  case first =>
    clear hwa
    by_cases hd : dk = 0
    · have hd1 : (dk != 0) = false := by simp [hd]
      have hDe : D = [] := by rw [← HD.out.1, hd]; rfl
      have HDe := Lib.hid hDe
      clear hd hDe
      go_wp2_with fail
      go_meet
      case rel => exact ⟨by rw [HDe.out]; rfl, Below.refl _ _⟩
    · have hd1 : (dk != 0) = true := by simp [hd]
      obtain ⟨x, hx⟩ : ∃ x, opnT ⟨dk, dc, dn, dt⟩ = x := ⟨_, rfl⟩
      have hDe : x ++ [32, 61, 32] = D := by rw [← HD.out.1, ← hx]; simp [dstT, hd]
      have s0 : ∀ W : World, (Op.stringOp .add (tx x) ⟨#[32, 61, 32]⟩).run Tryd.prog W = .ok (.string (tx D)) W := add_tx x [32, 61, 32] D hDe HD.out.2.1
      have HX := Lib.hid hx
      clear hd hDe hx
      go_wp2_with fail
      refine (rop_v ⟨dk, dc, dn, dt⟩ x wa HA.out.2.2.2.dst HX.out).mono ?_
      rintro e w1 ⟨rfl, hb⟩
      have H1 := Lib.hid hb
      clear hb
      go_wp2_with fail
      go_meet
      case rel => exact ⟨rfl, H1.out⟩
  case rest =>
    obtain ⟨rfl, hcw⟩ := hcut
    have B0 := Lib.hid hcw.out
    clear hcw hwa e0 e1 e2 e3 e4 e5 e6 e7 e8 e9
    obtain ⟨e0, e1, e2, e3, e4, e5, e6, e7, e8, e9⟩ := ten_cells (kept_box HA.out.2.1 B0.out)
    go_wp2_with fail
    refine (rfind_t 20 p HD.out.2.2 hno wc).mono ?_
    rintro e w1 ⟨r1, RA, rm, r3, r4, rfl, hb⟩
    have hal := heap_alloc_new w1 (.cells #[.string (tx p), .string r1, .slice RA rm rm, .int .i64 r3, .bool r4] 98)
    have BB : Below wa.heap.size wa (w1.alloc (.cells #[.string (tx p), .string r1, .slice RA rm rm, .int .i64 r3, .bool r4] 98)) := (B0.out.trans (hb.mono B0.out.size)).alloc (Nat.le_trans B0.out.size hb.size) _
    obtain ⟨w3, hw3⟩ : ∃ w3, w1.alloc (.cells #[.string (tx p), .string r1, .slice RA rm rm, .int .i64 r3, .bool r4] 98) = w3 := ⟨_, rfl⟩
    rw [hw3] at hal BB
    have f0 : w3.cell? ⟨w1.heap.size, 0, none⟩ = some (.string (tx p)) := cell_in hal 0
    have B3 := Lib.hid BB
    clear BB hal hb e0 e1 e2 e3 e4 e5 e6 e7 e8 e9
    obtain ⟨e0, e1, e2, e3, e4, e5, e6, e7, e8, e9⟩ := ten_cells (kept_box HA.out.2.1 B3.out)
    go_wp2_with fail
    clear hw3 f0
    refine (rows_v aa an ac args w3 (HA.out.2.2.1.args.below B3.out) HA.out.2.2.2.args HL.out.2.2.2.2.2.1).mono ?_
    rintro e w4 ⟨A1, c1, rfl, ho, hb⟩
    rw [HL.out.2.2.2.1] at ho
    have H4 := Lib.hid (And.intro (B3.out.trans (hb.mono B3.out.size)) (ho.mono B3.out.size))
    clear ho hb e0 e1 e2 e3 e4 e5 e6 e7 e8 e9
    obtain ⟨e0, e1, e2, e3, e4, e5, e6, e7, e8, e9⟩ := ten_cells (kept_box HA.out.2.1 H4.out.1)
    have a63 : an ≤ 9223372036854775807 := by have := HL.out.2.2.2.2.2.1; omega
    have HS := Lib.hid (show IsStrs w4 la ln labels from HA.out.2.2.1.labels.below H4.out.1)
    go_upto_if 88 with fail
    go_wp2_with (at_builtin; refine wpList_strs rfl (.tmp 89) (.tmp 91) rfl wa.heap.size _ an (texts L) rfl H4.out.2.2 la ln lc labels rfl HS.out HM.out.2 H4.out.1.size ?_)
    intro v' w5 hown' hgrow
    have hown2 : w5.ownsRow wa.heap.size 9 1 v' (an + ln) (texts L ++ texts (txs labels)) := by
      have e : texts (txs labels) = labels.map Value.string := by unfold texts txs; rw [List.map_map]; exact List.map_congr_left fun s _ => by simp [tx_data]
      rw [e]; exact hown'
    obtain ⟨A2, c2, rfl, ho2, hb2⟩ := ownS_next (J := txs labels) hown2 (by unfold txs; rw [List.length_map]; exact HL.out.2.1) hgrow H4.out.2 H4.out.1 (Nat.le_refl _) H4.out.1.size
    rw [HM.out.1] at ho2 ⊢
    have m63 : M ≤ 9223372036854775807 := by have := HM.out.1; have := HM.out.2; omega
    have H5 := Lib.hid (And.intro hb2 (ho2.strs m63))
    clear hown' hown2 hgrow ho2 hb2 e0 e1 e2 e3 e4 e5 e6 e7 e8 e9
    obtain ⟨e0, e1, e2, e3, e4, e5, e6, e7, e8, e9⟩ := ten_cells (kept_box HA.out.2.1 H5.out.1)
    go_wp2_with fail
    clear e0 e1 e2 e3 e4 e5 e6 e7 e8 e9
    go_ret
    exact ⟨by rw [← HT.out]; rfl, HA.out.1.trans (H5.out.1.mono HA.out.1.size)⟩
set_option maxHeartbeats 4000000 in
theorem rins_20_j (dk dc dn dt : Int) (args : List Opn) (nm : ByteArray) (off : Int) (labels : List ByteArray) (cas : List Int) (aa : Option Addr) (an ac : Nat) (la : Option Addr) (ln lc : Nat) (ca : Option Addr) (cn cc : Nat) (t : List UInt8) (W : World) (hI : IsIns W ⟨20, ⟨dk, dc, dn, dt⟩, args, nm, off, labels, cas⟩ ⟨aa, an, ac, la, ln, lc, ca, cn, cc⟩) (hF : InsF ⟨20, ⟨dk, dc, dn, dt⟩, args, nm, off, labels, cas⟩) (hno : Opr.isOp 20 = true) (M : Nat) (hM : an + ln = M) (hM0 : ¬ M = 0) (ht : insT ⟨20, ⟨dk, dc, dn, dt⟩, args, nm, off, labels, cas⟩ = t) (hlen : t.length ≤ big) :
    Calls Tryd.prog 25 #[.agg #[.int .i64 20, .int .i64 dk, .int .i64 dc, .int .i64 dn, .int .i64 dt, .slice aa an ac, .string nm, .int .i64 off, .slice la ln lc, .slice ca cn cc]] W (SaysT t W) := by
  have hrest : restT ⟨20, ⟨dk, dc, dn, dt⟩, args, nm, off, labels, cas⟩ = takenT args labels := by simp [restT]
  obtain ⟨D, hD⟩ : ∃ D, dstT ⟨dk, dc, dn, dt⟩ = D := ⟨_, rfl⟩
  obtain ⟨p, hp⟩ : ∃ p, opT 20 = p := ⟨_, rfl⟩
  obtain ⟨T1, hT1⟩ : ∃ T1, D ++ p = T1 := ⟨_, rfl⟩
  have t2 : T1 ++ takenT args labels = t := by rw [← ht, ← hrest, ← hT1, ← hD, ← hp]; simp [insT]
  have n1 : T1.length ≤ big := by rw [← t2, List.length_append] at hlen; omega
  have nD : D.length ≤ big := by rw [← hT1, List.length_append] at n1; omega
  have s1 := add_tx D p T1 hT1 n1
  have ha1 := hI.args.1
  have hl1 := hI.labels.1
  have hc1 := hI.cases.1
  dsimp only at ha1 hl1 hc1
  have han : an ≤ 1048576 := by have := hF.an; dsimp only at this; omega
  have hln : ln ≤ 1048576 := by have := hF.ln; dsimp only at this; omega
  have hcn : cn ≤ 1048576 := by have := hF.cn; dsimp only at this; omega
  have hnm : nm.size ≤ 20000000 := by have := hF.nm; dsimp only at this; omega
  obtain ⟨L, hL⟩ : ∃ L, args.map opnT = L := ⟨_, rfl⟩
  have hLn : L.length = an := by rw [← hL, List.length_map]; exact ha1
  obtain ⟨J, hJ⟩ : ∃ J, rowT (L ++ txs labels) = J := ⟨_, rfl⟩
  have hne : ¬ (args = [] ∧ labels = []) := by rintro ⟨rfl, rfl⟩; simp at ha1 hl1; omega
  obtain ⟨T2, hT2⟩ : ∃ T2, T1 ++ [32] = T2 := ⟨_, rfl⟩
  have hfin : T2 ++ J = t := by rw [← t2, ← hT2]; unfold takenT; rw [if_neg hne, hL, hJ]; simp
  have mfin := hlen
  rw [← hfin] at mfin
  have mT2 : T2.length ≤ big := by rw [List.length_append] at mfin; omega
  have s2 : ∀ W : World, (Op.stringOp .add (tx T1) ⟨#[32]⟩).run Tryd.prog W = .ok (.string (tx T2)) W := add_tx T1 [32] T2 hT2 mT2
  have s3 : ∀ W : World, (Op.stringOp .add (tx T2) (tx J)).run Tryd.prog W = .ok (.string (tx t)) W := add_tx T2 J t hfin hlen
  have nJ : J.length ≤ big := by rw [← hfin, List.length_append] at hlen; omega
  have HJ := Lib.hid (And.intro hJ nJ)
  have hM1 : (M : Int) > 0 := by omega
  have hMb : an + ln ≤ 100000000 := by omega
  have HM := Lib.hid (And.intro hM hMb)
  have BA : Below W.heap.size W (W.alloc (.cells #[.int .i64 20, .int .i64 dk, .int .i64 dc, .int .i64 dn, .int .i64 dt, .slice aa an ac, .string nm, .int .i64 off, .slice la ln lc, .slice ca cn cc] 57)) := (Below.refl _ W).alloc (Nat.le_refl _) _
  have hal := heap_alloc_new W (.cells #[.int .i64 20, .int .i64 dk, .int .i64 dc, .int .i64 dn, .int .i64 dt, .slice aa an ac, .string nm, .int .i64 off, .slice la ln lc, .slice ca cn cc] 57)
  have HI := hI.below BA
  obtain ⟨wa, hwa⟩ : ∃ wa, W.alloc (.cells #[.int .i64 20, .int .i64 dk, .int .i64 dc, .int .i64 dn, .int .i64 dt, .slice aa an ac, .string nm, .int .i64 off, .slice la ln lc, .slice ca cn cc] 57) = wa := ⟨_, rfl⟩
  rw [hwa] at BA hal HI
  obtain ⟨e0, e1, e2, e3, e4, e5, e6, e7, e8, e9⟩ := ten_cells hal
  have HA := Lib.hid (And.intro BA (And.intro hal (And.intro HI hF)))
  have HD := Lib.hid (And.intro hD (And.intro nD hp))
  have HL := Lib.hid (And.intro ha1 (And.intro hl1 (And.intro hc1 (And.intro hL (And.intro hLn (And.intro han (And.intro hln (And.intro hcn hnm))))))))
  clear BA hal HI hI hF hD nD hT1 n1 ht hlen t2 hrest hp ha1 hl1 hc1 hL hLn han hln hcn hnm hfin mfin hT2 mT2 nJ hJ hne hM hM0 hMb
  go_enter Tryd.func25, Tryd.ntmps25
  go_upto_if 12 with fail
  go_cut [3] from 12 to 16 (fun s3 wx => s3 = .string (tx D) ∧ Hid (Below wa.heap.size wa wx))
  case first =>
    clear hwa
    by_cases hd : dk = 0
    · have hd1 : (dk != 0) = false := by simp [hd]
      have hDe : D = [] := by rw [← HD.out.1, hd]; rfl
      have HDe := Lib.hid hDe
      clear hd hDe
      go_wp2_with fail
      go_meet
      case rel => exact ⟨by rw [HDe.out]; rfl, Below.refl _ _⟩
    · have hd1 : (dk != 0) = true := by simp [hd]
      obtain ⟨x, hx⟩ : ∃ x, opnT ⟨dk, dc, dn, dt⟩ = x := ⟨_, rfl⟩
      have hDe : x ++ [32, 61, 32] = D := by rw [← HD.out.1, ← hx]; simp [dstT, hd]
      have s0 : ∀ W : World, (Op.stringOp .add (tx x) ⟨#[32, 61, 32]⟩).run Tryd.prog W = .ok (.string (tx D)) W := add_tx x [32, 61, 32] D hDe HD.out.2.1
      have HX := Lib.hid hx
      clear hd hDe hx
      go_wp2_with fail
      refine (rop_v ⟨dk, dc, dn, dt⟩ x wa HA.out.2.2.2.dst HX.out).mono ?_
      rintro e w1 ⟨rfl, hb⟩
      have H1 := Lib.hid hb
      clear hb
      go_wp2_with fail
      go_meet
      case rel => exact ⟨rfl, H1.out⟩
  case rest =>
    obtain ⟨rfl, hcw⟩ := hcut
    have B0 := Lib.hid hcw.out
    clear hcw hwa e0 e1 e2 e3 e4 e5 e6 e7 e8 e9
    obtain ⟨e0, e1, e2, e3, e4, e5, e6, e7, e8, e9⟩ := ten_cells (kept_box HA.out.2.1 B0.out)
    go_wp2_with fail
    refine (rfind_t 20 p HD.out.2.2 hno wc).mono ?_
    rintro e w1 ⟨r1, RA, rm, r3, r4, rfl, hb⟩
    have hal := heap_alloc_new w1 (.cells #[.string (tx p), .string r1, .slice RA rm rm, .int .i64 r3, .bool r4] 98)
    have BB : Below wa.heap.size wa (w1.alloc (.cells #[.string (tx p), .string r1, .slice RA rm rm, .int .i64 r3, .bool r4] 98)) := (B0.out.trans (hb.mono B0.out.size)).alloc (Nat.le_trans B0.out.size hb.size) _
    obtain ⟨w3, hw3⟩ : ∃ w3, w1.alloc (.cells #[.string (tx p), .string r1, .slice RA rm rm, .int .i64 r3, .bool r4] 98) = w3 := ⟨_, rfl⟩
    rw [hw3] at hal BB
    have f0 : w3.cell? ⟨w1.heap.size, 0, none⟩ = some (.string (tx p)) := cell_in hal 0
    have B3 := Lib.hid BB
    clear BB hal hb e0 e1 e2 e3 e4 e5 e6 e7 e8 e9
    obtain ⟨e0, e1, e2, e3, e4, e5, e6, e7, e8, e9⟩ := ten_cells (kept_box HA.out.2.1 B3.out)
    go_wp2_with fail
    clear hw3 f0
    refine (rows_v aa an ac args w3 (HA.out.2.2.1.args.below B3.out) HA.out.2.2.2.args HL.out.2.2.2.2.2.1).mono ?_
    rintro e w4 ⟨A1, c1, rfl, ho, hb⟩
    rw [HL.out.2.2.2.1] at ho
    have H4 := Lib.hid (And.intro (B3.out.trans (hb.mono B3.out.size)) (ho.mono B3.out.size))
    clear ho hb e0 e1 e2 e3 e4 e5 e6 e7 e8 e9
    obtain ⟨e0, e1, e2, e3, e4, e5, e6, e7, e8, e9⟩ := ten_cells (kept_box HA.out.2.1 H4.out.1)
    have a63 : an ≤ 9223372036854775807 := by have := HL.out.2.2.2.2.2.1; omega
    have HS := Lib.hid (show IsStrs w4 la ln labels from HA.out.2.2.1.labels.below H4.out.1)
    go_upto_if 88 with fail
    go_wp2_with (at_builtin; refine wpList_strs rfl (.tmp 89) (.tmp 91) rfl wa.heap.size _ an (texts L) rfl H4.out.2.2 la ln lc labels rfl HS.out HM.out.2 H4.out.1.size ?_)
    intro v' w5 hown' hgrow
    have hown2 : w5.ownsRow wa.heap.size 9 1 v' (an + ln) (texts L ++ texts (txs labels)) := by
      have e : texts (txs labels) = labels.map Value.string := by unfold texts txs; rw [List.map_map]; exact List.map_congr_left fun s _ => by simp [tx_data]
      rw [e]; exact hown'
    obtain ⟨A2, c2, rfl, ho2, hb2⟩ := ownS_next (J := txs labels) hown2 (by unfold txs; rw [List.length_map]; exact HL.out.2.1) hgrow H4.out.2 H4.out.1 (Nat.le_refl _) H4.out.1.size
    rw [HM.out.1] at ho2 ⊢
    have m63 : M ≤ 9223372036854775807 := by have := HM.out.1; have := HM.out.2; omega
    have H5 := Lib.hid (And.intro hb2 (ho2.strs m63))
    clear hown' hown2 hgrow ho2 hb2 e0 e1 e2 e3 e4 e5 e6 e7 e8 e9
    obtain ⟨e0, e1, e2, e3, e4, e5, e6, e7, e8, e9⟩ := ten_cells (kept_box HA.out.2.1 H5.out.1)
    go_wp2_with fail
    clear e0 e1 e2 e3 e4 e5 e6 e7 e8 e9
    refine (join_v A2 M c2 (L ++ txs labels) J w5 H5.out.2 HJ.out.1 HJ.out.2).mono ?_
    rintro e w6 ⟨rfl, hb⟩
    have H6 := Lib.hid (H5.out.1.trans (hb.mono H5.out.1.size))
    clear hb
    obtain ⟨e0, e1, e2, e3, e4, e5, e6, e7, e8, e9⟩ := ten_cells (kept_box HA.out.2.1 H6.out)
    go_wp2_with fail
    clear e0 e1 e2 e3 e4 e5 e6 e7 e8 e9
    go_ret
    exact ⟨rfl, HA.out.1.trans (H6.out.mono HA.out.1.size)⟩
set_option maxHeartbeats 4000000 in
theorem rins_21_0 (dk dc dn dt : Int) (args : List Opn) (nm : ByteArray) (off : Int) (labels : List ByteArray) (cas : List Int) (aa : Option Addr) (an ac : Nat) (la : Option Addr) (ln lc : Nat) (ca : Option Addr) (cn cc : Nat) (t : List UInt8) (W : World) (hI : IsIns W ⟨21, ⟨dk, dc, dn, dt⟩, args, nm, off, labels, cas⟩ ⟨aa, an, ac, la, ln, lc, ca, cn, cc⟩) (hF : InsF ⟨21, ⟨dk, dc, dn, dt⟩, args, nm, off, labels, cas⟩) (hno : Opr.isOp 21 = true) (M : Nat) (hM : an + ln = M) (hM0 : M = 0) (ht : insT ⟨21, ⟨dk, dc, dn, dt⟩, args, nm, off, labels, cas⟩ = t) (hlen : t.length ≤ big) :
    Calls Tryd.prog 25 #[.agg #[.int .i64 21, .int .i64 dk, .int .i64 dc, .int .i64 dn, .int .i64 dt, .slice aa an ac, .string nm, .int .i64 off, .slice la ln lc, .slice ca cn cc]] W (SaysT t W) := by
  have hrest : restT ⟨21, ⟨dk, dc, dn, dt⟩, args, nm, off, labels, cas⟩ = takenT args labels := by simp [restT]
  obtain ⟨D, hD⟩ : ∃ D, dstT ⟨dk, dc, dn, dt⟩ = D := ⟨_, rfl⟩
  obtain ⟨p, hp⟩ : ∃ p, opT 21 = p := ⟨_, rfl⟩
  obtain ⟨T1, hT1⟩ : ∃ T1, D ++ p = T1 := ⟨_, rfl⟩
  have t2 : T1 ++ takenT args labels = t := by rw [← ht, ← hrest, ← hT1, ← hD, ← hp]; simp [insT]
  have n1 : T1.length ≤ big := by rw [← t2, List.length_append] at hlen; omega
  have nD : D.length ≤ big := by rw [← hT1, List.length_append] at n1; omega
  have s1 := add_tx D p T1 hT1 n1
  have ha1 := hI.args.1
  have hl1 := hI.labels.1
  have hc1 := hI.cases.1
  dsimp only at ha1 hl1 hc1
  have han : an ≤ 1048576 := by have := hF.an; dsimp only at this; omega
  have hln : ln ≤ 1048576 := by have := hF.ln; dsimp only at this; omega
  have hcn : cn ≤ 1048576 := by have := hF.cn; dsimp only at this; omega
  have hnm : nm.size ≤ 20000000 := by have := hF.nm; dsimp only at this; omega
  obtain ⟨L, hL⟩ : ∃ L, args.map opnT = L := ⟨_, rfl⟩
  have hLn : L.length = an := by rw [← hL, List.length_map]; exact ha1
  have hlen0 : L.length + (txs labels).length = 0 := by unfold txs; rw [List.length_map, hLn, hl1]; omega
  have hargs : args = [] := by apply List.eq_nil_of_length_eq_zero; omega
  have hlabs : labels = [] := by apply List.eq_nil_of_length_eq_zero; omega
  have hfin : T1 = t := by rw [← t2, hargs, hlabs]; simp [takenT]
  have HT := Lib.hid hfin
  have hM1 : ¬ (M : Int) > 0 := by omega
  have hMb : an + ln ≤ 100000000 := by omega
  have HM := Lib.hid (And.intro hM hMb)
  have BA : Below W.heap.size W (W.alloc (.cells #[.int .i64 21, .int .i64 dk, .int .i64 dc, .int .i64 dn, .int .i64 dt, .slice aa an ac, .string nm, .int .i64 off, .slice la ln lc, .slice ca cn cc] 57)) := (Below.refl _ W).alloc (Nat.le_refl _) _
  have hal := heap_alloc_new W (.cells #[.int .i64 21, .int .i64 dk, .int .i64 dc, .int .i64 dn, .int .i64 dt, .slice aa an ac, .string nm, .int .i64 off, .slice la ln lc, .slice ca cn cc] 57)
  have HI := hI.below BA
  obtain ⟨wa, hwa⟩ : ∃ wa, W.alloc (.cells #[.int .i64 21, .int .i64 dk, .int .i64 dc, .int .i64 dn, .int .i64 dt, .slice aa an ac, .string nm, .int .i64 off, .slice la ln lc, .slice ca cn cc] 57) = wa := ⟨_, rfl⟩
  rw [hwa] at BA hal HI
  obtain ⟨e0, e1, e2, e3, e4, e5, e6, e7, e8, e9⟩ := ten_cells hal
  have HA := Lib.hid (And.intro BA (And.intro hal (And.intro HI hF)))
  have HD := Lib.hid (And.intro hD (And.intro nD hp))
  have HL := Lib.hid (And.intro ha1 (And.intro hl1 (And.intro hc1 (And.intro hL (And.intro hLn (And.intro han (And.intro hln (And.intro hcn hnm))))))))
  clear BA hal HI hI hF hD nD hT1 n1 ht hlen t2 hrest hp ha1 hl1 hc1 hL hLn han hln hcn hnm hfin hargs hlabs hlen0 hM hM0 hMb
  go_enter Tryd.func25, Tryd.ntmps25
  go_upto_if 12 with fail
  go_cut [3] from 12 to 16 (fun s3 wx => s3 = .string (tx D) ∧ Hid (Below wa.heap.size wa wx))
  case first =>
    clear hwa
    by_cases hd : dk = 0
    · have hd1 : (dk != 0) = false := by simp [hd]
      have hDe : D = [] := by rw [← HD.out.1, hd]; rfl
      have HDe := Lib.hid hDe
      clear hd hDe
      go_wp2_with fail
      go_meet
      case rel => exact ⟨by rw [HDe.out]; rfl, Below.refl _ _⟩
    · have hd1 : (dk != 0) = true := by simp [hd]
      obtain ⟨x, hx⟩ : ∃ x, opnT ⟨dk, dc, dn, dt⟩ = x := ⟨_, rfl⟩
      have hDe : x ++ [32, 61, 32] = D := by rw [← HD.out.1, ← hx]; simp [dstT, hd]
      have s0 : ∀ W : World, (Op.stringOp .add (tx x) ⟨#[32, 61, 32]⟩).run Tryd.prog W = .ok (.string (tx D)) W := add_tx x [32, 61, 32] D hDe HD.out.2.1
      have HX := Lib.hid hx
      clear hd hDe hx
      go_wp2_with fail
      refine (rop_v ⟨dk, dc, dn, dt⟩ x wa HA.out.2.2.2.dst HX.out).mono ?_
      rintro e w1 ⟨rfl, hb⟩
      have H1 := Lib.hid hb
      clear hb
      go_wp2_with fail
      go_meet
      case rel => exact ⟨rfl, H1.out⟩
  case rest =>
    obtain ⟨rfl, hcw⟩ := hcut
    have B0 := Lib.hid hcw.out
    clear hcw hwa e0 e1 e2 e3 e4 e5 e6 e7 e8 e9
    obtain ⟨e0, e1, e2, e3, e4, e5, e6, e7, e8, e9⟩ := ten_cells (kept_box HA.out.2.1 B0.out)
    go_wp2_with fail
    refine (rfind_t 21 p HD.out.2.2 hno wc).mono ?_
    rintro e w1 ⟨r1, RA, rm, r3, r4, rfl, hb⟩
    have hal := heap_alloc_new w1 (.cells #[.string (tx p), .string r1, .slice RA rm rm, .int .i64 r3, .bool r4] 98)
    have BB : Below wa.heap.size wa (w1.alloc (.cells #[.string (tx p), .string r1, .slice RA rm rm, .int .i64 r3, .bool r4] 98)) := (B0.out.trans (hb.mono B0.out.size)).alloc (Nat.le_trans B0.out.size hb.size) _
    obtain ⟨w3, hw3⟩ : ∃ w3, w1.alloc (.cells #[.string (tx p), .string r1, .slice RA rm rm, .int .i64 r3, .bool r4] 98) = w3 := ⟨_, rfl⟩
    rw [hw3] at hal BB
    have f0 : w3.cell? ⟨w1.heap.size, 0, none⟩ = some (.string (tx p)) := cell_in hal 0
    have B3 := Lib.hid BB
    clear BB hal hb e0 e1 e2 e3 e4 e5 e6 e7 e8 e9
    obtain ⟨e0, e1, e2, e3, e4, e5, e6, e7, e8, e9⟩ := ten_cells (kept_box HA.out.2.1 B3.out)
    go_wp2_with fail
    clear hw3 f0
    refine (rows_v aa an ac args w3 (HA.out.2.2.1.args.below B3.out) HA.out.2.2.2.args HL.out.2.2.2.2.2.1).mono ?_
    rintro e w4 ⟨A1, c1, rfl, ho, hb⟩
    rw [HL.out.2.2.2.1] at ho
    have H4 := Lib.hid (And.intro (B3.out.trans (hb.mono B3.out.size)) (ho.mono B3.out.size))
    clear ho hb e0 e1 e2 e3 e4 e5 e6 e7 e8 e9
    obtain ⟨e0, e1, e2, e3, e4, e5, e6, e7, e8, e9⟩ := ten_cells (kept_box HA.out.2.1 H4.out.1)
    have a63 : an ≤ 9223372036854775807 := by have := HL.out.2.2.2.2.2.1; omega
    have HS := Lib.hid (show IsStrs w4 la ln labels from HA.out.2.2.1.labels.below H4.out.1)
    go_upto_if 88 with fail
    go_wp2_with (at_builtin; refine wpList_strs rfl (.tmp 89) (.tmp 91) rfl wa.heap.size _ an (texts L) rfl H4.out.2.2 la ln lc labels rfl HS.out HM.out.2 H4.out.1.size ?_)
    intro v' w5 hown' hgrow
    have hown2 : w5.ownsRow wa.heap.size 9 1 v' (an + ln) (texts L ++ texts (txs labels)) := by
      have e : texts (txs labels) = labels.map Value.string := by unfold texts txs; rw [List.map_map]; exact List.map_congr_left fun s _ => by simp [tx_data]
      rw [e]; exact hown'
    obtain ⟨A2, c2, rfl, ho2, hb2⟩ := ownS_next (J := txs labels) hown2 (by unfold txs; rw [List.length_map]; exact HL.out.2.1) hgrow H4.out.2 H4.out.1 (Nat.le_refl _) H4.out.1.size
    rw [HM.out.1] at ho2 ⊢
    have m63 : M ≤ 9223372036854775807 := by have := HM.out.1; have := HM.out.2; omega
    have H5 := Lib.hid (And.intro hb2 (ho2.strs m63))
    clear hown' hown2 hgrow ho2 hb2 e0 e1 e2 e3 e4 e5 e6 e7 e8 e9
    obtain ⟨e0, e1, e2, e3, e4, e5, e6, e7, e8, e9⟩ := ten_cells (kept_box HA.out.2.1 H5.out.1)
    go_wp2_with fail
    clear e0 e1 e2 e3 e4 e5 e6 e7 e8 e9
    go_ret
    exact ⟨by rw [← HT.out]; rfl, HA.out.1.trans (H5.out.1.mono HA.out.1.size)⟩
set_option maxHeartbeats 4000000 in
theorem rins_21_j (dk dc dn dt : Int) (args : List Opn) (nm : ByteArray) (off : Int) (labels : List ByteArray) (cas : List Int) (aa : Option Addr) (an ac : Nat) (la : Option Addr) (ln lc : Nat) (ca : Option Addr) (cn cc : Nat) (t : List UInt8) (W : World) (hI : IsIns W ⟨21, ⟨dk, dc, dn, dt⟩, args, nm, off, labels, cas⟩ ⟨aa, an, ac, la, ln, lc, ca, cn, cc⟩) (hF : InsF ⟨21, ⟨dk, dc, dn, dt⟩, args, nm, off, labels, cas⟩) (hno : Opr.isOp 21 = true) (M : Nat) (hM : an + ln = M) (hM0 : ¬ M = 0) (ht : insT ⟨21, ⟨dk, dc, dn, dt⟩, args, nm, off, labels, cas⟩ = t) (hlen : t.length ≤ big) :
    Calls Tryd.prog 25 #[.agg #[.int .i64 21, .int .i64 dk, .int .i64 dc, .int .i64 dn, .int .i64 dt, .slice aa an ac, .string nm, .int .i64 off, .slice la ln lc, .slice ca cn cc]] W (SaysT t W) := by
  have hrest : restT ⟨21, ⟨dk, dc, dn, dt⟩, args, nm, off, labels, cas⟩ = takenT args labels := by simp [restT]
  obtain ⟨D, hD⟩ : ∃ D, dstT ⟨dk, dc, dn, dt⟩ = D := ⟨_, rfl⟩
  obtain ⟨p, hp⟩ : ∃ p, opT 21 = p := ⟨_, rfl⟩
  obtain ⟨T1, hT1⟩ : ∃ T1, D ++ p = T1 := ⟨_, rfl⟩
  have t2 : T1 ++ takenT args labels = t := by rw [← ht, ← hrest, ← hT1, ← hD, ← hp]; simp [insT]
  have n1 : T1.length ≤ big := by rw [← t2, List.length_append] at hlen; omega
  have nD : D.length ≤ big := by rw [← hT1, List.length_append] at n1; omega
  have s1 := add_tx D p T1 hT1 n1
  have ha1 := hI.args.1
  have hl1 := hI.labels.1
  have hc1 := hI.cases.1
  dsimp only at ha1 hl1 hc1
  have han : an ≤ 1048576 := by have := hF.an; dsimp only at this; omega
  have hln : ln ≤ 1048576 := by have := hF.ln; dsimp only at this; omega
  have hcn : cn ≤ 1048576 := by have := hF.cn; dsimp only at this; omega
  have hnm : nm.size ≤ 20000000 := by have := hF.nm; dsimp only at this; omega
  obtain ⟨L, hL⟩ : ∃ L, args.map opnT = L := ⟨_, rfl⟩
  have hLn : L.length = an := by rw [← hL, List.length_map]; exact ha1
  obtain ⟨J, hJ⟩ : ∃ J, rowT (L ++ txs labels) = J := ⟨_, rfl⟩
  have hne : ¬ (args = [] ∧ labels = []) := by rintro ⟨rfl, rfl⟩; simp at ha1 hl1; omega
  obtain ⟨T2, hT2⟩ : ∃ T2, T1 ++ [32] = T2 := ⟨_, rfl⟩
  have hfin : T2 ++ J = t := by rw [← t2, ← hT2]; unfold takenT; rw [if_neg hne, hL, hJ]; simp
  have mfin := hlen
  rw [← hfin] at mfin
  have mT2 : T2.length ≤ big := by rw [List.length_append] at mfin; omega
  have s2 : ∀ W : World, (Op.stringOp .add (tx T1) ⟨#[32]⟩).run Tryd.prog W = .ok (.string (tx T2)) W := add_tx T1 [32] T2 hT2 mT2
  have s3 : ∀ W : World, (Op.stringOp .add (tx T2) (tx J)).run Tryd.prog W = .ok (.string (tx t)) W := add_tx T2 J t hfin hlen
  have nJ : J.length ≤ big := by rw [← hfin, List.length_append] at hlen; omega
  have HJ := Lib.hid (And.intro hJ nJ)
  have hM1 : (M : Int) > 0 := by omega
  have hMb : an + ln ≤ 100000000 := by omega
  have HM := Lib.hid (And.intro hM hMb)
  have BA : Below W.heap.size W (W.alloc (.cells #[.int .i64 21, .int .i64 dk, .int .i64 dc, .int .i64 dn, .int .i64 dt, .slice aa an ac, .string nm, .int .i64 off, .slice la ln lc, .slice ca cn cc] 57)) := (Below.refl _ W).alloc (Nat.le_refl _) _
  have hal := heap_alloc_new W (.cells #[.int .i64 21, .int .i64 dk, .int .i64 dc, .int .i64 dn, .int .i64 dt, .slice aa an ac, .string nm, .int .i64 off, .slice la ln lc, .slice ca cn cc] 57)
  have HI := hI.below BA
  obtain ⟨wa, hwa⟩ : ∃ wa, W.alloc (.cells #[.int .i64 21, .int .i64 dk, .int .i64 dc, .int .i64 dn, .int .i64 dt, .slice aa an ac, .string nm, .int .i64 off, .slice la ln lc, .slice ca cn cc] 57) = wa := ⟨_, rfl⟩
  rw [hwa] at BA hal HI
  obtain ⟨e0, e1, e2, e3, e4, e5, e6, e7, e8, e9⟩ := ten_cells hal
  have HA := Lib.hid (And.intro BA (And.intro hal (And.intro HI hF)))
  have HD := Lib.hid (And.intro hD (And.intro nD hp))
  have HL := Lib.hid (And.intro ha1 (And.intro hl1 (And.intro hc1 (And.intro hL (And.intro hLn (And.intro han (And.intro hln (And.intro hcn hnm))))))))
  clear BA hal HI hI hF hD nD hT1 n1 ht hlen t2 hrest hp ha1 hl1 hc1 hL hLn han hln hcn hnm hfin mfin hT2 mT2 nJ hJ hne hM hM0 hMb
  go_enter Tryd.func25, Tryd.ntmps25
  go_upto_if 12 with fail
  go_cut [3] from 12 to 16 (fun s3 wx => s3 = .string (tx D) ∧ Hid (Below wa.heap.size wa wx))
  case first =>
    clear hwa
    by_cases hd : dk = 0
    · have hd1 : (dk != 0) = false := by simp [hd]
      have hDe : D = [] := by rw [← HD.out.1, hd]; rfl
      have HDe := Lib.hid hDe
      clear hd hDe
      go_wp2_with fail
      go_meet
      case rel => exact ⟨by rw [HDe.out]; rfl, Below.refl _ _⟩
    · have hd1 : (dk != 0) = true := by simp [hd]
      obtain ⟨x, hx⟩ : ∃ x, opnT ⟨dk, dc, dn, dt⟩ = x := ⟨_, rfl⟩
      have hDe : x ++ [32, 61, 32] = D := by rw [← HD.out.1, ← hx]; simp [dstT, hd]
      have s0 : ∀ W : World, (Op.stringOp .add (tx x) ⟨#[32, 61, 32]⟩).run Tryd.prog W = .ok (.string (tx D)) W := add_tx x [32, 61, 32] D hDe HD.out.2.1
      have HX := Lib.hid hx
      clear hd hDe hx
      go_wp2_with fail
      refine (rop_v ⟨dk, dc, dn, dt⟩ x wa HA.out.2.2.2.dst HX.out).mono ?_
      rintro e w1 ⟨rfl, hb⟩
      have H1 := Lib.hid hb
      clear hb
      go_wp2_with fail
      go_meet
      case rel => exact ⟨rfl, H1.out⟩
  case rest =>
    obtain ⟨rfl, hcw⟩ := hcut
    have B0 := Lib.hid hcw.out
    clear hcw hwa e0 e1 e2 e3 e4 e5 e6 e7 e8 e9
    obtain ⟨e0, e1, e2, e3, e4, e5, e6, e7, e8, e9⟩ := ten_cells (kept_box HA.out.2.1 B0.out)
    go_wp2_with fail
    refine (rfind_t 21 p HD.out.2.2 hno wc).mono ?_
    rintro e w1 ⟨r1, RA, rm, r3, r4, rfl, hb⟩
    have hal := heap_alloc_new w1 (.cells #[.string (tx p), .string r1, .slice RA rm rm, .int .i64 r3, .bool r4] 98)
    have BB : Below wa.heap.size wa (w1.alloc (.cells #[.string (tx p), .string r1, .slice RA rm rm, .int .i64 r3, .bool r4] 98)) := (B0.out.trans (hb.mono B0.out.size)).alloc (Nat.le_trans B0.out.size hb.size) _
    obtain ⟨w3, hw3⟩ : ∃ w3, w1.alloc (.cells #[.string (tx p), .string r1, .slice RA rm rm, .int .i64 r3, .bool r4] 98) = w3 := ⟨_, rfl⟩
    rw [hw3] at hal BB
    have f0 : w3.cell? ⟨w1.heap.size, 0, none⟩ = some (.string (tx p)) := cell_in hal 0
    have B3 := Lib.hid BB
    clear BB hal hb e0 e1 e2 e3 e4 e5 e6 e7 e8 e9
    obtain ⟨e0, e1, e2, e3, e4, e5, e6, e7, e8, e9⟩ := ten_cells (kept_box HA.out.2.1 B3.out)
    go_wp2_with fail
    clear hw3 f0
    refine (rows_v aa an ac args w3 (HA.out.2.2.1.args.below B3.out) HA.out.2.2.2.args HL.out.2.2.2.2.2.1).mono ?_
    rintro e w4 ⟨A1, c1, rfl, ho, hb⟩
    rw [HL.out.2.2.2.1] at ho
    have H4 := Lib.hid (And.intro (B3.out.trans (hb.mono B3.out.size)) (ho.mono B3.out.size))
    clear ho hb e0 e1 e2 e3 e4 e5 e6 e7 e8 e9
    obtain ⟨e0, e1, e2, e3, e4, e5, e6, e7, e8, e9⟩ := ten_cells (kept_box HA.out.2.1 H4.out.1)
    have a63 : an ≤ 9223372036854775807 := by have := HL.out.2.2.2.2.2.1; omega
    have HS := Lib.hid (show IsStrs w4 la ln labels from HA.out.2.2.1.labels.below H4.out.1)
    go_upto_if 88 with fail
    go_wp2_with (at_builtin; refine wpList_strs rfl (.tmp 89) (.tmp 91) rfl wa.heap.size _ an (texts L) rfl H4.out.2.2 la ln lc labels rfl HS.out HM.out.2 H4.out.1.size ?_)
    intro v' w5 hown' hgrow
    have hown2 : w5.ownsRow wa.heap.size 9 1 v' (an + ln) (texts L ++ texts (txs labels)) := by
      have e : texts (txs labels) = labels.map Value.string := by unfold texts txs; rw [List.map_map]; exact List.map_congr_left fun s _ => by simp [tx_data]
      rw [e]; exact hown'
    obtain ⟨A2, c2, rfl, ho2, hb2⟩ := ownS_next (J := txs labels) hown2 (by unfold txs; rw [List.length_map]; exact HL.out.2.1) hgrow H4.out.2 H4.out.1 (Nat.le_refl _) H4.out.1.size
    rw [HM.out.1] at ho2 ⊢
    have m63 : M ≤ 9223372036854775807 := by have := HM.out.1; have := HM.out.2; omega
    have H5 := Lib.hid (And.intro hb2 (ho2.strs m63))
    clear hown' hown2 hgrow ho2 hb2 e0 e1 e2 e3 e4 e5 e6 e7 e8 e9
    obtain ⟨e0, e1, e2, e3, e4, e5, e6, e7, e8, e9⟩ := ten_cells (kept_box HA.out.2.1 H5.out.1)
    go_wp2_with fail
    clear e0 e1 e2 e3 e4 e5 e6 e7 e8 e9
    refine (join_v A2 M c2 (L ++ txs labels) J w5 H5.out.2 HJ.out.1 HJ.out.2).mono ?_
    rintro e w6 ⟨rfl, hb⟩
    have H6 := Lib.hid (H5.out.1.trans (hb.mono H5.out.1.size))
    clear hb
    obtain ⟨e0, e1, e2, e3, e4, e5, e6, e7, e8, e9⟩ := ten_cells (kept_box HA.out.2.1 H6.out)
    go_wp2_with fail
    clear e0 e1 e2 e3 e4 e5 e6 e7 e8 e9
    go_ret
    exact ⟨rfl, HA.out.1.trans (H6.out.mono HA.out.1.size)⟩
end Go.Proofs.YtakfoncdiejhaaaDoor
