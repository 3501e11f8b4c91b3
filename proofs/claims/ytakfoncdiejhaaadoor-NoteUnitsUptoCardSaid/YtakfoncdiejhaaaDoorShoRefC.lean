
/- The document's own text of an instruction, each way. -/
import Derived.Test.YtakfoncdiejhaaaDoorShoRefB
import Derived.Test.YtakfoncdiejhaaaDoorOpr
import Derived.Deep.CutRange
import Derived.Deep.RegionWith
namespace Go.Proofs.YtakfoncdiejhaaaDoor
open Go.ChangeShapes Go.WideShapes Go.RowKit
set_option linter.unusedVariables false
set_option linter.unusedSimpArgs false
set_option maxRecDepth 20000

/-- An operation's row, found: its name. -/
theorem rfind_t (n : Int) (p : List UInt8) (hp : opT n = p) (ho : Opr.isOp n = true) (W : World) : Calls Tryd.prog 39 #[.int .i64 n] W fun e w' =>
    ∃ (r1 : ByteArray) (A : Option Addr) (m : Nat) (r3 : Int) (r4 : Bool), e = .returned (.tuple #[.agg #[.string (tx p), .string r1, .slice A m m, .int .i64 r3, .bool r4], .bool true]) ∧ Below W.heap.size W w' := by
  refine (Opr.rfind_v n W).mono ?_
  rintro e w' ⟨A, rfl, _, hb⟩
  refine ⟨(Opr.rowOf n).ds, A, (Opr.rowOf n).ar.length, (Opr.rowOf n).lb, (Opr.rowOf n).al, ?_, hb⟩
  have e1 : (Opr.rowOf n).nm = tx p := by rw [← hp]; unfold opT; rw [if_pos ho, tx_data]; rfl
  rw [ho]
  unfold Opr.rc
  dsimp only
  rw [e1]
theorem rfind_n (n : Int) (ho : Opr.isOp n = false) (W : World) : Calls Tryd.prog 39 #[.int .i64 n] W fun e w' =>
    ∃ (r0 r1 : ByteArray) (A : Option Addr) (m : Nat) (r3 : Int) (r4 : Bool), e = .returned (.tuple #[.agg #[.string r0, .string r1, .slice A m m, .int .i64 r3, .bool r4], .bool false]) ∧ Below W.heap.size W w' := by
  refine (Opr.rfind_v n W).mono ?_
  rintro e w' ⟨A, rfl, _, hb⟩
  exact ⟨_, _, A, _, _, _, by rw [ho]; rfl, hb⟩
theorem OwnS.ptr {base : Nat} {w : World} {A : Option Addr} {N c : Nat} {L : List (List UInt8)} (h : OwnS base w A N c L) (h0 : 0 < N) : ∃ g, A = some ⟨g, 0, none⟩ ∧ base ≤ g ∧ g < w.heap.size := by
  rcases h.2.2 with ⟨e, h1⟩ | ⟨g, cap, cur, hv, h1, h2, _⟩
  · omega
  · injection hv with e1 e2 e3
    exact ⟨g, e1, h1, (Array.getElem?_eq_some_iff.1 h2).1⟩
theorem OwnS.at {base : Nat} {w : World} {g N c : Nat} {L : List (List UInt8)} (h : OwnS base w (some ⟨g, 0, none⟩) N c L) (k : Nat) (x : List UInt8) (hk : L[k]? = some x) : w.cell? ⟨g, k, none⟩ = some (.string (tx x)) ∧ w.frozen? ⟨g, k, none⟩ = false := by
  have hlt : k < L.length := (List.getElem?_eq_some_iff.1 hk).1
  refine ⟨?_, h.2.frozenAt k⟩
  rw [h.2.cellAt k (by rw [← h.1]; omega)]
  exact texts_at L k x hk
theorem OwnS.put {base : Nat} {w : World} {g N c : Nat} {I : List (List UInt8)} {r : List UInt8} (h : OwnS base w (some ⟨g, 0, none⟩) N c (I ++ [r])) (k : Nat) (hk : k = I.length) (x : List UInt8) :
    OwnS base (w.setCell ⟨g, k, none⟩ (.string (tx x))) (some ⟨g, 0, none⟩) N c (I ++ [x]) := by
  subst hk
  refine ⟨by rw [← h.1]; simp, ?_⟩
  have := (h.2.stored I.length (.string (tx x))).1
  have e : (texts (I ++ [r])).set I.length (.string (tx x)) = texts (I ++ [x]) := by
    rw [texts_append, texts_append, List.set_append_right _ _ (by rw [texts_len]; exact Nat.le_refl _), texts_len, Nat.sub_self]; rfl
  rw [e] at this
  exact this
theorem OwnS.drew {base : Nat} {w : World} {A : Option Addr} {N c : Nat} {L : List (List UInt8)} (h : OwnS base w A N c L) : OwnS base w.drew A N c L := h
set_option maxHeartbeats 4000000 in
theorem rins_19 (dk dc dn dt : Int) (args : List Opn) (nm : ByteArray) (off : Int) (labels : List ByteArray) (cas : List Int) (aa : Option Addr) (an ac : Nat) (la : Option Addr) (ln lc : Nat) (ca : Option Addr) (cn cc : Nat) (t : List UInt8) (W : World) (hI : IsIns W ⟨19, ⟨dk, dc, dn, dt⟩, args, nm, off, labels, cas⟩ ⟨aa, an, ac, la, ln, lc, ca, cn, cc⟩) (hF : InsF ⟨19, ⟨dk, dc, dn, dt⟩, args, nm, off, labels, cas⟩) (hno : Opr.isOp 19 = true) (ht : insT ⟨19, ⟨dk, dc, dn, dt⟩, args, nm, off, labels, cas⟩ = t) (hlen : t.length ≤ big) :
    Calls Tryd.prog 25 #[.agg #[.int .i64 19, .int .i64 dk, .int .i64 dc, .int .i64 dn, .int .i64 dt, .slice aa an ac, .string nm, .int .i64 off, .slice la ln lc, .slice ca cn cc]] W (SaysT t W) := by
  have hrest : restT ⟨19, ⟨dk, dc, dn, dt⟩, args, nm, off, labels, cas⟩ = callT nm args := by simp [restT]
  obtain ⟨D, hD⟩ : ∃ D, dstT ⟨dk, dc, dn, dt⟩ = D := ⟨_, rfl⟩
  obtain ⟨p, hp⟩ : ∃ p, opT 19 = p := ⟨_, rfl⟩
  obtain ⟨T1, hT1⟩ : ∃ T1, D ++ p = T1 := ⟨_, rfl⟩
  have t2 : T1 ++ callT nm args = t := by rw [← ht, ← hrest, ← hT1, ← hD, ← hp]; simp [insT]
  have n1 : T1.length ≤ big := by rw [← t2, List.length_append] at hlen; omega
  have nD : D.length ≤ big := by rw [← hT1, List.length_append] at n1; omega
  have s1 := add_tx D p T1 hT1 n1
  have ha1 := hI.args.1
  have hl1 := hI.labels.1
  have hc1 := hI.cases.1
  dsimp only at ha1 hl1 hc1
  have han : an ≤ 1048576 := by have := hF.an; dsimp only at this; omega
  have hln : ln ≤ 1048576 := by have := hF.ln; dsimp only at this; omega
  have hcn : cn ≤ 1048576 := by have := hF.cn; dsimp only at this; omega
  have hnm : nm.size ≤ 20000000 := by have := hF.nm; dsimp only at this; omega
  obtain ⟨L, hL⟩ : ∃ L, args.map opnT = L := ⟨_, rfl⟩
  have hLn : L.length = an := by rw [← hL, List.length_map]; exact ha1
  obtain ⟨q, hq⟩ : ∃ q, Quo.put nm.data.toList = q := ⟨_, rfl⟩
  obtain ⟨J, hJ⟩ : ∃ J, rowT L = J := ⟨_, rfl⟩
  obtain ⟨T2, hT2⟩ : ∃ T2, T1 ++ [32] = T2 := ⟨_, rfl⟩
  obtain ⟨T3, hT3⟩ : ∃ T3, T2 ++ q = T3 := ⟨_, rfl⟩
  obtain ⟨T4, hT4⟩ : ∃ T4, T3 ++ [40] = T4 := ⟨_, rfl⟩
  obtain ⟨T5, hT5⟩ : ∃ T5, T4 ++ J = T5 := ⟨_, rfl⟩
  have hfin : T5 ++ [41] = t := by rw [← t2, ← hT5, ← hT4, ← hT3, ← hT2]; simp [callT, hq, hJ, hL]
  have mfin := hlen
  rw [← hfin] at mfin
  have mT5 : T5.length ≤ big := by rw [List.length_append] at mfin; omega
  have mT5b := mT5
  rw [← hT5] at mT5b
  have mT4 : T4.length ≤ big := by rw [List.length_append] at mT5b; omega
  have mT4b := mT4
  rw [← hT4] at mT4b
  have mT3 : T3.length ≤ big := by rw [List.length_append] at mT4b; omega
  have mT3b := mT3
  rw [← hT3] at mT3b
  have mT2 : T2.length ≤ big := by rw [List.length_append] at mT3b; omega
  have s2 : ∀ W : World, (Op.stringOp .add (tx T1) ⟨#[32]⟩).run Tryd.prog W = .ok (.string (tx T2)) W := add_tx T1 [32] T2 hT2 mT2
  have s3 : ∀ W : World, (Op.stringOp .add (tx T2) (tx q)).run Tryd.prog W = .ok (.string (tx T3)) W := add_tx T2 q T3 hT3 mT3
  have s4 : ∀ W : World, (Op.stringOp .add (tx T3) ⟨#[40]⟩).run Tryd.prog W = .ok (.string (tx T4)) W := add_tx T3 [40] T4 hT4 mT4
  have s5 : ∀ W : World, (Op.stringOp .add (tx T4) (tx J)).run Tryd.prog W = .ok (.string (tx T5)) W := add_tx T4 J T5 hT5 mT5
  have s6 : ∀ W : World, (Op.stringOp .add (tx T5) ⟨#[41]⟩).run Tryd.prog W = .ok (.string (tx t)) W := add_tx T5 [41] t hfin hlen
  have nJ : J.length ≤ big := by rw [← hT5, List.length_append] at mT5; omega
  have HJ := Lib.hid (And.intro hJ (And.intro nJ hq))
  have BA : Below W.heap.size W (W.alloc (.cells #[.int .i64 19, .int .i64 dk, .int .i64 dc, .int .i64 dn, .int .i64 dt, .slice aa an ac, .string nm, .int .i64 off, .slice la ln lc, .slice ca cn cc] 57)) := (Below.refl _ W).alloc (Nat.le_refl _) _
  have hal := heap_alloc_new W (.cells #[.int .i64 19, .int .i64 dk, .int .i64 dc, .int .i64 dn, .int .i64 dt, .slice aa an ac, .string nm, .int .i64 off, .slice la ln lc, .slice ca cn cc] 57)
  have HI := hI.below BA
  obtain ⟨wa, hwa⟩ : ∃ wa, W.alloc (.cells #[.int .i64 19, .int .i64 dk, .int .i64 dc, .int .i64 dn, .int .i64 dt, .slice aa an ac, .string nm, .int .i64 off, .slice la ln lc, .slice ca cn cc] 57) = wa := ⟨_, rfl⟩
  rw [hwa] at BA hal HI
  obtain ⟨e0, e1, e2, e3, e4, e5, e6, e7, e8, e9⟩ := ten_cells hal
  have HA := Lib.hid (And.intro BA (And.intro hal (And.intro HI hF)))
  have HD := Lib.hid (And.intro hD (And.intro nD hp))
  have HL := Lib.hid (And.intro ha1 (And.intro hl1 (And.intro hc1 (And.intro hL (And.intro hLn (And.intro han (And.intro hln (And.intro hcn hnm))))))))
  clear BA hal HI hI hF hD nD hT1 n1 ht hlen t2 hrest hp ha1 hl1 hc1 hL hLn han hln hcn hnm hfin mfin hT2 hT3 hT4 hT5 mT2 mT3 mT4 mT5 mT3b mT4b mT5b nJ hJ hq
  go_enter Tryd.func25, Tryd.ntmps25
  go_upto_if 12 with fail
  go_cut [3] from 12 to 16 (fun s3 wx => s3 = .string (tx D) ∧ Hid (Below wa.heap.size wa wx))
  case first =>
    clear hwa
    by_cases hd : dk = 0
    · have hd1 : (dk != 0) = false := by simp [hd]
      have hDe : D = [] := by rw [← HD.out.1, hd]; rfl
      have HDe := Lib.hid hDe
      clear hd hDe
      go_wp2_with fail
      go_meet
      case rel => exact ⟨by rw [HDe.out]; rfl, Below.refl _ _⟩
    · have hd1 : (dk != 0) = true := by simp [hd]
      obtain ⟨x, hx⟩ : ∃ x, opnT ⟨dk, dc, dn, dt⟩ = x := ⟨_, rfl⟩
      have hDe : x ++ [32, 61, 32] = D := by rw [← HD.out.1, ← hx]; simp [dstT, hd]
      have s0 : ∀ W : World, (Op.stringOp .add (tx x) ⟨#[32, 61, 32]⟩).run Tryd.prog W = .ok (.string (tx D)) W := add_tx x [32, 61, 32] D hDe HD.out.2.1
      have HX := Lib.hid hx
      clear hd hDe hx
      go_wp2_with fail
      refine (rop_v ⟨dk, dc, dn, dt⟩ x wa HA.out.2.2.2.dst HX.out).mono ?_
      rintro e w1 ⟨rfl, hb⟩
      have H1 := Lib.hid hb
      clear hb
      go_wp2_with fail
      go_meet
      case rel => exact ⟨rfl, H1.out⟩
  case rest =>
    obtain ⟨rfl, hcw⟩ := hcut
    have B0 := Lib.hid hcw.out
    clear hcw hwa e0 e1 e2 e3 e4 e5 e6 e7 e8 e9
    obtain ⟨e0, e1, e2, e3, e4, e5, e6, e7, e8, e9⟩ := ten_cells (kept_box HA.out.2.1 B0.out)
    go_wp2_with fail
    refine (rfind_t 19 p HD.out.2.2 hno wc).mono ?_
    rintro e w1 ⟨r1, RA, rm, r3, r4, rfl, hb⟩
    have hal := heap_alloc_new w1 (.cells #[.string (tx p), .string r1, .slice RA rm rm, .int .i64 r3, .bool r4] 98)
    have BB : Below wa.heap.size wa (w1.alloc (.cells #[.string (tx p), .string r1, .slice RA rm rm, .int .i64 r3, .bool r4] 98)) := (B0.out.trans (hb.mono B0.out.size)).alloc (Nat.le_trans B0.out.size hb.size) _
    obtain ⟨w3, hw3⟩ : ∃ w3, w1.alloc (.cells #[.string (tx p), .string r1, .slice RA rm rm, .int .i64 r3, .bool r4] 98) = w3 := ⟨_, rfl⟩
    rw [hw3] at hal BB
    have f0 : w3.cell? ⟨w1.heap.size, 0, none⟩ = some (.string (tx p)) := cell_in hal 0
    have B3 := Lib.hid BB
    clear BB hal hb e0 e1 e2 e3 e4 e5 e6 e7 e8 e9
    obtain ⟨e0, e1, e2, e3, e4, e5, e6, e7, e8, e9⟩ := ten_cells (kept_box HA.out.2.1 B3.out)
    go_wp2_with fail
    clear hw3 f0
    refine (rows_v aa an ac args w3 (HA.out.2.2.1.args.below B3.out) HA.out.2.2.2.args HL.out.2.2.2.2.2.1).mono ?_
    rintro e w4 ⟨A1, c1, rfl, ho, hb⟩
    rw [HL.out.2.2.2.1] at ho
    have H4 := Lib.hid (And.intro (B3.out.trans (hb.mono B3.out.size)) (ho.mono B3.out.size))
    clear ho hb e0 e1 e2 e3 e4 e5 e6 e7 e8 e9
    obtain ⟨e0, e1, e2, e3, e4, e5, e6, e7, e8, e9⟩ := ten_cells (kept_box HA.out.2.1 H4.out.1)
    have a63 : an ≤ 9223372036854775807 := by have := HL.out.2.2.2.2.2.1; omega
    go_wp2_with fail
    refine (rquote_t nm q HJ.out.2.2 HL.out.2.2.2.2.2.2.2.2 w4).mono ?_
    rintro e w5 ⟨rfl, hb⟩
    have H5 := Lib.hid (And.intro (H4.out.1.trans (hb.mono H4.out.1.size)) ((H4.out.2.below hb).strs a63))
    clear hb e0 e1 e2 e3 e4 e5 e6 e7 e8 e9
    go_wp2_with fail
    refine (join_v A1 an c1 L J w5 H5.out.2 HJ.out.1 HJ.out.2.1).mono ?_
    rintro e w6 ⟨rfl, hb⟩
    have H6 := Lib.hid (H5.out.1.trans (hb.mono H5.out.1.size))
    clear hb
    go_wp2_with fail
    go_ret
    exact ⟨rfl, HA.out.1.trans (H6.out.mono HA.out.1.size)⟩
set_option maxHeartbeats 4000000 in
theorem rins_17_0 (dk dc dn dt : Int) (args : List Opn) (nm : ByteArray) (off : Int) (labels : List ByteArray) (cas : List Int) (aa : Option Addr) (an ac : Nat) (la : Option Addr) (ln lc : Nat) (ca : Option Addr) (cn cc : Nat) (t : List UInt8) (W : World) (hI : IsIns W ⟨17, ⟨dk, dc, dn, dt⟩, args, nm, off, labels, cas⟩ ⟨aa, an, ac, la, ln, lc, ca, cn, cc⟩) (hF : InsF ⟨17, ⟨dk, dc, dn, dt⟩, args, nm, off, labels, cas⟩) (hno : Opr.isOp 17 = true) (hz : ¬ (an : Int) > 0) (harg : args = []) (ht : insT ⟨17, ⟨dk, dc, dn, dt⟩, args, nm, off, labels, cas⟩ = t) (hlen : t.length ≤ big) :
    Calls Tryd.prog 25 #[.agg #[.int .i64 17, .int .i64 dk, .int .i64 dc, .int .i64 dn, .int .i64 dt, .slice aa an ac, .string nm, .int .i64 off, .slice la ln lc, .slice ca cn cc]] W (SaysT t W) := by
  have hrest : restT ⟨17, ⟨dk, dc, dn, dt⟩, args, nm, off, labels, cas⟩ = (takenT args [] ++ offT args off) := by simp [restT]
  obtain ⟨D, hD⟩ : ∃ D, dstT ⟨dk, dc, dn, dt⟩ = D := ⟨_, rfl⟩
  obtain ⟨p, hp⟩ : ∃ p, opT 17 = p := ⟨_, rfl⟩
  obtain ⟨T1, hT1⟩ : ∃ T1, D ++ p = T1 := ⟨_, rfl⟩
  have t2 : T1 ++ (takenT args [] ++ offT args off) = t := by rw [← ht, ← hrest, ← hT1, ← hD, ← hp]; simp [insT]
  have n1 : T1.length ≤ big := by rw [← t2, List.length_append] at hlen; omega
  have nD : D.length ≤ big := by rw [← hT1, List.length_append] at n1; omega
  have s1 := add_tx D p T1 hT1 n1
  have ha1 := hI.args.1
  have hl1 := hI.labels.1
  have hc1 := hI.cases.1
  dsimp only at ha1 hl1 hc1
  have han : an ≤ 1048576 := by have := hF.an; dsimp only at this; omega
  have hln : ln ≤ 1048576 := by have := hF.ln; dsimp only at this; omega
  have hcn : cn ≤ 1048576 := by have := hF.cn; dsimp only at this; omega
  have hnm : nm.size ≤ 20000000 := by have := hF.nm; dsimp only at this; omega
  obtain ⟨L, hL⟩ : ∃ L, args.map opnT = L := ⟨_, rfl⟩
  have hLn : L.length = an := by rw [← hL, List.length_map]; exact ha1
  have hfin : T1 = t := by rw [← t2, harg]; simp [takenT, offT]
  have HT := Lib.hid hfin
  have BA : Below W.heap.size W (W.alloc (.cells #[.int .i64 17, .int .i64 dk, .int .i64 dc, .int .i64 dn, .int .i64 dt, .slice aa an ac, .string nm, .int .i64 off, .slice la ln lc, .slice ca cn cc] 57)) := (Below.refl _ W).alloc (Nat.le_refl _) _
  have hal := heap_alloc_new W (.cells #[.int .i64 17, .int .i64 dk, .int .i64 dc, .int .i64 dn, .int .i64 dt, .slice aa an ac, .string nm, .int .i64 off, .slice la ln lc, .slice ca cn cc] 57)
  have HI := hI.below BA
  obtain ⟨wa, hwa⟩ : ∃ wa, W.alloc (.cells #[.int .i64 17, .int .i64 dk, .int .i64 dc, .int .i64 dn, .int .i64 dt, .slice aa an ac, .string nm, .int .i64 off, .slice la ln lc, .slice ca cn cc] 57) = wa := ⟨_, rfl⟩
  rw [hwa] at BA hal HI
  obtain ⟨e0, e1, e2, e3, e4, e5, e6, e7, e8, e9⟩ := ten_cells hal
  have HA := Lib.hid (And.intro BA (And.intro hal (And.intro HI hF)))
  have HD := Lib.hid (And.intro hD (And.intro nD hp))
  have HL := Lib.hid (And.intro ha1 (And.intro hl1 (And.intro hc1 (And.intro hL (And.intro hLn (And.intro han (And.intro hln (And.intro hcn hnm))))))))
  clear BA hal HI hI hF hD nD hT1 n1 ht hlen t2 hrest hp ha1 hl1 hc1 hL hLn han hln hcn hnm hfin harg
  go_enter Tryd.func25, Tryd.ntmps25
  go_upto_if 12 with fail
  go_cut [3] from 12 to 16 (fun s3 wx => s3 = .string (tx D) ∧ Hid (Below wa.heap.size wa wx))
  case first =>
    clear hwa
    by_cases hd : dk = 0
    · have hd1 : (dk != 0) = false := by simp [hd]
      have hDe : D = [] := by rw [← HD.out.1, hd]; rfl
      have HDe := Lib.hid hDe
      clear hd hDe
      go_wp2_with fail
      go_meet
      case rel => exact ⟨by rw [HDe.out]; rfl, Below.refl _ _⟩
    · have hd1 : (dk != 0) = true := by simp [hd]
      obtain ⟨x, hx⟩ : ∃ x, opnT ⟨dk, dc, dn, dt⟩ = x := ⟨_, rfl⟩
      have hDe : x ++ [32, 61, 32] = D := by rw [← HD.out.1, ← hx]; simp [dstT, hd]
      have s0 : ∀ W : World, (Op.stringOp .add (tx x) ⟨#[32, 61, 32]⟩).run Tryd.prog W = .ok (.string (tx D)) W := add_tx x [32, 61, 32] D hDe HD.out.2.1
      have HX := Lib.hid hx
      clear hd hDe hx
      go_wp2_with fail
      refine (rop_v ⟨dk, dc, dn, dt⟩ x wa HA.out.2.2.2.dst HX.out).mono ?_
      rintro e w1 ⟨rfl, hb⟩
      have H1 := Lib.hid hb
      clear hb
      go_wp2_with fail
      go_meet
      case rel => exact ⟨rfl, H1.out⟩
  case rest =>
    obtain ⟨rfl, hcw⟩ := hcut
    have B0 := Lib.hid hcw.out
    clear hcw hwa e0 e1 e2 e3 e4 e5 e6 e7 e8 e9
    obtain ⟨e0, e1, e2, e3, e4, e5, e6, e7, e8, e9⟩ := ten_cells (kept_box HA.out.2.1 B0.out)
    go_wp2_with fail
    refine (rfind_t 17 p HD.out.2.2 hno wc).mono ?_
    rintro e w1 ⟨r1, RA, rm, r3, r4, rfl, hb⟩
    have hal := heap_alloc_new w1 (.cells #[.string (tx p), .string r1, .slice RA rm rm, .int .i64 r3, .bool r4] 98)
    have BB : Below wa.heap.size wa (w1.alloc (.cells #[.string (tx p), .string r1, .slice RA rm rm, .int .i64 r3, .bool r4] 98)) := (B0.out.trans (hb.mono B0.out.size)).alloc (Nat.le_trans B0.out.size hb.size) _
    obtain ⟨w3, hw3⟩ : ∃ w3, w1.alloc (.cells #[.string (tx p), .string r1, .slice RA rm rm, .int .i64 r3, .bool r4] 98) = w3 := ⟨_, rfl⟩
    rw [hw3] at hal BB
    have f0 : w3.cell? ⟨w1.heap.size, 0, none⟩ = some (.string (tx p)) := cell_in hal 0
    have B3 := Lib.hid BB
    clear BB hal hb e0 e1 e2 e3 e4 e5 e6 e7 e8 e9
    obtain ⟨e0, e1, e2, e3, e4, e5, e6, e7, e8, e9⟩ := ten_cells (kept_box HA.out.2.1 B3.out)
    go_wp2_with fail
    clear hw3 f0
    refine (rows_v aa an ac args w3 (HA.out.2.2.1.args.below B3.out) HA.out.2.2.2.args HL.out.2.2.2.2.2.1).mono ?_
    rintro e w4 ⟨A1, c1, rfl, ho, hb⟩
    rw [HL.out.2.2.2.1] at ho
    have H4 := Lib.hid (And.intro (B3.out.trans (hb.mono B3.out.size)) (ho.mono B3.out.size))
    clear ho hb e0 e1 e2 e3 e4 e5 e6 e7 e8 e9
    obtain ⟨e0, e1, e2, e3, e4, e5, e6, e7, e8, e9⟩ := ten_cells (kept_box HA.out.2.1 H4.out.1)
    have a63 : an ≤ 9223372036854775807 := by have := HL.out.2.2.2.2.2.1; omega
    go_wp2_with fail
    clear e0 e1 e2 e3 e4 e5 e6 e7 e8 e9
    go_ret
    exact ⟨by rw [← HT.out]; rfl, HA.out.1.trans (H4.out.1.mono HA.out.1.size)⟩
set_option maxHeartbeats 4000000 in
theorem rins_17_z (dk dc dn dt : Int) (args : List Opn) (nm : ByteArray) (off : Int) (labels : List ByteArray) (cas : List Int) (aa : Option Addr) (an ac : Nat) (la : Option Addr) (ln lc : Nat) (ca : Option Addr) (cn cc : Nat) (t : List UInt8) (W : World) (hI : IsIns W ⟨17, ⟨dk, dc, dn, dt⟩, args, nm, off, labels, cas⟩ ⟨aa, an, ac, la, ln, lc, ca, cn, cc⟩) (hF : InsF ⟨17, ⟨dk, dc, dn, dt⟩, args, nm, off, labels, cas⟩) (hno : Opr.isOp 17 = true) (hz : (an : Int) > 0) (hne : ¬ args = []) (hoff : off = 0) (ho2 : (off != 0) = false) (ht : insT ⟨17, ⟨dk, dc, dn, dt⟩, args, nm, off, labels, cas⟩ = t) (hlen : t.length ≤ big) :
    Calls Tryd.prog 25 #[.agg #[.int .i64 17, .int .i64 dk, .int .i64 dc, .int .i64 dn, .int .i64 dt, .slice aa an ac, .string nm, .int .i64 off, .slice la ln lc, .slice ca cn cc]] W (SaysT t W) := by
  have hrest : restT ⟨17, ⟨dk, dc, dn, dt⟩, args, nm, off, labels, cas⟩ = (takenT args [] ++ offT args off) := by simp [restT]
  obtain ⟨D, hD⟩ : ∃ D, dstT ⟨dk, dc, dn, dt⟩ = D := ⟨_, rfl⟩
  obtain ⟨p, hp⟩ : ∃ p, opT 17 = p := ⟨_, rfl⟩
  obtain ⟨T1, hT1⟩ : ∃ T1, D ++ p = T1 := ⟨_, rfl⟩
  have t2 : T1 ++ (takenT args [] ++ offT args off) = t := by rw [← ht, ← hrest, ← hT1, ← hD, ← hp]; simp [insT]
  have n1 : T1.length ≤ big := by rw [← t2, List.length_append] at hlen; omega
  have nD : D.length ≤ big := by rw [← hT1, List.length_append] at n1; omega
  have s1 := add_tx D p T1 hT1 n1
  have ha1 := hI.args.1
  have hl1 := hI.labels.1
  have hc1 := hI.cases.1
  dsimp only at ha1 hl1 hc1
  have han : an ≤ 1048576 := by have := hF.an; dsimp only at this; omega
  have hln : ln ≤ 1048576 := by have := hF.ln; dsimp only at this; omega
  have hcn : cn ≤ 1048576 := by have := hF.cn; dsimp only at this; omega
  have hnm : nm.size ≤ 20000000 := by have := hF.nm; dsimp only at this; omega
  obtain ⟨L, hL⟩ : ∃ L, args.map opnT = L := ⟨_, rfl⟩
  have hLn : L.length = an := by rw [← hL, List.length_map]; exact ha1
  obtain ⟨J, hJ⟩ : ∃ J, rowT L = J := ⟨_, rfl⟩
  obtain ⟨T2, hT2⟩ : ∃ T2, T1 ++ [32] = T2 := ⟨_, rfl⟩
  have hfin : T2 ++ J = t := by rw [← t2, ← hT2]; simp [takenT, offT, hne, hL, hJ, txs, hoff]
  have mfin := hlen
  rw [← hfin] at mfin
  have mT2 : T2.length ≤ big := by rw [List.length_append] at mfin; omega
  have s2 : ∀ W : World, (Op.stringOp .add (tx T1) ⟨#[32]⟩).run Tryd.prog W = .ok (.string (tx T2)) W := add_tx T1 [32] T2 hT2 mT2
  have s3 : ∀ W : World, (Op.stringOp .add (tx T2) (tx J)).run Tryd.prog W = .ok (.string (tx t)) W := add_tx T2 J t hfin hlen
  have nJ : J.length ≤ big := by rw [← hfin, List.length_append] at hlen; omega
  have HJ := Lib.hid (And.intro hJ nJ)
  have BA : Below W.heap.size W (W.alloc (.cells #[.int .i64 17, .int .i64 dk, .int .i64 dc, .int .i64 dn, .int .i64 dt, .slice aa an ac, .string nm, .int .i64 off, .slice la ln lc, .slice ca cn cc] 57)) := (Below.refl _ W).alloc (Nat.le_refl _) _
  have hal := heap_alloc_new W (.cells #[.int .i64 17, .int .i64 dk, .int .i64 dc, .int .i64 dn, .int .i64 dt, .slice aa an ac, .string nm, .int .i64 off, .slice la ln lc, .slice ca cn cc] 57)
  have HI := hI.below BA
  obtain ⟨wa, hwa⟩ : ∃ wa, W.alloc (.cells #[.int .i64 17, .int .i64 dk, .int .i64 dc, .int .i64 dn, .int .i64 dt, .slice aa an ac, .string nm, .int .i64 off, .slice la ln lc, .slice ca cn cc] 57) = wa := ⟨_, rfl⟩
  rw [hwa] at BA hal HI
  obtain ⟨e0, e1, e2, e3, e4, e5, e6, e7, e8, e9⟩ := ten_cells hal
  have HA := Lib.hid (And.intro BA (And.intro hal (And.intro HI hF)))
  have HD := Lib.hid (And.intro hD (And.intro nD hp))
  have HL := Lib.hid (And.intro ha1 (And.intro hl1 (And.intro hc1 (And.intro hL (And.intro hLn (And.intro han (And.intro hln (And.intro hcn hnm))))))))
  clear BA hal HI hI hF hD nD hT1 n1 ht hlen t2 hrest hp ha1 hl1 hc1 hL hLn han hln hcn hnm hfin mfin hT2 mT2 nJ hJ hne hoff
  go_enter Tryd.func25, Tryd.ntmps25
  go_upto_if 12 with fail
  go_cut [3] from 12 to 16 (fun s3 wx => s3 = .string (tx D) ∧ Hid (Below wa.heap.size wa wx))
  case first =>
    clear hwa
    by_cases hd : dk = 0
    · have hd1 : (dk != 0) = false := by simp [hd]
      have hDe : D = [] := by rw [← HD.out.1, hd]; rfl
      have HDe := Lib.hid hDe
      clear hd hDe
      go_wp2_with fail
      go_meet
      case rel => exact ⟨by rw [HDe.out]; rfl, Below.refl _ _⟩
    · have hd1 : (dk != 0) = true := by simp [hd]
      obtain ⟨x, hx⟩ : ∃ x, opnT ⟨dk, dc, dn, dt⟩ = x := ⟨_, rfl⟩
      have hDe : x ++ [32, 61, 32] = D := by rw [← HD.out.1, ← hx]; simp [dstT, hd]
      have s0 : ∀ W : World, (Op.stringOp .add (tx x) ⟨#[32, 61, 32]⟩).run Tryd.prog W = .ok (.string (tx D)) W := add_tx x [32, 61, 32] D hDe HD.out.2.1
      have HX := Lib.hid hx
      clear hd hDe hx
      go_wp2_with fail
      refine (rop_v ⟨dk, dc, dn, dt⟩ x wa HA.out.2.2.2.dst HX.out).mono ?_
      rintro e w1 ⟨rfl, hb⟩
      have H1 := Lib.hid hb
      clear hb
      go_wp2_with fail
      go_meet
      case rel => exact ⟨rfl, H1.out⟩
  case rest =>
    obtain ⟨rfl, hcw⟩ := hcut
    have B0 := Lib.hid hcw.out
    clear hcw hwa e0 e1 e2 e3 e4 e5 e6 e7 e8 e9
    obtain ⟨e0, e1, e2, e3, e4, e5, e6, e7, e8, e9⟩ := ten_cells (kept_box HA.out.2.1 B0.out)
    go_wp2_with fail
    refine (rfind_t 17 p HD.out.2.2 hno wc).mono ?_
    rintro e w1 ⟨r1, RA, rm, r3, r4, rfl, hb⟩
    have hal := heap_alloc_new w1 (.cells #[.string (tx p), .string r1, .slice RA rm rm, .int .i64 r3, .bool r4] 98)
    have BB : Below wa.heap.size wa (w1.alloc (.cells #[.string (tx p), .string r1, .slice RA rm rm, .int .i64 r3, .bool r4] 98)) := (B0.out.trans (hb.mono B0.out.size)).alloc (Nat.le_trans B0.out.size hb.size) _
    obtain ⟨w3, hw3⟩ : ∃ w3, w1.alloc (.cells #[.string (tx p), .string r1, .slice RA rm rm, .int .i64 r3, .bool r4] 98) = w3 := ⟨_, rfl⟩
    rw [hw3] at hal BB
    have f0 : w3.cell? ⟨w1.heap.size, 0, none⟩ = some (.string (tx p)) := cell_in hal 0
    have B3 := Lib.hid BB
    clear BB hal hb e0 e1 e2 e3 e4 e5 e6 e7 e8 e9
    obtain ⟨e0, e1, e2, e3, e4, e5, e6, e7, e8, e9⟩ := ten_cells (kept_box HA.out.2.1 B3.out)
    go_wp2_with fail
    clear hw3 f0
    refine (rows_v aa an ac args w3 (HA.out.2.2.1.args.below B3.out) HA.out.2.2.2.args HL.out.2.2.2.2.2.1).mono ?_
    rintro e w4 ⟨A1, c1, rfl, ho, hb⟩
    rw [HL.out.2.2.2.1] at ho
    have H4 := Lib.hid (And.intro (B3.out.trans (hb.mono B3.out.size)) (ho.mono B3.out.size))
    clear ho hb e0 e1 e2 e3 e4 e5 e6 e7 e8 e9
    obtain ⟨e0, e1, e2, e3, e4, e5, e6, e7, e8, e9⟩ := ten_cells (kept_box HA.out.2.1 H4.out.1)
    have a63 : an ≤ 9223372036854775807 := by have := HL.out.2.2.2.2.2.1; omega
    go_wp2_with fail
    clear e0 e1 e2 e3 e4 e5 e6 e7 e8 e9
    refine (join_v A1 an c1 L J w4 (H4.out.2.strs a63) HJ.out.1 HJ.out.2).mono ?_
    rintro e w5 ⟨rfl, hb⟩
    have H5 := Lib.hid (H4.out.1.trans (hb.mono H4.out.1.size))
    clear hb
    obtain ⟨e0, e1, e2, e3, e4, e5, e6, e7, e8, e9⟩ := ten_cells (kept_box HA.out.2.1 H5.out)
    go_wp2_with fail
    clear e0 e1 e2 e3 e4 e5 e6 e7 e8 e9
    go_ret
    exact ⟨rfl, HA.out.1.trans (H5.out.mono HA.out.1.size)⟩
set_option maxHeartbeats 4000000 in
theorem rins_18_0 (dk dc dn dt : Int) (args : List Opn) (nm : ByteArray) (off : Int) (labels : List ByteArray) (cas : List Int) (aa : Option Addr) (an ac : Nat) (la : Option Addr) (ln lc : Nat) (ca : Option Addr) (cn cc : Nat) (t : List UInt8) (W : World) (hI : IsIns W ⟨18, ⟨dk, dc, dn, dt⟩, args, nm, off, labels, cas⟩ ⟨aa, an, ac, la, ln, lc, ca, cn, cc⟩) (hF : InsF ⟨18, ⟨dk, dc, dn, dt⟩, args, nm, off, labels, cas⟩) (hno : Opr.isOp 18 = true) (hz : ¬ (an : Int) > 0) (harg : args = []) (ht : insT ⟨18, ⟨dk, dc, dn, dt⟩, args, nm, off, labels, cas⟩ = t) (hlen : t.length ≤ big) :
    Calls Tryd.prog 25 #[.agg #[.int .i64 18, .int .i64 dk, .int .i64 dc, .int .i64 dn, .int .i64 dt, .slice aa an ac, .string nm, .int .i64 off, .slice la ln lc, .slice ca cn cc]] W (SaysT t W) := by
  have hrest : restT ⟨18, ⟨dk, dc, dn, dt⟩, args, nm, off, labels, cas⟩ = (takenT args [] ++ offT args off) := by simp [restT]
  obtain ⟨D, hD⟩ : ∃ D, dstT ⟨dk, dc, dn, dt⟩ = D := ⟨_, rfl⟩
  obtain ⟨p, hp⟩ : ∃ p, opT 18 = p := ⟨_, rfl⟩
  obtain ⟨T1, hT1⟩ : ∃ T1, D ++ p = T1 := ⟨_, rfl⟩
  have t2 : T1 ++ (takenT args [] ++ offT args off) = t := by rw [← ht, ← hrest, ← hT1, ← hD, ← hp]; simp [insT]
  have n1 : T1.length ≤ big := by rw [← t2, List.length_append] at hlen; omega
  have nD : D.length ≤ big := by rw [← hT1, List.length_append] at n1; omega
  have s1 := add_tx D p T1 hT1 n1
  have ha1 := hI.args.1
  have hl1 := hI.labels.1
  have hc1 := hI.cases.1
  dsimp only at ha1 hl1 hc1
  have han : an ≤ 1048576 := by have := hF.an; dsimp only at this; omega
  have hln : ln ≤ 1048576 := by have := hF.ln; dsimp only at this; omega
  have hcn : cn ≤ 1048576 := by have := hF.cn; dsimp only at this; omega
  have hnm : nm.size ≤ 20000000 := by have := hF.nm; dsimp only at this; omega
  obtain ⟨L, hL⟩ : ∃ L, args.map opnT = L := ⟨_, rfl⟩
  have hLn : L.length = an := by rw [← hL, List.length_map]; exact ha1
  have hfin : T1 = t := by rw [← t2, harg]; simp [takenT, offT]
  have HT := Lib.hid hfin
  have BA : Below W.heap.size W (W.alloc (.cells #[.int .i64 18, .int .i64 dk, .int .i64 dc, .int .i64 dn, .int .i64 dt, .slice aa an ac, .string nm, .int .i64 off, .slice la ln lc, .slice ca cn cc] 57)) := (Below.refl _ W).alloc (Nat.le_refl _) _
  have hal := heap_alloc_new W (.cells #[.int .i64 18, .int .i64 dk, .int .i64 dc, .int .i64 dn, .int .i64 dt, .slice aa an ac, .string nm, .int .i64 off, .slice la ln lc, .slice ca cn cc] 57)
  have HI := hI.below BA
  obtain ⟨wa, hwa⟩ : ∃ wa, W.alloc (.cells #[.int .i64 18, .int .i64 dk, .int .i64 dc, .int .i64 dn, .int .i64 dt, .slice aa an ac, .string nm, .int .i64 off, .slice la ln lc, .slice ca cn cc] 57) = wa := ⟨_, rfl⟩
  rw [hwa] at BA hal HI
  obtain ⟨e0, e1, e2, e3, e4, e5, e6, e7, e8, e9⟩ := ten_cells hal
  have HA := Lib.hid (And.intro BA (And.intro hal (And.intro HI hF)))
  have HD := Lib.hid (And.intro hD (And.intro nD hp))
  have HL := Lib.hid (And.intro ha1 (And.intro hl1 (And.intro hc1 (And.intro hL (And.intro hLn (And.intro han (And.intro hln (And.intro hcn hnm))))))))
  clear BA hal HI hI hF hD nD hT1 n1 ht hlen t2 hrest hp ha1 hl1 hc1 hL hLn han hln hcn hnm hfin harg
  go_enter Tryd.func25, Tryd.ntmps25
  go_upto_if 12 with fail
  go_cut [3] from 12 to 16 (fun s3 wx => s3 = .string (tx D) ∧ Hid (Below wa.heap.size wa wx))
  case first =>
    clear hwa
    by_cases hd : dk = 0
    · have hd1 : (dk != 0) = false := by simp [hd]
      have hDe : D = [] := by rw [← HD.out.1, hd]; rfl
      have HDe := Lib.hid hDe
      clear hd hDe
      go_wp2_with fail
      go_meet
      case rel => exact ⟨by rw [HDe.out]; rfl, Below.refl _ _⟩
    · have hd1 : (dk != 0) = true := by simp [hd]
      obtain ⟨x, hx⟩ : ∃ x, opnT ⟨dk, dc, dn, dt⟩ = x := ⟨_, rfl⟩
      have hDe : x ++ [32, 61, 32] = D := by rw [← HD.out.1, ← hx]; simp [dstT, hd]
      have s0 : ∀ W : World, (Op.stringOp .add (tx x) ⟨#[32, 61, 32]⟩).run Tryd.prog W = .ok (.string (tx D)) W := add_tx x [32, 61, 32] D hDe HD.out.2.1
      have HX := Lib.hid hx
      clear hd hDe hx
      go_wp2_with fail
      refine (rop_v ⟨dk, dc, dn, dt⟩ x wa HA.out.2.2.2.dst HX.out).mono ?_
      rintro e w1 ⟨rfl, hb⟩
      have H1 := Lib.hid hb
      clear hb
      go_wp2_with fail
      go_meet
      case rel => exact ⟨rfl, H1.out⟩
  case rest =>
    obtain ⟨rfl, hcw⟩ := hcut
    have B0 := Lib.hid hcw.out
    clear hcw hwa e0 e1 e2 e3 e4 e5 e6 e7 e8 e9
    obtain ⟨e0, e1, e2, e3, e4, e5, e6, e7, e8, e9⟩ := ten_cells (kept_box HA.out.2.1 B0.out)
    go_wp2_with fail
    refine (rfind_t 18 p HD.out.2.2 hno wc).mono ?_
    rintro e w1 ⟨r1, RA, rm, r3, r4, rfl, hb⟩
    have hal := heap_alloc_new w1 (.cells #[.string (tx p), .string r1, .slice RA rm rm, .int .i64 r3, .bool r4] 98)
    have BB : Below wa.heap.size wa (w1.alloc (.cells #[.string (tx p), .string r1, .slice RA rm rm, .int .i64 r3, .bool r4] 98)) := (B0.out.trans (hb.mono B0.out.size)).alloc (Nat.le_trans B0.out.size hb.size) _
    obtain ⟨w3, hw3⟩ : ∃ w3, w1.alloc (.cells #[.string (tx p), .string r1, .slice RA rm rm, .int .i64 r3, .bool r4] 98) = w3 := ⟨_, rfl⟩
    rw [hw3] at hal BB
    have f0 : w3.cell? ⟨w1.heap.size, 0, none⟩ = some (.string (tx p)) := cell_in hal 0
    have B3 := Lib.hid BB
    clear BB hal hb e0 e1 e2 e3 e4 e5 e6 e7 e8 e9
    obtain ⟨e0, e1, e2, e3, e4, e5, e6, e7, e8, e9⟩ := ten_cells (kept_box HA.out.2.1 B3.out)
    go_wp2_with fail
    clear hw3 f0
    refine (rows_v aa an ac args w3 (HA.out.2.2.1.args.below B3.out) HA.out.2.2.2.args HL.out.2.2.2.2.2.1).mono ?_
    rintro e w4 ⟨A1, c1, rfl, ho, hb⟩
    rw [HL.out.2.2.2.1] at ho
    have H4 := Lib.hid (And.intro (B3.out.trans (hb.mono B3.out.size)) (ho.mono B3.out.size))
    clear ho hb e0 e1 e2 e3 e4 e5 e6 e7 e8 e9
    obtain ⟨e0, e1, e2, e3, e4, e5, e6, e7, e8, e9⟩ := ten_cells (kept_box HA.out.2.1 H4.out.1)
    have a63 : an ≤ 9223372036854775807 := by have := HL.out.2.2.2.2.2.1; omega
    go_wp2_with fail
    clear e0 e1 e2 e3 e4 e5 e6 e7 e8 e9
    go_ret
    exact ⟨by rw [← HT.out]; rfl, HA.out.1.trans (H4.out.1.mono HA.out.1.size)⟩
set_option maxHeartbeats 4000000 in
theorem rins_18_z (dk dc dn dt : Int) (args : List Opn) (nm : ByteArray) (off : Int) (labels : List ByteArray) (cas : List Int) (aa : Option Addr) (an ac : Nat) (la : Option Addr) (ln lc : Nat) (ca : Option Addr) (cn cc : Nat) (t : List UInt8) (W : World) (hI : IsIns W ⟨18, ⟨dk, dc, dn, dt⟩, args, nm, off, labels, cas⟩ ⟨aa, an, ac, la, ln, lc, ca, cn, cc⟩) (hF : InsF ⟨18, ⟨dk, dc, dn, dt⟩, args, nm, off, labels, cas⟩) (hno : Opr.isOp 18 = true) (hz : (an : Int) > 0) (hne : ¬ args = []) (hoff : off = 0) (ho2 : (off != 0) = false) (ht : insT ⟨18, ⟨dk, dc, dn, dt⟩, args, nm, off, labels, cas⟩ = t) (hlen : t.length ≤ big) :
    Calls Tryd.prog 25 #[.agg #[.int .i64 18, .int .i64 dk, .int .i64 dc, .int .i64 dn, .int .i64 dt, .slice aa an ac, .string nm, .int .i64 off, .slice la ln lc, .slice ca cn cc]] W (SaysT t W) := by
  have hrest : restT ⟨18, ⟨dk, dc, dn, dt⟩, args, nm, off, labels, cas⟩ = (takenT args [] ++ offT args off) := by simp [restT]
  obtain ⟨D, hD⟩ : ∃ D, dstT ⟨dk, dc, dn, dt⟩ = D := ⟨_, rfl⟩
  obtain ⟨p, hp⟩ : ∃ p, opT 18 = p := ⟨_, rfl⟩
  obtain ⟨T1, hT1⟩ : ∃ T1, D ++ p = T1 := ⟨_, rfl⟩
  have t2 : T1 ++ (takenT args [] ++ offT args off) = t := by rw [← ht, ← hrest, ← hT1, ← hD, ← hp]; simp [insT]
  have n1 : T1.length ≤ big := by rw [← t2, List.length_append] at hlen; omega
  have nD : D.length ≤ big := by rw [← hT1, List.length_append] at n1; omega
  have s1 := add_tx D p T1 hT1 n1
  have ha1 := hI.args.1
  have hl1 := hI.labels.1
  have hc1 := hI.cases.1
  dsimp only at ha1 hl1 hc1
  have han : an ≤ 1048576 := by have := hF.an; dsimp only at this; omega
  have hln : ln ≤ 1048576 := by have := hF.ln; dsimp only at this; omega
  have hcn : cn ≤ 1048576 := by have := hF.cn; dsimp only at this; omega
  have hnm : nm.size ≤ 20000000 := by have := hF.nm; dsimp only at this; omega
  obtain ⟨L, hL⟩ : ∃ L, args.map opnT = L := ⟨_, rfl⟩
  have hLn : L.length = an := by rw [← hL, List.length_map]; exact ha1
  obtain ⟨J, hJ⟩ : ∃ J, rowT L = J := ⟨_, rfl⟩
  obtain ⟨T2, hT2⟩ : ∃ T2, T1 ++ [32] = T2 := ⟨_, rfl⟩
  have hfin : T2 ++ J = t := by rw [← t2, ← hT2]; simp [takenT, offT, hne, hL, hJ, txs, hoff]
  have mfin := hlen
  rw [← hfin] at mfin
  have mT2 : T2.length ≤ big := by rw [List.length_append] at mfin; omega
  have s2 : ∀ W : World, (Op.stringOp .add (tx T1) ⟨#[32]⟩).run Tryd.prog W = .ok (.string (tx T2)) W := add_tx T1 [32] T2 hT2 mT2
  have s3 : ∀ W : World, (Op.stringOp .add (tx T2) (tx J)).run Tryd.prog W = .ok (.string (tx t)) W := add_tx T2 J t hfin hlen
  have nJ : J.length ≤ big := by rw [← hfin, List.length_append] at hlen; omega
  have HJ := Lib.hid (And.intro hJ nJ)
  have BA : Below W.heap.size W (W.alloc (.cells #[.int .i64 18, .int .i64 dk, .int .i64 dc, .int .i64 dn, .int .i64 dt, .slice aa an ac, .string nm, .int .i64 off, .slice la ln lc, .slice ca cn cc] 57)) := (Below.refl _ W).alloc (Nat.le_refl _) _
  have hal := heap_alloc_new W (.cells #[.int .i64 18, .int .i64 dk, .int .i64 dc, .int .i64 dn, .int .i64 dt, .slice aa an ac, .string nm, .int .i64 off, .slice la ln lc, .slice ca cn cc] 57)
  have HI := hI.below BA
  obtain ⟨wa, hwa⟩ : ∃ wa, W.alloc (.cells #[.int .i64 18, .int .i64 dk, .int .i64 dc, .int .i64 dn, .int .i64 dt, .slice aa an ac, .string nm, .int .i64 off, .slice la ln lc, .slice ca cn cc] 57) = wa := ⟨_, rfl⟩
  rw [hwa] at BA hal HI
  obtain ⟨e0, e1, e2, e3, e4, e5, e6, e7, e8, e9⟩ := ten_cells hal
  have HA := Lib.hid (And.intro BA (And.intro hal (And.intro HI hF)))
  have HD := Lib.hid (And.intro hD (And.intro nD hp))
  have HL := Lib.hid (And.intro ha1 (And.intro hl1 (And.intro hc1 (And.intro hL (And.intro hLn (And.intro han (And.intro hln (And.intro hcn hnm))))))))
  clear BA hal HI hI hF hD nD hT1 n1 ht hlen t2 hrest hp ha1 hl1 hc1 hL hLn han hln hcn hnm hfin mfin hT2 mT2 nJ hJ hne hoff
  go_enter Tryd.func25, Tryd.ntmps25
  go_upto_if 12 with fail
  go_cut [3] from 12 to 16 (fun s3 wx => s3 = .string (tx D) ∧ Hid (Below wa.heap.size wa wx))
  case first =>
    clear hwa
    by_cases hd : dk = 0
    · have hd1 : (dk != 0) = false := by simp [hd]
      have hDe : D = [] := by rw [← HD.out.1, hd]; rfl
      have HDe := Lib.hid hDe
      clear hd hDe
      go_wp2_with fail
      go_meet
      case rel => exact ⟨by rw [HDe.out]; rfl, Below.refl _ _⟩
    · have hd1 : (dk != 0) = true := by simp [hd]
      obtain ⟨x, hx⟩ : ∃ x, opnT ⟨dk, dc, dn, dt⟩ = x := ⟨_, rfl⟩
      have hDe : x ++ [32, 61, 32] = D := by rw [← HD.out.1, ← hx]; simp [dstT, hd]
      have s0 : ∀ W : World, (Op.stringOp .add (tx x) ⟨#[32, 61, 32]⟩).run Tryd.prog W = .ok (.string (tx D)) W := add_tx x [32, 61, 32] D hDe HD.out.2.1
      have HX := Lib.hid hx
      clear hd hDe hx
      go_wp2_with fail
      refine (rop_v ⟨dk, dc, dn, dt⟩ x wa HA.out.2.2.2.dst HX.out).mono ?_
      rintro e w1 ⟨rfl, hb⟩
      have H1 := Lib.hid hb
      clear hb
      go_wp2_with fail
      go_meet
      case rel => exact ⟨rfl, H1.out⟩
  case rest =>
    obtain ⟨rfl, hcw⟩ := hcut
    have B0 := Lib.hid hcw.out
    clear hcw hwa e0 e1 e2 e3 e4 e5 e6 e7 e8 e9
    obtain ⟨e0, e1, e2, e3, e4, e5, e6, e7, e8, e9⟩ := ten_cells (kept_box HA.out.2.1 B0.out)
    go_wp2_with fail
    refine (rfind_t 18 p HD.out.2.2 hno wc).mono ?_
    rintro e w1 ⟨r1, RA, rm, r3, r4, rfl, hb⟩
    have hal := heap_alloc_new w1 (.cells #[.string (tx p), .string r1, .slice RA rm rm, .int .i64 r3, .bool r4] 98)
    have BB : Below wa.heap.size wa (w1.alloc (.cells #[.string (tx p), .string r1, .slice RA rm rm, .int .i64 r3, .bool r4] 98)) := (B0.out.trans (hb.mono B0.out.size)).alloc (Nat.le_trans B0.out.size hb.size) _
    obtain ⟨w3, hw3⟩ : ∃ w3, w1.alloc (.cells #[.string (tx p), .string r1, .slice RA rm rm, .int .i64 r3, .bool r4] 98) = w3 := ⟨_, rfl⟩
    rw [hw3] at hal BB
    have f0 : w3.cell? ⟨w1.heap.size, 0, none⟩ = some (.string (tx p)) := cell_in hal 0
    have B3 := Lib.hid BB
    clear BB hal hb e0 e1 e2 e3 e4 e5 e6 e7 e8 e9
    obtain ⟨e0, e1, e2, e3, e4, e5, e6, e7, e8, e9⟩ := ten_cells (kept_box HA.out.2.1 B3.out)
    go_wp2_with fail
    clear hw3 f0
    refine (rows_v aa an ac args w3 (HA.out.2.2.1.args.below B3.out) HA.out.2.2.2.args HL.out.2.2.2.2.2.1).mono ?_
    rintro e w4 ⟨A1, c1, rfl, ho, hb⟩
    rw [HL.out.2.2.2.1] at ho
    have H4 := Lib.hid (And.intro (B3.out.trans (hb.mono B3.out.size)) (ho.mono B3.out.size))
    clear ho hb e0 e1 e2 e3 e4 e5 e6 e7 e8 e9
    obtain ⟨e0, e1, e2, e3, e4, e5, e6, e7, e8, e9⟩ := ten_cells (kept_box HA.out.2.1 H4.out.1)
    have a63 : an ≤ 9223372036854775807 := by have := HL.out.2.2.2.2.2.1; omega
    go_wp2_with fail
    clear e0 e1 e2 e3 e4 e5 e6 e7 e8 e9
    refine (join_v A1 an c1 L J w4 (H4.out.2.strs a63) HJ.out.1 HJ.out.2).mono ?_
    rintro e w5 ⟨rfl, hb⟩
    have H5 := Lib.hid (H4.out.1.trans (hb.mono H4.out.1.size))
    clear hb
    obtain ⟨e0, e1, e2, e3, e4, e5, e6, e7, e8, e9⟩ := ten_cells (kept_box HA.out.2.1 H5.out)
    go_wp2_with fail
    clear e0 e1 e2 e3 e4 e5 e6 e7 e8 e9
    go_ret
    exact ⟨rfl, HA.out.1.trans (H5.out.mono HA.out.1.size)⟩
set_option maxHeartbeats 4000000 in
theorem rins_no_0f (op : Int) (dk dc dn dt : Int) (args : List Opn) (nm : ByteArray) (off : Int) (labels : List ByteArray) (cas : List Int) (aa : Option Addr) (an ac : Nat) (la : Option Addr) (ln lc : Nat) (ca : Option Addr) (cn cc : Nat) (t : List UInt8) (W : World) (hI : IsIns W ⟨op, ⟨dk, dc, dn, dt⟩, args, nm, off, labels, cas⟩ ⟨aa, an, ac, la, ln, lc, ca, cn, cc⟩) (hF : InsF ⟨op, ⟨dk, dc, dn, dt⟩, args, nm, off, labels, cas⟩) (hno : Opr.isOp op = true) (hz : ¬ (an : Int) > 0) (harg : args = []) (n19 : ¬ op = 19) (d19 : (op == 19) = false) (n17 : ¬ op = 17) (d17 : (op == 17) = false) (n18 : ¬ op = 18) (d18 : (op == 18) = false) (n20 : ¬ op = 20) (d20 : (op == 20) = false) (n21 : ¬ op = 21) (d21 : (op == 21) = false) (n22 : ¬ op = 22) (d22 : (op == 22) = false) (d22n : (op != 22) = true) (ht : insT ⟨op, ⟨dk, dc, dn, dt⟩, args, nm, off, labels, cas⟩ = t) (hlen : t.length ≤ big) :
    Calls Tryd.prog 25 #[.agg #[.int .i64 op, .int .i64 dk, .int .i64 dc, .int .i64 dn, .int .i64 dt, .slice aa an ac, .string nm, .int .i64 off, .slice la ln lc, .slice ca cn cc]] W (SaysT t W) := by
  have hrest : restT ⟨op, ⟨dk, dc, dn, dt⟩, args, nm, off, labels, cas⟩ = takenT args [] := by simp [restT, n19, n17, n18, n20, n21, n22]
  obtain ⟨D, hD⟩ : ∃ D, dstT ⟨dk, dc, dn, dt⟩ = D := ⟨_, rfl⟩
  obtain ⟨p, hp⟩ : ∃ p, opT op = p := ⟨_, rfl⟩
  obtain ⟨T1, hT1⟩ : ∃ T1, D ++ p = T1 := ⟨_, rfl⟩
  have t2 : T1 ++ takenT args [] = t := by rw [← ht, ← hrest, ← hT1, ← hD, ← hp]; simp [insT]
  have n1 : T1.length ≤ big := by rw [← t2, List.length_append] at hlen; omega
  have nD : D.length ≤ big := by rw [← hT1, List.length_append] at n1; omega
  have s1 := add_tx D p T1 hT1 n1
  have ha1 := hI.args.1
  have hl1 := hI.labels.1
  have hc1 := hI.cases.1
  dsimp only at ha1 hl1 hc1
  have han : an ≤ 1048576 := by have := hF.an; dsimp only at this; omega
  have hln : ln ≤ 1048576 := by have := hF.ln; dsimp only at this; omega
  have hcn : cn ≤ 1048576 := by have := hF.cn; dsimp only at this; omega
  have hnm : nm.size ≤ 20000000 := by have := hF.nm; dsimp only at this; omega
  obtain ⟨L, hL⟩ : ∃ L, args.map opnT = L := ⟨_, rfl⟩
  have hLn : L.length = an := by rw [← hL, List.length_map]; exact ha1
  have hfin : T1 = t := by rw [← t2, harg]; simp [takenT, offT]
  have HT := Lib.hid hfin
  have BA : Below W.heap.size W (W.alloc (.cells #[.int .i64 op, .int .i64 dk, .int .i64 dc, .int .i64 dn, .int .i64 dt, .slice aa an ac, .string nm, .int .i64 off, .slice la ln lc, .slice ca cn cc] 57)) := (Below.refl _ W).alloc (Nat.le_refl _) _
  have hal := heap_alloc_new W (.cells #[.int .i64 op, .int .i64 dk, .int .i64 dc, .int .i64 dn, .int .i64 dt, .slice aa an ac, .string nm, .int .i64 off, .slice la ln lc, .slice ca cn cc] 57)
  have HI := hI.below BA
  obtain ⟨wa, hwa⟩ : ∃ wa, W.alloc (.cells #[.int .i64 op, .int .i64 dk, .int .i64 dc, .int .i64 dn, .int .i64 dt, .slice aa an ac, .string nm, .int .i64 off, .slice la ln lc, .slice ca cn cc] 57) = wa := ⟨_, rfl⟩
  rw [hwa] at BA hal HI
  obtain ⟨e0, e1, e2, e3, e4, e5, e6, e7, e8, e9⟩ := ten_cells hal
  have HA := Lib.hid (And.intro BA (And.intro hal (And.intro HI hF)))
  have HD := Lib.hid (And.intro hD (And.intro nD hp))
  have HL := Lib.hid (And.intro ha1 (And.intro hl1 (And.intro hc1 (And.intro hL (And.intro hLn (And.intro han (And.intro hln (And.intro hcn hnm))))))))
  clear BA hal HI hI hF hD nD hT1 n1 ht hlen t2 hrest hp ha1 hl1 hc1 hL hLn han hln hcn hnm hfin harg
  go_enter Tryd.func25, Tryd.ntmps25
  go_upto_if 12 with fail
  go_cut [3] from 12 to 16 (fun s3 wx => s3 = .string (tx D) ∧ Hid (Below wa.heap.size wa wx))
  case first =>
    clear hwa
    by_cases hd : dk = 0
    · have hd1 : (dk != 0) = false := by simp [hd]
      have hDe : D = [] := by rw [← HD.out.1, hd]; rfl
      have HDe := Lib.hid hDe
      clear hd hDe
      go_wp2_with fail
      go_meet
      case rel => exact ⟨by rw [HDe.out]; rfl, Below.refl _ _⟩
    · have hd1 : (dk != 0) = true := by simp [hd]
      obtain ⟨x, hx⟩ : ∃ x, opnT ⟨dk, dc, dn, dt⟩ = x := ⟨_, rfl⟩
      have hDe : x ++ [32, 61, 32] = D := by rw [← HD.out.1, ← hx]; simp [dstT, hd]
      have s0 : ∀ W : World, (Op.stringOp .add (tx x) ⟨#[32, 61, 32]⟩).run Tryd.prog W = .ok (.string (tx D)) W := add_tx x [32, 61, 32] D hDe HD.out.2.1
      have HX := Lib.hid hx
      clear hd hDe hx
      go_wp2_with fail
      refine (rop_v ⟨dk, dc, dn, dt⟩ x wa HA.out.2.2.2.dst HX.out).mono ?_
      rintro e w1 ⟨rfl, hb⟩
      have H1 := Lib.hid hb
      clear hb
      go_wp2_with fail
      go_meet
      case rel => exact ⟨rfl, H1.out⟩
  case rest =>
    obtain ⟨rfl, hcw⟩ := hcut
    have B0 := Lib.hid hcw.out
    clear hcw hwa e0 e1 e2 e3 e4 e5 e6 e7 e8 e9
    obtain ⟨e0, e1, e2, e3, e4, e5, e6, e7, e8, e9⟩ := ten_cells (kept_box HA.out.2.1 B0.out)
    go_wp2_with fail
    refine (rfind_t op p HD.out.2.2 hno wc).mono ?_
    rintro e w1 ⟨r1, RA, rm, r3, r4, rfl, hb⟩
    have hal := heap_alloc_new w1 (.cells #[.string (tx p), .string r1, .slice RA rm rm, .int .i64 r3, .bool r4] 98)
    have BB : Below wa.heap.size wa (w1.alloc (.cells #[.string (tx p), .string r1, .slice RA rm rm, .int .i64 r3, .bool r4] 98)) := (B0.out.trans (hb.mono B0.out.size)).alloc (Nat.le_trans B0.out.size hb.size) _
    obtain ⟨w3, hw3⟩ : ∃ w3, w1.alloc (.cells #[.string (tx p), .string r1, .slice RA rm rm, .int .i64 r3, .bool r4] 98) = w3 := ⟨_, rfl⟩
    rw [hw3] at hal BB
    have f0 : w3.cell? ⟨w1.heap.size, 0, none⟩ = some (.string (tx p)) := cell_in hal 0
    have B3 := Lib.hid BB
    clear BB hal hb e0 e1 e2 e3 e4 e5 e6 e7 e8 e9
    obtain ⟨e0, e1, e2, e3, e4, e5, e6, e7, e8, e9⟩ := ten_cells (kept_box HA.out.2.1 B3.out)
    go_wp2_with fail
    clear hw3 f0
    refine (rows_v aa an ac args w3 (HA.out.2.2.1.args.below B3.out) HA.out.2.2.2.args HL.out.2.2.2.2.2.1).mono ?_
    rintro e w4 ⟨A1, c1, rfl, ho, hb⟩
    rw [HL.out.2.2.2.1] at ho
    have H4 := Lib.hid (And.intro (B3.out.trans (hb.mono B3.out.size)) (ho.mono B3.out.size))
    clear ho hb e0 e1 e2 e3 e4 e5 e6 e7 e8 e9
    obtain ⟨e0, e1, e2, e3, e4, e5, e6, e7, e8, e9⟩ := ten_cells (kept_box HA.out.2.1 H4.out.1)
    have a63 : an ≤ 9223372036854775807 := by have := HL.out.2.2.2.2.2.1; omega
    go_wp2_with fail
    clear e0 e1 e2 e3 e4 e5 e6 e7 e8 e9
    go_ret
    exact ⟨by rw [← HT.out]; rfl, HA.out.1.trans (H4.out.1.mono HA.out.1.size)⟩
set_option maxHeartbeats 4000000 in
theorem rins_no_jf (op : Int) (dk dc dn dt : Int) (args : List Opn) (nm : ByteArray) (off : Int) (labels : List ByteArray) (cas : List Int) (aa : Option Addr) (an ac : Nat) (la : Option Addr) (ln lc : Nat) (ca : Option Addr) (cn cc : Nat) (t : List UInt8) (W : World) (hI : IsIns W ⟨op, ⟨dk, dc, dn, dt⟩, args, nm, off, labels, cas⟩ ⟨aa, an, ac, la, ln, lc, ca, cn, cc⟩) (hF : InsF ⟨op, ⟨dk, dc, dn, dt⟩, args, nm, off, labels, cas⟩) (hno : Opr.isOp op = true) (hz : (an : Int) > 0) (hne : ¬ args = []) (n19 : ¬ op = 19) (d19 : (op == 19) = false) (n17 : ¬ op = 17) (d17 : (op == 17) = false) (n18 : ¬ op = 18) (d18 : (op == 18) = false) (n20 : ¬ op = 20) (d20 : (op == 20) = false) (n21 : ¬ op = 21) (d21 : (op == 21) = false) (n22 : ¬ op = 22) (d22 : (op == 22) = false) (d22n : (op != 22) = true) (ht : insT ⟨op, ⟨dk, dc, dn, dt⟩, args, nm, off, labels, cas⟩ = t) (hlen : t.length ≤ big) :
    Calls Tryd.prog 25 #[.agg #[.int .i64 op, .int .i64 dk, .int .i64 dc, .int .i64 dn, .int .i64 dt, .slice aa an ac, .string nm, .int .i64 off, .slice la ln lc, .slice ca cn cc]] W (SaysT t W) := by
  have hrest : restT ⟨op, ⟨dk, dc, dn, dt⟩, args, nm, off, labels, cas⟩ = takenT args [] := by simp [restT, n19, n17, n18, n20, n21, n22]
  obtain ⟨D, hD⟩ : ∃ D, dstT ⟨dk, dc, dn, dt⟩ = D := ⟨_, rfl⟩
  obtain ⟨p, hp⟩ : ∃ p, opT op = p := ⟨_, rfl⟩
  obtain ⟨T1, hT1⟩ : ∃ T1, D ++ p = T1 := ⟨_, rfl⟩
  have t2 : T1 ++ takenT args [] = t := by rw [← ht, ← hrest, ← hT1, ← hD, ← hp]; simp [insT]
  have n1 : T1.length ≤ big := by rw [← t2, List.length_append] at hlen; omega
  have nD : D.length ≤ big := by rw [← hT1, List.length_append] at n1; omega
  have s1 := add_tx D p T1 hT1 n1
  have ha1 := hI.args.1
  have hl1 := hI.labels.1
  have hc1 := hI.cases.1
  dsimp only at ha1 hl1 hc1
  have han : an ≤ 1048576 := by have := hF.an; dsimp only at this; omega
  have hln : ln ≤ 1048576 := by have := hF.ln; dsimp only at this; omega
  have hcn : cn ≤ 1048576 := by have := hF.cn; dsimp only at this; omega
  have hnm : nm.size ≤ 20000000 := by have := hF.nm; dsimp only at this; omega
  obtain ⟨L, hL⟩ : ∃ L, args.map opnT = L := ⟨_, rfl⟩
  have hLn : L.length = an := by rw [← hL, List.length_map]; exact ha1
  obtain ⟨J, hJ⟩ : ∃ J, rowT L = J := ⟨_, rfl⟩
  obtain ⟨T2, hT2⟩ : ∃ T2, T1 ++ [32] = T2 := ⟨_, rfl⟩
  have hfin : T2 ++ J = t := by rw [← t2, ← hT2]; simp [takenT, offT, hne, hL, hJ, txs]
  have mfin := hlen
  rw [← hfin] at mfin
  have mT2 : T2.length ≤ big := by rw [List.length_append] at mfin; omega
  have s2 : ∀ W : World, (Op.stringOp .add (tx T1) ⟨#[32]⟩).run Tryd.prog W = .ok (.string (tx T2)) W := add_tx T1 [32] T2 hT2 mT2
  have s3 : ∀ W : World, (Op.stringOp .add (tx T2) (tx J)).run Tryd.prog W = .ok (.string (tx t)) W := add_tx T2 J t hfin hlen
  have nJ : J.length ≤ big := by rw [← hfin, List.length_append] at hlen; omega
  have HJ := Lib.hid (And.intro hJ nJ)
  have BA : Below W.heap.size W (W.alloc (.cells #[.int .i64 op, .int .i64 dk, .int .i64 dc, .int .i64 dn, .int .i64 dt, .slice aa an ac, .string nm, .int .i64 off, .slice la ln lc, .slice ca cn cc] 57)) := (Below.refl _ W).alloc (Nat.le_refl _) _
  have hal := heap_alloc_new W (.cells #[.int .i64 op, .int .i64 dk, .int .i64 dc, .int .i64 dn, .int .i64 dt, .slice aa an ac, .string nm, .int .i64 off, .slice la ln lc, .slice ca cn cc] 57)
  have HI := hI.below BA
  obtain ⟨wa, hwa⟩ : ∃ wa, W.alloc (.cells #[.int .i64 op, .int .i64 dk, .int .i64 dc, .int .i64 dn, .int .i64 dt, .slice aa an ac, .string nm, .int .i64 off, .slice la ln lc, .slice ca cn cc] 57) = wa := ⟨_, rfl⟩
  rw [hwa] at BA hal HI
  obtain ⟨e0, e1, e2, e3, e4, e5, e6, e7, e8, e9⟩ := ten_cells hal
  have HA := Lib.hid (And.intro BA (And.intro hal (And.intro HI hF)))
  have HD := Lib.hid (And.intro hD (And.intro nD hp))
  have HL := Lib.hid (And.intro ha1 (And.intro hl1 (And.intro hc1 (And.intro hL (And.intro hLn (And.intro han (And.intro hln (And.intro hcn hnm))))))))
  clear BA hal HI hI hF hD nD hT1 n1 ht hlen t2 hrest hp ha1 hl1 hc1 hL hLn han hln hcn hnm hfin mfin hT2 mT2 nJ hJ hne
  go_enter Tryd.func25, Tryd.ntmps25
  go_upto_if 12 with fail
  go_cut [3] from 12 to 16 (fun s3 wx => s3 = .string (tx D) ∧ Hid (Below wa.heap.size wa wx))
  case first =>
    clear hwa
    by_cases hd : dk = 0
    · have hd1 : (dk != 0) = false := by simp [hd]
      have hDe : D = [] := by rw [← HD.out.1, hd]; rfl
      have HDe := Lib.hid hDe
      clear hd hDe
      go_wp2_with fail
      go_meet
      case rel => exact ⟨by rw [HDe.out]; rfl, Below.refl _ _⟩
    · have hd1 : (dk != 0) = true := by simp [hd]
      obtain ⟨x, hx⟩ : ∃ x, opnT ⟨dk, dc, dn, dt⟩ = x := ⟨_, rfl⟩
      have hDe : x ++ [32, 61, 32] = D := by rw [← HD.out.1, ← hx]; simp [dstT, hd]
      have s0 : ∀ W : World, (Op.stringOp .add (tx x) ⟨#[32, 61, 32]⟩).run Tryd.prog W = .ok (.string (tx D)) W := add_tx x [32, 61, 32] D hDe HD.out.2.1
      have HX := Lib.hid hx
      clear hd hDe hx
      go_wp2_with fail
      refine (rop_v ⟨dk, dc, dn, dt⟩ x wa HA.out.2.2.2.dst HX.out).mono ?_
      rintro e w1 ⟨rfl, hb⟩
      have H1 := Lib.hid hb
      clear hb
      go_wp2_with fail
      go_meet
      case rel => exact ⟨rfl, H1.out⟩
  case rest =>
    obtain ⟨rfl, hcw⟩ := hcut
    have B0 := Lib.hid hcw.out
    clear hcw hwa e0 e1 e2 e3 e4 e5 e6 e7 e8 e9
    obtain ⟨e0, e1, e2, e3, e4, e5, e6, e7, e8, e9⟩ := ten_cells (kept_box HA.out.2.1 B0.out)
    go_wp2_with fail
    refine (rfind_t op p HD.out.2.2 hno wc).mono ?_
    rintro e w1 ⟨r1, RA, rm, r3, r4, rfl, hb⟩
    have hal := heap_alloc_new w1 (.cells #[.string (tx p), .string r1, .slice RA rm rm, .int .i64 r3, .bool r4] 98)
    have BB : Below wa.heap.size wa (w1.alloc (.cells #[.string (tx p), .string r1, .slice RA rm rm, .int .i64 r3, .bool r4] 98)) := (B0.out.trans (hb.mono B0.out.size)).alloc (Nat.le_trans B0.out.size hb.size) _
    obtain ⟨w3, hw3⟩ : ∃ w3, w1.alloc (.cells #[.string (tx p), .string r1, .slice RA rm rm, .int .i64 r3, .bool r4] 98) = w3 := ⟨_, rfl⟩
    rw [hw3] at hal BB
    have f0 : w3.cell? ⟨w1.heap.size, 0, none⟩ = some (.string (tx p)) := cell_in hal 0
    have B3 := Lib.hid BB
    clear BB hal hb e0 e1 e2 e3 e4 e5 e6 e7 e8 e9
    obtain ⟨e0, e1, e2, e3, e4, e5, e6, e7, e8, e9⟩ := ten_cells (kept_box HA.out.2.1 B3.out)
    go_wp2_with fail
    clear hw3 f0
    refine (rows_v aa an ac args w3 (HA.out.2.2.1.args.below B3.out) HA.out.2.2.2.args HL.out.2.2.2.2.2.1).mono ?_
    rintro e w4 ⟨A1, c1, rfl, ho, hb⟩
    rw [HL.out.2.2.2.1] at ho
    have H4 := Lib.hid (And.intro (B3.out.trans (hb.mono B3.out.size)) (ho.mono B3.out.size))
    clear ho hb e0 e1 e2 e3 e4 e5 e6 e7 e8 e9
    obtain ⟨e0, e1, e2, e3, e4, e5, e6, e7, e8, e9⟩ := ten_cells (kept_box HA.out.2.1 H4.out.1)
    have a63 : an ≤ 9223372036854775807 := by have := HL.out.2.2.2.2.2.1; omega
    go_wp2_with fail
    clear e0 e1 e2 e3 e4 e5 e6 e7 e8 e9
    refine (join_v A1 an c1 L J w4 (H4.out.2.strs a63) HJ.out.1 HJ.out.2).mono ?_
    rintro e w5 ⟨rfl, hb⟩
    have H5 := Lib.hid (H4.out.1.trans (hb.mono H4.out.1.size))
    clear hb
    obtain ⟨e0, e1, e2, e3, e4, e5, e6, e7, e8, e9⟩ := ten_cells (kept_box HA.out.2.1 H5.out)
    go_wp2_with fail
    clear e0 e1 e2 e3 e4 e5 e6 e7 e8 e9
    go_ret
    exact ⟨rfl, HA.out.1.trans (H5.out.mono HA.out.1.size)⟩
set_option maxHeartbeats 4000000 in
theorem rins_no_0n (op : Int) (dk dc dn dt : Int) (args : List Opn) (nm : ByteArray) (off : Int) (labels : List ByteArray) (cas : List Int) (aa : Option Addr) (an ac : Nat) (la : Option Addr) (ln lc : Nat) (ca : Option Addr) (cn cc : Nat) (t : List UInt8) (W : World) (hI : IsIns W ⟨op, ⟨dk, dc, dn, dt⟩, args, nm, off, labels, cas⟩ ⟨aa, an, ac, la, ln, lc, ca, cn, cc⟩) (hF : InsF ⟨op, ⟨dk, dc, dn, dt⟩, args, nm, off, labels, cas⟩) (hno : Opr.isOp op = false) (hz : ¬ (an : Int) > 0) (harg : args = []) (n19 : ¬ op = 19) (d19 : (op == 19) = false) (n17 : ¬ op = 17) (d17 : (op == 17) = false) (n18 : ¬ op = 18) (d18 : (op == 18) = false) (n20 : ¬ op = 20) (d20 : (op == 20) = false) (n21 : ¬ op = 21) (d21 : (op == 21) = false) (n22 : ¬ op = 22) (d22 : (op == 22) = false) (d22n : (op != 22) = true) (ht : insT ⟨op, ⟨dk, dc, dn, dt⟩, args, nm, off, labels, cas⟩ = t) (hlen : t.length ≤ big) :
    Calls Tryd.prog 25 #[.agg #[.int .i64 op, .int .i64 dk, .int .i64 dc, .int .i64 dn, .int .i64 dt, .slice aa an ac, .string nm, .int .i64 off, .slice la ln lc, .slice ca cn cc]] W (SaysT t W) := by
  have hrest : restT ⟨op, ⟨dk, dc, dn, dt⟩, args, nm, off, labels, cas⟩ = takenT args [] := by simp [restT, n19, n17, n18, n20, n21, n22]
  obtain ⟨D, hD⟩ : ∃ D, dstT ⟨dk, dc, dn, dt⟩ = D := ⟨_, rfl⟩
  obtain ⟨p, hp⟩ : ∃ p, opT op = p := ⟨_, rfl⟩
  obtain ⟨T1, hT1⟩ : ∃ T1, D ++ p = T1 := ⟨_, rfl⟩
  have t2 : T1 ++ takenT args [] = t := by rw [← ht, ← hrest, ← hT1, ← hD, ← hp]; simp [insT]
  have n1 : T1.length ≤ big := by rw [← t2, List.length_append] at hlen; omega
  have nD : D.length ≤ big := by rw [← hT1, List.length_append] at n1; omega
  have hp63 : p = [63] := by rw [← hp]; unfold opT; rw [hno]; rfl
  have s1 : ∀ W : World, (Op.stringOp .add (tx D) ⟨#[63]⟩).run Tryd.prog W = .ok (.string (tx T1)) W := add_tx D [63] T1 (by rw [← hT1, hp63]) n1
  have ha1 := hI.args.1
  have hl1 := hI.labels.1
  have hc1 := hI.cases.1
  dsimp only at ha1 hl1 hc1
  have han : an ≤ 1048576 := by have := hF.an; dsimp only at this; omega
  have hln : ln ≤ 1048576 := by have := hF.ln; dsimp only at this; omega
  have hcn : cn ≤ 1048576 := by have := hF.cn; dsimp only at this; omega
  have hnm : nm.size ≤ 20000000 := by have := hF.nm; dsimp only at this; omega
  obtain ⟨L, hL⟩ : ∃ L, args.map opnT = L := ⟨_, rfl⟩
  have hLn : L.length = an := by rw [← hL, List.length_map]; exact ha1
  have hfin : T1 = t := by rw [← t2, harg]; simp [takenT, offT]
  have HT := Lib.hid hfin
  have BA : Below W.heap.size W (W.alloc (.cells #[.int .i64 op, .int .i64 dk, .int .i64 dc, .int .i64 dn, .int .i64 dt, .slice aa an ac, .string nm, .int .i64 off, .slice la ln lc, .slice ca cn cc] 57)) := (Below.refl _ W).alloc (Nat.le_refl _) _
  have hal := heap_alloc_new W (.cells #[.int .i64 op, .int .i64 dk, .int .i64 dc, .int .i64 dn, .int .i64 dt, .slice aa an ac, .string nm, .int .i64 off, .slice la ln lc, .slice ca cn cc] 57)
  have HI := hI.below BA
  obtain ⟨wa, hwa⟩ : ∃ wa, W.alloc (.cells #[.int .i64 op, .int .i64 dk, .int .i64 dc, .int .i64 dn, .int .i64 dt, .slice aa an ac, .string nm, .int .i64 off, .slice la ln lc, .slice ca cn cc] 57) = wa := ⟨_, rfl⟩
  rw [hwa] at BA hal HI
  obtain ⟨e0, e1, e2, e3, e4, e5, e6, e7, e8, e9⟩ := ten_cells hal
  have HA := Lib.hid (And.intro BA (And.intro hal (And.intro HI hF)))
  have HD := Lib.hid (And.intro hD (And.intro nD hp))
  have HL := Lib.hid (And.intro ha1 (And.intro hl1 (And.intro hc1 (And.intro hL (And.intro hLn (And.intro han (And.intro hln (And.intro hcn hnm))))))))
  clear BA hal HI hI hF hD nD hT1 n1 ht hlen t2 hrest hp ha1 hl1 hc1 hL hLn han hln hcn hnm hp63 hfin harg
  go_enter Tryd.func25, Tryd.ntmps25
  go_upto_if 12 with fail
  go_cut [3] from 12 to 16 (fun s3 wx => s3 = .string (tx D) ∧ Hid (Below wa.heap.size wa wx))
  case first =>
    clear hwa
    by_cases hd : dk = 0
    · have hd1 : (dk != 0) = false := by simp [hd]
      have hDe : D = [] := by rw [← HD.out.1, hd]; rfl
      have HDe := Lib.hid hDe
      clear hd hDe
      go_wp2_with fail
      go_meet
      case rel => exact ⟨by rw [HDe.out]; rfl, Below.refl _ _⟩
    · have hd1 : (dk != 0) = true := by simp [hd]
      obtain ⟨x, hx⟩ : ∃ x, opnT ⟨dk, dc, dn, dt⟩ = x := ⟨_, rfl⟩
      have hDe : x ++ [32, 61, 32] = D := by rw [← HD.out.1, ← hx]; simp [dstT, hd]
      have s0 : ∀ W : World, (Op.stringOp .add (tx x) ⟨#[32, 61, 32]⟩).run Tryd.prog W = .ok (.string (tx D)) W := add_tx x [32, 61, 32] D hDe HD.out.2.1
      have HX := Lib.hid hx
      clear hd hDe hx
      go_wp2_with fail
      refine (rop_v ⟨dk, dc, dn, dt⟩ x wa HA.out.2.2.2.dst HX.out).mono ?_
      rintro e w1 ⟨rfl, hb⟩
      have H1 := Lib.hid hb
      clear hb
      go_wp2_with fail
      go_meet
      case rel => exact ⟨rfl, H1.out⟩
  case rest =>
    obtain ⟨rfl, hcw⟩ := hcut
    have B0 := Lib.hid hcw.out
    clear hcw hwa e0 e1 e2 e3 e4 e5 e6 e7 e8 e9
    obtain ⟨e0, e1, e2, e3, e4, e5, e6, e7, e8, e9⟩ := ten_cells (kept_box HA.out.2.1 B0.out)
    go_wp2_with fail
    refine (rfind_n op hno wc).mono ?_
    rintro e w1 ⟨r0, r1, RA, rm, r3, r4, rfl, hb⟩
    have hal := heap_alloc_new w1 (.cells #[.string r0, .string r1, .slice RA rm rm, .int .i64 r3, .bool r4] 98)
    have BB : Below wa.heap.size wa (w1.alloc (.cells #[.string r0, .string r1, .slice RA rm rm, .int .i64 r3, .bool r4] 98)) := (B0.out.trans (hb.mono B0.out.size)).alloc (Nat.le_trans B0.out.size hb.size) _
    obtain ⟨w2, hw2⟩ : ∃ w2, w1.alloc (.cells #[.string r0, .string r1, .slice RA rm rm, .int .i64 r3, .bool r4] 98) = w2 := ⟨_, rfl⟩
    rw [hw2] at hal BB
    have z0 : w2.frozen? ⟨w1.heap.size, 0, none⟩ = false := Lib.frozen_of_heap hal 0
    have g0 : w2.cell? ⟨w1.heap.size, 0, none⟩ = some (.string r0) := cell_in hal 0
    have f0 : (w2.setCell ⟨w1.heap.size, 0, none⟩ (.string ⟨#[63]⟩)).cell? ⟨w1.heap.size, 0, none⟩ = some (.string ⟨#[63]⟩) := World.cell?_setCell_same _ _ _ g0
    have BC : Below wa.heap.size wa (w2.setCell ⟨w1.heap.size, 0, none⟩ (.string ⟨#[63]⟩)) := BB.setCell (p := ⟨w1.heap.size, 0, none⟩) (Nat.le_trans B0.out.size hb.size) _
    obtain ⟨w3, hw3⟩ : ∃ w3, w2.setCell ⟨w1.heap.size, 0, none⟩ (.string ⟨#[63]⟩) = w3 := ⟨_, rfl⟩
    rw [hw3] at f0 BC
    have B3 := Lib.hid BC
    clear BB BC hal hb e0 e1 e2 e3 e4 e5 e6 e7 e8 e9
    obtain ⟨e0, e1, e2, e3, e4, e5, e6, e7, e8, e9⟩ := ten_cells (kept_box HA.out.2.1 B3.out)
    go_wp2_with fail
    clear hw2 hw3 f0 z0 g0
    refine (rows_v aa an ac args w3 (HA.out.2.2.1.args.below B3.out) HA.out.2.2.2.args HL.out.2.2.2.2.2.1).mono ?_
    rintro e w4 ⟨A1, c1, rfl, ho, hb⟩
    rw [HL.out.2.2.2.1] at ho
    have H4 := Lib.hid (And.intro (B3.out.trans (hb.mono B3.out.size)) (ho.mono B3.out.size))
    clear ho hb e0 e1 e2 e3 e4 e5 e6 e7 e8 e9
    obtain ⟨e0, e1, e2, e3, e4, e5, e6, e7, e8, e9⟩ := ten_cells (kept_box HA.out.2.1 H4.out.1)
    have a63 : an ≤ 9223372036854775807 := by have := HL.out.2.2.2.2.2.1; omega
    go_wp2_with fail
    clear e0 e1 e2 e3 e4 e5 e6 e7 e8 e9
    go_ret
    exact ⟨by rw [← HT.out]; rfl, HA.out.1.trans (H4.out.1.mono HA.out.1.size)⟩
set_option maxHeartbeats 4000000 in
theorem rins_no_jn (op : Int) (dk dc dn dt : Int) (args : List Opn) (nm : ByteArray) (off : Int) (labels : List ByteArray) (cas : List Int) (aa : Option Addr) (an ac : Nat) (la : Option Addr) (ln lc : Nat) (ca : Option Addr) (cn cc : Nat) (t : List UInt8) (W : World) (hI : IsIns W ⟨op, ⟨dk, dc, dn, dt⟩, args, nm, off, labels, cas⟩ ⟨aa, an, ac, la, ln, lc, ca, cn, cc⟩) (hF : InsF ⟨op, ⟨dk, dc, dn, dt⟩, args, nm, off, labels, cas⟩) (hno : Opr.isOp op = false) (hz : (an : Int) > 0) (hne : ¬ args = []) (n19 : ¬ op = 19) (d19 : (op == 19) = false) (n17 : ¬ op = 17) (d17 : (op == 17) = false) (n18 : ¬ op = 18) (d18 : (op == 18) = false) (n20 : ¬ op = 20) (d20 : (op == 20) = false) (n21 : ¬ op = 21) (d21 : (op == 21) = false) (n22 : ¬ op = 22) (d22 : (op == 22) = false) (d22n : (op != 22) = true) (ht : insT ⟨op, ⟨dk, dc, dn, dt⟩, args, nm, off, labels, cas⟩ = t) (hlen : t.length ≤ big) :
    Calls Tryd.prog 25 #[.agg #[.int .i64 op, .int .i64 dk, .int .i64 dc, .int .i64 dn, .int .i64 dt, .slice aa an ac, .string nm, .int .i64 off, .slice la ln lc, .slice ca cn cc]] W (SaysT t W) := by
  have hrest : restT ⟨op, ⟨dk, dc, dn, dt⟩, args, nm, off, labels, cas⟩ = takenT args [] := by simp [restT, n19, n17, n18, n20, n21, n22]
  obtain ⟨D, hD⟩ : ∃ D, dstT ⟨dk, dc, dn, dt⟩ = D := ⟨_, rfl⟩
  obtain ⟨p, hp⟩ : ∃ p, opT op = p := ⟨_, rfl⟩
  obtain ⟨T1, hT1⟩ : ∃ T1, D ++ p = T1 := ⟨_, rfl⟩
  have t2 : T1 ++ takenT args [] = t := by rw [← ht, ← hrest, ← hT1, ← hD, ← hp]; simp [insT]
  have n1 : T1.length ≤ big := by rw [← t2, List.length_append] at hlen; omega
  have nD : D.length ≤ big := by rw [← hT1, List.length_append] at n1; omega
  have hp63 : p = [63] := by rw [← hp]; unfold opT; rw [hno]; rfl
  have s1 : ∀ W : World, (Op.stringOp .add (tx D) ⟨#[63]⟩).run Tryd.prog W = .ok (.string (tx T1)) W := add_tx D [63] T1 (by rw [← hT1, hp63]) n1
  have ha1 := hI.args.1
  have hl1 := hI.labels.1
  have hc1 := hI.cases.1
  dsimp only at ha1 hl1 hc1
  have han : an ≤ 1048576 := by have := hF.an; dsimp only at this; omega
  have hln : ln ≤ 1048576 := by have := hF.ln; dsimp only at this; omega
  have hcn : cn ≤ 1048576 := by have := hF.cn; dsimp only at this; omega
  have hnm : nm.size ≤ 20000000 := by have := hF.nm; dsimp only at this; omega
  obtain ⟨L, hL⟩ : ∃ L, args.map opnT = L := ⟨_, rfl⟩
  have hLn : L.length = an := by rw [← hL, List.length_map]; exact ha1
  obtain ⟨J, hJ⟩ : ∃ J, rowT L = J := ⟨_, rfl⟩
  obtain ⟨T2, hT2⟩ : ∃ T2, T1 ++ [32] = T2 := ⟨_, rfl⟩
  have hfin : T2 ++ J = t := by rw [← t2, ← hT2]; simp [takenT, offT, hne, hL, hJ, txs]
  have mfin := hlen
  rw [← hfin] at mfin
  have mT2 : T2.length ≤ big := by rw [List.length_append] at mfin; omega
  have s2 : ∀ W : World, (Op.stringOp .add (tx T1) ⟨#[32]⟩).run Tryd.prog W = .ok (.string (tx T2)) W := add_tx T1 [32] T2 hT2 mT2
  have s3 : ∀ W : World, (Op.stringOp .add (tx T2) (tx J)).run Tryd.prog W = .ok (.string (tx t)) W := add_tx T2 J t hfin hlen
  have nJ : J.length ≤ big := by rw [← hfin, List.length_append] at hlen; omega
  have HJ := Lib.hid (And.intro hJ nJ)
  have BA : Below W.heap.size W (W.alloc (.cells #[.int .i64 op, .int .i64 dk, .int .i64 dc, .int .i64 dn, .int .i64 dt, .slice aa an ac, .string nm, .int .i64 off, .slice la ln lc, .slice ca cn cc] 57)) := (Below.refl _ W).alloc (Nat.le_refl _) _
  have hal := heap_alloc_new W (.cells #[.int .i64 op, .int .i64 dk, .int .i64 dc, .int .i64 dn, .int .i64 dt, .slice aa an ac, .string nm, .int .i64 off, .slice la ln lc, .slice ca cn cc] 57)
  have HI := hI.below BA
  obtain ⟨wa, hwa⟩ : ∃ wa, W.alloc (.cells #[.int .i64 op, .int .i64 dk, .int .i64 dc, .int .i64 dn, .int .i64 dt, .slice aa an ac, .string nm, .int .i64 off, .slice la ln lc, .slice ca cn cc] 57) = wa := ⟨_, rfl⟩
  rw [hwa] at BA hal HI
  obtain ⟨e0, e1, e2, e3, e4, e5, e6, e7, e8, e9⟩ := ten_cells hal
  have HA := Lib.hid (And.intro BA (And.intro hal (And.intro HI hF)))
  have HD := Lib.hid (And.intro hD (And.intro nD hp))
  have HL := Lib.hid (And.intro ha1 (And.intro hl1 (And.intro hc1 (And.intro hL (And.intro hLn (And.intro han (And.intro hln (And.intro hcn hnm))))))))
  clear BA hal HI hI hF hD nD hT1 n1 ht hlen t2 hrest hp ha1 hl1 hc1 hL hLn han hln hcn hnm hp63 hfin mfin hT2 mT2 nJ hJ hne
  go_enter Tryd.func25, Tryd.ntmps25
  go_upto_if 12 with fail
  go_cut [3] from 12 to 16 (fun s3 wx => s3 = .string (tx D) ∧ Hid (Below wa.heap.size wa wx))
  case first =>
    clear hwa
    by_cases hd : dk = 0
    · have hd1 : (dk != 0) = false := by simp [hd]
      have hDe : D = [] := by rw [← HD.out.1, hd]; rfl
      have HDe := Lib.hid hDe
      clear hd hDe
      go_wp2_with fail
      go_meet
      case rel => exact ⟨by rw [HDe.out]; rfl, Below.refl _ _⟩
    · have hd1 : (dk != 0) = true := by simp [hd]
      obtain ⟨x, hx⟩ : ∃ x, opnT ⟨dk, dc, dn, dt⟩ = x := ⟨_, rfl⟩
      have hDe : x ++ [32, 61, 32] = D := by rw [← HD.out.1, ← hx]; simp [dstT, hd]
      have s0 : ∀ W : World, (Op.stringOp .add (tx x) ⟨#[32, 61, 32]⟩).run Tryd.prog W = .ok (.string (tx D)) W := add_tx x [32, 61, 32] D hDe HD.out.2.1
      have HX := Lib.hid hx
      clear hd hDe hx
      go_wp2_with fail
      refine (rop_v ⟨dk, dc, dn, dt⟩ x wa HA.out.2.2.2.dst HX.out).mono ?_
      rintro e w1 ⟨rfl, hb⟩
      have H1 := Lib.hid hb
      clear hb
      go_wp2_with fail
      go_meet
      case rel => exact ⟨rfl, H1.out⟩
  case rest =>
    obtain ⟨rfl, hcw⟩ := hcut
    have B0 := Lib.hid hcw.out
    clear hcw hwa e0 e1 e2 e3 e4 e5 e6 e7 e8 e9
    obtain ⟨e0, e1, e2, e3, e4, e5, e6, e7, e8, e9⟩ := ten_cells (kept_box HA.out.2.1 B0.out)
    go_wp2_with fail
    refine (rfind_n op hno wc).mono ?_
    rintro e w1 ⟨r0, r1, RA, rm, r3, r4, rfl, hb⟩
    have hal := heap_alloc_new w1 (.cells #[.string r0, .string r1, .slice RA rm rm, .int .i64 r3, .bool r4] 98)
    have BB : Below wa.heap.size wa (w1.alloc (.cells #[.string r0, .string r1, .slice RA rm rm, .int .i64 r3, .bool r4] 98)) := (B0.out.trans (hb.mono B0.out.size)).alloc (Nat.le_trans B0.out.size hb.size) _
    obtain ⟨w2, hw2⟩ : ∃ w2, w1.alloc (.cells #[.string r0, .string r1, .slice RA rm rm, .int .i64 r3, .bool r4] 98) = w2 := ⟨_, rfl⟩
    rw [hw2] at hal BB
    have z0 : w2.frozen? ⟨w1.heap.size, 0, none⟩ = false := Lib.frozen_of_heap hal 0
    have g0 : w2.cell? ⟨w1.heap.size, 0, none⟩ = some (.string r0) := cell_in hal 0
    have f0 : (w2.setCell ⟨w1.heap.size, 0, none⟩ (.string ⟨#[63]⟩)).cell? ⟨w1.heap.size, 0, none⟩ = some (.string ⟨#[63]⟩) := World.cell?_setCell_same _ _ _ g0
    have BC : Below wa.heap.size wa (w2.setCell ⟨w1.heap.size, 0, none⟩ (.string ⟨#[63]⟩)) := BB.setCell (p := ⟨w1.heap.size, 0, none⟩) (Nat.le_trans B0.out.size hb.size) _
    obtain ⟨w3, hw3⟩ : ∃ w3, w2.setCell ⟨w1.heap.size, 0, none⟩ (.string ⟨#[63]⟩) = w3 := ⟨_, rfl⟩
    rw [hw3] at f0 BC
    have B3 := Lib.hid BC
    clear BB BC hal hb e0 e1 e2 e3 e4 e5 e6 e7 e8 e9
    obtain ⟨e0, e1, e2, e3, e4, e5, e6, e7, e8, e9⟩ := ten_cells (kept_box HA.out.2.1 B3.out)
    go_wp2_with fail
    clear hw2 hw3 f0 z0 g0
    refine (rows_v aa an ac args w3 (HA.out.2.2.1.args.below B3.out) HA.out.2.2.2.args HL.out.2.2.2.2.2.1).mono ?_
    rintro e w4 ⟨A1, c1, rfl, ho, hb⟩
    rw [HL.out.2.2.2.1] at ho
    have H4 := Lib.hid (And.intro (B3.out.trans (hb.mono B3.out.size)) (ho.mono B3.out.size))
    clear ho hb e0 e1 e2 e3 e4 e5 e6 e7 e8 e9
    obtain ⟨e0, e1, e2, e3, e4, e5, e6, e7, e8, e9⟩ := ten_cells (kept_box HA.out.2.1 H4.out.1)
    have a63 : an ≤ 9223372036854775807 := by have := HL.out.2.2.2.2.2.1; omega
    go_wp2_with fail
    clear e0 e1 e2 e3 e4 e5 e6 e7 e8 e9
    refine (join_v A1 an c1 L J w4 (H4.out.2.strs a63) HJ.out.1 HJ.out.2).mono ?_
    rintro e w5 ⟨rfl, hb⟩
    have H5 := Lib.hid (H4.out.1.trans (hb.mono H4.out.1.size))
    clear hb
    obtain ⟨e0, e1, e2, e3, e4, e5, e6, e7, e8, e9⟩ := ten_cells (kept_box HA.out.2.1 H5.out)
    go_wp2_with fail
    clear e0 e1 e2 e3 e4 e5 e6 e7 e8 e9
    go_ret
    exact ⟨rfl, HA.out.1.trans (H5.out.mono HA.out.1.size)⟩
end Go.Proofs.YtakfoncdiejhaaaDoor
