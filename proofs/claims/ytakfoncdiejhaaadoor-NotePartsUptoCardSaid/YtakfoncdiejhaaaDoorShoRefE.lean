
/- The document's own text of a switch. -/
import Derived.Test.YtakfoncdiejhaaaDoorShoRefC
namespace Go.Proofs.YtakfoncdiejhaaaDoor
open Go.ChangeShapes Go.WideShapes Go.RowKit
set_option linter.unusedVariables false
set_option linter.unusedSimpArgs false
set_option maxRecDepth 20000

theorem row_le (L : List (List UInt8)) (k : Nat) (a : List UInt8) (h : L[k]? = some a) : a.length ≤ (rowT L).length := by
  have h1 := rowT_le L (k + 1)
  rw [rowT_take L k a h] at h1
  simp only [List.length_append] at h1
  omega
theorem ownS_grown {base base0 : Nat} {w wr w1 : World} {A A' : Option Addr} {N c c' m : Nat} {L J : List (List UInt8)}
    (ho : w1.ownsRow base 9 1 (.slice A' (N + m) c') (N + m) (texts L ++ texts J)) (hJ : J.length = m)
    (hg : wr.grownBy w1 (Value.ownBlock (.slice A N c))) (hown : OwnS base wr A N c L) (hb : Below base0 w wr) (hB : base0 ≤ base) (hBs : base ≤ wr.heap.size) :
    OwnS base w1 A' (N + m) c' (L ++ J) ∧ Below base0 w w1 := by
  refine ⟨⟨by rw [List.length_append, hown.1, hJ], by rw [texts_append]; exact ho⟩, ?_⟩
  exact hb.grown hg (by omega) (fun k hk => Nat.le_trans hB (World.ownsRow.lt hown.2 k hk).1)
set_option maxHeartbeats 4000000 in
theorem rins_22_0 (dk dc dn dt : Int) (args : List Opn) (nm : ByteArray) (off : Int) (labels : List ByteArray) (cas : List Int) (aa : Option Addr) (an ac : Nat) (la : Option Addr) (ln lc : Nat) (ca : Option Addr) (cn cc : Nat) (t : List UInt8) (W : World) (hI : IsIns W ⟨22, ⟨dk, dc, dn, dt⟩, args, nm, off, labels, cas⟩ ⟨aa, an, ac, la, ln, lc, ca, cn, cc⟩) (hF : InsF ⟨22, ⟨dk, dc, dn, dt⟩, args, nm, off, labels, cas⟩) (hno : Opr.isOp 22 = true) (hz : ¬ (an : Int) > 0) (harg : args = []) (ht : insT ⟨22, ⟨dk, dc, dn, dt⟩, args, nm, off, labels, cas⟩ = t) (hlen : t.length ≤ big) :
    Calls Tryd.prog 25 #[.agg #[.int .i64 22, .int .i64 dk, .int .i64 dc, .int .i64 dn, .int .i64 dt, .slice aa an ac, .string nm, .int .i64 off, .slice la ln lc, .slice ca cn cc]] W (SaysT t W) := by
  have hrest : restT ⟨22, ⟨dk, dc, dn, dt⟩, args, nm, off, labels, cas⟩ = (takenT args [] ++ casesT cas labels) := by simp [restT]
  obtain ⟨D, hD⟩ : ∃ D, dstT ⟨dk, dc, dn, dt⟩ = D := ⟨_, rfl⟩
  obtain ⟨p, hp⟩ : ∃ p, opT 22 = p := ⟨_, rfl⟩
  obtain ⟨T1, hT1⟩ : ∃ T1, D ++ p = T1 := ⟨_, rfl⟩
  have t2 : T1 ++ (takenT args [] ++ casesT cas labels) = t := by rw [← ht, ← hrest, ← hT1, ← hD, ← hp]; simp [insT]
  have n1 : T1.length ≤ big := by rw [← t2, List.length_append] at hlen; omega
  have nD : D.length ≤ big := by rw [← hT1, List.length_append] at n1; omega
  have s1 := add_tx D p T1 hT1 n1
  have ha1 := hI.args.1
  have hl1 := hI.labels.1
  have hc1 := hI.cases.1
  dsimp only at ha1 hl1 hc1
  have han : an ≤ 1048576 := by have := hF.an; dsimp only at this; omega
  have hln : ln ≤ 1048576 := by have := hF.ln; dsimp only at this; omega
  have hcn : cn ≤ 1048576 := by have := hF.cn; dsimp only at this; omega
  have hnm : nm.size ≤ 20000000 := by have := hF.nm; dsimp only at this; omega
  obtain ⟨L, hL⟩ : ∃ L, args.map opnT = L := ⟨_, rfl⟩
  have hLn : L.length = an := by rw [← hL, List.length_map]; exact ha1
  have hzd : decide (0 < an) = false := by simp; omega
  obtain ⟨Q, hQ1⟩ : ∃ Q, T1 = Q := ⟨_, rfl⟩
  obtain ⟨CL, hCL⟩ : ∃ CL, casesL cas labels = CL := ⟨_, rfl⟩
  obtain ⟨z, hz9⟩ : ∃ z, nthT labels cn = z := ⟨_, rfl⟩
  obtain ⟨E, hE⟩ : ∃ E, [101, 108, 115, 101, 58, 32] ++ z = E := ⟨_, rfl⟩
  obtain ⟨R, hR⟩ : ∃ R, rowT (CL ++ [E]) = R := ⟨_, rfl⟩
  have hER : rowT (casesL cas labels ++ [elseT cas labels]) = R := by rw [← hR, hCL]; unfold elseT; rw [hc1, hz9, hE]
  have hCLn : CL.length = cn := by rw [← hCL, casesL_len]; exact hc1
  have hCLx : ∀ (k : Nat) (n : Int), cas[k]? = some n → (CL ++ [E])[k]? = some (caseT n labels k) := fun k n hn => by
    have h1 := casesL_at cas labels k n hn
    unfold elseT at h1
    rw [hCL, hc1, hz9, hE] at h1
    exact h1
  obtain ⟨T4, hT4⟩ : ∃ T4, Q ++ [32, 91] = T4 := ⟨_, rfl⟩
  obtain ⟨T5, hT5⟩ : ∃ T5, T4 ++ R = T5 := ⟨_, rfl⟩
  have hfin : T5 ++ [93] = t := by rw [← t2, ← hT5, ← hT4]; unfold casesT; rw [hER, hQ1, harg]; simp [takenT]
  have mfin := hlen
  rw [← hfin] at mfin
  have mT5 : T5.length ≤ big := by rw [List.length_append] at mfin; omega
  have mT5b := mT5
  rw [← hT5] at mT5b
  have mT4 : T4.length ≤ big := by rw [List.length_append] at mT5b; omega
  have s2 : ∀ W : World, (Op.stringOp .add (tx Q) ⟨#[32, 91]⟩).run Tryd.prog W = .ok (.string (tx T4)) W := add_tx Q [32, 91] T4 hT4 mT4
  have s3 : ∀ W : World, (Op.stringOp .add (tx T4) (tx R)).run Tryd.prog W = .ok (.string (tx T5)) W := add_tx T4 R T5 hT5 mT5
  have s4 : ∀ W : World, (Op.stringOp .add (tx T5) ⟨#[93]⟩).run Tryd.prog W = .ok (.string (tx t)) W := add_tx T5 [93] t hfin hlen
  have nR : R.length ≤ big := by have h1 := mT5; rw [← hT5, List.length_append] at h1; omega
  have nE : E.length ≤ big := Nat.le_trans (row_le (CL ++ [E]) cn E (by rw [List.getElem?_append_right (by omega), hCLn, Nat.sub_self]; rfl)) (by rw [hR]; exact nR)
  have s8 : ∀ W : World, (Op.stringOp .add ⟨#[101, 108, 115, 101, 58, 32]⟩ (tx z)).run Tryd.prog W = .ok (.string (tx E)) W := add_tx [101, 108, 115, 101, 58, 32] z E hE nE
  have HC := Lib.hid (And.intro hR (And.intro nR (And.intro hCLn (And.intro hCLx (And.intro hz9 (show ∀ (k : Nat) (n : Int), cas[k]? = some n → Deci.fit n from fun k n hn => hF.cases n (List.mem_of_getElem? hn)))))))
  have BA : Below W.heap.size W (W.alloc (.cells #[.int .i64 22, .int .i64 dk, .int .i64 dc, .int .i64 dn, .int .i64 dt, .slice aa an ac, .string nm, .int .i64 off, .slice la ln lc, .slice ca cn cc] 57)) := (Below.refl _ W).alloc (Nat.le_refl _) _
  have hal := heap_alloc_new W (.cells #[.int .i64 22, .int .i64 dk, .int .i64 dc, .int .i64 dn, .int .i64 dt, .slice aa an ac, .string nm, .int .i64 off, .slice la ln lc, .slice ca cn cc] 57)
  have HI := hI.below BA
  obtain ⟨wa, hwa⟩ : ∃ wa, W.alloc (.cells #[.int .i64 22, .int .i64 dk, .int .i64 dc, .int .i64 dn, .int .i64 dt, .slice aa an ac, .string nm, .int .i64 off, .slice la ln lc, .slice ca cn cc] 57) = wa := ⟨_, rfl⟩
  rw [hwa] at BA hal HI
  obtain ⟨e0, e1, e2, e3, e4, e5, e6, e7, e8, e9⟩ := ten_cells hal
  have HA := Lib.hid (And.intro BA (And.intro hal (And.intro HI hF)))
  have HD := Lib.hid (And.intro hD (And.intro nD hp))
  have HL := Lib.hid (And.intro ha1 (And.intro hl1 (And.intro hc1 (And.intro hL (And.intro hLn (And.intro han (And.intro hln (And.intro hcn hnm))))))))
  clear BA hal HI hI hF hD nD hT1 n1 ht hlen t2 hrest hp ha1 hl1 hc1 hL hLn han hln hcn hnm hfin mfin hT4 hT5 mT4 mT5 mT5b harg hCL hz9 hE hR hER hCLn hCLx nR nE
  go_enter Tryd.func25, Tryd.ntmps25
  go_upto_if 12 with fail
  go_cut [3] from 12 to 16 (fun s3 wx => s3 = .string (tx D) ∧ Hid (Below wa.heap.size wa wx))
  case first =>
    clear hwa
    by_cases hd : dk = 0
    · have hd1 : (dk != 0) = false := by simp [hd]
      have hDe : D = [] := by rw [← HD.out.1, hd]; rfl
      have HDe := Lib.hid hDe
      clear hd hDe
      go_wp2_with fail
      go_meet
      case rel => exact ⟨by rw [HDe.out]; rfl, Below.refl _ _⟩
    · have hd1 : (dk != 0) = true := by simp [hd]
      obtain ⟨x, hx⟩ : ∃ x, opnT ⟨dk, dc, dn, dt⟩ = x := ⟨_, rfl⟩
      have hDe : x ++ [32, 61, 32] = D := by rw [← HD.out.1, ← hx]; simp [dstT, hd]
      have s0 : ∀ W : World, (Op.stringOp .add (tx x) ⟨#[32, 61, 32]⟩).run Tryd.prog W = .ok (.string (tx D)) W := add_tx x [32, 61, 32] D hDe HD.out.2.1
      have HX := Lib.hid hx
      clear hd hDe hx
      go_wp2_with fail
      refine (rop_v ⟨dk, dc, dn, dt⟩ x wa HA.out.2.2.2.dst HX.out).mono ?_
      rintro e w1 ⟨rfl, hb⟩
      have H1 := Lib.hid hb
      clear hb
      go_wp2_with fail
      go_meet
      case rel => exact ⟨rfl, H1.out⟩
  case rest =>
    obtain ⟨rfl, hcw⟩ := hcut
    have B0 := Lib.hid hcw.out
    clear hcw hwa e0 e1 e2 e3 e4 e5 e6 e7 e8 e9
    obtain ⟨e0, e1, e2, e3, e4, e5, e6, e7, e8, e9⟩ := ten_cells (kept_box HA.out.2.1 B0.out)
    go_wp2_with fail
    refine (rfind_t 22 p HD.out.2.2 hno wc).mono ?_
    rintro e w1 ⟨r1, RA, rm, r3, r4, rfl, hb⟩
    have hal := heap_alloc_new w1 (.cells #[.string (tx p), .string r1, .slice RA rm rm, .int .i64 r3, .bool r4] 98)
    have BB : Below wa.heap.size wa (w1.alloc (.cells #[.string (tx p), .string r1, .slice RA rm rm, .int .i64 r3, .bool r4] 98)) := (B0.out.trans (hb.mono B0.out.size)).alloc (Nat.le_trans B0.out.size hb.size) _
    obtain ⟨w3, hw3⟩ : ∃ w3, w1.alloc (.cells #[.string (tx p), .string r1, .slice RA rm rm, .int .i64 r3, .bool r4] 98) = w3 := ⟨_, rfl⟩
    rw [hw3] at hal BB
    have f0 : w3.cell? ⟨w1.heap.size, 0, none⟩ = some (.string (tx p)) := cell_in hal 0
    have B3 := Lib.hid BB
    clear BB hal hb e0 e1 e2 e3 e4 e5 e6 e7 e8 e9
    obtain ⟨e0, e1, e2, e3, e4, e5, e6, e7, e8, e9⟩ := ten_cells (kept_box HA.out.2.1 B3.out)
    go_wp2_with fail
    clear hw3 f0
    refine (rows_v aa an ac args w3 (HA.out.2.2.1.args.below B3.out) HA.out.2.2.2.args HL.out.2.2.2.2.2.1).mono ?_
    rintro e w4 ⟨A1, c1, rfl, ho, hb⟩
    rw [HL.out.2.2.2.1] at ho
    have H4 := Lib.hid (And.intro (B3.out.trans (hb.mono B3.out.size)) (ho.mono B3.out.size))
    clear ho hb e0 e1 e2 e3 e4 e5 e6 e7 e8 e9
    obtain ⟨e0, e1, e2, e3, e4, e5, e6, e7, e8, e9⟩ := ten_cells (kept_box HA.out.2.1 H4.out.1)
    have a63 : an ≤ 9223372036854775807 := by have := HL.out.2.2.2.2.2.1; omega
    go_wp2_with fail
    clear e0 e1 e2 e3 e4 e5 e6 e7 e8 e9
    go_loopg [7, 8] cn (fun gk u1 u2 wr => ∃ (k : Nat) (C : Option Addr) (d : Nat), k + gk = cn ∧ u1 = .slice C k d ∧ u2 = .int .i64 (k : Int) ∧ Hid (OwnS wa.heap.size wr C k d ((CL ++ [E]).take k) ∧ Below wa.heap.size wa wr))
    case atStart => exact ⟨0, none, 0, by omega, rfl, rfl, by simpa using OwnS.nil wa.heap.size w4, H4.out.1⟩
    case round =>
      obtain ⟨k, C, d, hk, rfl, rfl, HH⟩ := hrel
      obtain ⟨e0, e1, e2, e3, e4, e5, e6, e7, e8, e9⟩ := ten_cells (kept_box HA.out.2.1 HH.out.2)
      by_cases hlt : k < cn
      · obtain ⟨bk, o, hca, hb, x, hx, c0⟩ := HA.out.2.2.1.cases.at hlt
        subst hca
        have i1 : (k : Int) < (cn : Int) := by omega
        have hxL := HC.out.2.2.2.1 k x hx
        have hxf := HC.out.2.2.2.2.2 k x hx
        obtain ⟨y, hy⟩ : ∃ y, Deci.txt x = y := ⟨_, rfl⟩
        obtain ⟨y1, hy1⟩ : ∃ y1, y ++ [58, 32] = y1 := ⟨_, rfl⟩
        obtain ⟨v, hv⟩ : ∃ v, nthT labels k = v := ⟨_, rfl⟩
        obtain ⟨y2, hy2⟩ : ∃ y2, y1 ++ v = y2 := ⟨_, rfl⟩
        have hcase : caseT x labels k = y2 := by rw [← hy2, ← hy1, ← hy, ← hv]; rfl
        rw [hcase] at hxL
        have ny2 : y2.length ≤ big := Nat.le_trans (row_le _ k y2 hxL) (by rw [HC.out.1]; exact HC.out.2.1)
        have ny1 : y1.length ≤ big := by rw [← hy2, List.length_append] at ny2; omega
        have r1 : ∀ W : World, (Op.stringOp .add (tx y) ⟨#[58, 32]⟩).run Tryd.prog W = .ok (.string (tx y1)) W := add_tx y [58, 32] y1 hy1 ny1
        have r2 : ∀ W : World, (Op.stringOp .add (tx y1) (tx v)).run Tryd.prog W = .ok (.string (tx y2)) W := add_tx y1 v y2 hy2 ny2
        have hnext : (CL ++ [E]).take (k + 1) = (CL ++ [E]).take k ++ [y2] := by rw [List.take_add_one, hxL]; rfl
        have HX := Lib.hid (And.intro hxf (And.intro hy (And.intro hv (And.intro hnext (show ∀ W', Below wa.heap.size wa W' → W'.cell? ⟨W.heap.size, 8, none⟩ = some (.slice la ln lc) ∧ W'.cell? ⟨W.heap.size, 9, none⟩ = some (.slice (some ⟨bk, o, none⟩) cn cc) ∧ W'.cell? ⟨bk, o + k, none⟩ = some (.int .i64 x) from fun W' hb' => by
          obtain ⟨_, _, _, _, _, _, _, _, g8, g9⟩ := ten_cells (kept_box HA.out.2.1 hb')
          exact ⟨g8, g9, (hb'.cell (p := ⟨bk, o + k, none⟩) hb).trans c0⟩)))))
        clear hx hxL hxf hy hy1 hv hy2 hcase ny1 ny2 hnext hb c0 e0 e1 e2 e3 e4 e5 e6 e7
        have S0 := Lib.hid (HX.out.2.2.2.2 wr HH.out.2)
        have hkb : k ≤ 1048576 := by have := HL.out.2.2.2.2.2.2.2.1; omega
        go_upto_region 23 with fail
        clear e8 e9
        obtain ⟨i0, hi0, hz0, hz1, hz2⟩ := info_parts info9
        have I0 := Lib.hid (And.intro hi0 (And.intro hz0 (And.intro hz1 hz2)))
        clear hi0 hz0 hz1 hz2
        go_region_held3 (fun W' => W'.cell? ⟨W.heap.size, 8, none⟩ = some (.slice la ln lc) ∧ W'.cell? ⟨W.heap.size, 9, none⟩ = some (.slice (some ⟨bk, o, none⟩) cn cc) ∧ W'.cell? ⟨bk, o + k, none⟩ = some (.int .i64 x))
          (first | exact S3.out | exact S2.out | exact S1.out | exact S0.out)
          (first
            | (refine step_append_lies _ rfl (.tmp 112) (.tmp 125) 55 rfl wa.heap.size 9 i0 (.string ⟨#[]⟩) 1 16 Tryd.underlying55 I0.out.1 I0.out.2.1 I0.out.2.2.1 I0.out.2.2.2 rfl (by decide) (.slice C k d) k (texts ((CL ++ [E]).take k)) (by simp [Act.eval]) H5.out.1.2 ⟨w5.heap.size, 0, none⟩ 1 1 [.string (tx y2)] (by simp [Act.eval]) rfl (news_new _ _ _ _ rfl) (by intro u hu; simp at hu; subst hu; rfl) (by decide) (by unfold maxLen; omega) (by omega) H5.out.2.1.size (w5.heap.size + 1) H5.out.2.2 ?_; intro g0 cap0 w6 hown2 hgrow _ _; have H6 := Lib.hid (ownS_grown (J := [y2]) (base0 := wa.heap.size) hown2 rfl hgrow H5.out.1 H5.out.2.1 (Nat.le_refl _) H5.out.2.1.size); have S3 := Lib.hid (HX.out.2.2.2.2 w6 H6.out.2); clear hown2 hgrow)
            | (go_at_call 41; (refine (nth_v la ln lc labels k v w5 (HA.out.2.2.1.labels.below B5.out.1) HX.out.2.2.1).mono ?_); rintro e w9 ⟨rfl, rfl⟩)
            | (go_at_call 19; (refine (rput_t x y HX.out.2.1 HX.out.1 wr.drew).mono ?_); rintro e w5 ⟨rfl, hb⟩; have B5 := Lib.hid (show Below wa.heap.size wa w5 ∧ Below wr.heap.size wr w5 from ⟨HH.out.2.trans (((Below.refl _ wr).drew.trans hb).mono HH.out.2.size), (Below.refl _ wr).drew.trans hb⟩); have S1 := Lib.hid (HX.out.2.2.2.2 w5 B5.out.1); have S2 := Lib.hid (HX.out.2.2.2.2 (w5.alloc (.cells #[.string (tx y2)] 9)) (B5.out.1.alloc B5.out.1.size _)); have H5 := Lib.hid (And.intro ((HH.out.1.below B5.out.2).alloc (.cells #[.string (tx y2)] 9)) (And.intro (B5.out.1.alloc B5.out.1.size (.cells #[.string (tx y2)] 9)) (show (w5.alloc (.cells #[.string (tx y2)] 9)).heap.size = w5.heap.size + 1 by simp))); clear hb))
        go_wp2_with fail
        go_roundg (gk - 1)
        case measure => omega
        case rel => exact ⟨k + 1, some ⟨g0, 0, none⟩, cap0, by omega, by go_num, by go_num, by rw [HX.out.2.2.2.1]; exact H6.out.1, H6.out.2⟩
      · obtain rfl : k = cn := by omega
        have hge : ¬ (k : Int) < (k : Int) := by omega
        have hkb : k ≤ 1048576 := by have := HL.out.2.2.2.2.2.2.2.1; omega
        have k63 : k + 1 ≤ 9223372036854775807 := by omega
        have ho : OwnS wa.heap.size (wr.alloc (.cells #[.string (tx E)] 9)) C k d CL := by
          have h1 := HH.out.1
          rw [List.take_left' HC.out.2.2.1] at h1
          exact h1.alloc _
        have H7 := Lib.hid (And.intro ho (And.intro (HH.out.2.alloc HH.out.2.size (.cells #[.string (tx E)] 9)) (one_strs wr (tx E))))
        clear ho
        go_wp2_with fail
        refine (nth_v la ln lc labels k z wr (HA.out.2.2.1.labels.below HH.out.2) HC.out.2.2.2.2.1).mono ?_
        rintro e w9 ⟨rfl, rfl⟩
        go_wp2_with (at_builtin; refine wpList_strs rfl (.tmp 129) (.tmp 137) rfl wa.heap.size _ k (texts CL) rfl H7.out.1.2 (some ⟨wr.heap.size, 0, none⟩) 1 1 [tx E] rfl H7.out.2.2 (by omega) H7.out.2.1.size ?_)
        intro v' w6 hown' hgrow
        have hown2 : w6.ownsRow wa.heap.size 9 1 v' (k + 1) (texts CL ++ texts [E]) := hown'
        obtain ⟨C', d', rfl, h2, h3⟩ := ownS_next (J := [E]) hown2 rfl hgrow H7.out.1 H7.out.2.1 (Nat.le_refl _) H7.out.2.1.size
        have H8 := Lib.hid (And.intro (h2.strs k63) h3)
        clear hown' hown2 hgrow h2 h3 e0 e1 e2 e3 e4 e5 e6 e7 e8 e9
        go_wp2_with fail
        refine (join_v C' (k + 1) d' (CL ++ [E]) R w6 H8.out.1 HC.out.1 HC.out.2.1).mono ?_
        rintro e w7 ⟨rfl, hb⟩
        have H9 := Lib.hid (H8.out.2.trans (hb.mono H8.out.2.size))
        clear hb
        go_wp2_with fail
        go_ret
        exact ⟨rfl, HA.out.1.trans (H9.out.mono HA.out.1.size)⟩
set_option maxHeartbeats 4000000 in
theorem rins_22_j (dk dc dn dt : Int) (args : List Opn) (nm : ByteArray) (off : Int) (labels : List ByteArray) (cas : List Int) (aa : Option Addr) (an ac : Nat) (la : Option Addr) (ln lc : Nat) (ca : Option Addr) (cn cc : Nat) (t : List UInt8) (W : World) (hI : IsIns W ⟨22, ⟨dk, dc, dn, dt⟩, args, nm, off, labels, cas⟩ ⟨aa, an, ac, la, ln, lc, ca, cn, cc⟩) (hF : InsF ⟨22, ⟨dk, dc, dn, dt⟩, args, nm, off, labels, cas⟩) (hno : Opr.isOp 22 = true) (hz : (an : Int) > 0) (hne : ¬ args = []) (ht : insT ⟨22, ⟨dk, dc, dn, dt⟩, args, nm, off, labels, cas⟩ = t) (hlen : t.length ≤ big) :
    Calls Tryd.prog 25 #[.agg #[.int .i64 22, .int .i64 dk, .int .i64 dc, .int .i64 dn, .int .i64 dt, .slice aa an ac, .string nm, .int .i64 off, .slice la ln lc, .slice ca cn cc]] W (SaysT t W) := by
  have hrest : restT ⟨22, ⟨dk, dc, dn, dt⟩, args, nm, off, labels, cas⟩ = (takenT args [] ++ casesT cas labels) := by simp [restT]
  obtain ⟨D, hD⟩ : ∃ D, dstT ⟨dk, dc, dn, dt⟩ = D := ⟨_, rfl⟩
  obtain ⟨p, hp⟩ : ∃ p, opT 22 = p := ⟨_, rfl⟩
  obtain ⟨T1, hT1⟩ : ∃ T1, D ++ p = T1 := ⟨_, rfl⟩
  have t2 : T1 ++ (takenT args [] ++ casesT cas labels) = t := by rw [← ht, ← hrest, ← hT1, ← hD, ← hp]; simp [insT]
  have n1 : T1.length ≤ big := by rw [← t2, List.length_append] at hlen; omega
  have nD : D.length ≤ big := by rw [← hT1, List.length_append] at n1; omega
  have s1 := add_tx D p T1 hT1 n1
  have ha1 := hI.args.1
  have hl1 := hI.labels.1
  have hc1 := hI.cases.1
  dsimp only at ha1 hl1 hc1
  have han : an ≤ 1048576 := by have := hF.an; dsimp only at this; omega
  have hln : ln ≤ 1048576 := by have := hF.ln; dsimp only at this; omega
  have hcn : cn ≤ 1048576 := by have := hF.cn; dsimp only at this; omega
  have hnm : nm.size ≤ 20000000 := by have := hF.nm; dsimp only at this; omega
  obtain ⟨L, hL⟩ : ∃ L, args.map opnT = L := ⟨_, rfl⟩
  have hLn : L.length = an := by rw [← hL, List.length_map]; exact ha1
  obtain ⟨J, hJ⟩ : ∃ J, rowT L = J := ⟨_, rfl⟩
  obtain ⟨CL, hCL⟩ : ∃ CL, casesL cas labels = CL := ⟨_, rfl⟩
  obtain ⟨z, hz9⟩ : ∃ z, nthT labels cn = z := ⟨_, rfl⟩
  obtain ⟨E, hE⟩ : ∃ E, [101, 108, 115, 101, 58, 32] ++ z = E := ⟨_, rfl⟩
  obtain ⟨R, hR⟩ : ∃ R, rowT (CL ++ [E]) = R := ⟨_, rfl⟩
  have hER : rowT (casesL cas labels ++ [elseT cas labels]) = R := by rw [← hR, hCL]; unfold elseT; rw [hc1, hz9, hE]
  have hCLn : CL.length = cn := by rw [← hCL, casesL_len]; exact hc1
  have hCLx : ∀ (k : Nat) (n : Int), cas[k]? = some n → (CL ++ [E])[k]? = some (caseT n labels k) := fun k n hn => by
    have h1 := casesL_at cas labels k n hn
    unfold elseT at h1
    rw [hCL, hc1, hz9, hE] at h1
    exact h1
  obtain ⟨T2, hT2⟩ : ∃ T2, T1 ++ [32] = T2 := ⟨_, rfl⟩
  obtain ⟨Q, hQ⟩ : ∃ Q, T2 ++ J = Q := ⟨_, rfl⟩
  obtain ⟨T4, hT4⟩ : ∃ T4, Q ++ [32, 91] = T4 := ⟨_, rfl⟩
  obtain ⟨T5, hT5⟩ : ∃ T5, T4 ++ R = T5 := ⟨_, rfl⟩
  have hfin : T5 ++ [93] = t := by rw [← t2, ← hT5, ← hT4, ← hQ, ← hT2]; unfold casesT; rw [hER]; simp [takenT, hne, hL, hJ, txs]
  have mfin := hlen
  rw [← hfin] at mfin
  have mT5 : T5.length ≤ big := by rw [List.length_append] at mfin; omega
  have mT5b := mT5
  rw [← hT5] at mT5b
  have mT4 : T4.length ≤ big := by rw [List.length_append] at mT5b; omega
  have mT4b := mT4
  rw [← hT4] at mT4b
  have mQ : Q.length ≤ big := by rw [List.length_append] at mT4b; omega
  have mQb := mQ
  rw [← hQ] at mQb
  have mT2 : T2.length ≤ big := by rw [List.length_append] at mQb; omega
  have s2 : ∀ W : World, (Op.stringOp .add (tx T1) ⟨#[32]⟩).run Tryd.prog W = .ok (.string (tx T2)) W := add_tx T1 [32] T2 hT2 mT2
  have s3 : ∀ W : World, (Op.stringOp .add (tx T2) (tx J)).run Tryd.prog W = .ok (.string (tx Q)) W := add_tx T2 J Q hQ mQ
  have s4 : ∀ W : World, (Op.stringOp .add (tx Q) ⟨#[32, 91]⟩).run Tryd.prog W = .ok (.string (tx T4)) W := add_tx Q [32, 91] T4 hT4 mT4
  have s5 : ∀ W : World, (Op.stringOp .add (tx T4) (tx R)).run Tryd.prog W = .ok (.string (tx T5)) W := add_tx T4 R T5 hT5 mT5
  have s6 : ∀ W : World, (Op.stringOp .add (tx T5) ⟨#[93]⟩).run Tryd.prog W = .ok (.string (tx t)) W := add_tx T5 [93] t hfin hlen
  have nJ : J.length ≤ big := by have h1 := mQ; rw [← hQ, List.length_append] at h1; omega
  have HJ := Lib.hid (And.intro hJ nJ)
  have nR : R.length ≤ big := by have h1 := mT5; rw [← hT5, List.length_append] at h1; omega
  have nE : E.length ≤ big := Nat.le_trans (row_le (CL ++ [E]) cn E (by rw [List.getElem?_append_right (by omega), hCLn, Nat.sub_self]; rfl)) (by rw [hR]; exact nR)
  have s8 : ∀ W : World, (Op.stringOp .add ⟨#[101, 108, 115, 101, 58, 32]⟩ (tx z)).run Tryd.prog W = .ok (.string (tx E)) W := add_tx [101, 108, 115, 101, 58, 32] z E hE nE
  have HC := Lib.hid (And.intro hR (And.intro nR (And.intro hCLn (And.intro hCLx (And.intro hz9 (show ∀ (k : Nat) (n : Int), cas[k]? = some n → Deci.fit n from fun k n hn => hF.cases n (List.mem_of_getElem? hn)))))))
  have BA : Below W.heap.size W (W.alloc (.cells #[.int .i64 22, .int .i64 dk, .int .i64 dc, .int .i64 dn, .int .i64 dt, .slice aa an ac, .string nm, .int .i64 off, .slice la ln lc, .slice ca cn cc] 57)) := (Below.refl _ W).alloc (Nat.le_refl _) _
  have hal := heap_alloc_new W (.cells #[.int .i64 22, .int .i64 dk, .int .i64 dc, .int .i64 dn, .int .i64 dt, .slice aa an ac, .string nm, .int .i64 off, .slice la ln lc, .slice ca cn cc] 57)
  have HI := hI.below BA
  obtain ⟨wa, hwa⟩ : ∃ wa, W.alloc (.cells #[.int .i64 22, .int .i64 dk, .int .i64 dc, .int .i64 dn, .int .i64 dt, .slice aa an ac, .string nm, .int .i64 off, .slice la ln lc, .slice ca cn cc] 57) = wa := ⟨_, rfl⟩
  rw [hwa] at BA hal HI
  obtain ⟨e0, e1, e2, e3, e4, e5, e6, e7, e8, e9⟩ := ten_cells hal
  have HA := Lib.hid (And.intro BA (And.intro hal (And.intro HI hF)))
  have HD := Lib.hid (And.intro hD (And.intro nD hp))
  have HL := Lib.hid (And.intro ha1 (And.intro hl1 (And.intro hc1 (And.intro hL (And.intro hLn (And.intro han (And.intro hln (And.intro hcn hnm))))))))
  clear BA hal HI hI hF hD nD hT1 n1 ht hlen t2 hrest hp ha1 hl1 hc1 hL hLn han hln hcn hnm hfin mfin hT2 hQ hT4 hT5 mT2 mQ mT4 mT5 mQb mT4b mT5b nJ hJ hne hCL hz9 hE hR hER hCLn hCLx nR nE
  go_enter Tryd.func25, Tryd.ntmps25
  go_upto_if 12 with fail
  go_cut [3] from 12 to 16 (fun s3 wx => s3 = .string (tx D) ∧ Hid (Below wa.heap.size wa wx))
  case first =>
    clear hwa
    by_cases hd : dk = 0
    · have hd1 : (dk != 0) = false := by simp [hd]
      have hDe : D = [] := by rw [← HD.out.1, hd]; rfl
      have HDe := Lib.hid hDe
      clear hd hDe
      go_wp2_with fail
      go_meet
      case rel => exact ⟨by rw [HDe.out]; rfl, Below.refl _ _⟩
    · have hd1 : (dk != 0) = true := by simp [hd]
      obtain ⟨x, hx⟩ : ∃ x, opnT ⟨dk, dc, dn, dt⟩ = x := ⟨_, rfl⟩
      have hDe : x ++ [32, 61, 32] = D := by rw [← HD.out.1, ← hx]; simp [dstT, hd]
      have s0 : ∀ W : World, (Op.stringOp .add (tx x) ⟨#[32, 61, 32]⟩).run Tryd.prog W = .ok (.string (tx D)) W := add_tx x [32, 61, 32] D hDe HD.out.2.1
      have HX := Lib.hid hx
      clear hd hDe hx
      go_wp2_with fail
      refine (rop_v ⟨dk, dc, dn, dt⟩ x wa HA.out.2.2.2.dst HX.out).mono ?_
      rintro e w1 ⟨rfl, hb⟩
      have H1 := Lib.hid hb
      clear hb
      go_wp2_with fail
      go_meet
      case rel => exact ⟨rfl, H1.out⟩
  case rest =>
    obtain ⟨rfl, hcw⟩ := hcut
    have B0 := Lib.hid hcw.out
    clear hcw hwa e0 e1 e2 e3 e4 e5 e6 e7 e8 e9
    obtain ⟨e0, e1, e2, e3, e4, e5, e6, e7, e8, e9⟩ := ten_cells (kept_box HA.out.2.1 B0.out)
    go_wp2_with fail
    refine (rfind_t 22 p HD.out.2.2 hno wc).mono ?_
    rintro e w1 ⟨r1, RA, rm, r3, r4, rfl, hb⟩
    have hal := heap_alloc_new w1 (.cells #[.string (tx p), .string r1, .slice RA rm rm, .int .i64 r3, .bool r4] 98)
    have BB : Below wa.heap.size wa (w1.alloc (.cells #[.string (tx p), .string r1, .slice RA rm rm, .int .i64 r3, .bool r4] 98)) := (B0.out.trans (hb.mono B0.out.size)).alloc (Nat.le_trans B0.out.size hb.size) _
    obtain ⟨w3, hw3⟩ : ∃ w3, w1.alloc (.cells #[.string (tx p), .string r1, .slice RA rm rm, .int .i64 r3, .bool r4] 98) = w3 := ⟨_, rfl⟩
    rw [hw3] at hal BB
    have f0 : w3.cell? ⟨w1.heap.size, 0, none⟩ = some (.string (tx p)) := cell_in hal 0
    have B3 := Lib.hid BB
    clear BB hal hb e0 e1 e2 e3 e4 e5 e6 e7 e8 e9
    obtain ⟨e0, e1, e2, e3, e4, e5, e6, e7, e8, e9⟩ := ten_cells (kept_box HA.out.2.1 B3.out)
    go_wp2_with fail
    clear hw3 f0
    refine (rows_v aa an ac args w3 (HA.out.2.2.1.args.below B3.out) HA.out.2.2.2.args HL.out.2.2.2.2.2.1).mono ?_
    rintro e w4 ⟨A1, c1, rfl, ho, hb⟩
    rw [HL.out.2.2.2.1] at ho
    have H4 := Lib.hid (And.intro (B3.out.trans (hb.mono B3.out.size)) (ho.mono B3.out.size))
    clear ho hb e0 e1 e2 e3 e4 e5 e6 e7 e8 e9
    obtain ⟨e0, e1, e2, e3, e4, e5, e6, e7, e8, e9⟩ := ten_cells (kept_box HA.out.2.1 H4.out.1)
    have a63 : an ≤ 9223372036854775807 := by have := HL.out.2.2.2.2.2.1; omega
    go_wp2_with fail
    clear e0 e1 e2 e3 e4 e5 e6 e7 e8 e9
    refine (join_v A1 an c1 L J w4 (H4.out.2.strs a63) HJ.out.1 HJ.out.2).mono ?_
    rintro e w5 ⟨rfl, hb⟩
    have H5 := Lib.hid (H4.out.1.trans (hb.mono H4.out.1.size))
    clear hb
    obtain ⟨e0, e1, e2, e3, e4, e5, e6, e7, e8, e9⟩ := ten_cells (kept_box HA.out.2.1 H5.out)
    go_wp2_with fail
    clear e0 e1 e2 e3 e4 e5 e6 e7 e8 e9
    go_loopg [7, 8] cn (fun gk u1 u2 wr => ∃ (k : Nat) (C : Option Addr) (d : Nat), k + gk = cn ∧ u1 = .slice C k d ∧ u2 = .int .i64 (k : Int) ∧ Hid (OwnS wa.heap.size wr C k d ((CL ++ [E]).take k) ∧ Below wa.heap.size wa wr))
    case atStart => exact ⟨0, none, 0, by omega, rfl, rfl, by simpa using OwnS.nil wa.heap.size w5, H5.out⟩
    case round =>
      obtain ⟨k, C, d, hk, rfl, rfl, HH⟩ := hrel
      obtain ⟨e0, e1, e2, e3, e4, e5, e6, e7, e8, e9⟩ := ten_cells (kept_box HA.out.2.1 HH.out.2)
      by_cases hlt : k < cn
      · obtain ⟨bk, o, hca, hb, x, hx, c0⟩ := HA.out.2.2.1.cases.at hlt
        subst hca
        have i1 : (k : Int) < (cn : Int) := by omega
        have hxL := HC.out.2.2.2.1 k x hx
        have hxf := HC.out.2.2.2.2.2 k x hx
        obtain ⟨y, hy⟩ : ∃ y, Deci.txt x = y := ⟨_, rfl⟩
        obtain ⟨y1, hy1⟩ : ∃ y1, y ++ [58, 32] = y1 := ⟨_, rfl⟩
        obtain ⟨v, hv⟩ : ∃ v, nthT labels k = v := ⟨_, rfl⟩
        obtain ⟨y2, hy2⟩ : ∃ y2, y1 ++ v = y2 := ⟨_, rfl⟩
        have hcase : caseT x labels k = y2 := by rw [← hy2, ← hy1, ← hy, ← hv]; rfl
        rw [hcase] at hxL
        have ny2 : y2.length ≤ big := Nat.le_trans (row_le _ k y2 hxL) (by rw [HC.out.1]; exact HC.out.2.1)
        have ny1 : y1.length ≤ big := by rw [← hy2, List.length_append] at ny2; omega
        have r1 : ∀ W : World, (Op.stringOp .add (tx y) ⟨#[58, 32]⟩).run Tryd.prog W = .ok (.string (tx y1)) W := add_tx y [58, 32] y1 hy1 ny1
        have r2 : ∀ W : World, (Op.stringOp .add (tx y1) (tx v)).run Tryd.prog W = .ok (.string (tx y2)) W := add_tx y1 v y2 hy2 ny2
        have hnext : (CL ++ [E]).take (k + 1) = (CL ++ [E]).take k ++ [y2] := by rw [List.take_add_one, hxL]; rfl
        have HX := Lib.hid (And.intro hxf (And.intro hy (And.intro hv (And.intro hnext (show ∀ W', Below wa.heap.size wa W' → W'.cell? ⟨W.heap.size, 8, none⟩ = some (.slice la ln lc) ∧ W'.cell? ⟨W.heap.size, 9, none⟩ = some (.slice (some ⟨bk, o, none⟩) cn cc) ∧ W'.cell? ⟨bk, o + k, none⟩ = some (.int .i64 x) from fun W' hb' => by
          obtain ⟨_, _, _, _, _, _, _, _, g8, g9⟩ := ten_cells (kept_box HA.out.2.1 hb')
          exact ⟨g8, g9, (hb'.cell (p := ⟨bk, o + k, none⟩) hb).trans c0⟩)))))
        clear hx hxL hxf hy hy1 hv hy2 hcase ny1 ny2 hnext hb c0 e0 e1 e2 e3 e4 e5 e6 e7
        have S0 := Lib.hid (HX.out.2.2.2.2 wr HH.out.2)
        have hkb : k ≤ 1048576 := by have := HL.out.2.2.2.2.2.2.2.1; omega
        go_upto_region 23 with fail
        clear e8 e9
        obtain ⟨i0, hi0, hz0, hz1, hz2⟩ := info_parts info9
        have I0 := Lib.hid (And.intro hi0 (And.intro hz0 (And.intro hz1 hz2)))
        clear hi0 hz0 hz1 hz2
        go_region_held3 (fun W' => W'.cell? ⟨W.heap.size, 8, none⟩ = some (.slice la ln lc) ∧ W'.cell? ⟨W.heap.size, 9, none⟩ = some (.slice (some ⟨bk, o, none⟩) cn cc) ∧ W'.cell? ⟨bk, o + k, none⟩ = some (.int .i64 x))
          (first | exact S3.out | exact S2.out | exact S1.out | exact S0.out)
          (first
            | (refine step_append_lies _ rfl (.tmp 112) (.tmp 125) 55 rfl wa.heap.size 9 i0 (.string ⟨#[]⟩) 1 16 Tryd.underlying55 I0.out.1 I0.out.2.1 I0.out.2.2.1 I0.out.2.2.2 rfl (by decide) (.slice C k d) k (texts ((CL ++ [E]).take k)) (by simp [Act.eval]) H5.out.1.2 ⟨w5.heap.size, 0, none⟩ 1 1 [.string (tx y2)] (by simp [Act.eval]) rfl (news_new _ _ _ _ rfl) (by intro u hu; simp at hu; subst hu; rfl) (by decide) (by unfold maxLen; omega) (by omega) H5.out.2.1.size (w5.heap.size + 1) H5.out.2.2 ?_; intro g0 cap0 w6 hown2 hgrow _ _; have H6 := Lib.hid (ownS_grown (J := [y2]) (base0 := wa.heap.size) hown2 rfl hgrow H5.out.1 H5.out.2.1 (Nat.le_refl _) H5.out.2.1.size); have S3 := Lib.hid (HX.out.2.2.2.2 w6 H6.out.2); clear hown2 hgrow)
            | (go_at_call 41; (refine (nth_v la ln lc labels k v w5 (HA.out.2.2.1.labels.below B5.out.1) HX.out.2.2.1).mono ?_); rintro e w9 ⟨rfl, rfl⟩)
            | (go_at_call 19; (refine (rput_t x y HX.out.2.1 HX.out.1 wr.drew).mono ?_); rintro e w5 ⟨rfl, hb⟩; have B5 := Lib.hid (show Below wa.heap.size wa w5 ∧ Below wr.heap.size wr w5 from ⟨HH.out.2.trans (((Below.refl _ wr).drew.trans hb).mono HH.out.2.size), (Below.refl _ wr).drew.trans hb⟩); have S1 := Lib.hid (HX.out.2.2.2.2 w5 B5.out.1); have S2 := Lib.hid (HX.out.2.2.2.2 (w5.alloc (.cells #[.string (tx y2)] 9)) (B5.out.1.alloc B5.out.1.size _)); have H5 := Lib.hid (And.intro ((HH.out.1.below B5.out.2).alloc (.cells #[.string (tx y2)] 9)) (And.intro (B5.out.1.alloc B5.out.1.size (.cells #[.string (tx y2)] 9)) (show (w5.alloc (.cells #[.string (tx y2)] 9)).heap.size = w5.heap.size + 1 by simp))); clear hb))
        go_wp2_with fail
        go_roundg (gk - 1)
        case measure => omega
        case rel => exact ⟨k + 1, some ⟨g0, 0, none⟩, cap0, by omega, by go_num, by go_num, by rw [HX.out.2.2.2.1]; exact H6.out.1, H6.out.2⟩
      · obtain rfl : k = cn := by omega
        have hge : ¬ (k : Int) < (k : Int) := by omega
        have hkb : k ≤ 1048576 := by have := HL.out.2.2.2.2.2.2.2.1; omega
        have k63 : k + 1 ≤ 9223372036854775807 := by omega
        have ho : OwnS wa.heap.size (wr.alloc (.cells #[.string (tx E)] 9)) C k d CL := by
          have h1 := HH.out.1
          rw [List.take_left' HC.out.2.2.1] at h1
          exact h1.alloc _
        have H7 := Lib.hid (And.intro ho (And.intro (HH.out.2.alloc HH.out.2.size (.cells #[.string (tx E)] 9)) (one_strs wr (tx E))))
        clear ho
        go_wp2_with fail
        refine (nth_v la ln lc labels k z wr (HA.out.2.2.1.labels.below HH.out.2) HC.out.2.2.2.2.1).mono ?_
        rintro e w9 ⟨rfl, rfl⟩
        go_wp2_with (at_builtin; refine wpList_strs rfl (.tmp 129) (.tmp 137) rfl wa.heap.size _ k (texts CL) rfl H7.out.1.2 (some ⟨wr.heap.size, 0, none⟩) 1 1 [tx E] rfl H7.out.2.2 (by omega) H7.out.2.1.size ?_)
        intro v' w6 hown' hgrow
        have hown2 : w6.ownsRow wa.heap.size 9 1 v' (k + 1) (texts CL ++ texts [E]) := hown'
        obtain ⟨C', d', rfl, h2, h3⟩ := ownS_next (J := [E]) hown2 rfl hgrow H7.out.1 H7.out.2.1 (Nat.le_refl _) H7.out.2.1.size
        have H8 := Lib.hid (And.intro (h2.strs k63) h3)
        clear hown' hown2 hgrow h2 h3 e0 e1 e2 e3 e4 e5 e6 e7 e8 e9
        go_wp2_with fail
        refine (join_v C' (k + 1) d' (CL ++ [E]) R w6 H8.out.1 HC.out.1 HC.out.2.1).mono ?_
        rintro e w7 ⟨rfl, hb⟩
        have H9 := Lib.hid (H8.out.2.trans (hb.mono H8.out.2.size))
        clear hb
        go_wp2_with fail
        go_ret
        exact ⟨rfl, HA.out.1.trans (H9.out.mono HA.out.1.size)⟩
end Go.Proofs.YtakfoncdiejhaaaDoor
