/- Packed texts of one proof. Conditions: none. -/
import Derived.Test.YtbpichjmkllfaaaGreatDoorPq32
import Derived.Deep.RegionHeld3
namespace Go.Proofs.YtbpichjmkllfaaaGreatDoor.Par
open Go.ChangeShapes Go.WideShapes Go.RowKit
open Lex (Tok tcl tkv tk tc)
set_option linter.unusedVariables false
set_option maxRecDepth 20000
section
variable {A : Option Addr} {n cp : Nat} {ts : List Tok}
def LsP (ts : List Tok) (d : Nat) : Fol.Res → Fol.Res → Prop
 | .val v b, R => Ev ts (.sumL v) d b R
 | .bad c q, R => R = .bad c q
structure SumS (ts : List Tok) (n d a : Nat) (R : Fol.Res) (N At C P : Int) : Prop where
 out : OutR n R N At C P
 stop : ∀ v b, R = .val v b → ∃ t, ts[b]? = some t ∧ Fol.isT t [42] = false
 ev : ∀ R', LsP ts d R R' → Ev ts .sum d a R'
theorem SumS.start {d a : Nat} {R : Fol.Res} {N At C P : Int} (h : Ev ts .pro d a R) (ho : OutR n R N At C P) : SumS ts n d a R N At C P := by
 refine ⟨ho, fun v b e => h.stop (.inl rfl) v b e, fun R' hl => ?_⟩
 cases R with
 | val v b => exact .sumGo h hl
 | bad c q => rw [show R' = .bad c q from hl]; exact .sumBad h
theorem SumS.wrong {d a : Nat} {v : Int} {b : Nat} {N At C P : Int} {t : Tok} {c : Int} {q : Nat} (h : SumS ts n d a (.val v b) N At C P) (ht : ts[b]? = some t) (hs : Fol.isT t [43] = true ∨ Fol.isT t [45] = true)
  (hk : Ev ts .pro d (b + 1) (.bad c q)) : Ev ts .sum d a (.bad c q) := h.ev _ (.sumLBad ht hs hk)
theorem SumS.more {d a : Nat} {v : Int} {b : Nat} {N At C P N2 At2 C2 P2 : Int} {t : Tok} {y : Int} {c : Nat} (h : SumS ts n d a (.val v b) N At C P) (ht : ts[b]? = some t) (hs : Fol.isT t [43] = true ∨ Fol.isT t [45] = true)
  (hk : Ev ts .pro d (b + 1) (.val y c)) (ho : OutR n (.val y c) N2 At2 C2 P2) (m : Bool) (hm : Fol.isT t [45] = m) : SumS ts n d a (.val (addV N (negIf m N2)) c) (addV N (negIf m N2)) At2 0 0 ∧ left n (.val (addV N (negIf m N2)) c) < left n (.val v b) := by
 have hb := h.out.1
 have hN := h.out.2.1
 obtain ⟨h1, h2, h3, h4, h5⟩ := ho
 have := (hk.far y c rfl).1
 refine ⟨⟨⟨h1, rfl, h3, rfl, rfl⟩, fun v' b' e => ?_, fun R' hl => h.ev R' (.sumLGo ht hs hk ?_)⟩, ?_⟩
 ·injection e with _ e
  subst e
  exact hk.stop (.inl rfl) y c rfl
 ·rw [hm, ← hN, ← h2]
  exact hl
 ·show n - c + 1 < n - b + 1
  omega
theorem plus_minus {t : Tok} (h : Fol.isT t [43] = true) : Fol.isT t [45] = false := by
 unfold Fol.isT at h ⊢
 simp only [Bool.and_eq_true, Bool.or_eq_true, decide_eq_true_eq] at h
 simp [h.2]
theorem Px.setAt {w W : World} {H : Nat} {N At C P : Int} (h : Px w W H N At C P) (At' : Int) : Px w (W.setCell ⟨H, 1, none⟩ (.int .i64 At')) H N At' C P :=
 ⟨h.below.setCell (p := ⟨H, 1, none⟩) (by have := h.lo; show w.heap.size ≤ H; omega) _, h.lo, by rw [Below.heap_setCell _ _ _ _ (by have := h.lo; show w.heap.size ≠ H; omega)]; exact h.z, by simp [World.setCell, Array.getElem?_modify, h.ob, outA]⟩
set_option maxHeartbeats 4000000 in
theorem sum_v (hW : ∀ t ∈ ts, Wf t) (hE : Hid (Ends ts)) (d : Nat) (hd : 0 < d) (hF : RdC 169 .pro A n cp ts d) : RdC 161 .sum A n cp ts d := by
 intro w a hT ha _
 have hfew := hT.2.1
 obtain ⟨D, hD⟩ : ∃ D : Int, (d : Int) = D := ⟨_, rfl⟩
 rw [hD]
 have HH := Hh (Ai hW (Ai hF (Ai hT (Ai ha (Ai hD hd)))))
 clear hW hF hT ha hD hd
 go_enter Tryz.func161, Tryz.ntmps161
 go_wp2_with fail
 have hcall := HH.out.2.1 (w.alloc (.cells (outA 0 0 0 0) 213)) a (HH.out.2.2.1.below ((Below.refl _ w).alloc (Nat.le_refl _) _)) HH.out.2.2.2.1 (fun e => absurd e (by have := HH.out.2.2.2.2.2; omega))
 rw [HH.out.2.2.2.2.1] at hcall
 refine hcall.mono ?_
 rintro e w1 ⟨R, hR, hO, hb1⟩
 obtain ⟨N, At, C, P, rfl, hO'⟩ := hO.out
 have P0 := Hh (px_start (N := N) (At := At) (C := C) (P := P) hb1)
 have S0 := Hh (SumS.start hR hO')
 clear hR hO hO' hb1 hcall
 unfold outA
 go_wp2_with fail
 go_loopg [] (left n R) (fun gk wr => ∃ (R : Fol.Res) (N At C P : Int), gk = left n R ∧ Hid (Px w wr w1.heap.size N At C P ∧ SumS ts n d a R N At C P))
 case atStart => exact ⟨R, N, At, C, P, rfl, P0.out, S0.out⟩
 case round =>
  obtain ⟨R, N, At, C, P, hk, HP⟩ := hrel
  have hrow := HP.out.2.out
  obtain ⟨⟨y0, y1, y2, y3⟩, x0, x1, x2, x3⟩ := HP.out.1.cells
  obtain ⟨⟨g0, g1, g2, g3⟩, f0, f1, f2, f3⟩ := HP.out.1.frozen
  cases R with
  | bad c q =>
   have hc : (C == 0) = false := by rw [Bqf, hrow.2.1]; exact hrow.1
   have hc' : (C != 0) = true := by simpa using hc
   clear hrow hk
   go_wp2_with fail
   refine fin_out (fn := Tryz.f161) rfl rfl (HP.out.1.end _ _ _ _).1 rfl ?_
   exact ⟨_, HP.out.2.ev _ rfl, HP.out.2.out.outP, (HP.out.1.end _ _ _ _).2⟩
  | val v b =>
   obtain ⟨hb, hN, hAt, hC, hP⟩ := hrow
   subst hN hAt hC hP
   have ht : ts[b]? = some (ts[b]'(by rw [HH.out.2.2.1.1]; exact hb)) := List.getElem?_eq_getElem (by rw [HH.out.2.2.1.1]; exact hb)
   obtain ⟨t, ht'⟩ : ∃ t, (ts[b]'(by rw [HH.out.2.2.1.1]; exact hb)) = t := ⟨_, rfl⟩
   rw [ht'] at ht
   have T1 := HH.out.2.2.1.below HP.out.1.below
   obtain ⟨bb, o, rfl, hlt, d0, d1, d2, d3, d4⟩ := T1.at ht
   have l1 : (0 : Int) ≤ (b : Int) := Int.natCast_nonneg _
   have l2 : (b : Int) < (n : Int) := by omega
   obtain ⟨b1, hb1⟩ : ∃ b1, b + 1 = b1 := ⟨_, rfl⟩
   have q1 : (b : Int) + 1 = (b1 : Int) := by omega
   have q2 : wrap64 ((b : Int) + 1) = (b1 : Int) := by rw [q1]; unfold wrap64; omega
   have HT := Hh (Ai ht (Ai T1 (Ai hb (Ai hk hb1))))
   clear ht' T1 hlt hb1
   cases hs : Fol.isT t [43] with
   | true =>
    have hn1 := hE.out.more ht (by have := isT_kind hs; omega)
    rw [HH.out.2.2.1.1] at hn1
    have HS := Hh (Ai (Ai hs (plus_minus hs)) hn1)
    clear hs hk ht hb hn1
    go_wp2_with fail
    refine (sg_v (HH.out.1 _ (List.mem_of_getElem? HT.out.1)) 43 (by decide) true HS.out.1.1 _).mono ?_
    rintro e w3 ⟨rfl, hb3⟩
    have P3 := Hh (HP.out.1.next hb3)
    clear hb3 y0 y1 y2 y3 x0 x1 x2 x3 g0 g1 g2 g3 f0 f1 f2 f3 d0 d1 d2 d3 d4
    obtain ⟨⟨y0, y1, y2, y3⟩, _⟩ := P3.out.cells
    have HOR : Hid (Fol.isT t [43] = true ∨ Fol.isT t [45] = true) := Hh (.inl HS.out.1.1)
    go_wp2_with fail
    have hcall := HH.out.2.1 w3 b1 (HH.out.2.2.1.below P3.out.below) (by have := HS.out.2; have := HT.out.2.2.2.2; omega) (fun e => absurd e (by have := HH.out.2.2.2.2.2; omega))
    rw [HH.out.2.2.2.2.1] at hcall
    refine hcall.mono ?_
    rintro e w4 ⟨R2, hR2, hO2, hb4⟩
    obtain ⟨N2, At2, C2, P2, rfl, hO2'⟩ := hO2.out
    have P4 := P3.out.next hb4
    have P5 := P4.next ((Below.refl _ w4).alloc (Nat.le_refl _) (.cells (outA N2 At2 C2 P2) 213))
    have hlo : w1.heap.size < w4.heap.size := Nat.lt_of_lt_of_le (Array.getElem?_eq_some_iff.1 P4.ob).1 (Nat.le_refl _)
    have hev : Ev ts .pro d (b + 1) R2 := by rw [HT.out.2.2.2.2]; exact hR2
    have HP5 := Hh (Ai P5 (Ai hlo (Ai hev hO2')))
    have T5 := HH.out.2.2.1.below P5.below
    clear hcall hR2 hO2 hb4 P4 P5 hlo hev y0 y1 y2 y3 q1 q2
    obtain ⟨_, o', eA, _, d0, d1, d2, d3, d4⟩ := T5.at HT.out.1
    injection eA with eA
    injection eA with e1 e2
    subst e1; subst e2
    clear T5
    obtain ⟨⟨y0, y1, y2, y3⟩, x0, x1, x2, x3⟩ := HP5.out.1.cells
    obtain ⟨_, f0, f1, f2, f3⟩ := HP5.out.1.frozen
    unfold outA at y0 y1 y2 y3 x0 x1 x2 x3 f0 f1 f2 f3 d0 d1 d2 d3 d4
    unfold outA
    cases R2 with
    | bad c q =>
     have hc' : (C2 != 0) = true := by have := hO2'; rw [this.2.1]; simpa using this.1
     clear hO2'
     go_wp2_with fail
     refine fin_out (fn := Tryz.f161) rfl rfl (HP5.out.1.end _ _ _ _).1 rfl ?_
     exact ⟨_, HP.out.2.wrong HT.out.1 HOR.out HP5.out.2.2.1, HP5.out.2.2.2.outP, (HP5.out.1.end _ _ _ _).2⟩
    | val y c =>
     obtain ⟨hS3, hl3⟩ := HP.out.2.more HT.out.1 HOR.out HP5.out.2.2.1 HP5.out.2.2.2 false HS.out.1.2
     have HS3 := Hh (Ai hS3 hl3)
     obtain ⟨u1, u2, u3, u4, u5⟩ := hO2'
     subst u4 u5
     clear hS3 hl3 u1 u2 u3 x0 x1 x2 x3 f0 f1 f2 f3
     go_wp2_with fail
     refine (sg_v (HH.out.1 _ (List.mem_of_getElem? HT.out.1)) 45 (by decide) false HS.out.1.2 _).mono ?_
     rintro e w6 ⟨rfl, hb6⟩
     have ob6 := kept_box (heap_alloc_new w4 (.cells (outA N2 At2 0 0) 213 (0, 0))) hb6
     have P6 := Hh (HP5.out.1.next hb6)
     clear hb6 y0 y1 y2 y3 d0 d1 d2 d3 d4
     obtain ⟨N3, hN3⟩ : ∃ N3, N2 = N3 := ⟨_, rfl⟩
     have HN3 : Hid (negIf false N2 = N3) := Hh (by unfold negIf; rw [if_neg (by decide)]; exact hN3)
     rw [hN3] at ob6
     have HB7 := Hh ob6
     have HP7 := P6
     clear ob6 hN3
     go_wp2_with fail
     skip
     try rw [hw7]
     skip
     have bd := (Below.refl w6.heap.size w6).drew
     obtain ⟨wd, hwd⟩ : ∃ wd, w6.drew = wd := ⟨_, rfl⟩
     rw [hwd] at bd
     have HPd := Hh (HP7.out.next bd)
     have HBd := Hh (kept_box HB7.out bd)
     clear bd
     have v0 : wd.cell? ⟨w4.heap.size, 0, none⟩ = some (.int .i64 N3) := cell_in HBd.out 0
     have v1 : wd.cell? ⟨w4.heap.size, 1, none⟩ = some (.int .i64 At2) := cell_in HBd.out 1
     have c0 := HPd.out.cells.1.1
     have v0' : w6.cell? ⟨w4.heap.size, 0, none⟩ = some (.int .i64 N3) := cell_in HB7.out 0
     have v1' : w6.cell? ⟨w4.heap.size, 1, none⟩ = some (.int .i64 At2) := cell_in HB7.out 1
     refine wp_region_held_drew (S := fun W => W.cell? ⟨w4.heap.size, 0, none⟩ = some (.int .i64 N3) ∧ W.cell? ⟨w4.heap.size, 1, none⟩ = some (.int .i64 At2)) (by kernel_rfl) ⟨v0', v1'⟩ (fun hHeld => ?_)
     try rw [hwd]
     try rw [hwd] at hHeld
     clear hwd v0' v1'
     refine wpAnyH_take (i := 0) (v := .pointer (some ⟨w1.heap.size, 0, none⟩)) rfl (by kernel_rfl) (by kernel_rfl) (by kernel_rfl) (fun _ _ _ h => h) (Or.inl ⟨by rfl, by intro W hSw; (try dsimp only at hSw); go_simp; try with_reducible rfl⟩) (by assumption) ?_
     try simp only [Act.put, Lzs]
     refine wpAnyH_take (i := 2) (v := .pointer (some ⟨w4.heap.size, 0, none⟩)) rfl (by kernel_rfl) (by kernel_rfl) (by kernel_rfl) (fun _ _ _ h => h) (Or.inl ⟨by rfl, by intro W hSw; (try dsimp only at hSw); go_simp; try with_reducible rfl⟩) (by assumption) ?_
     try simp only [Act.put]
     refine wpAnyH_take (i := 3) (v := .int .i64 N3) rfl (by kernel_rfl) (by kernel_rfl) (by kernel_rfl) (fun _ _ _ h => h) (Or.inl ⟨by rfl, by intro W hSw; (try dsimp only at hSw); go_simp; try with_reducible rfl⟩) (by assumption) ?_
     try simp only [Act.put]
     refine wpAnyH_take (i := 5) (v := .pointer (some ⟨w4.heap.size, 1, none⟩)) rfl (by kernel_rfl) (by kernel_rfl) (by kernel_rfl) (fun _ _ _ h => h) (Or.inl ⟨by rfl, by intro W hSw; (try dsimp only at hSw); go_simp; try with_reducible rfl⟩) (by assumption) ?_
     try simp only [Act.put]
     refine wpAnyH_take (i := 6) (v := .int .i64 At2) rfl (by kernel_rfl) (by kernel_rfl) (by kernel_rfl) (fun _ _ _ h => h) (Or.inl ⟨by rfl, by intro W hSw; (try dsimp only at hSw); go_simp; try with_reducible rfl⟩) (by assumption) ?_
     try simp only [Act.put]
     refine wpAnyH_ready (rs := [1]) (by kernel_rfl) (by simp) ?_
     refine AllReadyH.cons rfl (fun K hK => ?_) AllReadyH.nil
     go_simp
     refine hK.out _ _ ⟨v0, v1⟩ (fun hHeld => ?_)
     clear hK K
     try simp only [Act.put, Lzs, Lz0, Lz1]
     refine wpAnyH_ready (rs := [4]) (by kernel_rfl) (by simp) ?_
     refine AllReadyH.cons rfl (fun K hK => ?_) AllReadyH.nil
     go_simp
     refine Calls.mono (add_is N N3 _) ?_
     rintro e w9 ⟨rfl, hb9⟩
     have HP9 := Hh (HPd.out.next hb9)
     have HB9 := Hh (kept_box HBd.out hb9)
     clear hb9 v0 v1 c0
     have v0 : w9.cell? ⟨w4.heap.size, 0, none⟩ = some (.int .i64 N3) := cell_in HB9.out 0
     have v1 : w9.cell? ⟨w4.heap.size, 1, none⟩ = some (.int .i64 At2) := cell_in HB9.out 1
     obtain ⟨⟨y0, y1, y2, y3⟩, _⟩ := HP9.out.cells
     obtain ⟨⟨g0, g1, g2, g3⟩, _⟩ := HP9.out.frozen
     obtain ⟨N4, hN4⟩ : ∃ N4, addV N N3 = N4 := ⟨_, rfl⟩
     rw [hN4]
     have P10 := Hh (HP9.out.set N4 At2 0 0)
     obtain ⟨w10, hw10⟩ : ∃ w10, four w9 w1.heap.size (.int .i64 N4) (.int .i64 At2) (.int .i64 0) (.int .i64 0) = w10 := ⟨_, rfl⟩
     have HB10 : Hid (w10.heap[w4.heap.size]? = some (.cells (outA N3 At2 0 0) 213 (0, 0))) := Hh (by rw [← hw10, four_far (by have := HP5.out.2.1; omega)]; exact HB9.out)
     rw [hw10] at P10
     unfold four at hw10
     go_wp2_with fail
     refine hK.out _ _ ⟨v0, v1⟩ (fun hHeld => ?_)
     clear hK K
     try simp only [Act.put, Lzs, Lz0, Lz1]
     refine wpAnyH_take (i := 7) (v := .agg #[.int .i64 N4, .int .i64 At2, .int .i64 0, .int .i64 0]) rfl (by kernel_rfl) (by kernel_rfl) (by kernel_rfl) (fun _ _ _ h => h) (Or.inl ⟨by rfl, by intro W hSw; (try dsimp only at hSw); go_simp; try with_reducible rfl⟩) (by assumption) ?_
     try simp only [Act.put, Lzs]
     refine wpAnyH_ready (rs := [8]) (by kernel_rfl) (by simp) ?_
     refine AllReadyH.cons rfl (fun K hK => ?_) AllReadyH.nil
     go_simp
     try rw [hw10]
     refine hK.out _ _ ⟨cell_in HB10.out 0, cell_in HB10.out 1⟩ (fun hHeld => ?_)
     clear hK K
     try simp only [Act.put, Lzs, Lz0, Lz1]
     refine wpAnyH_done (by kernel_rfl) ?_ _
     clear hw10
     have HN4 := Hh hN4
     clear hN4 v0 v1 y0 y1 y2 y3 g0 g1 g2 g3
     go_wp2_with fail
     go_roundg (left n (.val N4 c))
     case measure =>
      rw [HT.out.2.2.2.1]
      have := HS3.out.2
      rw [HN3.out, HN4.out] at this
      exact this
     case rel =>
      have := HS3.out.1
      rw [HN3.out, HN4.out] at this
      exact ⟨.val N4 c, N4, At2, 0, 0, rfl, P10.out, this⟩
   | false =>
    cases hm : Fol.isT t [45] with
    | true =>
     have hn1 := hE.out.more ht (by have := isT_kind hm; omega)
     rw [HH.out.2.2.1.1] at hn1
     have HS := Hh (Ai (Ai hs hm) hn1)
     clear hs hm hk ht hb hn1
     go_wp2_with fail
     refine (sg_v (HH.out.1 _ (List.mem_of_getElem? HT.out.1)) 43 (by decide) false HS.out.1.1 _).mono ?_
     rintro e w2 ⟨rfl, hb2⟩
     have P2 := Hh (HP.out.1.next hb2)
     have T2 := HT.out.2.1.below hb2
     clear hb2 y0 y1 y2 y3 x0 x1 x2 x3 g0 g1 g2 g3 f0 f1 f2 f3 d0 d1 d2 d3 d4
     obtain ⟨_, o', eA, _, d0, d1, d2, d3, d4⟩ := T2.at HT.out.1
     injection eA with eA
     injection eA with e1 e2
     subst e1; subst e2
     clear T2
     obtain ⟨⟨y0, y1, y2, y3⟩, _⟩ := P2.out.cells
     go_wp2_with fail
     refine (sg_v (HH.out.1 _ (List.mem_of_getElem? HT.out.1)) 45 (by decide) true HS.out.1.2 _).mono ?_
     rintro e w3 ⟨rfl, hb3⟩
     have P3 := Hh (P2.out.next hb3)
     clear hb3 y0 y1 y2 y3 d0 d1 d2 d3 d4
     obtain ⟨⟨y0, y1, y2, y3⟩, _⟩ := P3.out.cells
     have HOR : Hid (Fol.isT t [43] = true ∨ Fol.isT t [45] = true) := Hh (.inr HS.out.1.2)
     go_wp2_with fail
     have hcall := HH.out.2.1 w3 b1 (HH.out.2.2.1.below P3.out.below) (by have := HS.out.2; have := HT.out.2.2.2.2; omega) (fun e => absurd e (by have := HH.out.2.2.2.2.2; omega))
     rw [HH.out.2.2.2.2.1] at hcall
     refine hcall.mono ?_
     rintro e w4 ⟨R2, hR2, hO2, hb4⟩
     obtain ⟨N2, At2, C2, P2, rfl, hO2'⟩ := hO2.out
     have P4 := P3.out.next hb4
     have P5 := P4.next ((Below.refl _ w4).alloc (Nat.le_refl _) (.cells (outA N2 At2 C2 P2) 213))
     have hlo : w1.heap.size < w4.heap.size := Nat.lt_of_lt_of_le (Array.getElem?_eq_some_iff.1 P4.ob).1 (Nat.le_refl _)
     have hev : Ev ts .pro d (b + 1) R2 := by rw [HT.out.2.2.2.2]; exact hR2
     have HP5 := Hh (Ai P5 (Ai hlo (Ai hev hO2')))
     have T5 := HH.out.2.2.1.below P5.below
     clear hcall hR2 hO2 hb4 P4 P5 hlo hev y0 y1 y2 y3 q1 q2
     obtain ⟨_, o', eA, _, d0, d1, d2, d3, d4⟩ := T5.at HT.out.1
     injection eA with eA
     injection eA with e1 e2
     subst e1; subst e2
     clear T5
     obtain ⟨⟨y0, y1, y2, y3⟩, x0, x1, x2, x3⟩ := HP5.out.1.cells
     obtain ⟨_, f0, f1, f2, f3⟩ := HP5.out.1.frozen
     unfold outA at y0 y1 y2 y3 x0 x1 x2 x3 f0 f1 f2 f3 d0 d1 d2 d3 d4
     unfold outA
     cases R2 with
     | bad c q =>
      have hc' : (C2 != 0) = true := by have := hO2'; rw [this.2.1]; simpa using this.1
      clear hO2'
      go_wp2_with fail
      refine fin_out (fn := Tryz.f161) rfl rfl (HP5.out.1.end _ _ _ _).1 rfl ?_
      exact ⟨_, HP.out.2.wrong HT.out.1 HOR.out HP5.out.2.2.1, HP5.out.2.2.2.outP, (HP5.out.1.end _ _ _ _).2⟩
     | val y c =>
      obtain ⟨hS3, hl3⟩ := HP.out.2.more HT.out.1 HOR.out HP5.out.2.2.1 HP5.out.2.2.2 true HS.out.1.2
      have HS3 := Hh (Ai hS3 hl3)
      obtain ⟨u1, u2, u3, u4, u5⟩ := hO2'
      subst u4 u5
      clear hS3 hl3 u1 u2 u3 x0 x1 x2 x3 f0 f1 f2 f3
      go_wp2_with fail
      refine (sg_v (HH.out.1 _ (List.mem_of_getElem? HT.out.1)) 45 (by decide) true HS.out.1.2 _).mono ?_
      rintro e w6 ⟨rfl, hb6⟩
      have ob6 := kept_box (heap_alloc_new w4 (.cells (outA N2 At2 0 0) 213 (0, 0))) hb6
      have P6 := Hh (HP5.out.1.next hb6)
      clear hb6 y0 y1 y2 y3 d0 d1 d2 d3 d4
      have z0 : w6.cell? ⟨w4.heap.size, 0, none⟩ = some (.int .i64 N2) := cell_in ob6 0
      have HB6 := Hh ob6
      clear ob6
      go_wp2_with fail
      obtain ⟨N3, hN3⟩ : ∃ N3, subV 0 N2 = N3 := ⟨_, rfl⟩
      refine (rneg_v N2 N3 hN3 _).mono ?_
      rintro e w8 ⟨rfl, hb8⟩
      have ob8 := kept_box HB6.out hb8
      have P8 := P6.out.next hb8
      clear z0 hb8
      have zf := box_frozen' ob8 0
      have z0 : w8.cell? ⟨w4.heap.size, 0, none⟩ = some (.int .i64 N2) := cell_in ob8 0
      obtain ⟨w7, hw7⟩ : ∃ w7, w8.setCell ⟨w4.heap.size, 0, none⟩ (.int .i64 N3) = w7 := ⟨_, rfl⟩
      have ob7 : w7.heap[w4.heap.size]? = some (.cells (outA N3 At2 0 0) 213 (0, 0)) := by
       rw [← hw7]
       simp [World.setCell, Array.getElem?_modify, ob8, outA]
      have P7 := hw7 ▸ P8.far HP5.out.2.1 (o := 0) (.int .i64 N3)
      have HN3 : Hid (negIf true N2 = N3) := Hh (by unfold negIf; rw [if_pos rfl]; exact hN3)
      have HB7 := Hh ob7
      have HP7 := Hh P7
      clear ob8 P8 P7 ob7 hN3
      go_wp2_with fail
      clear zf z0
      try rw [hw7]
      clear hw7
      have bd := (Below.refl w7.heap.size w7).drew
      obtain ⟨wd, hwd⟩ : ∃ wd, w7.drew = wd := ⟨_, rfl⟩
      rw [hwd] at bd
      have HPd := Hh (HP7.out.next bd)
      have HBd := Hh (kept_box HB7.out bd)
      clear bd
      have v0 : wd.cell? ⟨w4.heap.size, 0, none⟩ = some (.int .i64 N3) := cell_in HBd.out 0
      have v1 : wd.cell? ⟨w4.heap.size, 1, none⟩ = some (.int .i64 At2) := cell_in HBd.out 1
      have c0 := HPd.out.cells.1.1
      have v0' : w7.cell? ⟨w4.heap.size, 0, none⟩ = some (.int .i64 N3) := cell_in HB7.out 0
      have v1' : w7.cell? ⟨w4.heap.size, 1, none⟩ = some (.int .i64 At2) := cell_in HB7.out 1
      refine wp_region_held_drew (S := fun W => W.cell? ⟨w4.heap.size, 0, none⟩ = some (.int .i64 N3) ∧ W.cell? ⟨w4.heap.size, 1, none⟩ = some (.int .i64 At2)) (by kernel_rfl) ⟨v0', v1'⟩ (fun hHeld => ?_)
      try rw [hwd]
      try rw [hwd] at hHeld
      clear hwd v0' v1'
      refine wpAnyH_take (i := 0) (v := .pointer (some ⟨w1.heap.size, 0, none⟩)) rfl (by kernel_rfl) (by kernel_rfl) (by kernel_rfl) (fun _ _ _ h => h) (Or.inl ⟨by rfl, by intro W hSw; (try dsimp only at hSw); go_simp; try with_reducible rfl⟩) (by assumption) ?_
      try simp only [Act.put, Lzs]
      refine wpAnyH_take (i := 2) (v := .pointer (some ⟨w4.heap.size, 0, none⟩)) rfl (by kernel_rfl) (by kernel_rfl) (by kernel_rfl) (fun _ _ _ h => h) (Or.inl ⟨by rfl, by intro W hSw; (try dsimp only at hSw); go_simp; try with_reducible rfl⟩) (by assumption) ?_
      try simp only [Act.put]
      refine wpAnyH_take (i := 3) (v := .int .i64 N3) rfl (by kernel_rfl) (by kernel_rfl) (by kernel_rfl) (fun _ _ _ h => h) (Or.inl ⟨by rfl, by intro W hSw; (try dsimp only at hSw); go_simp; try with_reducible rfl⟩) (by assumption) ?_
      try simp only [Act.put]
      refine wpAnyH_take (i := 5) (v := .pointer (some ⟨w4.heap.size, 1, none⟩)) rfl (by kernel_rfl) (by kernel_rfl) (by kernel_rfl) (fun _ _ _ h => h) (Or.inl ⟨by rfl, by intro W hSw; (try dsimp only at hSw); go_simp; try with_reducible rfl⟩) (by assumption) ?_
      try simp only [Act.put]
      refine wpAnyH_take (i := 6) (v := .int .i64 At2) rfl (by kernel_rfl) (by kernel_rfl) (by kernel_rfl) (fun _ _ _ h => h) (Or.inl ⟨by rfl, by intro W hSw; (try dsimp only at hSw); go_simp; try with_reducible rfl⟩) (by assumption) ?_
      try simp only [Act.put]
      refine wpAnyH_ready (rs := [1]) (by kernel_rfl) (by simp) ?_
      refine AllReadyH.cons rfl (fun K hK => ?_) AllReadyH.nil
      go_simp
      refine hK.out _ _ ⟨v0, v1⟩ (fun hHeld => ?_)
      clear hK K
      try simp only [Act.put, Lzs, Lz0, Lz1]
      refine wpAnyH_ready (rs := [4]) (by kernel_rfl) (by simp) ?_
      refine AllReadyH.cons rfl (fun K hK => ?_) AllReadyH.nil
      go_simp
      refine Calls.mono (add_is N N3 _) ?_
      rintro e w9 ⟨rfl, hb9⟩
      have HP9 := Hh (HPd.out.next hb9)
      have HB9 := Hh (kept_box HBd.out hb9)
      clear hb9 v0 v1 c0
      have v0 : w9.cell? ⟨w4.heap.size, 0, none⟩ = some (.int .i64 N3) := cell_in HB9.out 0
      have v1 : w9.cell? ⟨w4.heap.size, 1, none⟩ = some (.int .i64 At2) := cell_in HB9.out 1
      obtain ⟨⟨y0, y1, y2, y3⟩, _⟩ := HP9.out.cells
      obtain ⟨⟨g0, g1, g2, g3⟩, _⟩ := HP9.out.frozen
      obtain ⟨N4, hN4⟩ : ∃ N4, addV N N3 = N4 := ⟨_, rfl⟩
      rw [hN4]
      have P10 := Hh (HP9.out.set N4 At2 0 0)
      obtain ⟨w10, hw10⟩ : ∃ w10, four w9 w1.heap.size (.int .i64 N4) (.int .i64 At2) (.int .i64 0) (.int .i64 0) = w10 := ⟨_, rfl⟩
      have HB10 : Hid (w10.heap[w4.heap.size]? = some (.cells (outA N3 At2 0 0) 213 (0, 0))) := Hh (by rw [← hw10, four_far (by have := HP5.out.2.1; omega)]; exact HB9.out)
      rw [hw10] at P10
      unfold four at hw10
      go_wp2_with fail
      refine hK.out _ _ ⟨v0, v1⟩ (fun hHeld => ?_)
      clear hK K
      try simp only [Act.put, Lzs, Lz0, Lz1]
      refine wpAnyH_take (i := 7) (v := .agg #[.int .i64 N4, .int .i64 At2, .int .i64 0, .int .i64 0]) rfl (by kernel_rfl) (by kernel_rfl) (by kernel_rfl) (fun _ _ _ h => h) (Or.inl ⟨by rfl, by intro W hSw; (try dsimp only at hSw); go_simp; try with_reducible rfl⟩) (by assumption) ?_
      try simp only [Act.put, Lzs]
      refine wpAnyH_ready (rs := [8]) (by kernel_rfl) (by simp) ?_
      refine AllReadyH.cons rfl (fun K hK => ?_) AllReadyH.nil
      go_simp
      try rw [hw10]
      refine hK.out _ _ ⟨cell_in HB10.out 0, cell_in HB10.out 1⟩ (fun hHeld => ?_)
      clear hK K
      try simp only [Act.put, Lzs, Lz0, Lz1]
      refine wpAnyH_done (by kernel_rfl) ?_ _
      clear hw10
      have HN4 := Hh hN4
      clear hN4 v0 v1 y0 y1 y2 y3 g0 g1 g2 g3
      go_wp2_with fail
      go_roundg (left n (.val N4 c))
      case measure =>
       rw [HT.out.2.2.2.1]
       have := HS3.out.2
       rw [HN3.out, HN4.out] at this
       exact this
      case rel =>
       have := HS3.out.1
       rw [HN3.out, HN4.out] at this
       exact ⟨.val N4 c, N4, At2, 0, 0, rfl, P10.out, this⟩
    | false =>
     have HS := Hh (Ai hs hm)
     clear hs hm hk ht hb q1 q2
     go_wp2_with fail
     refine (sg_v (HH.out.1 _ (List.mem_of_getElem? HT.out.1)) 43 (by decide) false HS.out.1 _).mono ?_
     rintro e w2 ⟨rfl, hb2⟩
     have P2 := Hh (HP.out.1.next hb2)
     have T2 := HT.out.2.1.below hb2
     clear hb2 y0 y1 y2 y3 x0 x1 x2 x3 g0 g1 g2 g3 f0 f1 f2 f3 d0 d1 d2 d3 d4
     obtain ⟨_, o', eA, _, d0, d1, d2, d3, d4⟩ := T2.at HT.out.1
     injection eA with eA
     injection eA with e1 e2
     subst e1; subst e2
     obtain ⟨⟨y0, y1, y2, y3⟩, _⟩ := P2.out.cells
     have HT2 := Hh T2
     clear T2
     go_wp2_with fail
     refine (sg_v (HH.out.1 _ (List.mem_of_getElem? HT.out.1)) 45 (by decide) false HS.out.2 _).mono ?_
     rintro e w3 ⟨rfl, hb3⟩
     have P3 := Hh (P2.out.next hb3)
     have T3 := HT2.out.below hb3
     clear hb3 y0 y1 y2 y3 d0 d1 d2 d3 d4
     obtain ⟨_, o', eA, _, d0, d1, d2, d3, d4⟩ := T3.at HT.out.1
     injection eA with eA
     injection eA with e1 e2
     subst e1; subst e2
     obtain ⟨⟨y0, y1, y2, y3⟩, _⟩ := P3.out.cells
     have HT3 := Hh T3
     clear T3
     cases hc : Fol.isT t [41] with
     | true =>
      have HC := Hh hc
      have hn1 := hE.out.more HT.out.1 (by have := isT_kind hc; omega)
      rw [HH.out.2.2.1.1] at hn1
      have hbb := HT.out.2.2.2.2
      have hbn := HT.out.2.2.1
      have q1 : (b : Int) + 1 = (b1 : Int) := by omega
      have q2 : wrap64 ((b : Int) + 1) = (b1 : Int) := by rw [q1]; unfold wrap64; omega
      have HN := Hh hn1
      clear hc hn1 hbb hbn
      go_wp2_with fail
      refine (sg_v (HH.out.1 _ (List.mem_of_getElem? HT.out.1)) 41 (by decide) true HC.out _).mono ?_
      rintro e w4 ⟨rfl, hb4⟩
      have P4 := Hh (P3.out.next hb4)
      clear hb4 y0 y1 y2 y3 d0 d1 d2 d3 d4
      obtain ⟨⟨y0, y1, y2, y3⟩, x0, x1, x2, x3⟩ := P4.out.cells
      obtain ⟨⟨g0, g1, g2, g3⟩, f0, f1, f2, f3⟩ := P4.out.frozen
      obtain ⟨w5, hw5⟩ : ∃ w5, w4.setCell ⟨w1.heap.size, 1, none⟩ (.int .i64 (b1 : Int)) = w5 := ⟨_, rfl⟩
      have P5 := Hh (hw5 ▸ P4.out.setAt (b1 : Int))
      obtain ⟨⟨y0', y1', y2', y3'⟩, x0', x1', x2', x3'⟩ := P5.out.cells
      obtain ⟨⟨g0', g1', g2', g3'⟩, f0', f1', f2', f3'⟩ := P5.out.frozen
      go_wp2_with fail
      refine fin_out (fn := Tryz.f161) rfl rfl (P5.out.end _ _ _ _).1 rfl ?_
      refine ⟨.val N b1, HP.out.2.ev _ ?_, ⟨by have := HN.out; have := HT.out.2.2.2.2; omega, rfl⟩, (P5.out.end _ _ _ _).2⟩
      rw [← HT.out.2.2.2.2]
      exact .sumEnd HT.out.1 HS.out.1 HS.out.2 HC.out
     | false =>
      have HC := Hh hc
      clear hc
      go_wp2_with fail
      refine (sg_v (HH.out.1 _ (List.mem_of_getElem? HT.out.1)) 41 (by decide) false HC.out _).mono ?_
      rintro e w4 ⟨rfl, hb4⟩
      have P4 := Hh (P3.out.next hb4)
      have T4 := HT3.out.below hb4
      clear hb4 y0 y1 y2 y3 d0 d1 d2 d3 d4
      obtain ⟨_, o', eA, _, d0, d1, d2, d3, d4⟩ := T4.at HT.out.1
      injection eA with eA
      injection eA with e1 e2
      subst e1; subst e2
      clear T4
      obtain ⟨⟨y0, y1, y2, y3⟩, _⟩ := P4.out.cells
      go_wp2_with fail
      refine (rbad_v 20 t _).mono ?_
      rintro e w5 ⟨rfl, hb5⟩
      have P5 := Hh (P4.out.next hb5)
      clear hb5 y0 y1 y2 y3 d0 d1 d2 d3 d4
      obtain ⟨_, x0, x1, x2, x3⟩ := P5.out.cells
      obtain ⟨_, f0, f1, f2, f3⟩ := P5.out.frozen
      unfold outA
      go_wp2_with fail
      refine fin_out (fn := Tryz.f161) rfl rfl (P5.out.end _ _ _ _).1 rfl ?_
      refine ⟨.bad 20 t.at_, HP.out.2.ev _ ?_, ⟨by decide, 0, 0, rfl⟩, (P5.out.end _ _ _ _).2⟩
      obtain ⟨t', h1, h2⟩ := HP.out.2.stop _ _ rfl
      rw [HT.out.1] at h1
      injection h1 with h1
      subst h1
      exact .sumNo HT.out.1 HS.out.1 HS.out.2 HC.out h2
end
end Go.Proofs.YtbpichjmkllfaaaGreatDoor.Par
