/- Packed texts of one proof. Conditions: none. -/
import Derived.Test.YtbpichjmkllfaaaGreatDoorPq33
import Derived.Test.YtbpichjmkllfaaaGreatDoorPq18
namespace Go.Proofs.YtbpichjmkllfaaaGreatDoor.Par
open Go.ChangeShapes Go.WideShapes Go.RowKit
open Lex (Tok tcl tkv tk tc)
set_option linter.unusedVariables false
set_option maxRecDepth 20000
section
variable {A : Option Addr} {n cp : Nat} {ts : List Tok}
theorem sum_all (hW : ∀ t ∈ ts, Wf t) (hE : Ends ts) : ∀ (k d : Nat), d + k = 32 → 0 < d → RdC 161 .sum A n cp ts d := by
 intro k
 induction k with
 | zero =>
  intro d h1 h2
  exact sum_v hW (Hh hE) d h2 (product_v hW (Hh hE) d h2 (factor_v hW hE d (by omega) (fun h => absurd h (by omega))))
 | succ k ih =>
  intro d h1 h2
  exact sum_v hW (Hh hE) d h2 (product_v hW (Hh hE) d h2 (factor_v hW hE d (by omega) (fun h => ih (d + 1) (by omega) (by omega))))
theorem fac_0 (hW : ∀ t ∈ ts, Wf t) (hE : Ends ts) : RdC 162 .fac A n cp ts 0 := factor_v hW hE 0 (by omega) (fun h => sum_all hW hE 31 1 rfl (by omega))
theorem rval_v (hW : ∀ t ∈ ts, Wf t) (hE : Ends ts) (w : World) (a : Nat) (hT : IsToks w A n ts) (ha : a < n) : Calls Tryz.prog 147 #[.slice A n cp, .int .i64 (a : Int)] w fun e w' => ∃ R, EvV ts a R ∧ OutP n R e ∧ Below w.heap.size w w' := by
 obtain ⟨w0, hw0⟩ : ∃ w0, w.alloc (.cells #[.int .i64 0, .int .i64 0, .int .i64 0, .int .i64 0] 213) = w0 := ⟨_, rfl⟩
 have nb := new_box w _ 213 hw0
 have T0 := hT.below nb.1
 have hfew := hT.2.1
 have hlen := hT.1
 have ht : ts[a]? = some (ts[a]'(by omega)) := List.getElem?_eq_getElem (by omega)
 obtain ⟨t, ht'⟩ : ∃ t, (ts[a]'(by omega)) = t := ⟨_, rfl⟩
 rw [ht'] at ht
 obtain ⟨u, e0, hu, he0⟩ := hE
 have hul : u.length + 1 = n := by rw [← hlen, hu]; simp
 have hlast : ts[u.length]? = some e0 := by rw [hu]; simp
 obtain ⟨bb, o, rfl, hlt, d0, d1, d2, d3, d4⟩ := T0.at ht
 obtain ⟨_, o', eA, _, k0, _⟩ := T0.at hlast
 injection eA with eA
 injection eA with e1 e2
 subst e1; subst e2
 obtain ⟨m, hm⟩ : ∃ m, u.length = m := ⟨_, rfl⟩
 rw [hm] at k0 hul
 rw [he0] at k0
 have l1 : ¬ (a : Int) < 0 := by omega
 have l2 : ¬ (n : Int) ≤ (a : Int) := by omega
 have l1' : (0 : Int) ≤ (a : Int) := by omega
 have l2' : (a : Int) < (n : Int) := by omega
 have m1 : (0 : Int) ≤ (m : Int) := by omega
 have m2 : (m : Int) < (n : Int) := by omega
 have q1 : (n : Int) - 1 = (m : Int) := by omega
 have q2 : wrap64 ((n : Int) - 1) = (m : Int) := by rw [q1]; unfold wrap64; omega
 obtain ⟨a1, ha1⟩ : ∃ a1, a + 1 = a1 := ⟨_, rfl⟩
 obtain ⟨q3, q4, _⟩ : (a : Int) + 1 = (a1 : Int) ∧ wrap64 ((a : Int) + 1) = (a1 : Int) ∧ True := ⟨by omega, by unfold wrap64; omega, trivial⟩
 have HE : Hid (Ends ts) := Hh ⟨u, e0, hu, he0⟩
 have HA := Hh (Ai hW (Ai hT (Ai T0 (Ai nb (Ai ht ha1)))))
 have HL := Hh (Ai ha hlen)
 clear hW hT T0 nb ht' hlast hu he0 hm hul hlen ha
 cases hs : Fol.isT t [40] with
 | true =>
  have hn1 := HE.out.more ht (by have := isT_kind hs; omega)
  rw [HL.out.2, ha1] at hn1
  have HS := Hh (Ai hs hn1)
  clear hs hn1 ht ha1
  go_enter Tryz.func147, Tryz.ntmps147
  go_wp2_with fail
  try rw [hw0]
  try clear hw0
  refine (sg_v (HA.out.1 _ (List.mem_of_getElem? HA.out.2.2.2.2.1)) 40 (by decide) true HS.out.1 _).mono ?_
  rintro e w1 ⟨rfl, hb1⟩
  have T1 := HA.out.2.2.1.below hb1
  have z1 := kept_box HA.out.2.2.2.1.2 hb1
  have HB := Hh (Ai hb1 (Ai T1 z1))
  clear hb1 T1 z1 d0 d1 d2 d3 d4 k0
  go_wp2_with fail
  have hcall := sum_all HA.out.1 HE.out 31 1 rfl (by omega) (cp := cp) w1 a1 HB.out.2.1 HS.out.2 (fun e => absurd e (by omega))
  rw [show ((1 : Nat) : Int) = 1 from rfl] at hcall
  refine hcall.mono ?_
  rintro e w2 ⟨R, hR, hO, hb2⟩
  obtain ⟨N, At, C, P, rfl, hO'⟩ := hO.out
  have z2 := kept_box HB.out.2.2 hb2
  obtain ⟨⟨y0, y1, y2, y3⟩, g0, g1, g2, g3⟩ := box4 z2
  have HC := Hh (Ai hb2 (Ai z2 (Ai hR hO')))
  clear hcall hR hO hO' z2 hb2
  unfold outA
  go_wp2_with fail
  refine fin_out (fn := Tryz.f147) rfl rfl (four_heap HC.out.2.1) rfl ?_
  refine ⟨R, .inl ⟨t, HA.out.2.2.2.2.1, HS.out.1, ?_⟩, HC.out.2.2.2.outP, four_below (HA.out.2.2.2.1.1.trans ((HB.out.1.trans (HC.out.1.mono HB.out.1.size)).mono HA.out.2.2.2.1.1.size)) (Nat.le_refl _)⟩
  rw [HA.out.2.2.2.2.2]
  exact HC.out.2.2.1
 | false =>
  have HS := Hh hs
  clear hs ht ha1
  go_enter Tryz.func147, Tryz.ntmps147
  go_wp2_with fail
  try rw [hw0]
  try clear hw0
  refine (sg_v (HA.out.1 _ (List.mem_of_getElem? HA.out.2.2.2.2.1)) 40 (by decide) false HS.out _).mono ?_
  rintro e w1 ⟨rfl, hb1⟩
  have T1 := HA.out.2.2.1.below hb1
  have z1 := kept_box HA.out.2.2.2.1.2 hb1
  have HB := Hh (Ai hb1 (Ai T1 z1))
  clear hb1 T1 z1 d0 d1 d2 d3 d4 k0
  go_wp2_with fail
  have hcall := fac_0 HA.out.1 HE.out (cp := cp) w1 a HB.out.2.1 HL.out.1 (fun _ t0 h0 => by rw [HA.out.2.2.2.2.1] at h0; injection h0 with h0; subst h0; exact HS.out)
  rw [show ((0 : Nat) : Int) = 0 from rfl] at hcall
  refine hcall.mono ?_
  rintro e w2 ⟨R, hR, hO, hb2⟩
  obtain ⟨N, At, C, P, rfl, hO'⟩ := hO.out
  have z2 := kept_box HB.out.2.2 hb2
  obtain ⟨⟨y0, y1, y2, y3⟩, g0, g1, g2, g3⟩ := box4 z2
  have HC := Hh (Ai hb2 (Ai z2 (Ai hR hO')))
  clear hcall hR hO hO' z2 hb2
  unfold outA
  go_wp2_with fail
  refine fin_out (fn := Tryz.f147) rfl rfl (four_heap HC.out.2.1) rfl ?_
  exact ⟨R, .inr ⟨t, HA.out.2.2.2.2.1, HS.out, HC.out.2.2.1⟩, HC.out.2.2.2.outP, four_below (HA.out.2.2.2.1.1.trans ((HB.out.1.trans (HC.out.1.mono HB.out.1.size)).mono HA.out.2.2.2.1.1.size)) (Nat.le_refl _)⟩
end
section
variable {w : World} {p : Nat} {A : Option Addr} {n cp : Nat} {ts : List Tok} {s : St}
def ValP (w : World) (p : Nat) (A : Option Addr) (n cp : Nat) (ts : List Tok) (s : St) (e : Ending) (w' : World) : Prop :=
 ∃ s' v, e = .returned (.int .i64 v) ∧ Step w.heap.size p w w' ∧ Rd w' p A n cp ts s' ∧ Tr ts value s s' v
theorem rvalue_idle (hc : s.code ≠ 0) (h : Rd w p A n cp ts s) : Calls Tryz.prog 124 #[.pointer (some ⟨p, 0, none⟩)] w (ValP w p A n cp ts s) := by
 have hb : (s.code == 0) = false := by rw [Bqf]; exact hc
 have HA := Hh (Ai h (Ai hb hc))
 clear h hb hc
 go_enter Tryz.func124, Tryz.ntmps124
 go_wp2_with fail
 refine (rok_v false HA.out.2.1 HA.out.1).mono ?_
 rintro e w1 ⟨rfl, rfl⟩
 go_wp2_with fail
 go_ret
 exact ⟨s, 0, rfl, Step.refl _ _ _, HA.out.1, tr_idle HA.out.2.2⟩
structure Vx (w W : World) (p H : Nat) (A : Option Addr) (n cp : Nat) (ts : List Tok) (s : St) (N At C P : Int) : Prop where
 below : Below w.heap.size w W
 lo : w.heap.size ≤ H
 plt : p < w.heap.size
 rd : Rd W p A n cp ts s
 ob : W.heap[H]? = some (.cells (outA N At C P) 213 (0, 0))
set_option maxHeartbeats 2000000 in
theorem rvalue_go (hc : s.code = 0) (h : Rd w p A n cp ts s) : Calls Tryz.prog 124 #[.pointer (some ⟨p, 0, none⟩)] w (ValP w p A n cp ts s) := by
 have hb : (s.code == 0) = true := by rw [hc]; rfl
 have hE : Ends (ts.drop s.at_) := h.ends.drop (by rw [h.len]; exact h.lt)
 have HA := Hh (Ai h (Ai hb (Ai hc hE)))
 clear h hb hc hE
 go_enter Tryz.func124, Tryz.ntmps124
 go_wp2_with fail
 refine (rok_v true HA.out.2.1 HA.out.1).mono ?_
 rintro e w1 ⟨rfl, rfl⟩
 obtain ⟨c0, c1, c2, c3⟩ := HA.out.1.cells
 go_wp2_with fail
 obtain ⟨wd, hwd⟩ : ∃ wd, w.drew = wd := ⟨_, rfl⟩
 have bd : Below w.heap.size w wd := hwd ▸ (Below.refl w.heap.size w).drew
 refine wp_region_held_drew (S := fun W => W.cell? ⟨p, 0, none⟩ = some (.slice A n cp) ∧ W.cell? ⟨p, 1, none⟩ = some (.int .i64 (s.at_ : Int))) (by kernel_rfl) ⟨c0, c1⟩ (fun hHeld => ?_)
 try rw [hwd]
 try rw [hwd] at hHeld
 have Rd0 := HA.out.1.below bd
 have HD := Hh (Ai bd Rd0)
 clear hwd bd Rd0 c0 c1 c2 c3
 refine wpAnyH_take (i := 0) (v := .pointer (some ⟨p, 0, none⟩)) rfl (by kernel_rfl) (by kernel_rfl) (by kernel_rfl) (fun _ _ _ h => h) (Or.inl ⟨by rfl, by intro W hSw; (try dsimp only at hSw); go_simp; try with_reducible rfl⟩) (by assumption) ?_
 try simp only [Act.put, Lzs]
 refine wpAnyH_take (i := 1) (v := .pointer (some ⟨p, 0, none⟩)) rfl (by kernel_rfl) (by kernel_rfl) (by kernel_rfl) (fun _ _ _ h => h) (Or.inl ⟨by rfl, by intro W hSw; (try dsimp only at hSw); go_simp; try with_reducible rfl⟩) (by assumption) ?_
 try simp only [Act.put]
 refine wpAnyH_take (i := 2) (v := .pointer (some ⟨p, 0, none⟩)) rfl (by kernel_rfl) (by kernel_rfl) (by kernel_rfl) (fun _ _ _ h => h) (Or.inl ⟨by rfl, by intro W hSw; (try dsimp only at hSw); go_simp; try with_reducible rfl⟩) (by assumption) ?_
 try simp only [Act.put]
 refine wpAnyH_take (i := 3) (v := .slice A n cp) rfl (by kernel_rfl) (by kernel_rfl) (by kernel_rfl) (fun _ _ _ h => h) (Or.inl ⟨by rfl, by intro W hSw; (try dsimp only at hSw); go_simp; try with_reducible rfl⟩) (by assumption) ?_
 try simp only [Act.put]
 refine wpAnyH_take (i := 4) (v := .pointer (some ⟨p, 0, none⟩)) rfl (by kernel_rfl) (by kernel_rfl) (by kernel_rfl) (fun _ _ _ h => h) (Or.inl ⟨by rfl, by intro W hSw; (try dsimp only at hSw); go_simp; try with_reducible rfl⟩) (by assumption) ?_
 try simp only [Act.put]
 refine wpAnyH_take (i := 5) (v := .pointer (some ⟨p, 0, none⟩)) rfl (by kernel_rfl) (by kernel_rfl) (by kernel_rfl) (fun _ _ _ h => h) (Or.inl ⟨by rfl, by intro W hSw; (try dsimp only at hSw); go_simp; try with_reducible rfl⟩) (by assumption) ?_
 try simp only [Act.put]
 refine wpAnyH_take (i := 6) (v := .pointer (some ⟨p, 1, none⟩)) rfl (by kernel_rfl) (by kernel_rfl) (by kernel_rfl) (fun _ _ _ h => h) (Or.inl ⟨by rfl, by intro W hSw; (try dsimp only at hSw); go_simp; try with_reducible rfl⟩) (by assumption) ?_
 try simp only [Act.put]
 refine wpAnyH_take (i := 7) (v := .int .i64 (s.at_ : Int)) rfl (by kernel_rfl) (by kernel_rfl) (by kernel_rfl) (fun _ _ _ h => h) (Or.inl ⟨by rfl, by intro W hSw; (try dsimp only at hSw); go_simp; try with_reducible rfl⟩) (by assumption) ?_
 try simp only [Act.put]
 refine wpAnyH_ready (rs := [8, 9]) (by kernel_rfl) (by simp) ?_
 refine AllReadyH.cons rfl (fun K hK => ?_) (AllReadyH.cons rfl (fun K hK => ?_) AllReadyH.nil)
 ·go_simp
  refine Calls.mono (rval_v HA.out.1.wf HA.out.1.ends wd s.at_ HD.out.2.toks HA.out.1.lt) ?_
  rintro e w2 ⟨R, hR, hO, hb2⟩
  obtain ⟨N, At, C, P, rfl, hO'⟩ := hO.out
  have R2 := HD.out.2.below hb2
  have HC := Hh (Ai (HD.out.1.trans (hb2.mono HD.out.1.size)) (Ai R2 (Ai hR hO')))
  clear hR hO hO' hb2 R2
  unfold outA
  go_simp
  refine hK.out _ _ ⟨HC.out.2.1.cells.1, HC.out.2.1.cells.2.1⟩ (fun hHeld => ?_)
  clear hK K
  try simp only [Act.put, Lzs, Lz0, Lz1]
  refine wpAnyH_ready (rs := [9]) (by kernel_rfl) (by simp) ?_
  refine AllReadyH.cons rfl (fun K hK => ?_) AllReadyH.nil
  obtain ⟨w3, hw3⟩ : ∃ w3, w2.alloc (.cells #[.int .i64 0, .int .i64 0, .int .i64 0, .int .i64 0] 213) = w3 := ⟨_, rfl⟩
  have nb := new_box w2 _ 213 hw3
  have R3 := HC.out.2.1.below nb.1
  have HG := Hh (Ai (HC.out.1.trans (nb.1.mono HC.out.1.size)) (Ai R3 (Ai nb.2 (Ai HC.out.1.size HC.out.2.2))))
  obtain ⟨I, hI⟩ : ∃ I, w2.heap.size = I := ⟨_, rfl⟩
  rw [hI] at HG
  clear nb R3
  go_simp
  try rw [hw3]
  try rw [hI]
  clear hw3
  refine hK.out _ _ ⟨HG.out.2.1.cells.1, HG.out.2.1.cells.2.1⟩ (fun hHeld => ?_)
  clear hK K hI
  try simp only [Act.put, Lzs, Lz0, Lz1]
  refine wpAnyH_ready (rs := [10]) (by kernel_rfl) (by simp) ?_
  refine AllReadyH.cons rfl (fun K hK => ?_) AllReadyH.nil
  obtain ⟨⟨y0, y1, y2, y3⟩, g0, g1, g2, g3⟩ := box4 HG.out.2.2.1
  obtain ⟨w4, hw4⟩ : ∃ w4, four w3 I (.int .i64 N) (.int .i64 At) (.int .i64 C) (.int .i64 P) = w4 := ⟨_, rfl⟩
  have hV : Vx w w4 p I A n cp ts s N At C P := by
   have hb : Below w.heap.size w w4 := hw4 ▸ four_below HG.out.1 HG.out.2.2.2.1
   have hag : Agree (fun k => k < w.heap.size) w3 w4 := by
    rw [← hw4]
    exact ⟨by rw [four_size]; exact Nat.le_refl _, fun k _ hk => four_far (by have := HG.out.2.2.2.1; omega)⟩
   exact ⟨hb, HG.out.2.2.2.1, HA.out.1.plt, HG.out.2.1.keep HA.out.1 hag, hw4 ▸ four_heap HG.out.2.2.1⟩
  have HV := Hh hV
  clear hV
  unfold four at hw4
  go_simp
  try rw [hw4]
  clear hw4 y0 y1 y2 y3 g0 g1 g2 g3
  refine hK.out _ _ ⟨HV.out.rd.cells.1, HV.out.rd.cells.2.1⟩ (fun hHeld => ?_)
  clear hK K hHeld
  try simp only [Act.put, Lzs, Lz0, Lz1]
  refine wpAnyH_done (by kernel_rfl) ?_ _
  obtain ⟨x0, x1, x2, x3⟩ : w4.cell? ⟨I, 0, none⟩ = some (.int .i64 N) ∧ w4.cell? ⟨I, 1, none⟩ = some (.int .i64 At) ∧ w4.cell? ⟨I, 2, none⟩ = some (.int .i64 C) ∧ w4.cell? ⟨I, 3, none⟩ = some (.int .i64 P) := ⟨cell_in HV.out.ob 0, cell_in HV.out.ob 1, cell_in HV.out.ob 2, cell_in HV.out.ob 3⟩
  obtain ⟨c0, c1, c2, c3⟩ := HV.out.rd.cells
  have f1 := box_frozen HV.out.rd.box 1
  have f2 := box_frozen HV.out.rd.box 2
  have f3 := box_frozen HV.out.rd.box 3
  have HR := Hh (Ai HG.out.2.2.2.2.1 HG.out.2.2.2.2.2)
  cases R with
  | bad c q =>
   obtain ⟨r1, r2, r3⟩ := HR.out.2
   subst r2 r3
   have hc' : (C != 0) = true := by simpa using r1
   have HQ := Hh r1
   clear r1
   go_wp2_with fail
   go_region
   go_wp2_with fail
   go_ret
   have hb := HV.out.rd.bad C q
   refine ⟨⟨s.at_, C, q⟩, 0, rfl, (Step.of HV.out.below).trans (hb.1.mono HV.out.below.size), hb.2, .inr (.inr ⟨HA.out.2.2.1, HQ.out, ?_⟩)⟩
   exact value_at (fun t h => (HA.out.1.wf t h).fit) HA.out.2.2.2 HR.out.1
  | val v b =>
   obtain ⟨r1, r2, r3, r4, r5⟩ := HR.out.2
   subst r2 r3 r4 r5
   have HQ := Hh r1
   clear r1
   go_wp2_with fail
   go_ret
   have hb := HV.out.rd.set (s' := ⟨b, s.code, s.pos⟩) (set_agree w4 p 1 (.int .i64 (b : Int))) HQ.out ((set_box HV.out.rd.box).1 _)
   refine ⟨⟨b, s.code, s.pos⟩, N, rfl, (Step.of HV.out.below).put 1 _, hb, .inr (.inl ⟨HA.out.2.2.1, HA.out.2.2.1, ?_⟩)⟩
   exact value_at (fun t h => (HA.out.1.wf t h).fit) HA.out.2.2.2 HR.out.1
 ·obtain ⟨wb, hwb⟩ : ∃ wb, wd.alloc (.cells #[.int .i64 0, .int .i64 0, .int .i64 0, .int .i64 0] 213) = wb := ⟨_, rfl⟩
  have nb := new_box wd _ 213 hwb
  have Rb := HD.out.2.below nb.1
  have HX := Hh (Ai (HD.out.1.trans (nb.1.mono HD.out.1.size)) (Ai Rb (Ai nb.2 HD.out.1.size)))
  obtain ⟨I, hI⟩ : ∃ I, wd.heap.size = I := ⟨_, rfl⟩
  rw [hI] at HX
  clear nb Rb
  go_simp
  try rw [hwb]
  try rw [hI]
  clear hwb
  refine hK.out _ _ ⟨HX.out.2.1.cells.1, HX.out.2.1.cells.2.1⟩ (fun hHeld => ?_)
  clear hK K hI
  try simp only [Act.put, Lzs, Lz0, Lz1]
  refine wpAnyH_ready (rs := [8]) (by kernel_rfl) (by simp) ?_
  refine AllReadyH.cons rfl (fun K hK => ?_) AllReadyH.nil
  go_simp
  refine Calls.mono (rval_v HA.out.1.wf HA.out.1.ends wb s.at_ HX.out.2.1.toks HA.out.1.lt) ?_
  rintro e w3 ⟨R, hR, hO, hb2⟩
  obtain ⟨N, At, C, P, rfl, hO'⟩ := hO.out
  have HG := Hh (Ai (HX.out.1.trans (hb2.mono HX.out.1.size)) (Ai (HX.out.2.1.below hb2) (Ai (kept_box HX.out.2.2.1 hb2) (Ai HX.out.2.2.2 (Ai hR hO')))))
  clear hR hO hO' hb2
  unfold outA
  go_simp
  refine hK.out _ _ ⟨HG.out.2.1.cells.1, HG.out.2.1.cells.2.1⟩ (fun hHeld => ?_)
  clear hK K
  try simp only [Act.put, Lzs, Lz0, Lz1]
  refine wpAnyH_ready (rs := [10]) (by kernel_rfl) (by simp) ?_
  refine AllReadyH.cons rfl (fun K hK => ?_) AllReadyH.nil
  obtain ⟨⟨y0, y1, y2, y3⟩, g0, g1, g2, g3⟩ := box4 HG.out.2.2.1
  obtain ⟨w4, hw4⟩ : ∃ w4, four w3 I (.int .i64 N) (.int .i64 At) (.int .i64 C) (.int .i64 P) = w4 := ⟨_, rfl⟩
  have hV : Vx w w4 p I A n cp ts s N At C P := by
   have hb : Below w.heap.size w w4 := hw4 ▸ four_below HG.out.1 HG.out.2.2.2.1
   have hag : Agree (fun k => k < w.heap.size) w3 w4 := by
    rw [← hw4]
    exact ⟨by rw [four_size]; exact Nat.le_refl _, fun k _ hk => four_far (by have := HG.out.2.2.2.1; omega)⟩
   exact ⟨hb, HG.out.2.2.2.1, HA.out.1.plt, HG.out.2.1.keep HA.out.1 hag, hw4 ▸ four_heap HG.out.2.2.1⟩
  have HV := Hh hV
  clear hV
  unfold four at hw4
  go_simp
  try rw [hw4]
  clear hw4 y0 y1 y2 y3 g0 g1 g2 g3
  refine hK.out _ _ ⟨HV.out.rd.cells.1, HV.out.rd.cells.2.1⟩ (fun hHeld => ?_)
  clear hK K hHeld
  try simp only [Act.put, Lzs, Lz0, Lz1]
  refine wpAnyH_done (by kernel_rfl) ?_ _
  obtain ⟨x0, x1, x2, x3⟩ : w4.cell? ⟨I, 0, none⟩ = some (.int .i64 N) ∧ w4.cell? ⟨I, 1, none⟩ = some (.int .i64 At) ∧ w4.cell? ⟨I, 2, none⟩ = some (.int .i64 C) ∧ w4.cell? ⟨I, 3, none⟩ = some (.int .i64 P) := ⟨cell_in HV.out.ob 0, cell_in HV.out.ob 1, cell_in HV.out.ob 2, cell_in HV.out.ob 3⟩
  obtain ⟨c0, c1, c2, c3⟩ := HV.out.rd.cells
  have f1 := box_frozen HV.out.rd.box 1
  have f2 := box_frozen HV.out.rd.box 2
  have f3 := box_frozen HV.out.rd.box 3
  have HR := Hh (Ai HG.out.2.2.2.2.1 HG.out.2.2.2.2.2)
  cases R with
  | bad c q =>
   obtain ⟨r1, r2, r3⟩ := HR.out.2
   subst r2 r3
   have hc' : (C != 0) = true := by simpa using r1
   have HQ := Hh r1
   clear r1
   go_wp2_with fail
   go_region
   go_wp2_with fail
   go_ret
   have hb := HV.out.rd.bad C q
   refine ⟨⟨s.at_, C, q⟩, 0, rfl, (Step.of HV.out.below).trans (hb.1.mono HV.out.below.size), hb.2, .inr (.inr ⟨HA.out.2.2.1, HQ.out, ?_⟩)⟩
   exact value_at (fun t h => (HA.out.1.wf t h).fit) HA.out.2.2.2 HR.out.1
  | val v b =>
   obtain ⟨r1, r2, r3, r4, r5⟩ := HR.out.2
   subst r2 r3 r4 r5
   have HQ := Hh r1
   clear r1
   go_wp2_with fail
   go_ret
   have hb := HV.out.rd.set (s' := ⟨b, s.code, s.pos⟩) (set_agree w4 p 1 (.int .i64 (b : Int))) HQ.out ((set_box HV.out.rd.box).1 _)
   refine ⟨⟨b, s.code, s.pos⟩, N, rfl, (Step.of HV.out.below).put 1 _, hb, .inr (.inl ⟨HA.out.2.2.1, HA.out.2.2.1, ?_⟩)⟩
   exact value_at (fun t h => (HA.out.1.wf t h).fit) HA.out.2.2.2 HR.out.1
theorem rvalue_v (h : Rd w p A n cp ts s) : Calls Tryz.prog 124 #[.pointer (some ⟨p, 0, none⟩)] w (ValP w p A n cp ts s) := by
 by_cases hc : s.code = 0
 ·exact rvalue_go hc h
 ·exact rvalue_idle hc h
end
end Go.Proofs.YtbpichjmkllfaaaGreatDoor.Par
