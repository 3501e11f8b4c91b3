/- Whether any two units are one is what the document says. -/
import Derived.Test.YtocelaebokikcaaUnit
import Derived.Test.YtocelaebokikcaaLarge
import Derived.Deep.RegionHeld3
namespace Go.Proofs.Ytocelaebokikcaa
open Go.ChangeShapes Go.WideShapes Go.RowKit
set_option linter.unusedVariables false
set_option maxRecDepth 20000

theorem two_cells {W : World} {p q : Nat} {t : TypeId} {x0 x1 x2 x3 x4 x5 x6 x7 x8 x9 x10 x11 x12 y0 y1 y2 y3 y4 y5 y6 y7 y8 y9 y10 y11 y12 : Value} (h1 : W.heap[p]? = some (.cells #[x0, x1, x2, x3, x4, x5, x6, x7, x8, x9, x10, x11, x12] t (0, 0))) (h2 : W.heap[q]? = some (.cells #[y0, y1, y2, y3, y4, y5, y6, y7, y8, y9, y10, y11, y12] t (0, 0))) :
    W.cell? ⟨p, 0, none⟩ = some (x0) ∧ W.cell? ⟨p, 1, none⟩ = some (x1) ∧ W.cell? ⟨p, 2, none⟩ = some (x2) ∧ W.cell? ⟨p, 3, none⟩ = some (x3) ∧ W.cell? ⟨p, 4, none⟩ = some (x4) ∧ W.cell? ⟨p, 5, none⟩ = some (x5) ∧ W.cell? ⟨p, 6, none⟩ = some (x6) ∧ W.cell? ⟨p, 7, none⟩ = some (x7) ∧ W.cell? ⟨p, 8, none⟩ = some (x8) ∧ W.cell? ⟨p, 9, none⟩ = some (x9) ∧ W.cell? ⟨p, 10, none⟩ = some (x10) ∧ W.cell? ⟨p, 11, none⟩ = some (x11) ∧ W.cell? ⟨p, 12, none⟩ = some (x12) ∧ W.cell? ⟨q, 0, none⟩ = some (y0) ∧ W.cell? ⟨q, 1, none⟩ = some (y1) ∧ W.cell? ⟨q, 2, none⟩ = some (y2) ∧ W.cell? ⟨q, 3, none⟩ = some (y3) ∧ W.cell? ⟨q, 4, none⟩ = some (y4) ∧ W.cell? ⟨q, 5, none⟩ = some (y5) ∧ W.cell? ⟨q, 6, none⟩ = some (y6) ∧ W.cell? ⟨q, 7, none⟩ = some (y7) ∧ W.cell? ⟨q, 8, none⟩ = some (y8) ∧ W.cell? ⟨q, 9, none⟩ = some (y9) ∧ W.cell? ⟨q, 10, none⟩ = some (y10) ∧ W.cell? ⟨q, 11, none⟩ = some (y11) ∧ W.cell? ⟨q, 12, none⟩ = some (y12) :=
  ⟨cell_in h1 0, cell_in h1 1, cell_in h1 2, cell_in h1 3, cell_in h1 4, cell_in h1 5, cell_in h1 6, cell_in h1 7, cell_in h1 8, cell_in h1 9, cell_in h1 10, cell_in h1 11, cell_in h1 12, cell_in h2 0, cell_in h2 1, cell_in h2 2, cell_in h2 3, cell_in h2 4, cell_in h2 5, cell_in h2 6, cell_in h2 7, cell_in h2 8, cell_in h2 9, cell_in h2 10, cell_in h2 11, cell_in h2 12⟩
def WorksV : Prop := ∀ w, Calls Try.prog 8 #[] w fun e w' => e = .returned (.bool true) ∧ Below w.heap.size w w'
def CallsB (f : FuncId) (args : Array Value) (W : World) (b : Bool) : Prop := Calls Try.prog f args W fun e w' => e = .returned (.bool b) ∧ Below W.heap.size W w'
theorem CallsB.of {f : FuncId} {args : Array Value} {W : World} {b c : Bool} (h : Calls Try.prog f args W fun e w' => e = .returned (.bool b) ∧ Below W.heap.size W w') (hb : b = c) : CallsB f args W c := by subst hb; exact h
set_option maxHeartbeats 4000000 in
theorem sames_v (hworks : WorksV) (i j : Unt) (r s : UntV) (w : World) (h : IsUnt w i r) (h' : IsUnt w j s) :
    Calls Try.prog 3 #[.agg (untR i r), .agg (untR j s)] w fun e w' => e = .returned (.bool true) ∧ Below w.heap.size w w' := by
  have B0 : Below w.heap.size w ((w.alloc (.cells (untR i r) 36)).alloc (.cells (untR j s) 36)) := ((Below.refl _ w).alloc (Nat.le_refl _) _).alloc (by simp) _
  have hs : w.heap.size ≤ ((w.alloc (.cells (untR i r) 36)).alloc (.cells (untR j s) 36)).heap.size := by simp; omega
  have D := Lib.hid (And.intro (h.below B0) (And.intro (h'.below B0) (And.intro B0 (And.intro hs (box_two w (.cells (untR i r) 36) (.cells (untR j s) 36))))))
  obtain ⟨bu, hbu⟩ : ∃ b, untEq i j = b := ⟨_, rfl⟩
  obtain ⟨bf, hbf⟩ : ∃ b, funEq i.f j.f = b := ⟨_, rfl⟩
  obtain ⟨ba', hba⟩ : ∃ b, aloEq i.al j.al = b := ⟨_, rfl⟩
  obtain ⟨bt, hbt⟩ : ∃ b, tgtEq i.t j.t = b := ⟨_, rfl⟩
  have C9 : ∀ W, Below w.heap.size w W → CallsB 9 #[.agg (untR i r), .agg (untR j s)] W bu := fun W hB => CallsB.of (eq9_v i j r s W (h.below hB) (h'.below hB)) hbu
  have C10 : ∀ W, Below w.heap.size w W → CallsB 10 #[.agg (untR i r), .agg (untR j s)] W bu := fun W hB => CallsB.of (eq10_v i j r s W (h.below hB) (h'.below hB)) ((untEq_two i j).trans hbu)
  have C11 : ∀ W, Below w.heap.size w W → CallsB 11 #[.agg (funR i.f r.f), .agg (funR j.f s.f)] W bf := fun W hB => CallsB.of (eq11_v i.f j.f r.f s.f W (h.f.below hB) (h'.f.below hB)) hbf
  have C12 : ∀ W, Below w.heap.size w W → CallsB 12 #[.agg (funR i.f r.f), .agg (funR j.f s.f)] W bf := fun W hB => CallsB.of (eq12_v i.f j.f r.f s.f W (h.f.below hB) (h'.f.below hB)) hbf
  have C13 : ∀ W, Below w.heap.size w W → CallsB 13 #[.agg (aloR i.al r.al), .agg (aloR j.al s.al)] W ba' := fun W hB => CallsB.of (eq13_v i.al j.al r.al s.al W (h.al.below hB) (h'.al.below hB)) hba
  have C14 : ∀ W, Below w.heap.size w W → CallsB 14 #[.agg (aloR i.al r.al), .agg (aloR j.al s.al)] W ba' := fun W hB => CallsB.of (eq14_v i.al j.al r.al s.al W (h.al.below hB) (h'.al.below hB)) hba
  have C15 : ∀ W, Below w.heap.size w W → CallsB 15 #[.agg (tgtR i.t r.t), .agg (tgtR j.t s.t)] W bt := fun W hB => CallsB.of (eq15_v i.t j.t r.t s.t W (h.t.below hB) (h'.t.below hB)) hbt
  have C16 : ∀ W, Below w.heap.size w W → CallsB 16 #[.agg (tgtR i.t r.t), .agg (tgtR j.t s.t)] W bt := fun W hB => CallsB.of (eq16_v i.t j.t r.t s.t W (h.t.below hB) (h'.t.below hB)) hbt
  have C9a : ∀ W, Below w.heap.size w W → CallsB 9 #[.agg (untR i r), .agg (untR i r)] W true := fun W hB => CallsB.of (eq9_v i i r r W (h.below hB) (h.below hB)) (untEq_refl i)
  have CA := Lib.hid (And.intro C9 (And.intro C10 (And.intro C11 (And.intro C12 (And.intro C13 (And.intro C14 (And.intro C15 (And.intro C16 C9a))))))))
  have LA := Lib.hid (And.intro h.f h'.f)
  clear h h' B0 hs C9 C10 C11 C12 C13 C14 C15 C16 C9a hbu hbf hba hbt
  have HW := Lib.hid hworks
  clear hworks
  obtain ⟨⟨r0, r1, c0, c1, slots⟩, ⟨machine, name, regs, params, blocks⟩, has, ⟨aslots, segs⟩⟩ := i
  obtain ⟨⟨r0', r1', c0', c1', slots'⟩, ⟨machine', name', regs', params', blocks'⟩, has', ⟨aslots', segs'⟩⟩ := j
  obtain ⟨⟨a0, n0, p0, a1, n1, p1⟩, ⟨ra, rn, rc, pa, pn, pc, ba, bn, bc, rr⟩, ⟨sa, sn, sc⟩⟩ := r
  obtain ⟨⟨a0', n0', p0', a1', n1', p1'⟩, ⟨ra', rn', rc', pa', pn', pc', ba', bn', bc', rr'⟩, ⟨sa', sn', sc'⟩⟩ := s
  unfold untR at D CA ⊢
  unfold funR aloR tgtR at CA
  dsimp only at D CA ⊢
  go_enter Try.func3, Try.ntmps3
  go_wp2_with fail
  obtain ⟨wA, hwA⟩ : ∃ wA, (w.alloc (.cells #[.int .i64 r0, .int .i64 r1, .slice a0 n0 p0, .slice a1 n1 p1, .int .i64 slots, .bool machine, .string name, .slice ra rn rc, .slice pa pn pc, .slice ba bn bc, .bool has, .int .i64 aslots, .slice sa sn sc] 36)).alloc (.cells #[.int .i64 r0', .int .i64 r1', .slice a0' n0' p0', .slice a1' n1' p1', .int .i64 slots', .bool machine', .string name', .slice ra' rn' rc', .slice pa' pn' pc', .slice ba' bn' bc', .bool has', .int .i64 aslots', .slice sa' sn' sc'] 36) = wA := ⟨_, rfl⟩
  rw [hwA] at D ⊢
  clear hwA
  obtain ⟨P, hP⟩ : ∃ P, w.heap.size = P := ⟨_, rfl⟩
  obtain ⟨Q, hQ⟩ : ∃ Q, P + 1 = Q := ⟨_, rfl⟩
  have E := Lib.hid (show Below P w wA ∧ P ≤ wA.heap.size ∧ wA.heap[P]? = some (.cells #[.int .i64 r0, .int .i64 r1, .slice a0 n0 p0, .slice a1 n1 p1, .int .i64 slots, .bool machine, .string name, .slice ra rn rc, .slice pa pn pc, .slice ba bn bc, .bool has, .int .i64 aslots, .slice sa sn sc] 36 (0, 0)) ∧ wA.heap[Q]? = some (.cells #[.int .i64 r0', .int .i64 r1', .slice a0' n0' p0', .slice a1' n1' p1', .int .i64 slots', .bool machine', .string name', .slice ra' rn' rc', .slice pa' pn' pc', .slice ba' bn' bc', .bool has', .int .i64 aslots', .slice sa' sn' sc'] 36 (0, 0)) from by
    rw [← hQ, ← hP]; exact ⟨D.out.2.2.1, D.out.2.2.2.1, D.out.2.2.2.2.1, D.out.2.2.2.2.2⟩)
  have HP := Lib.hid hP
  rw [hP, hQ]
  clear hP hQ
  refine (large_v _ _ _ D.out.1.f).mono ?_
  rintro e w1 ⟨⟨b1, rfl⟩, hb⟩
  have hTC := two_cells (kept_box E.out.2.2.1 hb) (kept_box E.out.2.2.2 hb)
  obtain ⟨k0, k1, k2, k3, k4, k5, k6, k7, k8, k9, k10, k11, k12, l0, l1, l2, l3, l4, l5, l6, l7, l8, l9, l10, l11, l12⟩ := hTC
  have E1 := Lib.hid (And.intro hb (And.intro (E.out.1.trans (hb.mono E.out.2.1)) (Nat.le_trans E.out.2.1 hb.size)))
  clear hb
  cases b1
  case true =>
    go_wp2_with fail
    refine (HW.out _).mono ?_
    rintro e w2 ⟨rfl, hb⟩
    have E2 := Lib.hid (E1.out.2.1.trans (hb.mono E1.out.2.2))
    clear hb
    go_wp2_with fail
    go_ret
    exact ⟨rfl, by rw [HP.out]; exact E2.out⟩
  go_wp2_with fail
  refine (large_v _ _ _ (D.out.2.1.f.below E1.out.1)).mono ?_
  rintro e w2 ⟨⟨b2, rfl⟩, hb⟩
  have E2 := Lib.hid (And.intro (E1.out.1.trans (hb.mono E1.out.1.size)) (And.intro (E1.out.2.1.trans (hb.mono E1.out.2.2)) (Nat.le_trans E1.out.2.2 hb.size)))
  clear hb k0 k1 k2 k3 k4 k5 k6 k7 k8 k9 k10 k11 k12 l0 l1 l2 l3 l4 l5 l6 l7 l8 l9 l10 l11 l12
  have hTC := two_cells (kept_box E.out.2.2.1 E2.out.1) (kept_box E.out.2.2.2 E2.out.1)
  obtain ⟨k0, k1, k2, k3, k4, k5, k6, k7, k8, k9, k10, k11, k12, l0, l1, l2, l3, l4, l5, l6, l7, l8, l9, l10, l11, l12⟩ := hTC
  cases b2
  case true =>
    go_wp2_with fail
    refine (HW.out _).mono ?_
    rintro e w3 ⟨rfl, hb⟩
    have E3 := Lib.hid (E2.out.2.1.trans (hb.mono E2.out.2.2))
    clear hb
    go_wp2_with fail
    go_ret
    exact ⟨rfl, by rw [HP.out]; exact E3.out⟩
  by_cases h1 : (sn : Int) > 100
  · go_wp2_with fail
    refine (HW.out _).mono ?_
    rintro e w3 ⟨rfl, hb⟩
    have E3 := Lib.hid (E2.out.2.1.trans (hb.mono E2.out.2.2))
    clear hb
    go_wp2_with fail
    go_ret
    exact ⟨rfl, by rw [HP.out]; exact E3.out⟩
  by_cases h2 : (sn' : Int) > 100
  · go_wp2_with fail
    refine (HW.out _).mono ?_
    rintro e w3 ⟨rfl, hb⟩
    have E3 := Lib.hid (E2.out.2.1.trans (hb.mono E2.out.2.2))
    clear hb
    go_wp2_with fail
    go_ret
    exact ⟨rfl, by rw [HP.out]; exact E3.out⟩
  go_wp2_with fail
  go_region_held3 (fun W => W.cell? ⟨P, 0, none⟩ = some (.int .i64 r0) ∧ W.cell? ⟨P, 1, none⟩ = some (.int .i64 r1) ∧ W.cell? ⟨P, 2, none⟩ = some (.slice a0 n0 p0) ∧ W.cell? ⟨P, 3, none⟩ = some (.slice a1 n1 p1) ∧ W.cell? ⟨P, 4, none⟩ = some (.int .i64 slots) ∧ W.cell? ⟨P, 5, none⟩ = some (.bool machine) ∧ W.cell? ⟨P, 6, none⟩ = some (.string name) ∧ W.cell? ⟨P, 7, none⟩ = some (.slice ra rn rc) ∧ W.cell? ⟨P, 8, none⟩ = some (.slice pa pn pc) ∧ W.cell? ⟨P, 9, none⟩ = some (.slice ba bn bc) ∧ W.cell? ⟨P, 10, none⟩ = some (.bool has) ∧ W.cell? ⟨P, 11, none⟩ = some (.int .i64 aslots) ∧ W.cell? ⟨P, 12, none⟩ = some (.slice sa sn sc) ∧ W.cell? ⟨Q, 0, none⟩ = some (.int .i64 r0') ∧ W.cell? ⟨Q, 1, none⟩ = some (.int .i64 r1') ∧ W.cell? ⟨Q, 2, none⟩ = some (.slice a0' n0' p0') ∧ W.cell? ⟨Q, 3, none⟩ = some (.slice a1' n1' p1') ∧ W.cell? ⟨Q, 4, none⟩ = some (.int .i64 slots') ∧ W.cell? ⟨Q, 5, none⟩ = some (.bool machine') ∧ W.cell? ⟨Q, 6, none⟩ = some (.string name') ∧ W.cell? ⟨Q, 7, none⟩ = some (.slice ra' rn' rc') ∧ W.cell? ⟨Q, 8, none⟩ = some (.slice pa' pn' pc') ∧ W.cell? ⟨Q, 9, none⟩ = some (.slice ba' bn' bc') ∧ W.cell? ⟨Q, 10, none⟩ = some (.bool has') ∧ W.cell? ⟨Q, 11, none⟩ = some (.int .i64 aslots') ∧ W.cell? ⟨Q, 12, none⟩ = some (.slice sa' sn' sc'))
    (first | exact S12.out | exact S11.out | exact S10.out | exact S9.out | exact S8.out | exact S7.out | exact S6.out | exact S5.out | exact S4.out | exact S3.out | exact ⟨k0, k1, k2, k3, k4, k5, k6, k7, k8, k9, k10, k11, k12, l0, l1, l2, l3, l4, l5, l6, l7, l8, l9, l10, l11, l12⟩)
    (first
      | (go_at_call 8; (refine Calls.mono (HW.out w11) ?_); rintro e w12 ⟨rfl, hb⟩; have F12 := Lib.hid (And.intro (F11.out.1.trans (hb.mono F11.out.1.size)) (F11.out.2.trans (hb.mono (Nat.le_trans E.out.2.1 F11.out.1.size)))); clear hb; have S12 := Lib.hid (two_cells (kept_box E.out.2.2.1 F12.out.1) (kept_box E.out.2.2.2 F12.out.1)))
      | (go_at_call 9; (refine Calls.mono (CA.out.2.2.2.2.2.2.2.2 w10 (by rw [HP.out]; exact F10.out.2)) ?_); rintro e w11 ⟨rfl, hb⟩; have F11 := Lib.hid (And.intro (F10.out.1.trans (hb.mono F10.out.1.size)) (F10.out.2.trans (hb.mono (Nat.le_trans E.out.2.1 F10.out.1.size)))); clear hb; have S11 := Lib.hid (two_cells (kept_box E.out.2.2.1 F11.out.1) (kept_box E.out.2.2.2 F11.out.1)))
      | (go_at_call 16; (refine Calls.mono (CA.out.2.2.2.2.2.2.2.1 w9 (by rw [HP.out]; exact F9.out.2)) ?_); rintro e w10 ⟨rfl, hb⟩; have F10 := Lib.hid (And.intro (F9.out.1.trans (hb.mono F9.out.1.size)) (F9.out.2.trans (hb.mono (Nat.le_trans E.out.2.1 F9.out.1.size)))); clear hb; have S10 := Lib.hid (two_cells (kept_box E.out.2.2.1 F10.out.1) (kept_box E.out.2.2.2 F10.out.1)))
      | (go_at_call 15; (refine Calls.mono (CA.out.2.2.2.2.2.2.1 w8 (by rw [HP.out]; exact F8.out.2)) ?_); rintro e w9 ⟨rfl, hb⟩; have F9 := Lib.hid (And.intro (F8.out.1.trans (hb.mono F8.out.1.size)) (F8.out.2.trans (hb.mono (Nat.le_trans E.out.2.1 F8.out.1.size)))); clear hb; have S9 := Lib.hid (two_cells (kept_box E.out.2.2.1 F9.out.1) (kept_box E.out.2.2.2 F9.out.1)))
      | (go_at_call 14; (refine Calls.mono (CA.out.2.2.2.2.2.1 w7 (by rw [HP.out]; exact F7.out.2)) ?_); rintro e w8 ⟨rfl, hb⟩; have F8 := Lib.hid (And.intro (F7.out.1.trans (hb.mono F7.out.1.size)) (F7.out.2.trans (hb.mono (Nat.le_trans E.out.2.1 F7.out.1.size)))); clear hb; have S8 := Lib.hid (two_cells (kept_box E.out.2.2.1 F8.out.1) (kept_box E.out.2.2.2 F8.out.1)))
      | (go_at_call 13; (refine Calls.mono (CA.out.2.2.2.2.1 w6 (by rw [HP.out]; exact F6.out.2)) ?_); rintro e w7 ⟨rfl, hb⟩; have F7 := Lib.hid (And.intro (F6.out.1.trans (hb.mono F6.out.1.size)) (F6.out.2.trans (hb.mono (Nat.le_trans E.out.2.1 F6.out.1.size)))); clear hb; have S7 := Lib.hid (two_cells (kept_box E.out.2.2.1 F7.out.1) (kept_box E.out.2.2.2 F7.out.1)))
      | (go_at_call 12; (refine Calls.mono (CA.out.2.2.2.1 w5 (by rw [HP.out]; exact F5.out.2)) ?_); rintro e w6 ⟨rfl, hb⟩; have F6 := Lib.hid (And.intro (F5.out.1.trans (hb.mono F5.out.1.size)) (F5.out.2.trans (hb.mono (Nat.le_trans E.out.2.1 F5.out.1.size)))); clear hb; have S6 := Lib.hid (two_cells (kept_box E.out.2.2.1 F6.out.1) (kept_box E.out.2.2.2 F6.out.1)))
      | (go_at_call 11; (refine Calls.mono (CA.out.2.2.1 w4 (by rw [HP.out]; exact F4.out.2)) ?_); rintro e w5 ⟨rfl, hb⟩; have F5 := Lib.hid (And.intro (F4.out.1.trans (hb.mono F4.out.1.size)) (F4.out.2.trans (hb.mono (Nat.le_trans E.out.2.1 F4.out.1.size)))); clear hb; have S5 := Lib.hid (two_cells (kept_box E.out.2.2.1 F5.out.1) (kept_box E.out.2.2.2 F5.out.1)))
      | (go_at_call 10; (refine Calls.mono (CA.out.2.1 w3 (by rw [HP.out]; exact F3.out.2)) ?_); rintro e w4 ⟨rfl, hb⟩; have F4 := Lib.hid (And.intro (F3.out.1.trans (hb.mono F3.out.1.size)) (F3.out.2.trans (hb.mono (Nat.le_trans E.out.2.1 F3.out.1.size)))); clear hb; have S4 := Lib.hid (two_cells (kept_box E.out.2.2.1 F4.out.1) (kept_box E.out.2.2.2 F4.out.1)))
      | (go_at_call 9; (refine Calls.mono (CA.out.1 w2.drew (by rw [HP.out]; exact E2.out.2.1.drew)) ?_); rintro e w3 ⟨rfl, hb⟩; have F3 := Lib.hid (And.intro (E2.out.1.drew.trans (hb.mono E2.out.1.drew.size)) (E2.out.2.1.drew.trans (hb.mono (Nat.le_trans E.out.2.1 E2.out.1.drew.size)))); clear hb; have S3 := Lib.hid (two_cells (kept_box E.out.2.2.1 F3.out.1) (kept_box E.out.2.2.2 F3.out.1))))
  go_wp2_with fail
  go_ret
  exact ⟨rfl, by rw [HP.out]; exact F12.out.2⟩
end Go.Proofs.Ytocelaebokikcaa
