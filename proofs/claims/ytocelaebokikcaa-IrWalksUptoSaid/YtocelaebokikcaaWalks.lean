/- The statement on walks. -/
import Derived.Test.YtocelaebokikcaaRangeA
import Derived.Test.YtocelaebokikcaaMapF
import Derived.Test.YtocelaebokikcaaOpsR
import Derived.Test.YtocelaebokikcaaTyped
import Derived.Test.YtocelaebokikcaaLarge
import Derived.Test.YtocelaebokikcaaWorks
import Derived.Test.YtocelaebokikcaaRefF
import Derived.Sort.QuietIn
import Derived.RegionIn
import Derived.BigRegionIn
import Derived.Deep.RegionHeld3
import Derived.Deep.CutRange
namespace Go.Proofs.Ytocelaebokikcaa
open Go.ChangeShapes Go.WideShapes Go.RowKit
set_option linter.unusedVariables false
set_option maxRecDepth 20000

theorem box_three (w : World) (a b c : Obj) : (((w.alloc a).alloc b).alloc c).heap[w.heap.size]? = some a ∧ (((w.alloc a).alloc b).alloc c).heap[w.heap.size + 1]? = some b ∧ (((w.alloc a).alloc b).alloc c).heap[w.heap.size + 2]? = some c := by
  have h := box_two w a b
  refine ⟨(Below.heap_alloc _ _ _ (by simp; omega)).trans h.1, (Below.heap_alloc _ _ _ (by simp)).trans h.2, ?_⟩
  have := heap_alloc_new ((w.alloc a).alloc b) c
  rw [show ((w.alloc a).alloc b).heap.size = w.heap.size + 2 by simp] at this
  exact this
theorem results_cell_bool {fn : Func} {p : Tmp} (h : fn.results = #[.cell p 4]) (tmps : Array Value) (w : World) (g : Nat) (b : Bool)
    (hp : tmps.getD p undef = .pointer (some ⟨g, 0, none⟩)) (hc : w.cell? ⟨g, 0, none⟩ = some (.bool b)) : (results fn tmps).run Try.prog w = .ok (.bool b) w := by
  have hp' : tmps[p]?.getD undef = .pointer (some ⟨g, 0, none⟩) := by simpa using hp
  simp [results, h, hp', asAddr]
  simp [loadVar, go_sem, hc]
/-- How many are handed on. -/
def kOf (most : Int) : Nat := if most < 1 then 1 else most.toNat
/-- While the operands are gone through: how many were, and whatever else lies as it lay. -/
def RI (K : Nat) (w3 : World) (p : List Opn → Prop) (s : List Opn) (W : World) : Prop :=
  W.heap[K]? = some (.cells #[.int .i64 (s.length : Nat)] 3 (0, 0)) ∧ Mid K (K + 1) w3 W ∧ p s
theorem own_ri {K : Nat} {w3 : World} (hK : K < w3.heap.size) (p : List Opn → Prop) : OwnFrom w3.heap.size (RI K w3 p) := by
  rintro s W W' row ⟨h1, h2, h3⟩ hg hr
  have keep : ∀ k, k < w3.heap.size → W'.heap[k]? = W.heap[k]? := fun k hk => hg.block k (Nat.lt_of_lt_of_le hk h2.size) (fun e => by have := (hr k e.symm).1; omega)
  exact ⟨(keep K hK).trans h1, ⟨hg.os.trans h2.os, hg.tape.trans h2.tape, hg.output.trans h2.output, Nat.le_trans h2.size hg.size, fun k hk hc => (keep k hk).trans (h2.block k hk hc)⟩, h3⟩
theorem ops_mid {K : Nat} {w3 W : World} {A : Option Addr} {n : Nat} {l : List Opn} {x : Value} (h : IsOps w3 A n l) (hK : w3.heap[K]? = some (.cells #[x] 3 (0, 0))) (hm : Mid K (K + 1) w3 W) : IsOps W A n l := by
  obtain ⟨h1, hm2, h | ⟨b, o, rfl, hb, hc⟩⟩ := h
  · exact ⟨h1, hm2, .inl h⟩
  · by_cases hl : l = []
    · exact ⟨h1, hm2, .inl hl⟩
    · have hpos : 0 < l.length := by
        cases l with
        | nil => exact absurd rfl hl
        | cons a l => simp
      have hne : b ≠ K := by
        intro e
        subst e
        have := (hc 0 hpos).2.1
        rw [cell_in hK] at this
        simp at this
      have hside : b < K ∨ K + 1 ≤ b := by omega
      exact ⟨h1, hm2, .inr ⟨b, o, rfl, Nat.lt_of_lt_of_le hb hm.size, fun k hk => by
        obtain ⟨c0, c1, c2, c3⟩ := hc k hk
        exact ⟨(hm.cell (p := ⟨b, _, none⟩) hb hside).trans c0, (hm.cell (p := ⟨b, _, none⟩) hb hside).trans c1, (hm.cell (p := ⟨b, _, none⟩) hb hside).trans c2, (hm.cell (p := ⟨b, _, none⟩) hb hside).trans c3⟩⟩⟩
/-- A round's own variable is laid. -/
def RA (K : Nat) (w3 : World) (p : List Opn → Prop) (ops : List Opn) (tm : Array Value) (k : Nat) (x : Opn) (a1 : Act) (W : World) : Prop :=
  ∃ O, w3.heap.size ≤ O ∧ a1 = { tmps := (tm.setIfInBounds 24 (opV x)).setIfInBounds 8 (.pointer (some ⟨O, 0, none⟩)), defers := [] } ∧ W.heap[O]? = some (.cells #[.int .i64 x.k, .int .i64 x.c, .int .i64 x.n, .int .i64 x.t] 44 (0, 0)) ∧ RI K w3 p (ops.take k) W
theorem own_ra {K : Nat} {w3 : World} (hK : K < w3.heap.size) (p : List Opn → Prop) (ops : List Opn) (tm : Array Value) (k : Nat) (x : Opn) (a1 : Act) : OwnFrom w3.heap.size (fun (_ : Unit) W => RA K w3 p ops tm k x a1 W) := by
  rintro s W W' row ⟨O, h1, h2, h3, h4⟩ hg hr
  refine ⟨O, h1, h2, (hg.block O (Array.getElem?_eq_some_iff.1 h3).1 (fun e => ?_)).trans h3, own_ri hK p _ W W' row h4 hg hr⟩
  obtain ⟨_, o, ho, hc⟩ := hr O e.symm
  rw [h3] at ho
  cases ho
  cases hc
theorem region_same {F : Fence} {n : Nat} {P : Program} {c : Code} {a : Act} {W W2 : World} {Q : Exit → Act → World → Prop} {A : Act} (h : c.wpIn F n P (fun e a' W' => e = .normal ∧ a' = A ∧ W' = W2) a W) (hk : Q .normal A W2) : c.wpIn F n P Q a W :=
  wpIn_mono h (by rintro e a' w' ⟨rfl, rfl, rfl⟩; exact hk)
attribute [local go_sem] Oper.semAt_some
set_option maxHeartbeats 4000000 in
theorem walks_v (f : Fun) (v : FunV) (most : Int) (w : World) (h : IsFun w f v) (hB : FunB 1048576 f) (hN : (funOps f).length ≤ 1048576) :
    Calls Try.prog 5 #[.agg (funR f v), .int .i64 most] w fun e w' => e = .returned (.bool true) ∧ Below w.heap.size w w' := by
  refine (callsIn_wide (n := 3)).1 ?_
  have B0 : Below w.heap.size w (((w.alloc (.cells (funR f v) 31)).alloc (.cells #[.int .i64 most] 3)).alloc (.cells #[.bool false] 4)) := (((Below.refl _ w).alloc (Nat.le_refl _) _).alloc (by simp) _).alloc (by simp; omega) _
  have HI := h.below B0
  have D := Lib.hid (And.intro B0 (And.intro (show (((w.alloc (.cells (funR f v) 31)).alloc (.cells #[.int .i64 most] 3)).alloc (.cells #[.bool false] 4)).heap.size = w.heap.size + 3 by simp) (box_three w (.cells (funR f v) 31) (.cells #[.int .i64 most] 3) (.cells #[.bool false] 4))))
  clear h B0
  obtain ⟨wa, hwa⟩ : ∃ wa, ((w.alloc (.cells (funR f v) 31)).alloc (.cells #[.int .i64 most] 3)).alloc (.cells #[.bool false] 4) = wa := ⟨_, rfl⟩
  rw [hwa] at D HI
  have hsm := hB.small
  have CL := Lib.hid (show Calls Try.prog 7 #[.agg (funR f v)] wa fun e w' => SomeBool e ∧ Below wa.heap.size wa w' from large_v f v wa HI)
  have CR := Lib.hid (show ∀ W, Below wa.heap.size wa W → Calls Try.prog 18 #[.agg (funR f v)] W (RefOpsP f W) from fun W hb => refops_v f v W (HI.below hb) hN)
  have CO := Lib.hid (show ∀ W, Below wa.heap.size wa W → Calls Try.prog 19 #[.agg (funR f v)] W (OpsP (funOps f) W) from fun W hb => operands_v f v W (HI.below hb) ⟨by rw [← HI.fits.params]; exact hsm .params trivial, by rw [← HI.fits.blocks]; exact hsm .blocks trivial, fun b hb => ⟨by rw [← HI.fits.ins b hb]; exact hsm (.ins b) (by show b < f.blocks.length; rw [HI.fits.blocks]; exact hb), by rw [← HI.fits.code b hb]; exact hsm (.code b) (by show b < f.blocks.length; rw [HI.fits.blocks]; exact hb), fun k hk => by rw [← HI.fits.args b k hb hk]; exact hsm (.args b k) ⟨by show b < f.blocks.length; rw [HI.fits.blocks]; exact hb, by show k < (f.blk b).code.length; rw [HI.fits.code b hb]; exact hk⟩⟩⟩ hN)
  have CM := Lib.hid (show ∀ W, Below wa.heap.size wa W → Calls Try.prog 20 #[.agg (funR f v), .func (.func 21) #[] #[]] W (MapP f W) from fun W hb => mapF_v 21 inpl21 f v W (HI.below hb) hsm)
  have CE := Lib.hid (show ∀ W r, Below wa.heap.size wa W → IsFun W f r → Calls Try.prog 12 #[.agg (funR f r), .agg (funR f v)] W fun e w' => e = .returned (.bool true) ∧ Below W.heap.size W w' from fun W r hb hr => by
    have := eq12_v f f r v W hr (HI.below hb)
    rw [funEq_refl] at this
    exact this)
  have HF := Lib.hid (And.intro HI (And.intro hsm hN))
  clear HI hsm hN hB
  obtain ⟨P, hPP⟩ : ∃ P, w.heap.size = P := ⟨_, rfl⟩
  have HPP := Lib.hid hPP
  clear hPP
  obtain ⟨fm, fname, ra, rn, rc, pa, pn, pc, ba, bn, bc, hfr⟩ : ∃ fm fname ra rn rc pa pn pc ba bn bc, funR f v = #[.bool fm, .string fname, .slice ra rn rc, .slice pa pn pc, .slice ba bn bc] := ⟨_, _, _, _, _, _, _, _, _, _, _, rfl⟩
  rw [hfr] at D CL CR CO CM CE hwa ⊢
  clear hfr
  have hcells := Lib.hid (show ∀ W, Below wa.heap.size wa W → (W.cell? ⟨w.heap.size, 0, none⟩ = some (.bool fm) ∧ W.cell? ⟨w.heap.size, 1, none⟩ = some (.string fname) ∧ W.cell? ⟨w.heap.size, 2, none⟩ = some (.slice ra rn rc) ∧ W.cell? ⟨w.heap.size, 3, none⟩ = some (.slice pa pn pc) ∧ W.cell? ⟨w.heap.size, 4, none⟩ = some (.slice ba bn bc)) ∧ W.heap[w.heap.size + 1]? = some (.cells #[.int .i64 most] 3 (0, 0)) ∧ W.heap[w.heap.size + 2]? = some (.cells #[.bool false] 4 (0, 0)) from fun W hb => by
    have h1 := kept_box D.out.2.2.1 hb
    exact ⟨⟨cell_in h1 0, cell_in h1 1, cell_in h1 2, cell_in h1 3, cell_in h1 4⟩, kept_box D.out.2.2.2.1 hb, kept_box D.out.2.2.2.2 hb⟩)
  obtain ⟨⟨k0, k1, k2, k3, k4⟩, -⟩ := hcells.out wa (Below.refl _ _)
  refine callsIn_of_wp_marks Try.func5 rfl trivial ?_ rfl
  simp only [Try.ntmps5, List.size_toArray, List.length_cons, List.length_nil, Nat.reduceAdd, Nat.reduceSub, Array.replicate_succ, Array.replicate_zero, List.push_toArray, List.append_toArray, List.nil_append, List.cons_append]
  refine wpIn_wide.2 ?_
  go_wp2_with fail
  clear hwa k0 k1 k2 k3 k4
  refine CL.out.mono ?_
  rintro e w1 ⟨⟨b, rfl⟩, hb⟩
  have B1 := Lib.hid hb
  clear hb
  cases b with
  | true =>
    go_wp2_with fail
    refine (works_v w1).mono ?_
    rintro e w2 ⟨rfl, hb2⟩
    have B2 := Lib.hid (B1.out.trans (hb2.mono B1.out.size))
    clear hb2
    have hr := (hcells.out w2 B2.out).2.2
    have r0 : w2.cell? ⟨w.heap.size + 2, 0, none⟩ = some (.bool false) := cell_in hr 0
    have z0 : w2.frozen? ⟨w.heap.size + 2, 0, none⟩ = false := froz_in hr 0
    go_wp2_with fail
    refine ⟨_, results_cell_bool rfl _ _ (w.heap.size + 2) true rfl (World.cell?_setCell_same _ _ _ r0), rfl, ?_⟩
    exact (D.out.1.trans (B2.out.mono (by rw [D.out.2.1]; omega))).setCell (p := ⟨w.heap.size + 2, 0, none⟩) (by show w.heap.size ≤ w.heap.size + 2; omega) _
  | false =>
    obtain ⟨⟨k0, k1, k2, k3, k4⟩, -⟩ := hcells.out w1 B1.out
    go_wp2_with fail
    clear k0 k1 k2 k3 k4
    refine (CR.out _ B1.out).mono ?_
    rintro e w2 ⟨A, c, rfl, hops, hb2⟩
    have B2 := Lib.hid (B1.out.trans (hb2.mono B1.out.size))
    obtain ⟨ops, hopl⟩ : ∃ ops, funOps f = ops := ⟨_, rfl⟩
    rw [hopl] at hops
    obtain ⟨N, hNl⟩ : ∃ N, ops.length = N := ⟨_, rfl⟩
    have hNb : N ≤ 1048576 := by rw [← hNl, ← hopl]; exact HF.out.2.2
    rw [hopl, hNl]
    rw [hNl] at hops
    have hx := box_two w2 (.cells #[.slice A N c] 28) (.cells #[.int .i64 0] 3)
    have b3 : Below w2.heap.size w2 ((w2.alloc (.cells #[.slice A N c] 28)).alloc (.cells #[.int .i64 0] 3)) := ((Below.refl _ w2).alloc (Nat.le_refl _) _).alloc (by simp) _
    have s3 : ((w2.alloc (.cells #[.slice A N c] 28)).alloc (.cells #[.int .i64 0] 3)).heap.size = w2.heap.size + 2 := by simp
    have HN := Lib.hid (And.intro hopl (And.intro hNl hNb))
    have B3 := Lib.hid (B2.out.trans (b3.mono B2.out.size))
    have H3 := Lib.hid (And.intro (hops.below b3) (And.intro hx (And.intro s3 b3)))
    clear hops hb2 hopl hx b3 s3 hNb hNl
    obtain ⟨⟨k0, k1, k2, k3, k4⟩, -⟩ := hcells.out _ B3.out
    go_wp2_with fail
    clear k0 k1 k2 k3 k4
    obtain ⟨W3, hW3⟩ : ∃ W3, (w2.alloc (.cells #[.slice A N c] 28)).alloc (.cells #[.int .i64 0] 3) = W3 := ⟨_, rfl⟩
    rw [hW3] at B3 H3 ⊢
    clear hW3
    refine (CO.out _ B3.out).mono ?_
    rintro e w3 ⟨V, A2, c2, rfl, hVl, hV, hops2, hb3⟩
    rw [HN.out.1, HN.out.2.1] at hV hops2
    have H4 := Lib.hid (And.intro hVl (And.intro hV (And.intro hops2 hb3)))
    have B4 := Lib.hid (B3.out.trans (hb3.mono B3.out.size))
    have B34 := Lib.hid hb3
    clear hVl hV hops2 hb3
    have hfn := func_nil
    go_wp2_with fail
    obtain ⟨B, hB⟩ : ∃ B, w2.heap.size = B := ⟨_, rfl⟩
    obtain ⟨K, hK⟩ : ∃ K, B + 1 = K := ⟨_, rfl⟩
    rw [hB, hK]
    have h2s := B2.out.size
    have hws := D.out.2.1
    have hKw : K < W3.heap.size := by rw [H3.out.2.2.1]; omega
    have hKw3 : K < w3.heap.size := Nat.lt_of_lt_of_le hKw B34.out.size
    have hVK : K + 1 ≤ V := by have := H4.out.1; omega
    have hKc : w3.heap[K]? = some (.cells #[.int .i64 0] 3 (0, 0)) := by rw [← hK, ← hB]; exact kept_box H3.out.2.1.2 B34.out
    have hBc : w3.heap[B]? = some (.cells #[.slice A N c] 28 (0, 0)) := by rw [← hB]; exact kept_box H3.out.2.1.1 B34.out
    have HM := Lib.hid (show ∀ W, Mid K (K + 1) w3 W → Below wa.heap.size wa W ∧ W.heap[B]? = some (.cells #[.slice A N c] 28 (0, 0)) ∧ IsOps W A N ops ∧ W.heap[V]? = some (.cells #[.slice A2 N c2] 28 (0, 0)) ∧ IsOps W A2 N ops from fun W hm =>
      ⟨B4.out.trans ((hm.below (Nat.le_of_lt hKw3)).mono (by omega)), (hm.block B (by omega) (.inl (by omega))).trans hBc, ops_mid (H3.out.1.below B34.out) hKc hm, (hm.block V (Array.getElem?_eq_some_iff.1 H4.out.2.1).1 (.inr hVK)).trans H4.out.2.1, ops_mid H4.out.2.2.1 hKc hm⟩)
    have HK := Lib.hid (And.intro hB (And.intro hK (And.intro hKw3 (And.intro hKc (And.intro h2s hws)))))
    clear hB hK h2s hws hKw hVK hBc
    refine (wpIn_wide (n := 3)).1 ?_
    refine range_a (n := 3) V A2 N c2 ops HN.out.2.2 rfl (RI K w3 (fun s => s = [] ∨ (s.length : Int) < most)) (RI K w3 (fun s => s.length = kOf most)) (RA K w3 (fun s => s = [] ∨ (s.length : Int) < most) ops) 0 (own_ri hKw3 _) (own_ri hKw3 _) (fun k x a1 => own_ra hKw3 _ ops _ k x a1) (fun s W hs => (HM.out W hs.2.1).2.2.2) ⟨hKc, Mid.refl _ _ _, .inl rfl⟩ ?assign ?body (fun a W h => h) ?rest
    case assign =>
      intro l k x W K' hx hI hK'
      unfold opV
      simp only [List.setIfInBounds_toArray, List.set_cons_zero, List.set_cons_succ]
      gi_wp2_with fail
      exact hK' _ _ ((KeepsOthers.alloc W _).from _) ⟨W.heap.size, hI.2.1.size, rfl, heap_alloc_new W _, (own_ri hKw3 _).alloc _ hI⟩
    case body =>
      rintro l k x a1 W hx ⟨O, hO, rfl, hOc, hK1, hM, hp⟩
      have hkN : k < N := by rw [← HN.out.2.1]; exact (List.getElem?_eq_some_iff.1 hx).1
      have hNle := HN.out.2.2
      have e1 : (ops.take k).length = k := by rw [List.length_take, HN.out.2.1]; omega
      have e2 : (ops.take (k + 1)).length = k + 1 := by rw [List.length_take, HN.out.2.1]; omega
      obtain ⟨q1, q2, q3, -⟩ := HM.out W hM
      obtain ⟨b, o, y, rfl, hb, hy, d0, d1, d2, d3⟩ := ops_at q3 hkN
      rw [hx] at hy
      obtain rfl : x = y := Option.some.inj hy
      rw [e1] at hK1
      have n0 : W.cell? ⟨K, 0, none⟩ = some (.int .i64 (k : Int)) := cell_in hK1 0
      have n1 : W.frozen? ⟨K, 0, none⟩ = false := froz_in hK1 0
      have m0 : W.cell? ⟨B, 0, none⟩ = some (.slice (some ⟨b, o, none⟩) N c) := cell_in q2 0
      have p0 : W.cell? ⟨w.heap.size + 1, 0, none⟩ = some (.int .i64 most) := cell_in (hcells.out W q1).2.1 0
      have HQ := Lib.hid (And.intro hK1 (And.intro hM (And.intro hp (And.intro e1 e2))))
      obtain ⟨xk, xc, xn, xt⟩ := x
      unfold opV
      dsimp only at hOc d0 d1 d2 d3 ⊢
      have o0 : W.cell? ⟨O, 0, none⟩ = some (.int .i64 xk) := cell_in hOc 0
      have o1 : W.cell? ⟨O, 1, none⟩ = some (.int .i64 xc) := cell_in hOc 1
      have o2 : W.cell? ⟨O, 2, none⟩ = some (.int .i64 xn) := cell_in hOc 2
      have o3 : W.cell? ⟨O, 3, none⟩ = some (.int .i64 xt) := cell_in hOc 3
      have E := neq44 xk xc xn xt xk xc xn xt false (by simp)
      have i1 : (k : Int) < (N : Int) := by omega
      have i2 : decide ((N : Int) ≤ (k : Int)) = false := by simp; omega
      clear hx hy hK1 hM hp q1 q2 q3 hb hOc hO e1 e2
      simp only [List.setIfInBounds_toArray, List.set_cons_zero, List.set_cons_succ]
      gi_wp2_with fail
      refine region_same (A := _) (W2 := W.drew) (by gi_region; all_goals exact ⟨rfl, rfl, rfl⟩) ?_
      have hPK : w.heap.size + 1 ≠ K := by have := HK.out.2.2.2.2.1; have := HK.out.2.2.2.2.2; have := HK.out.1; have := HK.out.2.1; omega
      have hKP : K ≠ w.heap.size + 1 := hPK.symm
      clear E o0 o1 o2 o3 d0 d1 d2 d3 m0 i1 i2
      obtain ⟨g1, g2, g3, g4, g5⟩ := HQ.out
      have fin : ∀ p : List Opn → Prop, p (ops.take (k + 1)) → RI K w3 p (ops.take (k + 1)) (W.setCell ⟨K, 0, none⟩ (.int .i64 ((k : Int) + 1))).drew := fun p hp => by
        refine ⟨?_, (g2.setCell (p := ⟨K, 0, none⟩) (Nat.le_refl _) (Nat.lt_succ_self _) _).drew, hp⟩
        rw [g5, show ((k + 1 : Nat) : Int) = (k : Int) + 1 by omega]
        exact set_at g1 0 _
      have keep : KeepsFrom w3.heap.size W (W.setCell ⟨K, 0, none⟩ (.int .i64 ((k : Int) + 1))).drew := ((KeepsOthers.setCell _ _ _).trans (KeepsOthers.drew _)).from _
      have g3' : k = 0 ∨ (k : Int) < most := g3.elim (fun h => .inl (by rw [← g4, h]; rfl)) (fun h => .inr (by rw [← g4]; exact h))
      have HE := Lib.hid (And.intro fin (And.intro keep (And.intro g3' g5)))
      clear g1 g2 g3 g4 g5 fin keep g3' HQ
      by_cases hmo : most ≤ (k : Int) + 1
      · have t1 : decide (most ≤ (k : Int) + 1) = true := by simpa using hmo
        gi_wp2_with fail
        refine ⟨HE.out.2.1, rfl, HE.out.1 _ ?_⟩
        show (ops.take (k + 1)).length = kOf most
        rw [HE.out.2.2.2]
        have := HE.out.2.2.1
        unfold kOf
        by_cases h1 : most < 1
        · rw [if_pos h1]; omega
        · rw [if_neg h1]; omega
      · have t1 : decide (most ≤ (k : Int) + 1) = false := by simpa using hmo
        gi_wp2_with fail
        refine ⟨HE.out.2.1, trivial, HE.out.1 _ (.inr ?_)⟩
        rw [HE.out.2.2.2]
        omega
    case rest =>
      intro D0 W hD hor hDef
      have hc : ∃ cnt : Nat, W.heap[K]? = some (.cells #[.int .i64 (cnt : Int)] 3 (0, 0)) ∧ Mid K (K + 1) w3 W ∧ (cnt = N ∨ cnt = kOf most) := by
        rcases hor with ⟨h1, h2, -⟩ | ⟨k, hk, h1, h2, h3⟩
        · exact ⟨_, h1, h2, .inl (by rw [List.length_take, HN.out.2.1]; omega)⟩
        · exact ⟨_, h1, h2, .inr h3⟩
      obtain ⟨cnt, hcK, hmid, hcn⟩ := hc
      obtain ⟨q1, q2, q3, -⟩ := HM.out W hmid
      have n0 : W.cell? ⟨K, 0, none⟩ = some (.int .i64 (cnt : Int)) := cell_in hcK 0
      have m0 : W.cell? ⟨B, 0, none⟩ = some (.slice A N c) := cell_in q2 0
      obtain ⟨⟨k0, k1, k2, k3, k4⟩, p1, -⟩ := hcells.out W q1
      have p0 : W.cell? ⟨w.heap.size + 1, 0, none⟩ = some (.int .i64 most) := cell_in p1 0
      have hNle := HN.out.2.2
      have HQ := Lib.hid (And.intro q1 (And.intro q2 (And.intro q3 (And.intro hDef hD))))
      clear hor hcK hmid q1 q2 q3 hDef hD p1
      by_cases hcN : cnt = N
      · rw [hcN] at n0
        clear hcn hcN
        go_wp2_with fail
        refine (CM.out _ HQ.out.1).mono ?_
        rintro e w4 ⟨r1, rfl, hf4, hb4⟩
        clear k0 k1 k2 k3 k4 n0 m0 p0
        obtain ⟨m1, nm1, ra1, rn1, rc1, pa1, pn1, pc1, ba1, bn1, bc1, hfr1⟩ : ∃ m1 nm1 ra1 rn1 rc1 pa1 pn1 pc1 ba1 bn1 bc1, funR f.turned r1 = #[.bool m1, .string nm1, .slice ra1 rn1 rc1, .slice pa1 pn1 pc1, .slice ba1 bn1 bc1] := ⟨_, _, _, _, _, _, _, _, _, _, _, rfl⟩
        rw [hfr1]
        have b5 : Below w4.heap.size w4 (w4.alloc (.cells #[.bool m1, .string nm1, .slice ra1 rn1 rc1, .slice pa1 pn1 pc1, .slice ba1 bn1 bc1] 31)) := (Below.refl _ w4).alloc (Nat.le_refl _) _
        have x5 := heap_alloc_new w4 (.cells #[.bool m1, .string nm1, .slice ra1 rn1 rc1, .slice pa1 pn1 pc1, .slice ba1 bn1 bc1] 31)
        have C5 := Lib.hid (show Calls Try.prog 18 #[.agg #[.bool m1, .string nm1, .slice ra1 rn1 rc1, .slice pa1 pn1 pc1, .slice ba1 bn1 bc1]] (w4.alloc (.cells #[.bool m1, .string nm1, .slice ra1 rn1 rc1, .slice pa1 pn1 pc1, .slice ba1 bn1 bc1] 31)) (RefOpsP f.turned _) from by
          have := refops_v f.turned r1 _ (hf4.below b5) (by rw [funOps_turned, List.length_map]; exact HF.out.2.2)
          rw [hfr1] at this
          exact this)
        have H5 := Lib.hid (And.intro (hf4.below b5) (And.intro (hb4.trans (b5.mono hb4.size)) (And.intro x5 hfr1)))
        clear hf4 hb4 b5 x5 hfr1
        go_wp2_with fail
        refine C5.out.mono ?_
        rintro e w6 ⟨A3, c3, rfl, hops3, hb6⟩
        have hTl : (funOps f.turned).length = N := by rw [funOps_turned, List.length_map, HN.out.1, HN.out.2.1]
        rw [hTl, funOps_turned, HN.out.1] at hops3
        rw [hTl]
        have g9 := H5.out.2.1.size
        have H6 := Lib.hid (And.intro hops3 (And.intro hb6 (H5.out.2.1.trans (hb6.mono g9))))
        clear hops3 hb6 hTl g9
        have hBW : ∀ wr, Below w6.heap.size w6 wr → Below wa.heap.size wa wr ∧ wr.cell? ⟨B, 0, none⟩ = some (.slice A N c) ∧ IsOps wr A N ops ∧ IsOps wr A3 N (ops.map Opn.T) ∧ Below W.heap.size W wr := fun wr hb => by
          have hWr : Below W.heap.size W wr := H6.out.2.2.trans (hb.mono H6.out.2.2.size)
          exact ⟨HQ.out.1.trans (hWr.mono HQ.out.1.size), cell_in (kept_box HQ.out.2.1 hWr) 0, HQ.out.2.2.1.below hWr, H6.out.1.below hb, hWr⟩
        have HBW := Lib.hid hBW
        have HG := Lib.hid (show ∀ wr, Below w6.heap.size w6 wr → wr.cell? ⟨w4.heap.size, 0, none⟩ = some (.bool m1) ∧ wr.cell? ⟨w4.heap.size, 1, none⟩ = some (.string nm1) ∧ wr.cell? ⟨w4.heap.size, 2, none⟩ = some (.slice ra1 rn1 rc1) ∧ wr.cell? ⟨w4.heap.size, 3, none⟩ = some (.slice pa1 pn1 pc1) ∧ wr.cell? ⟨w4.heap.size, 4, none⟩ = some (.slice ba1 bn1 bc1) from fun wr hb => by
          have h1 := kept_box (kept_box H5.out.2.2.1 H6.out.2.1) hb
          exact ⟨cell_in h1 0, cell_in h1 1, cell_in h1 2, cell_in h1 3, cell_in h1 4⟩)
        clear hBW
        obtain ⟨-, m0, -⟩ := HBW.out w6 (Below.refl _ _)
        go_wp2_with fail
        clear m0
        go_loopg [11] N (fun gk u wr => ∃ k : Nat, k + gk = N ∧ u = .int .i64 (k : Int) ∧ Hid (Below w6.heap.size w6 wr))
        case atStart => exact ⟨0, by omega, rfl, Below.refl _ _⟩
        case round =>
          obtain ⟨k, hk, rfl, HH⟩ := hrel
          obtain ⟨-, m0, y1, y2, -⟩ := HBW.out wr HH.out
          by_cases hlt : k < N
          · obtain ⟨b, o, x, rfl, hb, hx, d0, d1, d2, d3⟩ := ops_at y1 hlt
            obtain ⟨b3, o3, y, rfl, hb3, hy, e0, e1, e2, e3⟩ := ops_at y2 hlt
            rw [List.getElem?_map, hx] at hy
            obtain rfl : x.T = y := Option.some.inj hy
            obtain ⟨xk, xc, xn, xt⟩ := x
            dsimp only [Opn.T] at d0 d1 d2 d3 e0 e1 e2 e3
            have i1 : (k : Int) < (N : Int) := by omega
            clear hx hy y1 y2 hb
            have E := neq44 xk xc xt xn xk xc xt xn false (by simp)
            go_wp2_with fail
            go_region_held3 (fun W => W.cell? ⟨B, 0, none⟩ = some (.slice (some ⟨b, o, none⟩) N c) ∧ W.cell? ⟨b, o + k * 4, none⟩ = some (.int .i64 xk) ∧ W.cell? ⟨b, o + k * 4 + 1, none⟩ = some (.int .i64 xc) ∧ W.cell? ⟨b, o + k * 4 + 2, none⟩ = some (.int .i64 xn) ∧ W.cell? ⟨b, o + k * 4 + 3, none⟩ = some (.int .i64 xt)) (go_keep) (fail)
            clear d0 d1 d2 d3 m0
            have hwd : Below wr.heap.size wr (wr.alloc (.cells #[.int .i64 xk, .int .i64 xc, .int .i64 xt, .int .i64 xn] 44)) := (Below.refl _ wr).alloc (Nat.le_refl _) _
            have b7 : Below wr.heap.size wr (wr.alloc (.cells #[.int .i64 xk, .int .i64 xc, .int .i64 xt, .int .i64 xn] 44)).drew := hwd.trans ((below_drewN _ 1).mono hwd.size)
            have x7 : (wr.alloc (.cells #[.int .i64 xk, .int .i64 xc, .int .i64 xt, .int .i64 xn] 44)).drew.heap[wr.heap.size]? = some (.cells #[.int .i64 xk, .int .i64 xc, .int .i64 xt, .int .i64 xn] 44 (0, 0)) := heap_alloc_new wr _
            obtain ⟨w7, hw7⟩ : ∃ w7, (wr.alloc (.cells #[.int .i64 xk, .int .i64 xc, .int .i64 xt, .int .i64 xn] 44)).drew = w7 := ⟨_, rfl⟩
            rw [hw7] at b7 x7
            replace e0 := (b7.cell (p := ⟨b3, _, none⟩) hb3).trans e0
            replace e1 := (b7.cell (p := ⟨b3, _, none⟩) hb3).trans e1
            replace e2 := (b7.cell (p := ⟨b3, _, none⟩) hb3).trans e2
            replace e3 := (b7.cell (p := ⟨b3, _, none⟩) hb3).trans e3
            obtain ⟨L7, hL7⟩ : ∃ L, wr.heap.size = L := ⟨_, rfl⟩
            rw [hL7] at x7
            have f0 : w7.cell? ⟨L7, 0, none⟩ = some (.int .i64 xk) := cell_in x7 0
            have f1 : w7.cell? ⟨L7, 1, none⟩ = some (.int .i64 xc) := cell_in x7 1
            have f2 : w7.cell? ⟨L7, 2, none⟩ = some (.int .i64 xt) := cell_in x7 2
            have f3 : w7.cell? ⟨L7, 3, none⟩ = some (.int .i64 xn) := cell_in x7 3
            have H7 := Lib.hid (HH.out.trans (b7.mono HH.out.size))
            clear hwd b7 x7 hb3
            go_wp2_with fail
            change Code.wp _ _ _ _ (wr.alloc (.cells #[.int .i64 xk, .int .i64 xc, .int .i64 xt, .int .i64 xn] 44)).drew
            rw [hw7, hL7]
            clear hw7 hL7
            go_quiet (fail)
            go_wp2_with fail
            go_roundg (N - k - 1)
            case measure => omega
            case rel => exact ⟨k + 1, by omega, by go_num, H7.out.trans ((below_drewN _ _).mono H7.out.size)⟩
          · obtain rfl : k = N := by omega
            have hge : ¬ (k : Int) < (k : Int) := by omega
            obtain ⟨s0, s1, s2, s3, s4⟩ := HG.out wr HH.out
            clear y1 y2
            have C9 := Lib.hid (show Calls Try.prog 20 #[.agg #[.bool m1, .string nm1, .slice ra1 rn1 rc1, .slice pa1 pn1 pc1, .slice ba1 bn1 bc1], .func (.func 22) #[] #[]] wr (MapP f.turned wr) from by
              have := mapF_v 22 inpl22 f.turned r1 wr (H5.out.1.below ((H6.out.2.1.trans (HH.out.mono H6.out.2.1.size)))) (small_turned f HF.out.2.1)
              rw [H5.out.2.2.2] at this
              exact this)
            go_wp2_with fail
            refine C9.out.mono ?_
            rintro e w9 ⟨r2, rfl, hf9, hb9⟩
            rw [Fun.turned_turned] at hf9 ⊢
            clear s0 s1 s2 s3 s4 m0 C9
            obtain ⟨m2, nm2, ra2, rn2, rc2, pa2, pn2, pc2, ba2, bn2, bc2, hfr2⟩ : ∃ m1 nm1 ra1 rn1 rc1 pa1 pn1 pc1 ba1 bn1 bc1, funR f r2 = #[.bool m1, .string nm1, .slice ra1 rn1 rc1, .slice pa1 pn1 pc1, .slice ba1 bn1 bc1] := ⟨_, _, _, _, _, _, _, _, _, _, _, rfl⟩
            rw [hfr2]
            have B9 := (HBW.out _ (HH.out.trans (hb9.mono HH.out.size))).2.2.2.2
            have b10 : Below w9.heap.size w9 (w9.alloc (.cells #[.bool m2, .string nm2, .slice ra2 rn2 rc2, .slice pa2 pn2 pc2, .slice ba2 bn2 bc2] 31)) := (Below.refl _ w9).alloc (Nat.le_refl _) _
            have B10 := B9.trans (b10.mono B9.size)
            have W10 : Below wa.heap.size wa (w9.alloc (.cells #[.bool m2, .string nm2, .slice ra2 rn2 rc2, .slice pa2 pn2 pc2, .slice ba2 bn2 bc2] 31)) := HQ.out.1.trans (B10.mono HQ.out.1.size)
            obtain ⟨⟨k0, k1, k2, k3, k4⟩, -⟩ := hcells.out _ W10
            have C10 := Lib.hid (show Calls Try.prog 12 #[.agg #[.bool m2, .string nm2, .slice ra2 rn2 rc2, .slice pa2 pn2 pc2, .slice ba2 bn2 bc2], .agg #[.bool fm, .string fname, .slice ra rn rc, .slice pa pn pc, .slice ba bn bc]] _ fun e w' => e = .returned (.bool true) ∧ Below (w9.alloc (.cells #[.bool m2, .string nm2, .slice ra2 rn2 rc2, .slice pa2 pn2 pc2, .slice ba2 bn2 bc2] 31)).heap.size (w9.alloc (.cells #[.bool m2, .string nm2, .slice ra2 rn2 rc2, .slice pa2 pn2 pc2, .slice ba2 bn2 bc2] 31)) w' from by
              have := CE.out _ r2 W10 (hf9.below b10)
              rw [hfr2] at this
              exact this)
            have H10 := Lib.hid (And.intro B10 W10)
            clear B9 b10 B10 W10 hf9 hb9 hfr2
            go_wp2_with fail
            refine C10.out.mono ?_
            rintro e w11 ⟨rfl, hb11⟩
            clear k0 k1 k2 k3 k4
            have H11 := Lib.hid (H10.out.1.trans (hb11.mono H10.out.1.size))
            clear hb11
            go_wp2_with fail
            refine (works_v w11).mono ?_
            rintro e w12 ⟨rfl, hb12⟩
            have H12 := Lib.hid (H11.out.trans (hb12.mono H11.out.size))
            clear hb12
            obtain ⟨-, -, hr⟩ := hcells.out w12 (HQ.out.1.trans (H12.out.mono HQ.out.1.size))
            have r0 : w12.cell? ⟨w.heap.size + 2, 0, none⟩ = some (.bool false) := cell_in hr 0
            have z0 : w12.frozen? ⟨w.heap.size + 2, 0, none⟩ = false := froz_in hr 0
            go_wp2_with fail
            have gD : w3.heap.size ≤ D0 := HQ.out.2.2.2.2
            have gK : K < w3.heap.size := HK.out.2.2.1
            have gP : w.heap.size + 3 ≤ K := by have := HK.out.1; have := HK.out.2.1; have := HK.out.2.2.2.2.1; have := HK.out.2.2.2.2.2; omega
            have hws := D.out.2.1
            have hWs := HQ.out.1.size
            have hL : (w12.setCell ⟨w.heap.size + 2, 0, none⟩ (.bool true)).heap[D0]? = some (.deferred (some [])) := (set_far (by omega) 0 _).trans ((H12.out.block D0 (Array.getElem?_eq_some_iff.1 HQ.out.2.2.2.1).1).trans HQ.out.2.2.2.1)
            have hbl : Below w.heap.size w (w12.setCell ⟨w.heap.size + 2, 0, none⟩ (.bool true)) := ((D.out.1.trans (HQ.out.1.mono (by omega))).trans (H12.out.mono (Nat.le_trans (by omega) (D.out.1.trans (HQ.out.1.mono (by omega))).size))).setCell (p := ⟨w.heap.size + 2, 0, none⟩) (by show w.heap.size ≤ w.heap.size + 2; omega) _
            refine ⟨by simp, .inl ⟨_, _, rfl, run_takeDeferred hL, ?_⟩⟩
            refine ⟨_, results_cell_bool rfl _ _ (w.heap.size + 2) true rfl ?_, rfl, ?_⟩
            · refine (World.cell?_of_block (w := w12.setCell ⟨w.heap.size + 2, 0, none⟩ (.bool true)) ?_).trans (World.cell?_setCell_same _ _ _ r0)
              exact World.putObj_heap_other (by show w.heap.size + 2 ≠ D0; omega)
            · exact hbl.grown (grownBy_putObj' _ D0 _) hbl.size (fun k e => by cases e; omega)
      · have hck : cnt = kOf most := hcn.resolve_left hcN
        have mx : max most 1 = (cnt : Int) := by
          unfold kOf at hck
          by_cases h1 : most < 1
          · rw [if_pos h1] at hck; omega
          · rw [if_neg h1] at hck; omega
        obtain ⟨z, hz⟩ : ∃ z : Int, (cnt : Int) = z := ⟨_, rfl⟩
        have f0 : ¬ z = (N : Int) := by omega
        have f1 : (z != (N : Int)) = true := by simpa using f0
        rw [hz] at n0 mx
        clear hcn hck hcN hz
        go_wp2_with fail
        refine (CM.out _ HQ.out.1).mono ?_
        rintro e w4 ⟨r1, rfl, hf4, hb4⟩
        clear k0 k1 k2 k3 k4 n0 m0 p0
        obtain ⟨m1, nm1, ra1, rn1, rc1, pa1, pn1, pc1, ba1, bn1, bc1, hfr1⟩ : ∃ m1 nm1 ra1 rn1 rc1 pa1 pn1 pc1 ba1 bn1 bc1, funR f.turned r1 = #[.bool m1, .string nm1, .slice ra1 rn1 rc1, .slice pa1 pn1 pc1, .slice ba1 bn1 bc1] := ⟨_, _, _, _, _, _, _, _, _, _, _, rfl⟩
        rw [hfr1]
        have b5 : Below w4.heap.size w4 (w4.alloc (.cells #[.bool m1, .string nm1, .slice ra1 rn1 rc1, .slice pa1 pn1 pc1, .slice ba1 bn1 bc1] 31)) := (Below.refl _ w4).alloc (Nat.le_refl _) _
        have x5 := heap_alloc_new w4 (.cells #[.bool m1, .string nm1, .slice ra1 rn1 rc1, .slice pa1 pn1 pc1, .slice ba1 bn1 bc1] 31)
        have C5 := Lib.hid (show Calls Try.prog 18 #[.agg #[.bool m1, .string nm1, .slice ra1 rn1 rc1, .slice pa1 pn1 pc1, .slice ba1 bn1 bc1]] (w4.alloc (.cells #[.bool m1, .string nm1, .slice ra1 rn1 rc1, .slice pa1 pn1 pc1, .slice ba1 bn1 bc1] 31)) (RefOpsP f.turned _) from by
          have := refops_v f.turned r1 _ (hf4.below b5) (by rw [funOps_turned, List.length_map]; exact HF.out.2.2)
          rw [hfr1] at this
          exact this)
        have H5 := Lib.hid (And.intro (hf4.below b5) (And.intro (hb4.trans (b5.mono hb4.size)) (And.intro x5 hfr1)))
        clear hf4 hb4 b5 x5 hfr1
        go_wp2_with fail
        refine C5.out.mono ?_
        rintro e w6 ⟨A3, c3, rfl, hops3, hb6⟩
        have hTl : (funOps f.turned).length = N := by rw [funOps_turned, List.length_map, HN.out.1, HN.out.2.1]
        rw [hTl, funOps_turned, HN.out.1] at hops3
        rw [hTl]
        have g9 := H5.out.2.1.size
        have H6 := Lib.hid (And.intro hops3 (And.intro hb6 (H5.out.2.1.trans (hb6.mono g9))))
        clear hops3 hb6 hTl g9
        have hBW : ∀ wr, Below w6.heap.size w6 wr → Below wa.heap.size wa wr ∧ wr.cell? ⟨B, 0, none⟩ = some (.slice A N c) ∧ IsOps wr A N ops ∧ IsOps wr A3 N (ops.map Opn.T) ∧ Below W.heap.size W wr := fun wr hb => by
          have hWr : Below W.heap.size W wr := H6.out.2.2.trans (hb.mono H6.out.2.2.size)
          exact ⟨HQ.out.1.trans (hWr.mono HQ.out.1.size), cell_in (kept_box HQ.out.2.1 hWr) 0, HQ.out.2.2.1.below hWr, H6.out.1.below hb, hWr⟩
        have HBW := Lib.hid hBW
        have HG := Lib.hid (show ∀ wr, Below w6.heap.size w6 wr → wr.cell? ⟨w4.heap.size, 0, none⟩ = some (.bool m1) ∧ wr.cell? ⟨w4.heap.size, 1, none⟩ = some (.string nm1) ∧ wr.cell? ⟨w4.heap.size, 2, none⟩ = some (.slice ra1 rn1 rc1) ∧ wr.cell? ⟨w4.heap.size, 3, none⟩ = some (.slice pa1 pn1 pc1) ∧ wr.cell? ⟨w4.heap.size, 4, none⟩ = some (.slice ba1 bn1 bc1) from fun wr hb => by
          have h1 := kept_box (kept_box H5.out.2.2.1 H6.out.2.1) hb
          exact ⟨cell_in h1 0, cell_in h1 1, cell_in h1 2, cell_in h1 3, cell_in h1 4⟩)
        clear hBW
        obtain ⟨-, m0, -⟩ := HBW.out w6 (Below.refl _ _)
        go_wp2_with fail
        clear m0
        go_loopg [11] N (fun gk u wr => ∃ k : Nat, k + gk = N ∧ u = .int .i64 (k : Int) ∧ Hid (Below w6.heap.size w6 wr))
        case atStart => exact ⟨0, by omega, rfl, Below.refl _ _⟩
        case round =>
          obtain ⟨k, hk, rfl, HH⟩ := hrel
          obtain ⟨-, m0, y1, y2, -⟩ := HBW.out wr HH.out
          by_cases hlt : k < N
          · obtain ⟨b, o, x, rfl, hb, hx, d0, d1, d2, d3⟩ := ops_at y1 hlt
            obtain ⟨b3, o3, y, rfl, hb3, hy, e0, e1, e2, e3⟩ := ops_at y2 hlt
            rw [List.getElem?_map, hx] at hy
            obtain rfl : x.T = y := Option.some.inj hy
            obtain ⟨xk, xc, xn, xt⟩ := x
            dsimp only [Opn.T] at d0 d1 d2 d3 e0 e1 e2 e3
            have i1 : (k : Int) < (N : Int) := by omega
            clear hx hy y1 y2 hb
            have E := neq44 xk xc xt xn xk xc xt xn false (by simp)
            go_wp2_with fail
            go_region_held3 (fun W => W.cell? ⟨B, 0, none⟩ = some (.slice (some ⟨b, o, none⟩) N c) ∧ W.cell? ⟨b, o + k * 4, none⟩ = some (.int .i64 xk) ∧ W.cell? ⟨b, o + k * 4 + 1, none⟩ = some (.int .i64 xc) ∧ W.cell? ⟨b, o + k * 4 + 2, none⟩ = some (.int .i64 xn) ∧ W.cell? ⟨b, o + k * 4 + 3, none⟩ = some (.int .i64 xt)) (go_keep) (fail)
            clear d0 d1 d2 d3 m0
            have hwd : Below wr.heap.size wr (wr.alloc (.cells #[.int .i64 xk, .int .i64 xc, .int .i64 xt, .int .i64 xn] 44)) := (Below.refl _ wr).alloc (Nat.le_refl _) _
            have b7 : Below wr.heap.size wr (wr.alloc (.cells #[.int .i64 xk, .int .i64 xc, .int .i64 xt, .int .i64 xn] 44)).drew := hwd.trans ((below_drewN _ 1).mono hwd.size)
            have x7 : (wr.alloc (.cells #[.int .i64 xk, .int .i64 xc, .int .i64 xt, .int .i64 xn] 44)).drew.heap[wr.heap.size]? = some (.cells #[.int .i64 xk, .int .i64 xc, .int .i64 xt, .int .i64 xn] 44 (0, 0)) := heap_alloc_new wr _
            obtain ⟨w7, hw7⟩ : ∃ w7, (wr.alloc (.cells #[.int .i64 xk, .int .i64 xc, .int .i64 xt, .int .i64 xn] 44)).drew = w7 := ⟨_, rfl⟩
            rw [hw7] at b7 x7
            replace e0 := (b7.cell (p := ⟨b3, _, none⟩) hb3).trans e0
            replace e1 := (b7.cell (p := ⟨b3, _, none⟩) hb3).trans e1
            replace e2 := (b7.cell (p := ⟨b3, _, none⟩) hb3).trans e2
            replace e3 := (b7.cell (p := ⟨b3, _, none⟩) hb3).trans e3
            obtain ⟨L7, hL7⟩ : ∃ L, wr.heap.size = L := ⟨_, rfl⟩
            rw [hL7] at x7
            have f0 : w7.cell? ⟨L7, 0, none⟩ = some (.int .i64 xk) := cell_in x7 0
            have f1 : w7.cell? ⟨L7, 1, none⟩ = some (.int .i64 xc) := cell_in x7 1
            have f2 : w7.cell? ⟨L7, 2, none⟩ = some (.int .i64 xt) := cell_in x7 2
            have f3 : w7.cell? ⟨L7, 3, none⟩ = some (.int .i64 xn) := cell_in x7 3
            have H7 := Lib.hid (HH.out.trans (b7.mono HH.out.size))
            clear hwd b7 x7 hb3
            go_wp2_with fail
            change Code.wp _ _ _ _ (wr.alloc (.cells #[.int .i64 xk, .int .i64 xc, .int .i64 xt, .int .i64 xn] 44)).drew
            rw [hw7, hL7]
            clear hw7 hL7
            go_quiet (fail)
            go_wp2_with fail
            go_roundg (N - k - 1)
            case measure => omega
            case rel => exact ⟨k + 1, by omega, by go_num, H7.out.trans ((below_drewN _ _).mono H7.out.size)⟩
          · obtain rfl : k = N := by omega
            have hge : ¬ (k : Int) < (k : Int) := by omega
            obtain ⟨s0, s1, s2, s3, s4⟩ := HG.out wr HH.out
            clear y1 y2
            have C9 := Lib.hid (show Calls Try.prog 20 #[.agg #[.bool m1, .string nm1, .slice ra1 rn1 rc1, .slice pa1 pn1 pc1, .slice ba1 bn1 bc1], .func (.func 22) #[] #[]] wr (MapP f.turned wr) from by
              have := mapF_v 22 inpl22 f.turned r1 wr (H5.out.1.below ((H6.out.2.1.trans (HH.out.mono H6.out.2.1.size)))) (small_turned f HF.out.2.1)
              rw [H5.out.2.2.2] at this
              exact this)
            go_wp2_with fail
            refine C9.out.mono ?_
            rintro e w9 ⟨r2, rfl, hf9, hb9⟩
            rw [Fun.turned_turned] at hf9 ⊢
            clear s0 s1 s2 s3 s4 m0 C9
            obtain ⟨m2, nm2, ra2, rn2, rc2, pa2, pn2, pc2, ba2, bn2, bc2, hfr2⟩ : ∃ m1 nm1 ra1 rn1 rc1 pa1 pn1 pc1 ba1 bn1 bc1, funR f r2 = #[.bool m1, .string nm1, .slice ra1 rn1 rc1, .slice pa1 pn1 pc1, .slice ba1 bn1 bc1] := ⟨_, _, _, _, _, _, _, _, _, _, _, rfl⟩
            rw [hfr2]
            have B9 := (HBW.out _ (HH.out.trans (hb9.mono HH.out.size))).2.2.2.2
            have b10 : Below w9.heap.size w9 (w9.alloc (.cells #[.bool m2, .string nm2, .slice ra2 rn2 rc2, .slice pa2 pn2 pc2, .slice ba2 bn2 bc2] 31)) := (Below.refl _ w9).alloc (Nat.le_refl _) _
            have B10 := B9.trans (b10.mono B9.size)
            have W10 : Below wa.heap.size wa (w9.alloc (.cells #[.bool m2, .string nm2, .slice ra2 rn2 rc2, .slice pa2 pn2 pc2, .slice ba2 bn2 bc2] 31)) := HQ.out.1.trans (B10.mono HQ.out.1.size)
            obtain ⟨⟨k0, k1, k2, k3, k4⟩, -⟩ := hcells.out _ W10
            have C10 := Lib.hid (show Calls Try.prog 12 #[.agg #[.bool m2, .string nm2, .slice ra2 rn2 rc2, .slice pa2 pn2 pc2, .slice ba2 bn2 bc2], .agg #[.bool fm, .string fname, .slice ra rn rc, .slice pa pn pc, .slice ba bn bc]] _ fun e w' => e = .returned (.bool true) ∧ Below (w9.alloc (.cells #[.bool m2, .string nm2, .slice ra2 rn2 rc2, .slice pa2 pn2 pc2, .slice ba2 bn2 bc2] 31)).heap.size (w9.alloc (.cells #[.bool m2, .string nm2, .slice ra2 rn2 rc2, .slice pa2 pn2 pc2, .slice ba2 bn2 bc2] 31)) w' from by
              have := CE.out _ r2 W10 (hf9.below b10)
              rw [hfr2] at this
              exact this)
            have H10 := Lib.hid (And.intro B10 W10)
            clear B9 b10 B10 W10 hf9 hb9 hfr2
            go_wp2_with fail
            refine C10.out.mono ?_
            rintro e w11 ⟨rfl, hb11⟩
            clear k0 k1 k2 k3 k4
            have H11 := Lib.hid (H10.out.1.trans (hb11.mono H10.out.1.size))
            clear hb11
            go_wp2_with fail
            refine (works_v w11).mono ?_
            rintro e w12 ⟨rfl, hb12⟩
            have H12 := Lib.hid (H11.out.trans (hb12.mono H11.out.size))
            clear hb12
            obtain ⟨-, -, hr⟩ := hcells.out w12 (HQ.out.1.trans (H12.out.mono HQ.out.1.size))
            have r0 : w12.cell? ⟨w.heap.size + 2, 0, none⟩ = some (.bool false) := cell_in hr 0
            have z0 : w12.frozen? ⟨w.heap.size + 2, 0, none⟩ = false := froz_in hr 0
            go_wp2_with fail
            have gD : w3.heap.size ≤ D0 := HQ.out.2.2.2.2
            have gK : K < w3.heap.size := HK.out.2.2.1
            have gP : w.heap.size + 3 ≤ K := by have := HK.out.1; have := HK.out.2.1; have := HK.out.2.2.2.2.1; have := HK.out.2.2.2.2.2; omega
            have hws := D.out.2.1
            have hWs := HQ.out.1.size
            have hL : (w12.setCell ⟨w.heap.size + 2, 0, none⟩ (.bool true)).heap[D0]? = some (.deferred (some [])) := (set_far (by omega) 0 _).trans ((H12.out.block D0 (Array.getElem?_eq_some_iff.1 HQ.out.2.2.2.1).1).trans HQ.out.2.2.2.1)
            have hbl : Below w.heap.size w (w12.setCell ⟨w.heap.size + 2, 0, none⟩ (.bool true)) := ((D.out.1.trans (HQ.out.1.mono (by omega))).trans (H12.out.mono (Nat.le_trans (by omega) (D.out.1.trans (HQ.out.1.mono (by omega))).size))).setCell (p := ⟨w.heap.size + 2, 0, none⟩) (by show w.heap.size ≤ w.heap.size + 2; omega) _
            refine ⟨by simp, .inl ⟨_, _, rfl, run_takeDeferred hL, ?_⟩⟩
            refine ⟨_, results_cell_bool rfl _ _ (w.heap.size + 2) true rfl ?_, rfl, ?_⟩
            · refine (World.cell?_of_block (w := w12.setCell ⟨w.heap.size + 2, 0, none⟩ (.bool true)) ?_).trans (World.cell?_setCell_same _ _ _ r0)
              exact World.putObj_heap_other (by show w.heap.size + 2 ≠ D0; omega)
            · exact hbl.grown (grownBy_putObj' _ D0 _) hbl.size (fun k e => by cases e; omega)
end Go.Proofs.Ytocelaebokikcaa
