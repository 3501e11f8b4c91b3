/- works answers true. -/
import Derived.Test.YtocelaebokikcaaWorksR
import Derived.Test.YtocelaebokikcaaAsk
import Derived.Test.YtocelaebokikcaaCount
import Derived.Test.YtocelaebokikcaaCalls
import Derived.Test.YtocelaebokikcaaCopy
import Derived.Test.YtocelaebokikcaaSameF
import Derived.Test.YtocelaebokikcaaSameS
import Derived.Test.YtocelaebokikcaaSames
import Derived.Deep.RegionHeld3
namespace Go.Proofs.Ytocelaebokikcaa
open Go.ChangeShapes Go.WideShapes Go.RowKit
set_option linter.unusedVariables false
set_option maxRecDepth 100000

def opn (n : Int) : Opn := ⟨1, 0, n, 0⟩
def i1 : Ins := ⟨1, opn 2, [opn 7, opn 7], ⟨#[]⟩, 0, [], []⟩
def i2 : Ins := ⟨19, ⟨0, 0, 0, 0⟩, [], ⟨#[113]⟩, 0, [], []⟩
def fW : Fun := ⟨false, ⟨#[102]⟩, [⟨2, 0⟩, ⟨7, 1⟩], [opn 7], [⟨⟨#[97]⟩, false, [], [i1, i2]⟩]⟩
def r1 (P1 : Nat) : InsV := ⟨some ⟨P1, 0, none⟩, 2, 2, none, 0, 0, none, 0, 0⟩
def r2 : InsV := ⟨none, 0, 0, none, 0, 0, none, 0, 0⟩
def vW (P1 ga gb gc gd : Nat) : FunV := ⟨some ⟨ga, 0, none⟩, 2, 2, some ⟨gb, 0, none⟩, 1, 1, some ⟨gd, 0, none⟩, 1, 1, fun _ => ⟨none, 0, 0, some ⟨gc, 0, none⟩, 2, 2, fun k => if k = 0 then r1 P1 else r2⟩⟩
theorem i1_is {w : World} {P1 : Nat} (h : w.heap[P1]? = some (.cells #[.int .i64 1, .int .i64 0, .int .i64 7, .int .i64 0, .int .i64 1, .int .i64 0, .int .i64 7, .int .i64 0] 44 (0, 0))) : IsIns w i1 (r1 P1) :=
  ⟨ops_own (l := [opn 7, opn 7]) h (by simp), IsStrs.nil _ _, IsInts.nil _ _⟩
theorem i2_is (w : World) : IsIns w i2 r2 := ⟨IsOps.nil _ _, IsStrs.nil _ _, IsInts.nil _ _⟩
theorem fW_is {w : World} {P1 ga gb gc gd : Nat} (h1 : w.heap[P1]? = some (.cells #[.int .i64 1, .int .i64 0, .int .i64 7, .int .i64 0, .int .i64 1, .int .i64 0, .int .i64 7, .int .i64 0] 44 (0, 0)))
    (ha : w.heap[ga]? = some (.cells #[.int .i64 2, .int .i64 0, .int .i64 7, .int .i64 1] 71 (0, 0))) (hb : w.heap[gb]? = some (.cells #[.int .i64 1, .int .i64 0, .int .i64 7, .int .i64 0] 44 (0, 0)))
    (hc : w.heap[gc]? = some (.cells (wCode P1) 51 (0, 0))) (hd : w.heap[gd]? = some (.cells #[.string ⟨#[97]⟩, .bool false, .slice none 0 0, .slice (some ⟨gc, 0, none⟩) 2 2] 48 (0, 0))) : IsFun w fW (vW P1 ga gb gc gd) := by
  have hcode : IsCode w (some ⟨gc, 0, none⟩) 2 (fun k => if k = 0 then r1 P1 else r2) [i1, i2] := by
    refine ⟨rfl, by omega, .inr ⟨gc, 0, rfl, (Array.getElem?_eq_some_iff.1 hc).1, fun k hk => ?_⟩, fun k hk => ?_⟩
    · match k, hk with
      | 0, _ => exact ⟨cell_in hc 0, cell_in hc 1, cell_in hc 2, cell_in hc 3, cell_in hc 4, cell_in hc 5, cell_in hc 6, cell_in hc 7, cell_in hc 8, cell_in hc 9⟩
      | 1, _ => exact ⟨cell_in hc 10, cell_in hc 11, cell_in hc 12, cell_in hc 13, cell_in hc 14, cell_in hc 15, cell_in hc 16, cell_in hc 17, cell_in hc 18, cell_in hc 19⟩
    · match k, hk with
      | 0, _ => exact i1_is h1
      | 1, _ => exact i2_is w
  refine ⟨regs_own (l := [⟨2, 0⟩, ⟨7, 1⟩]) ha (by simp), ops_own (l := [opn 7]) hb (by simp), rfl, by show 1 ≤ _; omega, .inr ⟨gd, 0, rfl, (Array.getElem?_eq_some_iff.1 hd).1, fun k hk => ?_⟩, fun k hk => ?_⟩
  · match k, hk with
    | 0, _ => exact ⟨cell_in hd 0, cell_in hd 1, cell_in hd 2, cell_in hd 3⟩
  · match k, hk with
    | 0, _ => exact ⟨IsOps.nil _ _, hcode⟩
theorem fW_small {P1 ga gb gc gd : Nat} : (vW P1 ga gb gc gd).pn ≤ 1048576 ∧ (vW P1 ga gb gc gd).bn ≤ 1048576 ∧ ∀ b, b < (vW P1 ga gb gc gd).bn → ((vW P1 ga gb gc gd).R b).il ≤ 1048576 ∧ ((vW P1 ga gb gc gd).R b).kn ≤ 1048576 ∧ ∀ k, k < ((vW P1 ga gb gc gd).R b).kn → (((vW P1 ga gb gc gd).R b).R k).an ≤ 1048576 := by
  refine ⟨by show 1 ≤ _; omega, by show 1 ≤ _; omega, fun b _ => ⟨by show 0 ≤ _; omega, by show 2 ≤ _; omega, fun k _ => ?_⟩⟩
  show (if k = 0 then r1 P1 else r2).an ≤ _
  split
  · show 2 ≤ _; omega
  · show 0 ≤ _; omega
theorem own_set {β : Type} (B : Nat) (X : β → World) (hX : ∀ s, B ≤ (X s).heap.size) : OwnFrom B (fun s W => Below B (X s) W) := fun s W W' row hs hg hr => hs.grown hg (Nat.le_trans (hX s) hs.size) (fun k e => (hr k e).1)
theorem below_set {w0 W : World} {Nn : Nat} {v v' x : Value} (hN : w0.heap[Nn]? = some (.cells #[x] 3 (0, 0))) (h : Below w0.heap.size (w0.setCell ⟨Nn, 0, none⟩ v) W) : Below w0.heap.size (w0.setCell ⟨Nn, 0, none⟩ v') (W.setCell ⟨Nn, 0, none⟩ v') ∧ W.heap[Nn]? = some (.cells #[v] 3 (0, 0)) := by
  have hlt := (Array.getElem?_eq_some_iff.1 hN).1
  have h1 : W.heap[Nn]? = some (.cells #[v] 3 (0, 0)) := by rw [h.block Nn hlt]; exact set_at hN 0 v
  refine ⟨⟨h.os, h.tape, h.output, by have := h.size; simp [World.setCell] at *; exact this, fun k hk => ?_⟩, h1⟩
  by_cases e : k = Nn
  · subst e
    rw [set_at h1 0 v', set_at hN 0 v']
    rfl
  · rw [set_far e, set_far e, h.block k hk, set_far e]
theorem range_skip {n : Nat} {op : Operand} {t : Tmp} {body : Code} {Q : Exit → Act → World → Prop} {a : Act} {w : World}
    (V : Nat) (A : Option Addr) (N c0 : Nat) (ops : List Opn) (hN : N ≤ 1048576) (hg : a.eval op = .func (.func 70) #[] #[.pointer (some ⟨V, 0, none⟩)])
    (I : List Opn → World → Prop) (hI : OwnFrom w.heap.size I)
    (hS : ∀ s W, I s W → W.heap[V]? = some (.cells #[.slice A N c0] 28 (0, 0)) ∧ IsOps W A N ops) (h0 : I [] w)
    (hbody : ∀ (l k : Nat) (x : Opn) (W : World), ops[k]? = some x → I (ops.take k) W →
      body.wpIn (Fence.wide.inRound l) (n - 1 - 1) Try.prog (ownPostG w.heap.size (fun _ _ => True) I (fun _ _ _ => False) (ops.take (k + 1)) W) { tmps := a.tmps.setIfInBounds t (opV x), defers := [] } W)
    (hdone : ∀ (D : Nat) (W : World), w.heap.size ≤ D → I (ops.take N) W → W.heap[D]? = some (.deferred (some [])) → Q .normal { a with defers := { target := .collected D, args := #[] } :: a.defers } W) :
    (Code.rangeFunc op #[t] Code.skip body).wp Try.prog Q a w :=
  (wpIn_wide (n := n)).1 (range_v V A N c0 ops hN hg I (fun _ _ _ => False) hI (fun _ _ _ _ _ hs _ _ => hs) hS h0 (fun x => { tmps := a.tmps.setIfInBounds t (opV x), defers := [] })
    (fun l x W K hK => by gi_wp2_with fail; exact hK) hbody hdone (fun D c k W _ _ h _ => h.elim))
theorem ops_keep {w W : World} {A : Option Addr} {n Nn : Nat} {l : List Opn} {x v : Value} (h : IsOps w A n l) (hn : 2 ≤ n) (hN : w.heap[Nn]? = some (.cells #[x] 3 (0, 0))) (hB : Below w.heap.size (w.setCell ⟨Nn, 0, none⟩ v) W) : IsOps W A n l := by
  obtain ⟨h1, h2, h3 | ⟨b, o, rfl, hb, hc⟩⟩ := h
  · rw [h3] at h1; simp at h1; omega
  · have hne : b ≠ Nn := fun e => by
      subst e
      have c1 := (hc 1 (by omega)).1
      rw [cell_in hN] at c1
      have := (Array.getElem?_eq_some_iff.1 c1).1
      simp at this
    have hk : W.heap[b]? = w.heap[b]? := (hB.block b hb).trans (set_far hne 0 v)
    have hcell : ∀ j, W.cell? ⟨b, j, none⟩ = w.cell? ⟨b, j, none⟩ := fun j => World.cell?_of_block (w := w) hk
    refine ⟨h1, h2, .inr ⟨b, o, rfl, ?_, fun k hk => ?_⟩⟩
    · have := hB.size; simp [World.setCell] at this; omega
    · obtain ⟨c0, c1, c2, c3⟩ := hc k hk
      exact ⟨(hcell _).trans c0, (hcell _).trans c1, (hcell _).trans c2, (hcell _).trans c3⟩
theorem uses_i1 : usesFrom [] i1.args = [7] := by decide
theorem find_fW : findAt ⟨#[97]⟩ 0 fW.blocks = 0 := by decide +kernel
theorem sum_fW : codeSum fW.blocks = 2 := by decide
theorem calls_fW : (callsOf fW.blocks).length = 1 := by
  have e : blkNames fW.blocks = [⟨#[113]⟩] := rfl
  unfold callsOf
  rw [e]
  simp [Lib.compact, Lib.compactUpTo, Lib.keeps, List.range_succ]
theorem wf_i1 : Wf i1.args := by
  intro x hx
  have : x = opn 7 := by simpa [i1] using hx
  subst this
  exact ⟨by decide, by decide⟩
theorem small_fW : ∀ p, fW.parts.valid p → fW.parts.len p ≤ 1048576 := by
  intro p hp
  cases p with
  | regs => decide
  | params => decide
  | blocks => decide
  | ins b =>
    have : b < 1 := hp
    obtain rfl : b = 0 := by omega
    decide
  | code b =>
    have : b < 1 := hp
    obtain rfl : b = 0 := by omega
    decide
  | args b k =>
    have h1 : b < 1 := hp.1
    obtain rfl : b = 0 := by omega
    have h2 : k < 2 := hp.2
    match k, h2 with
    | 0, _ => decide
    | 1, _ => decide
  | labels b k =>
    have h1 : b < 1 := hp.1
    obtain rfl : b = 0 := by omega
    have h2 : k < 2 := hp.2
    match k, h2 with
    | 0, _ => decide
    | 1, _ => decide
  | cases b k =>
    have h1 : b < 1 := hp.1
    obtain rfl : b = 0 := by omega
    have h2 : k < 2 := hp.2
    match k, h2 with
    | 0, _ => decide
    | 1, _ => decide
theorem owned_is {w : World} {i : Ins} {r : InsV} {g1 g2 g3 : Nat} (ha : r.an = i.args.length) (hl : r.ln = i.labels.length) (hc : r.cn = i.cases.length) (h1 : r.an ≤ 1048576) (h2 : r.ln ≤ 1048576) (h3 : r.cn ≤ 1048576)
    (m1 : w.heap[g1]? = some (.cells (i.args.flatMap Opn.cs).toArray 44 (0, 0))) (m2 : w.heap[g2]? = some (.cells (i.labels.flatMap strC).toArray 9 (0, 0))) (m3 : w.heap[g3]? = some (.cells (i.cases.flatMap intC).toArray 3 (0, 0))) : IsIns w i (ownI i r g1 g2 g3) := by
  obtain ⟨aa, an, ac, la, ln, lc, ca, cn, cc⟩ := r
  dsimp only at ha hl hc h1 h2 h3
  subst ha hl hc
  exact ⟨ops_own m1 h1, strs_own m2 h2, ints_own m3 h3⟩
theorem wk_cells {W : World} {P1 P2 p3 L8 Nn ga gb gd : Nat} (h2 : W.heap[P2]? = some (.cells #[.int .i64 1, .int .i64 1, .int .i64 0, .int .i64 2, .int .i64 0, .slice (some ⟨P1, 0, none⟩) 2 2, .string ⟨#[]⟩, .int .i64 0, .slice none 0 0, .slice none 0 0] 51 (0, 0))) (h3 : W.heap[p3]? = some (.cells #[.bool false, .string ⟨#[102]⟩, .slice (some ⟨ga, 0, none⟩) 2 2, .slice (some ⟨gb, 0, none⟩) 1 1, .slice (some ⟨gd, 0, none⟩) 1 1] 31 (0, 0))) (h8 : W.heap[L8]? = some (.cells #[.int .i64 2, .int .i64 1, .int .i64 3] 77 (0, 0))) (hn : W.heap[Nn]? = some (.cells #[.int .i64 5] 3 (0, 0))) :
    W.cell? ⟨P2, 0, none⟩ = some (.int .i64 1) ∧ W.cell? ⟨P2, 1, none⟩ = some (.int .i64 1) ∧ W.cell? ⟨P2, 2, none⟩ = some (.int .i64 0) ∧ W.cell? ⟨P2, 3, none⟩ = some (.int .i64 2) ∧ W.cell? ⟨P2, 4, none⟩ = some (.int .i64 0) ∧ W.cell? ⟨P2, 5, none⟩ = some (.slice (some ⟨P1, 0, none⟩) 2 2) ∧ W.cell? ⟨P2, 6, none⟩ = some (.string ⟨#[]⟩) ∧ W.cell? ⟨P2, 7, none⟩ = some (.int .i64 0) ∧ W.cell? ⟨P2, 8, none⟩ = some (.slice none 0 0) ∧ W.cell? ⟨P2, 9, none⟩ = some (.slice none 0 0) ∧ W.cell? ⟨p3, 0, none⟩ = some (.bool false) ∧ W.cell? ⟨p3, 1, none⟩ = some (.string ⟨#[102]⟩) ∧ W.cell? ⟨p3, 2, none⟩ = some (.slice (some ⟨ga, 0, none⟩) 2 2) ∧ W.cell? ⟨p3, 3, none⟩ = some (.slice (some ⟨gb, 0, none⟩) 1 1) ∧ W.cell? ⟨p3, 4, none⟩ = some (.slice (some ⟨gd, 0, none⟩) 1 1) ∧ W.cell? ⟨L8, 2, none⟩ = some (.int .i64 3) ∧ W.cell? ⟨Nn, 0, none⟩ = some (.int .i64 5) :=
  ⟨cell_in h2 0, cell_in h2 1, cell_in h2 2, cell_in h2 3, cell_in h2 4, cell_in h2 5, cell_in h2 6, cell_in h2 7, cell_in h2 8, cell_in h2 9, cell_in h3 0, cell_in h3 1, cell_in h3 2, cell_in h3 3, cell_in h3 4, cell_in h8 2, cell_in hn 0⟩
def EndPost (w : World) (D : Nat) : Exit → Act → World → Prop
  | .normal, a, w' => a.defers = [{ target := .collected D, args := #[] }] ∧ a.tmps.getD 0 undef = .bool true ∧ Below w.heap.size w w' ∧ w'.heap[D]? = some (.deferred (some [])) ∧ w.heap.size ≤ D
  | _, _, _ => False
theorem kept_dfr {w w1 : World} {D : Nat} {x : Obj} (h : w.heap[D]? = some x) (hb : Below w.heap.size w w1) : w1.heap[D]? = some x := by
  rw [hb.block D (Array.getElem?_eq_some_iff.1 h).1]; exact h
theorem alo_nil (w : World) (n : Int) : IsAlo w ⟨n, []⟩ ⟨none, 0, 0⟩ := ⟨⟨rfl, by show 0 ≤ _; omega, .inl rfl⟩⟩
theorem same_alo (w : World) : Calls Try.prog 13 #[.agg #[.int .i64 1, .slice none 0 0], .agg #[.int .i64 0, .slice none 0 0]] w fun e w' => e = .returned (.bool false) ∧ Below w.heap.size w w' :=
  eq13_v ⟨1, []⟩ ⟨0, []⟩ ⟨none, 0, 0⟩ ⟨none, 0, 0⟩ w (alo_nil w 1) (alo_nil w 0)
theorem func_nil (f : Fn) (a b : Array Value) (w : World) : (binOp .eql 55 (.func f a b) .nilFunc).run Try.prog w = .ok (.bool false) w := by kernel_rfl
attribute [local go_sem] Oper.semAt_some
set_option maxHeartbeats 0 in
theorem works_v (w : World) : Calls Try.prog 8 #[] w fun e w' => e = .returned (.bool true) ∧ Below w.heap.size w w' := by
  refine (callsIn_wide (n := 3)).1 ?_
  refine callsIn_of_wp_marks Try.func8 rfl trivial ?_ rfl
  simp only [Try.ntmps8, List.size_toArray, List.length_nil, Nat.reduceSub, Array.replicate_succ, Array.replicate_zero, List.push_toArray, List.append_toArray, List.nil_append, List.cons_append]
  refine wpIn_wide.2 ?_
  go_wp2_with fail
  refine (works1_v 2 _).mono ?_
  rintro e w1 ⟨rfl, hb1⟩
  have B1 := Lib.hid hb1
  clear hb1
  go_wp2_with fail
  refine (works1_v 7 _).mono ?_
  rintro e w2 ⟨rfl, hb2⟩
  have B2 := Lib.hid (B1.out.trans (hb2.mono B1.out.size))
  clear hb2
  go_wp2_with fail
  refine (works1_v 7 _).mono ?_
  rintro e w3 ⟨rfl, hb3⟩
  have B3 := Lib.hid (B2.out.trans (hb3.mono B2.out.size))
  clear hb3 B1 B2
  go_wp2_with fail
  have hx := box_two w3 (.cells #[.int .i64 1, .int .i64 0, .int .i64 7, .int .i64 0, .int .i64 1, .int .i64 0, .int .i64 7, .int .i64 0] 44) (.cells (wI1 w3.heap.size) 51)
  have BX : Below w3.heap.size w3 ((w3.alloc (.cells #[.int .i64 1, .int .i64 0, .int .i64 7, .int .i64 0, .int .i64 1, .int .i64 0, .int .i64 7, .int .i64 0] 44)).alloc (.cells (wI1 w3.heap.size) 51)) := ((Below.refl _ w3).alloc (Nat.le_refl _) _).alloc (by simp) _
  have hsz : ((w3.alloc (.cells #[.int .i64 1, .int .i64 0, .int .i64 7, .int .i64 0, .int .i64 1, .int .i64 0, .int .i64 7, .int .i64 0] 44)).alloc (.cells (wI1 w3.heap.size) 51)).heap.size = w3.heap.size + 2 := by simp
  have HP1 := Lib.hid (And.intro hx (And.intro BX hsz))
  clear hx BX hsz
  unfold wI1 at HP1
  obtain ⟨w5, hw5⟩ : ∃ w5, ((w3.alloc (.cells #[.int .i64 1, .int .i64 0, .int .i64 7, .int .i64 0, .int .i64 1, .int .i64 0, .int .i64 7, .int .i64 0] 44)).alloc (.cells #[.int .i64 1, .int .i64 1, .int .i64 0, .int .i64 2, .int .i64 0, .slice (some ⟨w3.heap.size, 0, none⟩) 2 2, .string ⟨#[]⟩, .int .i64 0, .slice none 0 0, .slice none 0 0] 51)) = w5 := ⟨_, rfl⟩
  rw [hw5] at HP1 ⊢
  clear hw5
  obtain ⟨P1, hP1⟩ : ∃ P1, w3.heap.size = P1 := ⟨_, rfl⟩
  obtain ⟨P2, hP2⟩ : ∃ P2, w3.heap.size + 1 = P2 := ⟨_, rfl⟩
  rw [hP2, hP1] at HP1
  rw [hP2, hP1]
  have HM := Lib.hid (show w5.heap[P1]? = _ ∧ w5.heap[P2]? = _ ∧ Below w3.heap.size w3 w5 ∧ w3.heap.size ≤ w5.heap.size from ⟨HP1.out.1.1, HP1.out.1.2, by rw [hP1]; exact HP1.out.2.1, by rw [HP1.out.2.2, hP1]; omega⟩)
  refine Code.wp_mono (Q := WPost w5 P1 P2) ?post (region3 w5 P1 P2 HP1.out.1.2)
  case post =>
    intro e a w6 hq
    cases e with
    | normal =>
      obtain ⟨p3, u20, u21, u22, u23, u24, u25, u26, u27, u28, u29, u30, u31, rfl, hmem⟩ := hq.out
      obtain ⟨ga, gb, gc, gd, ha, hb, hc, hd, he, hB, hp3⟩ := hmem.out
      have hfun := fW_is (kept_box HM.out.1 hB) ha hb hc hd
      have hins := i1_is (kept_box HM.out.1 hB)
      have HX := Lib.hid (And.intro hfun (And.intro hins (And.intro he (And.intro (kept_box HM.out.2.1 hB) (B3.out.trans ((HM.out.2.2.1.trans (hB.mono HM.out.2.2.2)).mono B3.out.size))))))
      have hx2 := kept_box HM.out.2.1 hB
      have e0 : w6.cell? ⟨P2, 0, none⟩ = some (.int .i64 1) := cell_in hx2 0
      have e1 : w6.cell? ⟨P2, 1, none⟩ = some (.int .i64 1) := cell_in hx2 1
      have e2 : w6.cell? ⟨P2, 2, none⟩ = some (.int .i64 0) := cell_in hx2 2
      have e3 : w6.cell? ⟨P2, 3, none⟩ = some (.int .i64 2) := cell_in hx2 3
      have e4 : w6.cell? ⟨P2, 4, none⟩ = some (.int .i64 0) := cell_in hx2 4
      have e5 : w6.cell? ⟨P2, 5, none⟩ = some (.slice (some ⟨P1, 0, none⟩) 2 2) := cell_in hx2 5
      have e6 : w6.cell? ⟨P2, 6, none⟩ = some (.string ⟨#[]⟩) := cell_in hx2 6
      have e7 : w6.cell? ⟨P2, 7, none⟩ = some (.int .i64 0) := cell_in hx2 7
      have e8 : w6.cell? ⟨P2, 8, none⟩ = some (.slice none 0 0) := cell_in hx2 8
      have e9 : w6.cell? ⟨P2, 9, none⟩ = some (.slice none 0 0) := cell_in hx2 9
      clear hfun hins ha hb hc hd he hB hp3 hx2 hmem hq
      go_wp2_with fail
      refine (def_v i1 (r1 P1) 2 true rfl _).mono ?_
      rintro e w7 ⟨rfl, hb⟩
      have B7 := Lib.hid hb
      clear hb e0 e1 e2 e3 e4 e5 e6 e7 e8 e9
      have hx3 := kept_box HX.out.2.2.1 B7.out
      have d0 : w7.cell? ⟨p3, 0, none⟩ = some (.bool false) := cell_in hx3 0
      have d1 : w7.cell? ⟨p3, 1, none⟩ = some (.string ⟨#[102]⟩) := cell_in hx3 1
      have d2 : w7.cell? ⟨p3, 2, none⟩ = some (.slice (some ⟨ga, 0, none⟩) 2 2) := cell_in hx3 2
      have d3 : w7.cell? ⟨p3, 3, none⟩ = some (.slice (some ⟨gb, 0, none⟩) 1 1) := cell_in hx3 3
      have d4 : w7.cell? ⟨p3, 4, none⟩ = some (.slice (some ⟨gd, 0, none⟩) 1 1) := cell_in hx3 4
      clear hx3
      go_wp2_with fail
      refine (ask23_v fW (vW P1 ga gb gc gd) 7 _ (HX.out.1.below B7.out)).mono ?_
      have hcl : clsOf 7 fW.regs = (1, true) := rfl
      rw [hcl]
      rintro e w8 ⟨rfl, hb⟩
      have B8 := Lib.hid (B7.out.trans (hb.mono B7.out.size))
      clear hb d0 d1 d2 d3 d4 hcl
      dsimp only
      go_wp2_with fail
      refine (put_v 2 1 3 9 _).mono ?_
      rintro e w9 ⟨rfl, hb⟩
      have B9 := Lib.hid (B8.out.trans (hb.mono B8.out.size))
      clear hb
      go_wp2_with fail
      refine (at_reg 1 3 9 _).mono ?_
      rintro e w10 ⟨rfl, hb⟩
      have B10 := Lib.hid (B9.out.trans (hb.mono B9.out.size))
      clear hb
      have hx3 := kept_box HX.out.2.2.1 B10.out
      have d0 : w10.cell? ⟨p3, 0, none⟩ = some (.bool false) := cell_in hx3 0
      have d1 : w10.cell? ⟨p3, 1, none⟩ = some (.string ⟨#[102]⟩) := cell_in hx3 1
      have d2 : w10.cell? ⟨p3, 2, none⟩ = some (.slice (some ⟨ga, 0, none⟩) 2 2) := cell_in hx3 2
      have d3 : w10.cell? ⟨p3, 3, none⟩ = some (.slice (some ⟨gb, 0, none⟩) 1 1) := cell_in hx3 3
      have d4 : w10.cell? ⟨p3, 4, none⟩ = some (.slice (some ⟨gd, 0, none⟩) 1 1) := cell_in hx3 4
      clear hx3
      have p3lt : p3 < w10.heap.size := spot_lt d0
      have p3lt1 : p3 < w10.heap.size + 1 := by omega
      go_wp2_with fail
      have BR0 : Below w10.heap.size w10 ((w10.alloc (.cells #[.int .i64 2, .int .i64 1, .int .i64 3] 77)).alloc (.cells #[.int .i64 0] 3)) := ((Below.refl _ w10).alloc (Nat.le_refl _) _).alloc (by simp) _
      have hbx := box_two w10 (.cells #[.int .i64 2, .int .i64 1, .int .i64 3] 77) (.cells #[.int .i64 0] 3)
      have hsz : ((w10.alloc (.cells #[.int .i64 2, .int .i64 1, .int .i64 3] 77)).alloc (.cells #[.int .i64 0] 3)).heap.size = w10.heap.size + 2 := by simp
      have HB := Lib.hid (And.intro (B10.out.trans (BR0.mono B10.out.size)) (And.intro hbx hsz))
      clear BR0 hbx hsz d0 d1 d2 d3 d4 p3lt p3lt1
      obtain ⟨w11, hw11⟩ : ∃ w11, ((w10.alloc (.cells #[.int .i64 2, .int .i64 1, .int .i64 3] 77)).alloc (.cells #[.int .i64 0] 3)) = w11 := ⟨_, rfl⟩
      rw [hw11] at HB ⊢
      clear hw11
      obtain ⟨L8, hL8⟩ : ∃ L, w10.heap.size = L := ⟨_, rfl⟩
      obtain ⟨Nn, hNn⟩ : ∃ L, L8 + 1 = L := ⟨_, rfl⟩
      rw [hL8, hNn] at HB
      rw [hL8, hNn]
      have HL := Lib.hid (And.intro hL8 (And.intro hNn B10.out.size))
      clear hL8 hNn
      refine (operands_v fW (vW P1 ga gb gc gd) _ (HX.out.1.below HB.out.1) fW_small (by decide)).mono ?_
      rintro e w12 ⟨V, A, c, rfl, hV, hVh, hops, hb⟩
      have BV := Lib.hid (And.intro hV (And.intro hVh (And.intro hops hb)))
      clear hV hVh hops hb
      have hfn := func_nil
      go_wp2_with fail
      have hNlt := (Array.getElem?_eq_some_iff.1 HB.out.2.1.2).1
      have hN12 : w12.heap[Nn]? = some (.cells #[.int .i64 0] 3 (0, 0)) := kept_box HB.out.2.1.2 BV.out.2.2.2
      have h12 := BV.out.2.2.2.size
      have hN12lt : Nn < w12.heap.size := (Array.getElem?_eq_some_iff.1 hN12).1
      have keepV : ∀ k W, Below w12.heap.size (w12.setCell ⟨Nn, 0, none⟩ (.int .i64 (k : Int))) W → W.heap[V]? = some (.cells #[.slice A (funOps fW).length c] 28 (0, 0)) ∧ IsOps W A (funOps fW).length (funOps fW) := fun k W hB => by
        have hVN : V ≠ Nn := fun e => by
          have := BV.out.1; omega
        have hVl := (Array.getElem?_eq_some_iff.1 BV.out.2.1).1
        exact ⟨(hB.block V hVl).trans ((set_far hVN 0 _).trans BV.out.2.1), ops_keep BV.out.2.2.1 (by show 2 ≤ 5; omega) hN12 hB⟩
      have HI := Lib.hid (And.intro hN12 (And.intro hN12lt h12))
      clear hNlt hN12 hN12lt h12
      refine range_skip (n := 3) V A 5 c (funOps fW) (by omega) rfl (fun s W => Below w12.heap.size (w12.setCell ⟨Nn, 0, none⟩ (.int .i64 (s.length : Nat))) W) (own_set _ _ (fun s => by simp [World.setCell])) (fun s W hB => keepV s.length W hB) ?h0 ?hbody ?hdone
      case h0 =>
        refine ⟨rfl, rfl, rfl, by simp [World.setCell], fun k hk => ?_⟩
        by_cases e : k = Nn
        · subst e; rw [set_at HI.out.1 0 _, HI.out.1]; rfl
        · rw [set_far e]
      case hbody =>
        intro l k x W hx hB
        have hk5 : k < 5 := (List.getElem?_eq_some_iff.1 hx).1
        obtain ⟨hB2, hNW⟩ := below_set (v' := .int .i64 ((k : Int) + 1)) HI.out.1 hB
        have n0 : W.cell? ⟨Nn, 0, none⟩ = some (.int .i64 (((funOps fW).take k).length : Nat)) := cell_in hNW 0
        have n1 : W.frozen? ⟨Nn, 0, none⟩ = false := froz_in hNW 0
        have e1 : ((funOps fW).take k).length = k := by rw [List.length_take]; show min k 5 = k; omega
        have e2 : ((funOps fW).take (k + 1)).length = k + 1 := by rw [List.length_take]; show min (k + 1) 5 = k + 1; omega
        rw [e1] at n0
        have HQ := Lib.hid (And.intro hB2 e2)
        clear hB hB2 e1 e2 hx hNW
        simp only [List.setIfInBounds_toArray, List.set_cons_zero, List.set_cons_succ]
        gi_wp2_with fail
        refine ⟨(KeepsOthers.setCell _ _ _).from _, trivial, ?_⟩
        show Below w12.heap.size (w12.setCell ⟨Nn, 0, none⟩ (.int .i64 (((funOps fW).take (k + 1)).length : Nat))) _
        rw [HQ.out.2, show (((k + 1 : Nat)) : Int) = (k : Int) + 1 from by omega]
        exact HQ.out.1
      case hdone =>
        intro D W hD hB hK
        have hNW : W.heap[Nn]? = some (.cells #[.int .i64 5] 3 (0, 0)) := (below_set (v' := .int .i64 0) HI.out.1 hB).2
        have hlo : w6.heap.size ≤ Nn := by have := HL.out.2.2; have := HL.out.1; have := HL.out.2.1; omega
        have hw12 : w6.heap.size ≤ w12.heap.size := Nat.le_trans HB.out.1.size BV.out.2.2.2.size
        have B6 : Below w6.heap.size w6 W := ((HB.out.1.trans (BV.out.2.2.2.mono HB.out.1.size)).setCell (p := ⟨Nn, 0, none⟩) hlo _).trans (hB.mono hw12)
        have h8 : W.heap[L8]? = some (.cells #[.int .i64 2, .int .i64 1, .int .i64 3] 77 (0, 0)) := by
          have k1 := kept_box HB.out.2.1.1 BV.out.2.2.2
          have k2 := (Array.getElem?_eq_some_iff.1 k1).1
          rw [hB.block L8 k2, set_far (by have := HL.out.2.1; omega)]
          exact k1
        have G := Lib.hid (And.intro (kept_box HX.out.2.2.2.1 B6) (And.intro (kept_box HX.out.2.2.1 B6) (And.intro h8 (And.intro hNW (And.intro (HX.out.1.below B6) (And.intro (HX.out.2.1.below B6) (And.intro (HX.out.2.2.2.2.trans (B6.mono HX.out.2.2.2.2.size)) (And.intro hK (Nat.le_trans HX.out.2.2.2.2.size (Nat.le_trans hw12 hD))))))))))
        clear hNW hlo hw12 B6 h8 hB hK hD keepV
        dsimp only
        simp only [Exit.inBlock, Exit.then]
        have S20 := Lib.hid (wk_cells (kept_box G.out.1 (Below.refl _ W)) (kept_box G.out.2.1 (Below.refl _ W)) (kept_box G.out.2.2.1 (Below.refl _ W)) (kept_box G.out.2.2.2.1 (Below.refl _ W)))
        go_wp2_with fail
        simp only [List.append]
        refine Code.wp_mono (Q := EndPost w D) ?post2 ?reg2
        case reg2 =>
          go_region_held3 (fun W => W.cell? ⟨P2, 0, none⟩ = some (.int .i64 1) ∧ W.cell? ⟨P2, 1, none⟩ = some (.int .i64 1) ∧ W.cell? ⟨P2, 2, none⟩ = some (.int .i64 0) ∧ W.cell? ⟨P2, 3, none⟩ = some (.int .i64 2) ∧ W.cell? ⟨P2, 4, none⟩ = some (.int .i64 0) ∧ W.cell? ⟨P2, 5, none⟩ = some (.slice (some ⟨P1, 0, none⟩) 2 2) ∧ W.cell? ⟨P2, 6, none⟩ = some (.string ⟨#[]⟩) ∧ W.cell? ⟨P2, 7, none⟩ = some (.int .i64 0) ∧ W.cell? ⟨P2, 8, none⟩ = some (.slice none 0 0) ∧ W.cell? ⟨P2, 9, none⟩ = some (.slice none 0 0) ∧ W.cell? ⟨p3, 0, none⟩ = some (.bool false) ∧ W.cell? ⟨p3, 1, none⟩ = some (.string ⟨#[102]⟩) ∧ W.cell? ⟨p3, 2, none⟩ = some (.slice (some ⟨ga, 0, none⟩) 2 2) ∧ W.cell? ⟨p3, 3, none⟩ = some (.slice (some ⟨gb, 0, none⟩) 1 1) ∧ W.cell? ⟨p3, 4, none⟩ = some (.slice (some ⟨gd, 0, none⟩) 1 1) ∧ W.cell? ⟨L8, 2, none⟩ = some (.int .i64 3) ∧ W.cell? ⟨Nn, 0, none⟩ = some (.int .i64 5))
            (first | exact S29.out | exact S28.out | exact S27.out | exact S26.out | exact S25.out | exact S24.out | exact S23.out | exact S22.out | exact S21.out | exact S20.out)
            (first
              | (go_at_call 13; (refine (same_alo w28).mono ?_); rintro e w29 ⟨rfl, hb⟩; have F29 := Lib.hid (And.intro (F28.out.1.trans (Below.mono (show Below w28.heap.size w28 w29 from ⟨hb.os, hb.tape, hb.output, hb.size, hb.block⟩) F28.out.1.size)) trivial); clear hb; have S29 := Lib.hid (wk_cells (kept_box G.out.1 F29.out.1) (kept_box G.out.2.1 F29.out.1) (kept_box G.out.2.2.1 F29.out.1) (kept_box G.out.2.2.2.1 F29.out.1)))
              | (go_at_call 42; (refine (eq42_v i1 i1 (r1 P1) (ownI i1 (r1 P1) q1 q2 q3) w27 (G.out.2.2.2.2.2.1.below F27.out.1) FI.out).mono ?_); rintro e w28 ⟨rfl, hb⟩; have F28 := Lib.hid (And.intro (F27.out.1.trans (Below.mono (show Below w27.heap.size w27 w28 from ⟨hb.os, hb.tape, hb.output, hb.size, hb.block⟩) F27.out.1.size)) trivial); clear hb; have S28 := Lib.hid (wk_cells (kept_box G.out.1 F28.out.1) (kept_box G.out.2.1 F28.out.1) (kept_box G.out.2.2.1 F28.out.1) (kept_box G.out.2.2.2.1 F28.out.1)); rw [insEq_refl])
              | (go_at_call 43; (refine (copyI_v i1 (r1 P1) w26 (G.out.2.2.2.2.2.1.below F26.out.1) (by show 2 ≤ _; omega) (by show 0 ≤ _; omega) (by show 0 ≤ _; omega)).mono ?_); rintro e w27 ⟨q1, q2, q3, rfl, _, _, _, _, m1, m2, m3, hb⟩; have F27 := Lib.hid (And.intro (F26.out.1.trans (Below.mono (show Below w26.heap.size w26 w27 from ⟨hb.os, hb.tape, hb.output, hb.size, hb.block⟩) F26.out.1.size)) trivial); clear hb; have S27 := Lib.hid (wk_cells (kept_box G.out.1 F27.out.1) (kept_box G.out.2.1 F27.out.1) (kept_box G.out.2.2.1 F27.out.1) (kept_box G.out.2.2.2.1 F27.out.1)); have FI := Lib.hid (owned_is (r := r1 P1) (i := i1) rfl rfl rfl (by show 2 ≤ _; omega) (by show 0 ≤ _; omega) (by show 0 ≤ _; omega) m1 m2 m3); clear m1 m2 m3)
              | (go_at_call 11; (refine (eq11_v fW fW (vW P1 ga gb gc gd) (fW.parts.funV SS) w25 (G.out.2.2.2.2.1.below F25.out.1) (by have := FO.out.isFun; rw [parts_fun] at this; exact this)).mono ?_); rintro e w26 ⟨rfl, hb⟩; have F26 := Lib.hid (And.intro (F25.out.1.trans (Below.mono (show Below w25.heap.size w25 w26 from ⟨hb.os, hb.tape, hb.output, hb.size, hb.block⟩) F25.out.1.size)) trivial); clear hb; have S26 := Lib.hid (wk_cells (kept_box G.out.1 F26.out.1) (kept_box G.out.2.1 F26.out.1) (kept_box G.out.2.2.1 F26.out.1) (kept_box G.out.2.2.2.1 F26.out.1)); rw [funEq_refl])
              | (go_at_call 17; (refine (copy_v fW (vW P1 ga gb gc gd) w24 (G.out.2.2.2.2.1.below F24.out.1) small_fW).mono ?_); rintro e w25 ⟨GG, SS, rfl, hown, hb⟩; have F25 := Lib.hid (And.intro (F24.out.1.trans (Below.mono (show Below w24.heap.size w24 w25 from ⟨hb.os, hb.tape, hb.output, hb.size, hb.block⟩) F24.out.1.size)) trivial); clear hb; have S25 := Lib.hid (wk_cells (kept_box G.out.1 F25.out.1) (kept_box G.out.2.1 F25.out.1) (kept_box G.out.2.2.1 F25.out.1) (kept_box G.out.2.2.2.1 F25.out.1)); have FO := Lib.hid hown; clear hown)
              | (go_at_call 25; (refine (calls_v fW (vW P1 ga gb gc gd) w23 (G.out.2.2.2.2.1.below F23.out.1) (by decide)).mono ?_); rintro e w24 ⟨Al, cl, ll, rfl, _, hb, hll⟩; have F24 := Lib.hid (And.intro (F23.out.1.trans (Below.mono (show Below w23.heap.size w23 w24 from ⟨hb.os, hb.tape, hb.output, hb.size, hb.block⟩) F23.out.1.size)) trivial); clear hb; have S24 := Lib.hid (wk_cells (kept_box G.out.1 F24.out.1) (kept_box G.out.2.1 F24.out.1) (kept_box G.out.2.2.1 F24.out.1) (kept_box G.out.2.2.2.1 F24.out.1)); have hl1 : ll.length = 1 := (by have := congrArg List.length hll; rw [List.length_map, calls_fW] at this; exact this); rw [hl1]; clear hll hl1)
              | (go_at_call 38; (refine (count_v fW (vW P1 ga gb gc gd) w22 (G.out.2.2.2.2.1.below F22.out.1) (by rw [sum_fW]; omega)).mono ?_); rintro e w23 ⟨rfl, hb⟩; have F23 := Lib.hid (And.intro (F22.out.1.trans (Below.mono (show Below w22.heap.size w22 w23 from ⟨hb.os, hb.tape, hb.output, hb.size, hb.block⟩) F22.out.1.size)) trivial); clear hb; have S23 := Lib.hid (wk_cells (kept_box G.out.1 F23.out.1) (kept_box G.out.2.1 F23.out.1) (kept_box G.out.2.2.1 F23.out.1) (kept_box G.out.2.2.2.1 F23.out.1)); rw [sum_fW])
              | (go_at_call 36; (refine (ask36_v fW (vW P1 ga gb gc gd) ⟨#[97]⟩ w21 (G.out.2.2.2.2.1.below F21.out.1)).mono ?_); rintro e w22 ⟨rfl, hb⟩; have F22 := Lib.hid (And.intro (F21.out.1.trans (Below.mono (show Below w21.heap.size w21 w22 from ⟨hb.os, hb.tape, hb.output, hb.size, hb.block⟩) F21.out.1.size)) trivial); clear hb; have S22 := Lib.hid (wk_cells (kept_box G.out.1 F22.out.1) (kept_box G.out.2.1 F22.out.1) (kept_box G.out.2.2.1 F22.out.1) (kept_box G.out.2.2.2.1 F22.out.1)); rw [find_fW])
              | (go_at_call 34; (refine (uses_v i1 (r1 P1) W.drew (G.out.2.2.2.2.2.1.below (Below.refl W.heap.size W).drew) (by show 2 ≤ _; omega) wf_i1).mono ?_); rintro e w21 ⟨Au, cu, rfl, _, hb⟩; have F21 := Lib.hid (And.intro ((Below.refl W.heap.size W).drew.trans (Below.mono (show Below W.drew.heap.size W.drew w21 from ⟨hb.os, hb.tape, hb.output, hb.size, hb.block⟩) (Below.refl W.heap.size W).drew.size)) trivial); clear hb; have S21 := Lib.hid (wk_cells (kept_box G.out.1 F21.out.1) (kept_box G.out.2.1 F21.out.1) (kept_box G.out.2.2.1 F21.out.1) (kept_box G.out.2.2.2.1 F21.out.1)); rw [show (usesFrom [] i1.args).length = 1 from rfl]))
          exact ⟨rfl, rfl, G.out.2.2.2.2.2.2.1.trans (F29.out.1.mono G.out.2.2.2.2.2.2.1.size), kept_dfr G.out.2.2.2.2.2.2.2.1 F29.out.1, G.out.2.2.2.2.2.2.2.2⟩
        case post2 =>
          intro e a W2 hq
          cases e with
          | normal =>
            obtain ⟨hd, ht, hbw, hdd, hDD⟩ := hq
            obtain ⟨tm, df⟩ := a
            dsimp only at hd ht
            subst hd
            have HE := Lib.hid (And.intro ht (And.intro hbw (And.intro hdd hDD)))
            clear ht hbw hdd hDD
            go_wp2_with fail
            refine ⟨by simp, .inl ⟨_, _, rfl, run_takeDeferred HE.out.2.2.1, ?_⟩⟩
            exact ⟨_, results_tmp rfl _ _ _, by rw [← HE.out.1], HE.out.2.1.grown (grownBy_putObj' W2 D _) HE.out.2.1.size (fun k e => by cases e; exact HE.out.2.2.2)⟩
          | _ => exact hq.elim
    | _ => exact hq.elim
end Go.Proofs.Ytocelaebokikcaa
