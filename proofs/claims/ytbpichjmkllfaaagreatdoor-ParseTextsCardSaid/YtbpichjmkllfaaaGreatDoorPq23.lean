/- Packed texts of one proof. Conditions: none. -/
import Derived.Test.YtbpichjmkllfaaaGreatDoorPq22
import Derived.Deep.RegionHeld
import Derived.StillTail
namespace Go.Proofs.YtbpichjmkllfaaaGreatDoor.Par
open Go.ChangeShapes Go.WideShapes Go.RowKit
open Lex (Tok tcl tkv tk tc)
set_option linter.unusedVariables false
set_option maxRecDepth 20000
def ten (w : World) (b : Nat) (x0 x1 x2 x3 x4 x5 x6 x7 x8 x9 : Value) : World := (((((((((w.setCell ⟨b, 0, none⟩ x0).setCell ⟨b, 1, none⟩ x1).setCell ⟨b, 2, none⟩ x2).setCell ⟨b, 3, none⟩ x3).setCell ⟨b, 4, none⟩ x4).setCell ⟨b, 5, none⟩ x5).setCell ⟨b, 6, none⟩ x6).setCell ⟨b, 7, none⟩ x7).setCell ⟨b, 8, none⟩ x8).setCell ⟨b, 9, none⟩ x9
theorem ten_heap {w : World} {b : Nat} {x0 x1 x2 x3 x4 x5 x6 x7 x8 x9 y0 y1 y2 y3 y4 y5 y6 y7 y8 y9 : Value} {T : TypeId} (h : w.heap[b]? = some (.cells #[y0, y1, y2, y3, y4, y5, y6, y7, y8, y9] T (0, 0))) : (ten w b x0 x1 x2 x3 x4 x5 x6 x7 x8 x9).heap[b]? = some (.cells #[x0, x1, x2, x3, x4, x5, x6, x7, x8, x9] T (0, 0)) := by
 unfold ten
 simp [World.setCell, Array.getElem?_modify, h]
theorem ten_below {B : Nat} {w w1 : World} {b : Nat} {x0 x1 x2 x3 x4 x5 x6 x7 x8 x9 : Value} (h : Below B w w1) (hb : B ≤ b) : Below B w (ten w1 b x0 x1 x2 x3 x4 x5 x6 x7 x8 x9) :=
 ((((((((((h.setCell (p := ⟨b, 0, none⟩) hb _).setCell (p := ⟨b, 1, none⟩) hb _).setCell (p := ⟨b, 2, none⟩) hb _).setCell (p := ⟨b, 3, none⟩) hb _).setCell (p := ⟨b, 4, none⟩) hb _).setCell (p := ⟨b, 5, none⟩) hb _).setCell (p := ⟨b, 6, none⟩) hb _).setCell (p := ⟨b, 7, none⟩) hb _).setCell (p := ⟨b, 8, none⟩) hb _).setCell (p := ⟨b, 9, none⟩) hb _)
theorem boxT {W : World} {b : Nat} {x0 x1 x2 x3 x4 x5 x6 x7 x8 x9 : Value} {T : TypeId} (h : W.heap[b]? = some (.cells #[x0, x1, x2, x3, x4, x5, x6, x7, x8, x9] T (0, 0))) : (W.cell? ⟨b, 0, none⟩ = some x0 ∧ W.cell? ⟨b, 1, none⟩ = some x1 ∧ W.cell? ⟨b, 2, none⟩ = some x2 ∧ W.cell? ⟨b, 3, none⟩ = some x3 ∧ W.cell? ⟨b, 4, none⟩ = some x4 ∧ W.cell? ⟨b, 5, none⟩ = some x5 ∧ W.cell? ⟨b, 6, none⟩ = some x6 ∧ W.cell? ⟨b, 7, none⟩ = some x7 ∧ W.cell? ⟨b, 8, none⟩ = some x8 ∧ W.cell? ⟨b, 9, none⟩ = some x9) ∧ (W.frozen? ⟨b, 0, none⟩ = false ∧ W.frozen? ⟨b, 1, none⟩ = false ∧ W.frozen? ⟨b, 2, none⟩ = false ∧ W.frozen? ⟨b, 3, none⟩ = false ∧ W.frozen? ⟨b, 4, none⟩ = false ∧ W.frozen? ⟨b, 5, none⟩ = false ∧ W.frozen? ⟨b, 6, none⟩ = false ∧ W.frozen? ⟨b, 7, none⟩ = false ∧ W.frozen? ⟨b, 8, none⟩ = false ∧ W.frozen? ⟨b, 9, none⟩ = false) :=
 ⟨⟨cell_in h 0, cell_in h 1, cell_in h 2, cell_in h 3, cell_in h 4, cell_in h 5, cell_in h 6, cell_in h 7, cell_in h 8, cell_in h 9⟩, box_frozen h 0, box_frozen h 1, box_frozen h 2, box_frozen h 3, box_frozen h 4, box_frozen h 5, box_frozen h 6, box_frozen h 7, box_frozen h 8, box_frozen h 9⟩
def icZ : Array Value := #[.int .i64 0, .int .i64 0, .int .i64 0, .int .i64 0, .int .i64 0, .slice none 0 0, .string ⟨#[]⟩, .int .i64 0, .slice none 0 0, .slice none 0 0]
theorem sizeIns : (Tryz.prog.info? 67).map (·.size) = some 10 := by kernel_rfl
theorem fin_ins {fn : Func} {q : Tmp} (h : fn.results = #[.cell q 67]) {act : Act} {w : World} {g : Nat} {x0 x1 x2 x3 x4 x5 x6 x7 x8 x9 : Value} {R : Ending → World → Prop}
  (hp : act.tmps.getD q undef = .pointer (some ⟨g, 0, none⟩)) (hg : w.heap[g]? = some (.cells #[x0, x1, x2, x3, x4, x5, x6, x7, x8, x9] 67 (0, 0))) (hd : act.defers = [])
  (hR : R (.returned (.agg #[x0, x1, x2, x3, x4, x5, x6, x7, x8, x9])) w) : bodyPost Tryz.prog fn R .ret act w :=
 bodyPost_ret (results_cell_row h _ _ g 67 _ (0, 0) _ hp hg Tryz.underlying67 rfl sizeIns) hd hR
theorem many_le : ∀ k : Fin 28, Opr.many (k.val : Int) ≤ 1000 := by decide +kernel
section
variable {w : World} {p g n cp : Nat} {ts : List Tok} {a : Nat}
theorem lrest_v {I op : Nat} {dk dc dn dt : Int} (h1 : 1 ≤ op) (h2 : op ≤ 27) (h : R0 w p g n cp ts I a (op : Int) dk dc dn dt) : Calls Tryz.prog 146 #[.pointer (some ⟨p, 0, none⟩), .pointer (some ⟨I, 0, none⟩)] w (RestP w p g n cp ts a I op (op : Int) dk dc dn dt) := by
 by_cases h17 : op = 17
 ·subst h17; exact lrest_load h
 by_cases h18 : op = 18
 ·subst h18; exact lrest_store h
 by_cases h19 : op = 19
 ·subst h19; exact lrest_call h
 by_cases h20 : op = 20
 ·subst h20; exact lrest_br h
 by_cases h21 : op = 21
 ·subst h21; exact lrest_brif h
 by_cases h22 : op = 22
 ·subst h22; exact lrest_switch h
 exact lrest_else rfl rfl (many_le ⟨op, by omega⟩) h17 h18 h19 h20 h21 h22 h
def instrK (op : Nat) (d : Opn) (l : List Tok) : Res Ins := (rest op l).bind fun x r => (must [59] r).bind fun _ r => .ok ⟨(op : Int), d, x.args, x.name, x.off, x.labels, x.cases⟩ r
structure InsX (w W : World) (p g n cp : Nat) (ts : List Tok) (a a2 op : Nat) (d : Opn) : Prop where
 op1 : 1 ≤ op
 op2 : op ≤ 27
 step : Step w.heap.size p w W
 lo1 : w.heap.size ≤ w.heap.size + 1
 r0 : R0 W p g n cp ts (w.heap.size + 1) a2 (op : Int) d.k d.c d.n d.t
 z : W.heap[w.heap.size]? = some (.cells icZ 67 (0, 0))
 plt : p < w.heap.size
 eq : instr (ts.drop a) = instrK op d (ts.drop a2)
theorem InsX.z5 {w W W' : World} {a2 op : Nat} {d : Opn} (h : InsX w W p g n cp ts a a2 op d) (hs : Step2 W.heap.size p (w.heap.size + 1) W W') : W'.heap[w.heap.size]? = some (.cells icZ 67 (0, 0)) := by
 rw [hs.2.2.2.2 _ (Array.getElem?_eq_some_iff.1 h.z).1 (by have := h.plt; omega) (by omega)]
 exact h.z
theorem find_le (s : List UInt8) : findOp s ≤ 27 := by
 unfold findOp
 cases h : Opr.tab.findIdx? (fun r => decide (r.nm.data.toList = s)) with
 | none => exact Nat.zero_le _
 | some k =>
  obtain ⟨hk, _⟩ := List.findIdx?_eq_some_iff_getElem.1 h
  rw [tab_len] at hk
  exact hk
theorem heldIns {N : Nat} {W : World} {op off : Int} {d : Opn} {nm : ByteArray} {al : List Opn} {ls : List ByteArray} {cs : List Int} {A L C : Option Addr} {ac lc cc : Nat} {x0 x1 x2 x3 x4 x5 x6 x7 x8 x9 : Value} (h1 : OwnL 64 4 Opn.cs N W A ac al) (h2 : OwnL 9 1 strC N W L lc ls) (h3 : OwnL 3 1 intC N W C cc cs) (hz : W.heap[N]? = some (.cells icZ 67 (0, 0))) :
  Held (fun k => N ≤ k) (ten W N x0 x1 x2 x3 x4 x5 x6 x7 x8 x9) fun W => IsIns W ⟨op, d, al, nm, off, ls, cs⟩ ⟨A, al.length, ac, L, ls.length, lc, C, cs.length, cc⟩ := by
 have hK : ∀ {α : Type} {T : TypeId} {sz : Nat} {f : α → List Value} {A : Option Addr} {c : Nat} {l : List α}, T ≠ 67 → OwnL T sz f N W A c l → OwnL T sz f N (ten W N x0 x1 x2 x3 x4 x5 x6 x7 x8 x9) A c l := by
  intro α T sz f A c l hT h
  refine h.held _ ⟨by unfold ten; simp [World.setCell], fun k _ e => ?_⟩
  obtain ⟨cur, hc⟩ := own_type h e
  have hne : k ≠ N := by
   rintro rfl
   rw [hz] at hc
   injection hc with hc
   injection hc with _ hc
   exact hT hc.symm
  unfold ten
  simp only [World.setCell]
  repeat rw [Array.getElem?_modify, if_neg (Ne.symm hne)]
 have k1 := OwnL.heldN (hK (by decide) h1)
 have k2 := OwnL.heldN (hK (by decide) h2)
 have k3 := OwnL.heldN (hK (by decide) h3)
 intro W' hW
 exact ⟨(k1 W' hW).ops, (k2 W' hW).strs, (k3 W' hW).ints⟩
def InsA (N : Nat) (w' : World) (x : Ins) (val : Value) : Prop := ∃ r, val = .agg (insR x r) ∧ Held (fun k => N ≤ k) w' fun W => IsIns W x r
theorem instr_w {t : Tok} (ht : ts[a]? = some t) (hk : t.kind = 1) : instr (ts.drop a) = (firstM (ts.drop a)).bind fun x l => instrK x.toNat ⟨0, 0, 0, 0⟩ l := by
 unfold instr firstM
 rw [kind_at ht, hk, text_at ht]
 rw [if_neg (by decide)]
 by_cases h0 : findOp t.text = 0
 ·rw [if_pos ⟨rfl, h0⟩, if_pos h0]
  rfl
 ·rw [if_neg (fun h => h0 h.2), if_neg h0]
  unfold instr2
  rw [kind_at ht, text_at ht, if_pos ⟨hk, h0⟩]
  rfl
set_option maxHeartbeats 2000000 in
theorem linstr_1 {t : Tok} (ht : ts[a]? = some t) (hk : t.kind = 1) (h : Lr w p g n cp ts a) : Calls Tryz.prog 122 #[.pointer (some ⟨p, 0, none⟩)] w (LP w p g n cp ts a instr fun w' x val => InsA w.heap.size w' x val) := by
 have F0 := field0
 have hk0 : (t.kind : Int) = 1 := by omega
 obtain ⟨w0, hw0⟩ : ∃ w0, w.alloc (.cells #[.int .i64 0, .int .i64 0, .int .i64 0, .int .i64 0, .int .i64 0, .slice none 0 0, .string ⟨#[]⟩, .int .i64 0, .slice none 0 0, .slice none 0 0] 67) = w0 := ⟨_, rfl⟩
 have nb := new_box w _ 67 hw0
 have hsz : w0.heap.size = w.heap.size + 1 := by rw [← hw0]; simp
 obtain ⟨w1, hw1⟩ : ∃ w1, w0.alloc (.cells #[.int .i64 0, .int .i64 0, .int .i64 0, .int .i64 0, .int .i64 0, .slice none 0 0, .string ⟨#[]⟩, .int .i64 0, .slice none 0 0, .slice none 0 0] 67) = w1 := ⟨_, rfl⟩
 have nb1 := new_box w0 _ 67 hw1
 rw [hsz] at nb1
 have B1 : Below w.heap.size w w1 := nb.1.trans (nb1.1.mono (by omega))
 have z1 := kept_box nb.2 (hsz ▸ nb1.1)
 have HA := Hh (Ai h (Ai ht (Ai hk (Ai B1 (Ai z1 nb1.2)))))
 clear ht hk h nb nb1 B1 z1
 go_enter Tryz.func122, Tryz.ntmps122
 go_wp2_with fail
 try rw [hw0]
 try rw [hw1]
 refine (ltok_v HA.out.2.1 (HA.out.1.below HA.out.2.2.2.1)).mono ?_
 rintro e w2 ⟨rfl, hb⟩
 have B2 := HA.out.2.2.2.1.trans (hb.mono HA.out.2.2.2.1.size)
 have HB := Hh (Ai B2 (Ai (HA.out.1.below B2) (Ai (kept_box HA.out.2.2.2.2.1 hb) (kept_box HA.out.2.2.2.2.2 hb))))
 clear hb B2
 unfold tkv
 rw [hk0]
 go_wp2_with fail
 refine (lfirst_v HA.out.2.1 HA.out.2.2.1 HB.out.2.1).mono ?_
 rintro e w3 ⟨hs, ⟨O, a2, val, hm, rfl, rfl, hl⟩ | ⟨c0, q, hc, hm, rfl⟩⟩
 ·have hO : ∃ op : Nat, O = op ∧ 1 ≤ op ∧ op ≤ 27 := by
   unfold firstM at hm
   split at hm
   ·cases hm
   ·rename_i h0
    injection hm with h1 h2
    exact ⟨_, h1.symm, by omega, find_le _⟩
  obtain ⟨op, hOo, ho1, ho2⟩ := hO
  subst hOo
  have hp := HA.out.1.plt
  have hlo0 := (Array.getElem?_eq_some_iff.1 HB.out.2.2.1).1
  have hlo1 := (Array.getElem?_eq_some_iff.1 HB.out.2.2.2).1
  have z3 : w3.heap[w.heap.size]? = some (.cells icZ 67 (0, 0)) := by rw [hs.2.2.2.2 _ hlo0 (by omega)]; exact HB.out.2.2.1
  have i3 : w3.heap[w.heap.size + 1]? = some (.cells icZ 67 (0, 0)) := by rw [hs.2.2.2.2 _ hlo1 (by omega)]; exact HB.out.2.2.2
  have s3 := (Step.of (p := p) HB.out.1).trans (hs.mono HB.out.1.size)
  obtain ⟨w4, hw4⟩ : ∃ w4, w3.setCell ⟨w.heap.size + 1, 0, none⟩ (.int .i64 (op : Int)) = w4 := ⟨_, rfl⟩
  have i4 : w4.heap[w.heap.size + 1]? = some (.cells (ic (op : Int) 0 0 0 0 none 0 0 ⟨#[]⟩ 0 none 0 0 none 0 0) 67 (0, 0)) := by
   rw [← hw4]
   unfold ic
   unfold icZ at i3
   simp [World.setCell, Array.getElem?_modify, i3]
  have b4 : Below (w.heap.size + 1) w3 w4 := by rw [← hw4]; exact (Below.refl _ w3).setCell (p := ⟨w.heap.size + 1, 0, none⟩) (Nat.le_refl _) _
  have s4 : Step w.heap.size p w w4 := s3.trans (Step.of (b4.mono (Nat.le_succ _)))
  have hg := HA.out.1.glt
  have hbig := HA.out.1.big
  have l4 : Lr w4 p g n cp ts a2 := hl.far b4 (by omega) (by omega)
  have hX : InsX w w4 p g n cp ts a a2 op ⟨0, 0, 0, 0⟩ := ⟨ho1, ho2, s4, Nat.le_succ _, ⟨Step2.refl _ _ _ _, l4, (Array.getElem?_eq_some_iff.1 i4).1, by omega, by omega, by omega, l4.plt, i4⟩, by rw [b4.block _ (Nat.lt_succ_self _)]; exact z3, hp, by rw [instr_w HA.out.2.1 HA.out.2.2.1, hm]; rfl⟩
  have HX := Hh hX
  unfold icZ at i3
  obtain ⟨⟨c0, _⟩, f0, _⟩ := boxT i3
  clear hs hm hl ho1 ho2 hp hlo0 hlo1 z3 i3 s3 i4 b4 s4 hg hbig l4 hX
  go_wp2_with fail
  try rw [hw4]
  clear hw4
  refine (lrest_v HX.out.op1 HX.out.op2 HX.out.r0).mono ?_
  rintro e w5 (⟨x, a3, A, ac, L, lc, C, cc, hm, rfl, hR, hA, hL, hC⟩ | ⟨c0, q, hc, hm, hs, rfl⟩)
  ·have HB := Hh (Ai (Step2.one HX.out.step hR.step HX.out.step.size HX.out.lo1) (Ai hm (Ai hR (Ai (hA.less HX.out.step.size) (Ai (hL.less HX.out.step.size) (hC.less HX.out.step.size))))))
   have hz5 := HX.out.z5 hR.step
   have HZ := Hh hz5
   clear hm hR hA hL hC hz5
   go_wp2_with fail
   refine (lmust_v ⟨#[59]⟩ HB.out.2.2.1.rd).mono ?_
   rintro e w6 ⟨hs, ⟨_, a4, val, hm, rfl, rfl, hl⟩ | ⟨c0, q, hc, hm, rfl⟩⟩
   ·have R6 := HB.out.2.2.1.call hs hl
    have z6 : w6.heap[w.heap.size]? = some (.cells icZ 67 (0, 0)) := by
     rw [hs.2.2.2.2 _ (Array.getElem?_eq_some_iff.1 HZ.out).1 (by have := HA.out.1.plt; omega)]; exact HZ.out
    have HC := Hh (Ai (HB.out.1.trans (hs.mono HB.out.1.size)) (Ai hm (Ai hl (Ai z6 (Ai (own_step HB.out.2.2.2.1 hs HA.out.1.plt) (Ai (own_step HB.out.2.2.2.2.1 hs HA.out.1.plt) (own_step HB.out.2.2.2.2.2 hs HA.out.1.plt)))))))
    obtain ⟨⟨u0, u1, u2, u3, u4, u5, u6, u7, u8, u9⟩, _⟩ := boxT R6.ib
    obtain ⟨⟨v0, v1, v2, v3, v4, v5, v6, v7, v8, v9⟩, y0, y1, y2, y3, y4, y5, y6, y7, y8, y9⟩ := boxT z6
    clear hs hm hl R6 z6
    go_wp2_with fail
    refine fin_ins (fn := Tryz.f122) rfl rfl (ten_heap HC.out.2.2.2.1) rfl ?_
    have hg : ∀ x0 x1 x2 x3 x4 x5 x6 x7 x8 x9, Below w.heap.size w6 (ten w6 w.heap.size x0 x1 x2 x3 x4 x5 x6 x7 x8 x9) := fun _ _ _ _ _ _ _ _ _ _ => ten_below (Below.refl _ w6) (Nat.le_refl _)
    refine ⟨HC.out.1.trans (Step.of (hg _ _ _ _ _ _ _ _ _ _)), Or.inl ⟨⟨(op : Int), ⟨0, 0, 0, 0⟩, x.args, x.name, x.off, x.labels, x.cases⟩, a4, _, ?_, rfl, ⟨⟨A, x.args.length, ac, L, x.labels.length, lc, C, x.cases.length, cc⟩, rfl, ?_⟩, HC.out.2.2.1.far (hg _ _ _ _ _ _ _ _ _ _) HA.out.1.plt HA.out.1.glt⟩⟩
    ·rw [HX.out.eq]
     unfold instrK
     rw [HB.out.2.1]
     show (must [59] (ts.drop a3)).bind _ = _
     rw [show must [59] (ts.drop a3) = _ from HC.out.2.1]
     rfl
    ·exact heldIns HC.out.2.2.2.2.1 HC.out.2.2.2.2.2.1 HC.out.2.2.2.2.2.2 HC.out.2.2.2.1
   ·go_wp2_with fail
    refine ⟨rfl, HB.out.1.trans (hs.mono HB.out.1.size), Or.inr ⟨c0, q, hc, ?_, rfl⟩⟩
    rw [HX.out.eq]
    unfold instrK
    rw [HB.out.2.1]
    show (must [59] (ts.drop a3)).bind _ = _
    rw [show must [59] (ts.drop a3) = _ from hm]
    rfl
  ·go_wp2_with fail
   refine ⟨rfl, Step2.one HX.out.step hs HX.out.step.size HX.out.lo1, Or.inr ⟨c0, q, hc, ?_, rfl⟩⟩
   rw [HX.out.eq]
   unfold instrK
   rw [hm]
   rfl
 ·go_wp2_with fail
  refine ⟨rfl, (Step.of HB.out.1).trans (hs.mono HB.out.1.size), Or.inr ⟨c0, q, hc, ?_, rfl⟩⟩
  rw [instr_w HA.out.2.1 HA.out.2.2.1, hm]
  rfl
theorem instr_o {t : Tok} (ht : ts[a]? = some t) (hk : t.kind ≠ 1) : instr (ts.drop a) = (regO (ts.drop a)).bind fun d l => (must [61] l).bind fun _ l => (knownM findF l).bind fun x l => instrK x.toNat d l := by
 have h2 : ∀ d l, instr2 d l = (knownM findF l).bind fun x l => instrK x.toNat d l := by
  intro d l
  unfold instr2 knownM findF
  by_cases h : kindOf l = 1 ∧ findOp (textOf l) ≠ 0
  ·rw [if_pos h, if_pos ⟨h.1, by simpa using h.2⟩]
   rfl
  ·rw [if_neg h, if_neg (fun k => h ⟨k.1, by simpa using k.2⟩)]
   rfl
 unfold instr
 by_cases h456 : t.kind = 4 ∨ t.kind = 5 ∨ t.kind = 6
 ·rw [if_pos (by rw [kind_at ht]; exact h456)]
  have e : operand (ts.drop a) = regO (ts.drop a) := by
   unfold operand regO
   rw [kind_at ht]
   rcases h456 with hk | hk | hk <;> rw [hk] <;> rfl
  rw [e]
  simp only [h2]
 ·rw [if_neg (by rw [kind_at ht]; exact h456), if_neg (by rw [kind_at ht]; exact fun k => hk k.1)]
  unfold instr2 regO
  rw [kind_at ht, if_neg (fun k => hk k.1), if_neg (fun k => h456 (.inl k)), if_neg (fun k => h456 (.inr (.inl k))), if_neg (fun k => h456 (.inr (.inr k)))]
  rfl
set_option maxHeartbeats 2000000 in
theorem linstr_o {t : Tok} (ht : ts[a]? = some t) (hk : t.kind ≠ 1) (h : Lr w p g n cp ts a) : Calls Tryz.prog 122 #[.pointer (some ⟨p, 0, none⟩)] w (LP w p g n cp ts a instr fun w' x val => InsA w.heap.size w' x val) := by
 have F0 := field0
 have hk0 : ((t.kind : Int) == 1) = false := by rw [Bqf]; omega
 obtain ⟨w0, hw0⟩ : ∃ w0, w.alloc (.cells #[.int .i64 0, .int .i64 0, .int .i64 0, .int .i64 0, .int .i64 0, .slice none 0 0, .string ⟨#[]⟩, .int .i64 0, .slice none 0 0, .slice none 0 0] 67) = w0 := ⟨_, rfl⟩
 have nb := new_box w _ 67 hw0
 have hsz : w0.heap.size = w.heap.size + 1 := by rw [← hw0]; simp
 obtain ⟨w1, hw1⟩ : ∃ w1, w0.alloc (.cells #[.int .i64 0, .int .i64 0, .int .i64 0, .int .i64 0, .int .i64 0, .slice none 0 0, .string ⟨#[]⟩, .int .i64 0, .slice none 0 0, .slice none 0 0] 67) = w1 := ⟨_, rfl⟩
 have nb1 := new_box w0 _ 67 hw1
 rw [hsz] at nb1
 have B1 : Below w.heap.size w w1 := nb.1.trans (nb1.1.mono (by omega))
 have z1 := kept_box nb.2 (hsz ▸ nb1.1)
 have HA := Hh (Ai h (Ai ht (Ai hk (Ai B1 (Ai z1 nb1.2)))))
 clear ht hk h nb nb1 B1 z1
 go_enter Tryz.func122, Tryz.ntmps122
 go_wp2_with fail
 try rw [hw0]
 try rw [hw1]
 refine (ltok_v HA.out.2.1 (HA.out.1.below HA.out.2.2.2.1)).mono ?_
 rintro e w2 ⟨rfl, hb⟩
 have B2 := HA.out.2.2.2.1.trans (hb.mono HA.out.2.2.2.1.size)
 have HB := Hh (Ai B2 (Ai (HA.out.1.below B2) (Ai (kept_box HA.out.2.2.2.2.1 hb) (kept_box HA.out.2.2.2.2.2 hb))))
 clear hb B2
 unfold tkv
 go_wp2_with fail
 refine (lreg_v HB.out.2.1).mono ?_
 rintro e w3 ⟨hs, ⟨d, a1, val, hm, rfl, rfl, hl⟩ | ⟨c0, q, hc, hm, rfl⟩⟩
 rotate_left
 ·go_wp2_with fail
  refine ⟨rfl, (Step.of HB.out.1).trans (hs.mono HB.out.1.size), Or.inr ⟨c0, q, hc, ?_, rfl⟩⟩
  rw [instr_o HA.out.2.1 HA.out.2.2.1, hm]
  rfl
 have hp := HA.out.1.plt
 have hg := HA.out.1.glt
 have hbig := HA.out.1.big
 have hlo0 := (Array.getElem?_eq_some_iff.1 HB.out.2.2.1).1
 have hlo1 := (Array.getElem?_eq_some_iff.1 HB.out.2.2.2).1
 have z3 : w3.heap[w.heap.size]? = some (.cells icZ 67 (0, 0)) := by rw [hs.2.2.2.2 _ hlo0 (by omega)]; exact HB.out.2.2.1
 have i3 : w3.heap[w.heap.size + 1]? = some (.cells icZ 67 (0, 0)) := by rw [hs.2.2.2.2 _ hlo1 (by omega)]; exact HB.out.2.2.2
 have s3 := (Step.of (p := p) HB.out.1).trans (hs.mono HB.out.1.size)
 obtain ⟨w4, hw4⟩ : ∃ w4, (((w3.setCell ⟨w.heap.size + 1, 1, none⟩ (.int .i64 d.k)).setCell ⟨w.heap.size + 1, 2, none⟩ (.int .i64 d.c)).setCell ⟨w.heap.size + 1, 3, none⟩ (.int .i64 d.n)).setCell ⟨w.heap.size + 1, 4, none⟩ (.int .i64 d.t) = w4 := ⟨_, rfl⟩
 have i4 : w4.heap[w.heap.size + 1]? = some (.cells (ic 0 d.k d.c d.n d.t none 0 0 ⟨#[]⟩ 0 none 0 0 none 0 0) 67 (0, 0)) := by
  rw [← hw4]
  unfold ic
  unfold icZ at i3
  simp [World.setCell, Array.getElem?_modify, i3]
 have b4 : Below (w.heap.size + 1) w3 w4 := by rw [← hw4]; exact ((((Below.refl _ w3).setCell (p := ⟨w.heap.size + 1, 1, none⟩) (Nat.le_refl _) _).setCell (p := ⟨w.heap.size + 1, 2, none⟩) (Nat.le_refl _) _).setCell (p := ⟨w.heap.size + 1, 3, none⟩) (Nat.le_refl _) _).setCell (p := ⟨w.heap.size + 1, 4, none⟩) (Nat.le_refl _) _
 have s4 : Step w.heap.size p w w4 := s3.trans (Step.of (b4.mono (Nat.le_succ _)))
 have l4 : Lr w4 p g n cp ts a1 := hl.far b4 (by omega) (by omega)
 have z4 : w4.heap[w.heap.size]? = some (.cells icZ 67 (0, 0)) := by rw [b4.block _ (Nat.lt_succ_self _)]; exact z3
 have HC := Hh (Ai s4 (Ai l4 (Ai z4 (Ai i4 hm))))
 unfold icZ at i3
 obtain ⟨⟨_, c1, c2, c3, c4, _⟩, _, f1, f2, f3, f4, _⟩ := boxT i3
 clear hs hm hl hp hlo0 hlo1 z3 i3 s3 i4 b4 s4 hg hbig l4 z4
 unfold opV
 go_wp2_with fail
 try rw [hw4]
 clear hw4 c1 c2 c3 c4 f1 f2 f3 f4
 refine (lmust_v ⟨#[61]⟩ HC.out.2.1).mono ?_
 rintro e w5 ⟨hs, ⟨_, a3, val, hm, rfl, rfl, hl⟩ | ⟨c0, q, hc, hm, rfl⟩⟩
 rotate_left
 ·go_wp2_with fail
  refine ⟨rfl, HC.out.1.trans (hs.mono HC.out.1.size), Or.inr ⟨c0, q, hc, ?_, rfl⟩⟩
  rw [instr_o HA.out.2.1 HA.out.2.2.1, HC.out.2.2.2.2]
  show (must [61] (ts.drop a1)).bind _ = _
  rw [show must [61] (ts.drop a1) = _ from hm]
  rfl
 have HD := Hh (Ai hs (Ai hm hl))
 clear hs hm hl
 go_wp2_with fail
 refine (kop_v HD.out.2.2).mono ?_
 rintro e w6 ⟨hs, ⟨O, a2, val, hm, rfl, rfl, hl⟩ | ⟨c0, q, hc, hm, rfl⟩⟩
 rotate_left
 ·go_wp2_with fail
  refine ⟨rfl, (HC.out.1.trans (HD.out.1.mono HC.out.1.size)).trans (hs.mono (Nat.le_trans HC.out.1.size HD.out.1.size)), Or.inr ⟨c0, q, hc, ?_, rfl⟩⟩
  rw [instr_o HA.out.2.1 HA.out.2.2.1, HC.out.2.2.2.2]
  show (must [61] (ts.drop a1)).bind _ = _
  rw [show must [61] (ts.drop a1) = _ from HD.out.2.1]
  show (knownM findF (ts.drop a3)).bind _ = _
  rw [hm]
  rfl
 have hO : ∃ op : Nat, O = op ∧ 1 ≤ op ∧ op ≤ 27 := by
  unfold knownM at hm
  split at hm
  ·rename_i h0
   injection hm with h1 h2
   have h3 : findOp (textOf (ts.drop a3)) ≠ 0 := by have := h0.2; unfold findF at this; simpa using this
   exact ⟨_, h1.symm, by omega, find_le _⟩
  ·cases hm
 obtain ⟨op, hOo, ho1, ho2⟩ := hO
 subst hOo
 have heq : instr (ts.drop a) = instrK op d (ts.drop a2) := by
  rw [instr_o HA.out.2.1 HA.out.2.2.1, HC.out.2.2.2.2]
  show (must [61] (ts.drop a1)).bind _ = _
  rw [show must [61] (ts.drop a1) = _ from HD.out.2.1]
  show (knownM findF (ts.drop a3)).bind _ = _
  rw [hm]
  rfl
 have hp := HA.out.1.plt
 have hg := HA.out.1.glt
 have hbig := HA.out.1.big
 have h5 := HD.out.1.size
 have hlo0 := (Array.getElem?_eq_some_iff.1 HC.out.2.2.1).1
 have hlo1 := (Array.getElem?_eq_some_iff.1 HC.out.2.2.2.1).1
 have z6 : w6.heap[w.heap.size]? = some (.cells icZ 67 (0, 0)) := by rw [hs.2.2.2.2 _ (by omega) (by omega), HD.out.1.2.2.2.2 _ hlo0 (by omega)]; exact HC.out.2.2.1
 have i6 : w6.heap[w.heap.size + 1]? = some (.cells (ic 0 d.k d.c d.n d.t none 0 0 ⟨#[]⟩ 0 none 0 0 none 0 0) 67 (0, 0)) := by rw [hs.2.2.2.2 _ (by omega) (by omega), HD.out.1.2.2.2.2 _ hlo1 (by omega)]; exact HC.out.2.2.2.1
 have s6 := (HC.out.1.trans (HD.out.1.mono HC.out.1.size)).trans (hs.mono (Nat.le_trans HC.out.1.size HD.out.1.size))
 obtain ⟨w7, hw7⟩ : ∃ w7, w6.setCell ⟨w.heap.size + 1, 0, none⟩ (.int .i64 (op : Int)) = w7 := ⟨_, rfl⟩
 have i7 : w7.heap[w.heap.size + 1]? = some (.cells (ic (op : Int) d.k d.c d.n d.t none 0 0 ⟨#[]⟩ 0 none 0 0 none 0 0) 67 (0, 0)) := by
  rw [← hw7]
  unfold ic at i6 ⊢
  simp [World.setCell, Array.getElem?_modify, i6]
 have b7 : Below (w.heap.size + 1) w6 w7 := by rw [← hw7]; exact (Below.refl _ w6).setCell (p := ⟨w.heap.size + 1, 0, none⟩) (Nat.le_refl _) _
 have s7 : Step w.heap.size p w w7 := s6.trans (Step.of (b7.mono (Nat.le_succ _)))
 have l7 : Lr w7 p g n cp ts a2 := hl.far b7 (by omega) (by omega)
 have hX : InsX w w7 p g n cp ts a a2 op d := ⟨ho1, ho2, s7, Nat.le_succ _, ⟨Step2.refl _ _ _ _, l7, (Array.getElem?_eq_some_iff.1 i7).1, by omega, by omega, by omega, l7.plt, i7⟩, by rw [b7.block _ (Nat.lt_succ_self _)]; exact z6, hp, heq⟩
 have HX := Hh hX
 unfold ic at i6
 obtain ⟨⟨c0, _⟩, f0, _⟩ := boxT i6
 clear hs hm hl ho1 ho2 hp hlo0 hlo1 z6 i6 s6 i7 b7 s7 hg hbig l7 hX heq h5
 go_wp2_with fail
 try rw [hw7]
 clear hw7
 refine (lrest_v HX.out.op1 HX.out.op2 HX.out.r0).mono ?_
 rintro e w5 (⟨x, a3, A, ac, L, lc, C, cc, hm, rfl, hR, hA, hL, hC⟩ | ⟨c0, q, hc, hm, hs, rfl⟩)
 ·have HB := Hh (Ai (Step2.one HX.out.step hR.step HX.out.step.size HX.out.lo1) (Ai hm (Ai hR (Ai (hA.less HX.out.step.size) (Ai (hL.less HX.out.step.size) (hC.less HX.out.step.size))))))
  have hz5 := HX.out.z5 hR.step
  have HZ := Hh hz5
  clear hm hR hA hL hC hz5
  go_wp2_with fail
  refine (lmust_v ⟨#[59]⟩ HB.out.2.2.1.rd).mono ?_
  rintro e w6 ⟨hs, ⟨_, a4, val, hm, rfl, rfl, hl⟩ | ⟨c0, q, hc, hm, rfl⟩⟩
  ·have R6 := HB.out.2.2.1.call hs hl
   have z6 : w6.heap[w.heap.size]? = some (.cells icZ 67 (0, 0)) := by
    rw [hs.2.2.2.2 _ (Array.getElem?_eq_some_iff.1 HZ.out).1 (by have := HA.out.1.plt; omega)]; exact HZ.out
   have HC := Hh (Ai (HB.out.1.trans (hs.mono HB.out.1.size)) (Ai hm (Ai hl (Ai z6 (Ai (own_step HB.out.2.2.2.1 hs HA.out.1.plt) (Ai (own_step HB.out.2.2.2.2.1 hs HA.out.1.plt) (own_step HB.out.2.2.2.2.2 hs HA.out.1.plt)))))))
   obtain ⟨⟨u0, u1, u2, u3, u4, u5, u6, u7, u8, u9⟩, _⟩ := boxT R6.ib
   obtain ⟨⟨v0, v1, v2, v3, v4, v5, v6, v7, v8, v9⟩, y0, y1, y2, y3, y4, y5, y6, y7, y8, y9⟩ := boxT z6
   clear hs hm hl R6 z6
   go_wp2_with fail
   refine fin_ins (fn := Tryz.f122) rfl rfl (ten_heap HC.out.2.2.2.1) rfl ?_
   have hg : ∀ x0 x1 x2 x3 x4 x5 x6 x7 x8 x9, Below w.heap.size w6 (ten w6 w.heap.size x0 x1 x2 x3 x4 x5 x6 x7 x8 x9) := fun _ _ _ _ _ _ _ _ _ _ => ten_below (Below.refl _ w6) (Nat.le_refl _)
   refine ⟨HC.out.1.trans (Step.of (hg _ _ _ _ _ _ _ _ _ _)), Or.inl ⟨⟨(op : Int), d, x.args, x.name, x.off, x.labels, x.cases⟩, a4, _, ?_, rfl, ⟨⟨A, x.args.length, ac, L, x.labels.length, lc, C, x.cases.length, cc⟩, rfl, ?_⟩, HC.out.2.2.1.far (hg _ _ _ _ _ _ _ _ _ _) HA.out.1.plt HA.out.1.glt⟩⟩
   ·rw [HX.out.eq]
    unfold instrK
    rw [HB.out.2.1]
    show (must [59] (ts.drop a3)).bind _ = _
    rw [show must [59] (ts.drop a3) = _ from HC.out.2.1]
    rfl
   ·exact heldIns HC.out.2.2.2.2.1 HC.out.2.2.2.2.2.1 HC.out.2.2.2.2.2.2 HC.out.2.2.2.1
  ·go_wp2_with fail
   refine ⟨rfl, HB.out.1.trans (hs.mono HB.out.1.size), Or.inr ⟨c0, q, hc, ?_, rfl⟩⟩
   rw [HX.out.eq]
   unfold instrK
   rw [HB.out.2.1]
   show (must [59] (ts.drop a3)).bind _ = _
   rw [show must [59] (ts.drop a3) = _ from hm]
   rfl
 ·go_wp2_with fail
  refine ⟨rfl, Step2.one HX.out.step hs HX.out.step.size HX.out.lo1, Or.inr ⟨c0, q, hc, ?_, rfl⟩⟩
  rw [HX.out.eq]
  unfold instrK
  rw [hm]
  rfl
theorem linstr_v (h : Lr w p g n cp ts a) : Calls Tryz.prog 122 #[.pointer (some ⟨p, 0, none⟩)] w (LP w p g n cp ts a instr fun w' x val => InsA w.heap.size w' x val) := by
 obtain ⟨t, ht, _⟩ := h.tok
 by_cases hk : t.kind = 1
 ·exact linstr_1 ht hk h
 ·exact linstr_o ht hk h
end
end Go.Proofs.YtbpichjmkllfaaaGreatDoor.Par
namespace Go.Proofs.YtbpichjmkllfaaaGreatDoor.Par
set_option linter.unusedVariables false
section
variable {P : Program} {ops : Array Oper} {Q : Exit → Act → World → Prop} {md : Region.Mode} {S : World → Prop} {z : Nat}
def AnyZ (P : Program) (md : Region.Mode) (ops : Array Oper) (Q : Exit → Act → World → Prop) (S : World → Prop) (z : Nat) : Nat → Array Bool → Act → World → Prop
 | 0, l, a, w => Region.ready md ops l = [] ∧ Q .normal a w
 | f + 1, l, a, w => (Region.ready md ops l = [] → Q .normal a w) ∧ ∀ i ∈ Region.ready md ops l, wpOp P ops Q i (fun a' w' => (i ≠ z → S w') ∧ AnyZ P md ops Q S z f (l.setIfInBounds i true) a' w') a w
theorem anyZ_any : ∀ (f : Nat) (l : Array Bool) (a : Act) (w : World), AnyZ P md ops Q S z f l a w → wpAny P md ops Q f l a w
 | 0, _, _, _, h => h
 | f + 1, _, _, _, h => ⟨h.1, fun i hi => wpOp_mono (fun a' w' h' => anyZ_any f _ a' w' h'.2) (h.2 i hi)⟩
theorem anyZ_first {i : Nat} {oi : Oper} {v : Value} (hi : ops[i]? = some oi) (hsel : ∀ (j : Nat) (o : Oper) cs b, ops[j]? = some o → o.op ≠ .select cs b)
  (hQ : ∀ c a w, Q (.panic c) (a.put oi.dst v) w → Q (.panic c) a w) (hz : Region.waitsFor md ops z i = true) (f : Nat) :
  ∀ (l : Array Bool) (a : Act) (w : World), (∀ j oj, ops[j]? = some oj → j ≠ i → l.getD j true = false → (∀ e ∈ oj.after, Region.binds md e = true → e.on ≠ i) → oi.apart ops oj = true) →
   i ∈ Region.ready md ops l → YieldsIf P ops S oi v a → S w → AnyZ P md ops Q S z f (l.setIfInBounds i true) (a.put oi.dst v) w → AnyZ P md ops Q S z (f + 1) l a w := by
 induction f with
 | zero =>
  intro l a w _ hr hy hS H
  refine ⟨fun h => (by rw [h] at hr; cases hr), fun j hj => ?_⟩
  by_cases e : j = i
  ·rw [e]
   exact hy.wpOp hi hS ⟨fun _ => hS, H⟩
  ·have := ready_mono hj e
   rw [H.1] at this
   cases this
 | succ f ih =>
  intro l a w hf hr hy hS H
  refine ⟨fun h => (by rw [h] at hr; cases hr), fun j hj => ?_⟩
  by_cases e : j = i
  ·rw [e]
   exact hy.wpOp hi hS ⟨fun _ => hS, H⟩
  ·obtain ⟨hun, oj, hoj, hall⟩ := mem_ready.1 hj
   have hno : ∀ e ∈ oj.after, Region.binds md e = true → e.on ≠ i := by
    intro e he hb hon
    have h1 := hall e he hb
    have h0 := (mem_ready.1 hr).1
    rw [hon] at h1
    by_cases hl : i < l.size
    ·simp [hl] at h0 h1
     rw [h0] at h1
     cases h1
    ·simp [Array.getElem?_eq_none (Nat.le_of_not_lt hl)] at h1
   have hjz : j ≠ z := by
    rintro rfl
    obtain ⟨oz, hoz, e, he, hb, hon⟩ := Region.waitsFor_spec hz
    rw [hoj] at hoz
    injection hoz with hoz
    rw [← hoz] at he
    exact hno e he hb hon
   refine wpOp_mono (fun a' w' h => ⟨fun _ => h.2.1 hjz, ih _ a' w' (fun k ok hk hki hu hn => hf k ok hk hki ?_ hn) (ready_mono hr (Ne.symm e)) h.1 (h.2.1 hjz) ?_⟩)
    (wpOp_putIf hoj (hf j oj hoj e hun hno) (fun cs b => hsel i oi cs b hi) (fun cs b => hsel j oj cs b hoj) hQ hy (H.2 j (ready_mono hj e)))
   ·by_cases hjk : j = k
    ·rw [← hjk]; exact hun
    ·rwa [getD_set_ne true hjk] at hu
   ·rw [Array.setIfInBounds_comm _ _ e]
    exact h.2.2
theorem anyZ_take {i : Nat} {oi : Oper} {v : Value} {f : Nat} {l : Array Bool} {a : Act} {w : World} (hi : ops[i]? = some oi)
  (hb : (Region.noSelect ops && (Region.free md ops l i && ((Region.ready md ops l).contains i && Region.waitsFor md ops z i))) = true)
  (hQ : ∀ c a w, Q (.panic c) (a.put oi.dst v) w → Q (.panic c) a w) (hy : YieldsIf P ops S oi v a) (hS : S w)
  (h : AnyZ P md ops Q S z f (l.setIfInBounds i true) (a.put oi.dst v) w) : AnyZ P md ops Q S z (f + 1) l a w := by
 simp only [Bool.and_eq_true] at hb
 exact anyZ_first hi (Region.noSelect_spec hb.1) hQ hb.2.2.2 f l a w (Region.free_spec hi hb.2.1) (by simpa using hb.2.2.1) hy hS h
theorem anyZ_one {i : Nat} {o : Oper} {f : Nat} {l : Array Bool} {a : Act} {w : World} (hr : Region.ready md ops l = [i]) (ho : ops[i]? = some o)
  (h : ∀ K' : Act → World → Prop, Shut (∀ a w, (i ≠ z → S w) → AnyZ P md ops Q S z f (l.setIfInBounds i true) a w → K' a w) → if Region.wanted o (yielded ops a.tmps) = true then Oper.wp P o a w K' Q else K' (a.put o.dst undef) w) : AnyZ P md ops Q S z (f + 1) l a w := by
 refine ⟨fun h0 => (by rw [hr] at h0; cases h0), fun j hj => ?_⟩
 rw [hr, List.mem_singleton] at hj
 subst hj
 exact wpOp_step ho fun K' hK => h K' fun a w hS hW => hK a w ⟨hS, hW⟩
theorem anyZ_done {l : Array Bool} {a : Act} {w : World} (hr : Region.ready md ops l = []) (h : Q .normal a w) : ∀ f, AnyZ P md ops Q S z f l a w
 | 0 => ⟨hr, h⟩
 | _ + 1 => ⟨fun _ => h, by rw [hr]; simp⟩
theorem region_z {id : Nat} {a : Act} {w : World} (z : Nat) (S : World → Prop) (hm : P.follows .mixedOrders = true) (h : AnyZ P .any ops Q S z ops.size (Array.replicate ops.size false) a w.drew) : (Code.region id ops true).wp P Q a w :=
 wp_region_any hm (anyZ_any _ _ _ _ h)
end
end Go.Proofs.YtbpichjmkllfaaaGreatDoor.Par
