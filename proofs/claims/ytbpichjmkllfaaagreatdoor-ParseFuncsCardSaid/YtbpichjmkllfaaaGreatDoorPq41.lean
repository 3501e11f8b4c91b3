/- Packed texts of one proof. Conditions: none. -/
import Derived.Test.YtbpichjmkllfaaaGreatDoorPq40
namespace Go.Proofs.YtbpichjmkllfaaaGreatDoor.Par
open Go.ChangeShapes Go.WideShapes Go.RowKit
open Lex (Tok tcl tkv tk tc)
set_option linter.unusedVariables false
set_option maxRecDepth 20000
section
variable {w : World} {p : Nat} {A : Option Addr} {n cp : Nat} {ts : List Tok} {s : St}
def DFun (w : World) (p : Nat) (A : Option Addr) (n cp : Nat) (ts : List Tok) (s : St) (e : Ending) (w' : World) : Prop :=
 ∃ s' x val, e = .returned val ∧ Step w.heap.size p w w' ∧ Rd w' p A n cp ts s' ∧ Tr ts func s s' x ∧ FunA w.heap.size w' x val
def fn6 (mc : Bool) (nm : List UInt8) (rs : List Rg) (ps : List Opn) (r : List Tok) : Res Fun := (blocks [] r).bind fun bs r => .ok ⟨mc, ⟨nm.toArray⟩, rs, ps, bs⟩ r
def fn5 (mc : Bool) (nm : List UInt8) (ps : List Opn) (r : List Tok) : Res Fun := (if (isB r regsL && decide (kindOf r.tail = 4)) = true then regs [] r.tail else .ok [] r).bind fun rs r => fn6 mc nm rs ps r
def fn4 (mc : Bool) (nm : List UInt8) (ps : List Opn) (r : List Tok) : Res Fun := (must [123] r).bind fun _ r => fn5 mc nm ps r
def fn3 (mc : Bool) (nm : List UInt8) (r : List Tok) : Res Fun := (ops0 [41] r).bind fun ps r => fn4 mc nm ps r
def fn2 (mc : Bool) (r : List Tok) : Res Fun := (ofk 1 r).bind fun t r => (must [40] r).bind fun _ r => fn3 mc t.text r
theorem func_2 (l : List Tok) : func l = (if isB l machineL = true then .ok () l.tail else must funcL l).bind fun _ r => fn2 (isB l machineL) r := rfl
structure FuD (w W : World) (p : Nat) (A : Option Addr) (n cp : Nat) (ts : List Tok) (s : St) (H : Nat) (mc : Bool) (nm : ByteArray) (c2 c3 : Value) (rs : List Rg) (RA : Option Addr) (rc : Nat) (ps : List Opn) (PA : Option Addr) (pc : Nat) : Prop where
 step : Step w.heap.size p w W
 lo : w.heap.size < H
 z : W.heap[w.heap.size]? = some (.cells #[.bool false, .string ⟨#[]⟩, .slice none 0 0, .slice none 0 0, .slice none 0 0] 27 (0, 0))
 b : W.heap[H]? = some (.cells #[.bool mc, .string nm, c2, c3, .slice none 0 0] 27 (0, 0))
 ownR : OwnL 81 2 Rg.cs (H + 1) W RA rc rs
 ownP : OwnL 64 4 Opn.cs (H + 1) W PA pc ps
 rd : Rd W p A n cp ts s
 old : ∃ s0, Rd w p A n cp ts s0
section
variable {W W' : World} {s' : St} {H : Nat} {mc : Bool} {nm : ByteArray} {c2 c3 : Value} {rs : List Rg} {RA : Option Addr} {rc : Nat} {ps : List Opn} {PA : Option Addr} {pc : Nat}
theorem FuD.plt (h : FuD w W p A n cp ts s H mc nm c2 c3 rs RA rc ps PA pc) : p < w.heap.size := by obtain ⟨s0, h0⟩ := h.old; exact h0.plt
theorem FuD.hi (h : FuD w W p A n cp ts s H mc nm c2 c3 rs RA rc ps PA pc) : H < W.heap.size := (Array.getElem?_eq_some_iff.1 h.b).1
theorem FuD.call (h : FuD w W p A n cp ts s H mc nm c2 c3 rs RA rc ps PA pc) (hs : Step W.heap.size p W W') (hr : Rd W' p A n cp ts s') : FuD w W' p A n cp ts s' H mc nm c2 c3 rs RA rc ps PA pc := by
 have hl := h.lo
 have hp := h.plt
 have hh := h.hi
 exact ⟨h.step.trans (hs.mono h.step.size), hl, by rw [hs.2.2.2.2 _ (by omega) (by omega)]; exact h.z, by rw [hs.2.2.2.2 _ hh (by omega)]; exact h.b, h.ownR.step hs (by omega), h.ownP.step hs (by omega), hr, h.old⟩
theorem FuD.below (h : FuD w W p A n cp ts s H mc nm c2 c3 rs RA rc ps PA pc) (hb : Below W.heap.size W W') : FuD w W' p A n cp ts s H mc nm c2 c3 rs RA rc ps PA pc := h.call (Step.of hb) (h.rd.below hb)
theorem FuD.put (h : FuD w W p A n cp ts s H mc nm c2 c3 rs RA rc ps PA pc) (j : Nat) (v : Value) {mc' : Bool} {nm' : ByteArray} {c2' c3' : Value} {ps' : List Opn} {PA' : Option Addr} {pc' : Nat}
  (hb : (W.setCell ⟨H, j, none⟩ v).heap[H]? = some (.cells #[.bool mc', .string nm', c2', c3', .slice none 0 0] 27 (0, 0))) (hP : OwnL 64 4 Opn.cs (H + 1) W PA' pc' ps') : FuD w (W.setCell ⟨H, j, none⟩ v) p A n cp ts s H mc' nm' c2' c3' rs RA rc ps' PA' pc' := by
 have hl := h.lo
 obtain ⟨s0, h0⟩ := h.old
 have hb' : Below w.heap.size W (W.setCell ⟨H, j, none⟩ v) := (Below.refl w.heap.size W).setCell (p := ⟨H, j, none⟩) (Nat.le_of_lt hl) _
 exact ⟨h.step.trans (Step.of hb'), hl, far_put h.z (by omega), hb, own_put h.ownR (Nat.lt_succ_self _), own_put hP (Nat.lt_succ_self _), h.rd.keep h0 (below_agree hb'), s0, h0⟩
theorem FuD.puts (h : FuD w W p A n cp ts s H mc nm c2 c3 rs RA rc ps PA pc) :
  (∀ x, (W.setCell ⟨H, 1, none⟩ (.string x)).heap[H]? = some (.cells #[.bool mc, .string x, c2, c3, .slice none 0 0] 27 (0, 0))) ∧
  (∀ v, (W.setCell ⟨H, 2, none⟩ v).heap[H]? = some (.cells #[.bool mc, .string nm, v, c3, .slice none 0 0] 27 (0, 0))) ∧
  (∀ v, (W.setCell ⟨H, 3, none⟩ v).heap[H]? = some (.cells #[.bool mc, .string nm, c2, v, .slice none 0 0] 27 (0, 0))) := by
 have := h.b
 refine ⟨fun _ => ?_, fun _ => ?_, fun _ => ?_⟩ <;> simp [World.setCell, Array.getElem?_modify, this]
theorem FuD.app (h : FuD w W p A n cp ts s H mc nm c2 c3 rs RA rc ps PA pc) {x : Rg} {g' c' m : Nat} (hm : rs.length = m) (ho : OwnL 81 2 Rg.cs (H + 1) W' (some ⟨g', 0, none⟩) c' (rs ++ [x])) (hg : W.grownBy W' (Value.ownBlock (.slice RA m rc))) :
  FuD w W' p A n cp ts s H mc nm c2 c3 (rs ++ [x]) (some ⟨g', 0, none⟩) c' ps PA pc := by
 subst hm
 have hl := h.lo
 have hh := h.hi
 obtain ⟨s0, h0⟩ := h.old
 have hlow : ∀ k, Value.ownBlock (.slice RA rs.length rc) = some k → H + 1 ≤ k := fun k hk => (h.ownR.lo k hk).1
 refine ⟨h.step.grown hg (by omega) (fun k hk => by have := hlow k hk; omega), hl, by rw [hg.block _ (by omega) (fun e => by have := hlow _ e.symm; omega)]; exact h.z, by rw [hg.block _ hh (fun e => by have := hlow _ e.symm; omega)]; exact h.b, ho, ?_, Rd.grown h0 h.rd hg (by omega) (fun k hk => by have := hlow k hk; omega), s0, h0⟩
 exact own_other h.ownP hg (fun j hj => own_apart h.ownP h.ownR (by decide) hj)
theorem FuD.mem (h : FuD w W p A n cp ts s H mc nm (.slice RA rs.length rc) (.slice PA ps.length pc) rs RA rc ps PA pc) : FunM w W p H mc nm rs RA rc ps PA pc (.slice none 0 0) [] none 0 0 :=
 ⟨h.step, h.lo, h.plt, h.z, h.b, h.ownR, h.ownP, OwnL.nil, by simp, rfl⟩
end
structure BkD (w W : World) (p : Nat) (A : Option Addr) (n cp : Nat) (ts : List Tok) (s s1 : St) (H : Nat) (mc : Bool) (nm : List UInt8) (rs : List Rg) (RA : Option Addr) (rc : Nat) (ps : List Opn) (PA : Option Addr) (pc : Nat) (acc : List (Blk × BlkV)) (D : Option Addr) (c m : Nat) : Prop where
 mem : FunM w W p H mc ⟨nm.toArray⟩ rs RA rc ps PA pc (.slice D m c) acc D c m
 rd : Rd W p A n cp ts s1
 via : Via ts func (fun r => (blocks (acc.map (·.1)) r).bind fun bs r => .ok ⟨mc, ⟨nm.toArray⟩, rs, ps, bs⟩ r) s s1
 far : s1.code = 0 → m ≤ s1.at_
section
variable {W W' : World} {s1 : St} {H : Nat} {mc : Bool} {nm : List UInt8} {rs : List Rg} {RA : Option Addr} {rc : Nat} {ps : List Opn} {PA : Option Addr} {pc : Nat} {acc : List (Blk × BlkV)} {D : Option Addr} {c m : Nat}
theorem BkD.below (h : BkD w W p A n cp ts s s1 H mc nm rs RA rc ps PA pc acc D c m) (hb : Below W.heap.size W W') : BkD w W' p A n cp ts s s1 H mc nm rs RA rc ps PA pc acc D c m :=
 ⟨h.mem.call (Step.of hb), h.rd.below hb, h.via, h.far⟩
theorem BkD.last (h : BkD w W p A n cp ts s s1 H mc nm rs RA rc ps PA pc acc D c m) (hd : s1.code ≠ 0 ∨ isB (ts.drop s1.at_) [125] = true) : Via ts func (fun r => (must [125] r).bind fun _ r => .ok ⟨mc, ⟨nm.toArray⟩, rs, ps, acc.map (·.1)⟩ r) s s1 := by
 rcases hd with hd | hd
 ·exact h.via.stuck hd
 ·refine h.via.trans (via_eq fun _ => ?_)
  show (blocks _ _).bind _ = (must _ _).bind _
  rw [blocks_eq, if_pos hd, must_yes hd]
  rfl
theorem FunM.fin {s0 : St} (h0 : Rd w p A n cp ts s0) (h : FunM w W p H mc ⟨nm.toArray⟩ rs RA rc ps PA pc (.slice D m c) acc D c m) (hr : Rd W p A n cp ts s1) (ht : Tr ts func s s1 ⟨mc, ⟨nm.toArray⟩, rs, ps, acc.map (·.1)⟩) :
  (Lex.five W w.heap.size (.bool mc) (.string ⟨nm.toArray⟩) (.slice RA rs.length rc) (.slice PA ps.length pc) (.slice D m c)).heap[w.heap.size]? = some (.cells #[.bool mc, .string ⟨nm.toArray⟩, .slice RA rs.length rc, .slice PA ps.length pc, .slice D m c] 27 (0, 0)) ∧
  DFun w p A n cp ts s (.returned (.agg #[.bool mc, .string ⟨nm.toArray⟩, .slice RA rs.length rc, .slice PA ps.length pc, .slice D m c])) (Lex.five W w.heap.size (.bool mc) (.string ⟨nm.toArray⟩) (.slice RA rs.length rc) (.slice PA ps.length pc) (.slice D m c)) := by
 have hb : Below w.heap.size W (Lex.five W w.heap.size (.bool mc) (.string ⟨nm.toArray⟩) (.slice RA rs.length rc) (.slice PA ps.length pc) (.slice D m c)) := Lex.five_below (Below.refl _ W) (Nat.le_refl _)
 refine ⟨Lex.five_heap h.z, s1, ⟨mc, ⟨nm.toArray⟩, rs, ps, acc.map (·.1)⟩, _, rfl, h.step.trans (Step.of hb), hr.keep h0 (below_agree hb), ht, ⟨RA, rs.length, rc, PA, ps.length, pc, D, acc.length, c, viewB acc⟩, ?_, h.held _ _ _ _ _⟩
 unfold funR
 rw [h.len]
end
theorem two_heap {W : World} {Q : Nat} {x0 x1 y0 y1 : Value} {T : TypeId} (h : W.heap[Q]? = some (.cells #[y0, y1] T (0, 0))) : ((W.setCell ⟨Q, 0, none⟩ x0).setCell ⟨Q, 1, none⟩ x1).heap[Q]? = some (.cells #[x0, x1] T (0, 0)) := by
 simp [World.setCell, Array.getElem?_modify, h]
theorem one_heap {W : World} {Q : Nat} {x1 y0 y1 : Value} {T : TypeId} (h : W.heap[Q]? = some (.cells #[y0, y1] T (0, 0))) : (W.setCell ⟨Q, 1, none⟩ x1).heap[Q]? = some (.cells #[y0, x1] T (0, 0)) := by
 simp [World.setCell, Array.getElem?_modify, h]
theorem FuD.beyond {W W' : World} {s' : St} {H Q : Nat} {mc : Bool} {nm : ByteArray} {c2 c3 : Value} {rs : List Rg} {RA : Option Addr} {rc : Nat} {ps : List Opn} {PA : Option Addr} {pc : Nat} {T : TypeId} {cs : Array Value} (h : FuD w W p A n cp ts s' H mc nm c2 c3 rs RA rc ps PA pc) (hb : Below Q W W') (hQ : H < Q)
  (hr : Agree (fun k => k ≠ Q) W W') (hz : W.heap[Q]? = some (.cells cs T (0, 0))) (h1 : T ≠ 81 ∨ ∀ k, Value.ownBlock (.slice RA rs.length rc) = some k → k ≠ Q) (h2 : T ≠ 64) : FuD w W' p A n cp ts s' H mc nm c2 c3 rs RA rc ps PA pc := by
 have hl := h.lo
 obtain ⟨s0, h0⟩ := h.old
 have hb' : Below w.heap.size W W' := hb.mono (by omega)
 refine ⟨h.step.trans (Step.of hb'), hl, by rw [hb.block _ (by omega)]; exact h.z, by rw [hb.block _ hQ]; exact h.b, ?_, ?_, h.rd.keep h0 (below_agree hb'), s0, h0⟩
 ·refine h.ownR.held _ (hr.weak fun k _ e => ?_)
  rcases h1 with h1 | h1
  ·rintro rfl
   obtain ⟨cur, hc⟩ := own_type h.ownR e
   rw [hz] at hc
   injection hc with hc
   injection hc with _ hc
   exact h1 hc
  ·exact h1 k e
 ·refine h.ownP.held _ (hr.weak fun k _ e => ?_)
  rintro rfl
  obtain ⟨cur, hc⟩ := own_type h.ownP e
  rw [hz] at hc
  injection hc with hc
  injection hc with _ hc
  exact h2 hc
theorem set_away (W : World) (Q o : Nat) (v : Value) : Agree (fun k => k ≠ Q) W (W.setCell ⟨Q, o, none⟩ v) := ⟨by simp [World.setCell], fun k _ hk => Below.heap_setCell _ _ _ _ hk⟩
set_option maxHeartbeats 8000000 in
theorem rfunc_v (hS : ∀ t ∈ ts, t.text.length ≤ 70000) (h : Rd w p A n cp ts s) : Calls Tryz.prog 21 #[.pointer (some ⟨p, 0, none⟩)] w (DFun w p A n cp ts s) := by
 have F1 := field1
 have F2 := field2
 obtain ⟨mc, hmc⟩ : ∃ mc, isB (ts.drop s.at_) machineL = mc := ⟨_, rfl⟩
 obtain ⟨w0, hw0⟩ : ∃ w0, w.alloc (.cells #[.bool false, .string ⟨#[]⟩, .slice none 0 0, .slice none 0 0, .slice none 0 0] 27) = w0 := ⟨_, rfl⟩
 have nb := new_box w _ 27 hw0
 have R0 := Hh (Ai nb (h.below nb.1))
 have HA := Hh (Ai hS h)
 have Hm := Hh hmc
 clear h hS hmc nb
 go_enter Tryz.func21, Tryz.ntmps21
 go_wp2_with fail
 try rw [hw0]
 clear hw0
 refine (rIs_v ⟨#[109, 97, 99, 104, 105, 110, 101]⟩ mc Hm.out R0.out.2).mono ?_
 rintro e w1 ⟨rfl, hb1⟩
 obtain ⟨w2, hw2⟩ : ∃ w2, w1.alloc (.cells #[.bool false, .string ⟨#[]⟩, .slice none 0 0, .slice none 0 0, .slice none 0 0] 27) = w2 := ⟨_, rfl⟩
 have nb := new_box w1 _ 27 hw2
 obtain ⟨H, hH⟩ : ∃ H, w1.heap.size = H := ⟨_, rfl⟩
 have hlo : w.heap.size < w1.heap.size := Nat.lt_of_lt_of_le (Array.getElem?_eq_some_iff.1 R0.out.1.2).1 hb1.size
 have z1 := kept_box R0.out.1.2 hb1
 have z2 := kept_box z1 nb.1
 have st2 : Step w.heap.size p w w2 := ((Step.of R0.out.1.1).trans ((Step.of hb1).mono R0.out.1.1.size)).trans ((Step.of nb.1).mono (Nat.le_of_lt hlo))
 have r2 := (R0.out.2.below hb1).below nb.1
 rw [hH] at nb hlo
 obtain ⟨w3, hw3⟩ : ∃ w3, Lex.five w2 H (.bool mc) (.string ⟨#[]⟩) (.slice none 0 0) (.slice none 0 0) (.slice none 0 0) = w3 := ⟨_, rfl⟩
 have hb3 : Below (w.heap.size + 1) w2 w3 := hw3 ▸ Lex.five_below (Below.refl _ w2) hlo
 have M3 : FuD w w3 p A n cp ts s H mc ⟨#[]⟩ (.slice none 0 0) (.slice none 0 0) [] none 0 [] none 0 :=
  ⟨st2.trans (Step.of (hb3.mono (Nat.le_succ _))), hlo, by rw [hb3.block _ (Nat.lt_succ_self _)]; exact z2, hw3 ▸ Lex.five_heap nb.2, OwnL.nil, OwnL.nil, r2.keep HA.out.2 (below_agree (hb3.mono (Nat.le_succ _))), s, HA.out.2⟩
 have R3 := Hh M3
 obtain ⟨⟨d0, d1, d2, d3, d4⟩, f0, f1, f2, f3, f4⟩ := box5 nb.2
 have g0 : w3.cell? ⟨H, 0, none⟩ = some (.bool mc) := cell_in M3.b 0
 unfold Lex.five at hw3
 clear R0 hb1 nb hlo z1 z2 st2 r2 hb3 M3
 go_upto_if 9 with fail
 try rw [hw3]
 clear d0 d1 d2 d3 d4 f0 f1 f2 f3 f4 g0 hw3 hw2 hH
 go_cut [] from 5 (fun wc => ∃ s1, Hid (FuD w wc p A n cp ts s1 H mc ⟨#[]⟩ (.slice none 0 0) (.slice none 0 0) [] none 0 [] none 0 ∧ Via ts func (fn2 mc) s s1))
 case first =>
  cases mc with
  | false =>
   go_wp2_with fail
   refine (rmust_v ⟨#[102, 117, 110, 99]⟩ R3.out.rd).mono ?_
   rintro e2 w4 ⟨s4, rfl, hs4, hr4, htr4⟩
   have R4 := Hh (R3.out.call hs4 hr4)
   have hv : Via ts func (fn2 false) s s4 := by
    refine (via_eq (k := fun l => (must funcL l).bind fun _ l => fn2 false l) fun _ => ?_).trans (Tr.next htr4)
    rw [func_2, Hm.out]
    rfl
   have HV := Hh hv
   clear hs4 hr4 htr4 hv
   go_wp2_with fail
   go_meet
   case rel => exact ⟨s4, Hh ⟨R4.out, HV.out⟩⟩
  | true =>
   go_wp2_with fail
   refine (rmust_v ⟨#[109, 97, 99, 104, 105, 110, 101]⟩ R3.out.rd).mono ?_
   rintro e2 w4 ⟨s4, rfl, hs4, hr4, htr4⟩
   have R4 := Hh (R3.out.call hs4 hr4)
   have hv : Via ts func (fn2 true) s s4 := by
    refine (via_eq (k := fun l => (must machineL l).bind fun _ l => fn2 true l) fun _ => ?_).trans (Tr.next htr4)
    rw [func_2, Hm.out, must_yes Hm.out]
    rfl
   have HV := Hh hv
   clear hs4 hr4 htr4 hv
   go_wp2_with fail
   go_meet
   case rel => exact ⟨s4, Hh ⟨R4.out, HV.out⟩⟩
 obtain ⟨s1, RH⟩ := hcut
 have R1 := Hh RH.out.1
 have HV := Hh RH.out.2
 clear RH R3
 go_wp2_with fail
 refine (rof_v 1 (by decide) R1.out.rd).mono ?_
 rintro e2 w2 ⟨s2, t2, rfl, hs2, hr2, htr2⟩
 have R2 := Hh (R1.out.call hs2 hr2)
 have HV2 : Hid (Via ts func (fun r => (must [40] r).bind fun _ r => fn3 mc t2.text r) s s2) := Hh (HV.out.trans (Tr.next htr2))
 clear hs2 hr2 htr2
 obtain ⟨⟨d0, d1, d2, d3, d4⟩, f0, f1, f2, f3, f4⟩ := box5 R2.out.b
 obtain ⟨w3, hw3⟩ : ∃ w3, w2.setCell ⟨H, 1, none⟩ (.string ⟨t2.text.toArray⟩) = w3 := ⟨_, rfl⟩
 have R3 := Hh (hw3 ▸ R2.out.put 1 (.string ⟨t2.text.toArray⟩) (R2.out.puts.1 ⟨t2.text.toArray⟩) R2.out.ownP)
 unfold tkv
 go_wp2_with fail
 try rw [hw3]
 clear d0 d1 d2 d3 d4 f0 f1 f2 f3 f4 hw3 R1 R2
 refine (rmust_v ⟨#[40]⟩ R3.out.rd).mono ?_
 rintro e3 w4 ⟨s4, rfl, hs4, hr4, htr4⟩
 have R4 := Hh (R3.out.call hs4 hr4)
 have HV4 : Hid (Via ts func (fn3 mc t2.text) s s4) := Hh (HV2.out.trans (Tr.next htr4))
 obtain ⟨b4, hb4⟩ : ∃ b4, (s4.code == 0) = b4 := ⟨_, rfl⟩
 have HB4 := Hh hb4
 clear hs4 hr4 htr4 hb4 R3 HV2
 go_upto_if 21 with (go_at_call 22; refine (rok_v b4 HB4.out R4.out.rd).mono ?_; rintro e4 w5 ⟨rfl, rfl⟩)
 go_cut [] from 5 (fun wc => ∃ (s5 : St) (ps : List Opn) (PA : Option Addr) (pc : Nat), Hid (FuD w wc p A n cp ts s5 H mc ⟨t2.text.toArray⟩ (.slice none 0 0) (.slice PA ps.length pc) [] none 0 ps PA pc ∧ Via ts func (fn4 mc t2.text ps) s s5))
 case first =>
  cases b4 with
  | false =>
   go_wp2_with fail
   go_meet
   case rel => exact ⟨s4, [], none, 0, Hh ⟨R4.out, HV4.out.stuck (by have := HB4.out; rw [Bqf] at this; exact this)⟩⟩
  | true =>
   go_wp2_with fail
   refine (rlist0_v ⟨#[41]⟩ R4.out.rd).mono ?_
   rintro e5 w7 ⟨s7, xs, PA, pc, rfl, hs7, hr7, htr7, ho7, _⟩
   have R7 := Hh (Ai (R4.out.call hs7 hr7) (Ai (ho7.less (N' := H + 1) R4.out.hi) (HV4.out.trans (Tr.next htr7))))
   clear hs7 hr7 htr7 ho7
   obtain ⟨⟨d0, d1, d2, d3, d4⟩, f0, f1, f2, f3, f4⟩ := box5 R7.out.1.b
   obtain ⟨m, hm⟩ : ∃ m, xs.length = m := ⟨_, rfl⟩
   have HM := Hh hm
   rw [hm]
   obtain ⟨w8, hw8⟩ : ∃ w8, w7.setCell ⟨H, 3, none⟩ (.slice PA m pc) = w8 := ⟨_, rfl⟩
   have R8 := Hh (hw8 ▸ R7.out.1.put 3 (.slice PA m pc) (R7.out.1.puts.2.2 (.slice PA m pc)) R7.out.2.1)
   clear hm
   go_wp2_with fail
   try rw [hw8]
   go_meet
   case rel =>
    have hm := HM.out
    subst hm
    exact ⟨s7, xs, PA, pc, Hh ⟨R8.out, R7.out.2.2⟩⟩
 obtain ⟨s5, ps, PA, pc, RH⟩ := hcut
 have R5 := Hh RH.out.1
 have HV5 := Hh RH.out.2
 obtain ⟨nm, hnm⟩ : ∃ nm, t2.text = nm := ⟨_, rfl⟩
 rw [hnm] at R5 HV5
 clear RH R4 HV4 HB4 HV
 clear hnm
 go_wp2_with fail
 refine (rmust_v ⟨#[123]⟩ R5.out.rd).mono ?_
 rintro e6 w6 ⟨s6, rfl, hs6, hr6, htr6⟩
 have R6 := Hh (R5.out.call hs6 hr6)
 have HV6 : Hid (Via ts func (fn5 mc nm ps) s s6) := Hh (HV5.out.trans (Tr.next htr6))
 clear hs6 hr6 htr6 R5 HV5
 obtain ⟨v, hv⟩ : ∃ v, ((s6.code == 0) && (isB (ts.drop s6.at_) regsL && decide (kindOf (ts.drop s6.at_).tail = 4))) = v := ⟨_, rfl⟩
 have Hv := Hh hv
 clear hv
 go_upto_region 10 with fail
 go_cut [37] from 5 (fun s37 wc => s37 = .bool v ∧ Hid (FuD w wc p A n cp ts s6 H mc ⟨nm.toArray⟩ (.slice none 0 0) (.slice PA ps.length pc) [] none 0 ps PA pc))
 case first =>
  by_cases hc3 : s6.code = 0
  ·have hcb : (s6.code == 0) = true := by rw [hc3]; rfl
   have HC := Hh hcb
   clear hc3 hcb
   go_wp2_with fail
   refine (rok_v true HC.out R6.out.rd).mono ?_
   rintro e2 w7 ⟨rfl, rfl⟩
   cases hb : isB (ts.drop s6.at_) regsL with
   | false =>
    have HB := Hh hb
    have ev : v = false := by rw [← Hv.out, HC.out, hb]; rfl
    clear hb
    go_wp2_with fail
    refine (rIs_v ⟨#[114, 101, 103, 115]⟩ false HB.out R6.out.rd).mono ?_
    rintro e3 w7 ⟨rfl, hb7⟩
    have R7 := Hh (R6.out.below hb7)
    clear hb7
    go_wp2_with fail
    go_meet
    case rel => exact ⟨by first | rfl | rw [ev], R7⟩
   | true =>
    have HB := Hh hb
    obtain ⟨K, hK⟩ : ∃ K, kindOf (ts.drop s6.at_).tail = K := ⟨_, rfl⟩
    have ev : ((K : Int) == 4) = v := by
     rw [← Hv.out, HC.out, hb, hK, Bool.true_and, Bool.true_and, Bool.eq_iff_iff, beq_iff_eq, decide_eq_true_iff]
     omega
    have HK := Hh hK
    clear hb hK
    go_wp2_with fail
    refine (rIs_v ⟨#[114, 101, 103, 115]⟩ true HB.out R6.out.rd).mono ?_
    rintro e3 w7 ⟨rfl, hb7⟩
    have R7 := Hh (R6.out.below hb7)
    clear hb7
    go_wp2_with fail
    refine (rafter_v K HK.out R7.out.rd).mono ?_
    rintro e3 w8 ⟨rfl, hb8⟩
    have R8 := Hh (R7.out.below hb8)
    clear hb8
    go_wp2_with fail
    go_meet
    case rel => exact ⟨by first | rfl | rw [ev], R8⟩
  ·have hcb : (s6.code == 0) = false := by rw [Bqf]; exact hc3
   have HC := Hh hcb
   have ev : v = false := by rw [← Hv.out, hcb]; rfl
   clear hc3 hcb
   go_wp2_with fail
   refine (rok_v false HC.out R6.out.rd).mono ?_
   rintro e2 w3 ⟨rfl, rfl⟩
   go_wp2_with fail
   go_meet
   case rel => exact ⟨by first | rfl | rw [ev], R6⟩
 obtain ⟨rfl, R7⟩ := hcut
 clear R6
 go_upto_if 37 with fail
 go_cut [] from 5 (fun wc => ∃ (s8 : St) (rs : List Rg) (RA : Option Addr) (rc : Nat), Hid (FuD w wc p A n cp ts s8 H mc ⟨nm.toArray⟩ (.slice RA rs.length rc) (.slice PA ps.length pc) rs RA rc ps PA pc ∧ Via ts func (fn6 mc nm rs ps) s s8))
 case first =>
  cases v with
  | false =>
   go_wp2_with fail
   go_meet
   case rel =>
    refine ⟨s6, [], none, 0, Hh ⟨R7.out, ?_⟩⟩
    by_cases hc3 : s6.code = 0
    ·refine HV6.out.trans (via_eq fun _ => ?_)
     have := Hv.out
     rw [hc3] at this
     have hb : (isB (ts.drop s6.at_) regsL && decide (kindOf (ts.drop s6.at_).tail = 4)) = false := this
     unfold fn5
     rw [hb]
     rfl
    ·exact HV6.out.stuck hc3
  | true =>
   have hb2 : s6.code = 0 ∧ (isB (ts.drop s6.at_) regsL && decide (kindOf (ts.drop s6.at_).tail = 4)) = true := by
    have := Hv.out
    rw [Bool.and_eq_true] at this
    exact ⟨by have := this.1; rwa [beq_iff_eq] at this, this.2⟩
   have HB2 := Hh hb2
   clear hb2
   go_wp2_with fail
   refine (rmust_v ⟨#[114, 101, 103, 115]⟩ R7.out.rd).mono ?_
   rintro e2 w8 ⟨s8, rfl, hs8, hr8, htr8⟩
   have R8 := Hh (R7.out.call hs8 hr8)
   have hv : Via ts func (fun l => (regs [] l).bind fun rs r => fn6 mc nm rs ps r) s s8 := by
    refine (HV6.out.trans (via_eq (k := fun l => (must regsL l).bind fun _ l => (regs [] l).bind fun rs r => fn6 mc nm rs ps r) fun _ => ?_)).trans (Tr.next htr8)
    have hb := HB2.out.2
    unfold fn5
    rw [if_pos hb, must_yes (by rw [Bool.and_eq_true] at hb; exact hb.1)]
    rfl
   have HV8 := Hh hv
   clear hs8 hr8 htr8 hv
   go_wp2_with fail
   go_loopg [] (togo ts.length s8) (fun gk wr => ∃ (s1 : St) (rs : List Rg) (RA : Option Addr) (rc m : Nat), gk = togo ts.length s1 ∧ Hid (FuD w wr p A n cp ts s1 H mc ⟨nm.toArray⟩ (.slice RA m rc) (.slice PA ps.length pc) rs RA rc ps PA pc ∧ rs.length = m ∧ Via ts func (fun l => (regs rs l).bind fun rs r => fn6 mc nm rs ps r) s s1 ∧ (s1.code = 0 → m ≤ s1.at_)))
   case atStart => exact ⟨s8, [], none, 0, 0, rfl, R8.out, rfl, HV8.out, fun _ => Nat.zero_le _⟩
   case round =>
    obtain ⟨sx, rs, RA, rc, m, hk, HR⟩ := hrel
    have HK := Hh hk
    clear hk R8 HV8 HV6 Hv R7
    by_cases hc2 : sx.code = 0
    ·have hcb2 : (sx.code == 0) = true := by rw [hc2]; rfl
     have HC2 := Hh (Ai hc2 hcb2)
     clear hc2 hcb2
     go_wp2_with fail
     refine (rok_v true HC2.out.2 HR.out.1.rd).mono ?_
     rintro e2 w9 ⟨rfl, rfl⟩
     cases hr1 : isB (ts.drop sx.at_) [59] with
     | true =>
      have H1 := Hh hr1
      clear hr1
      go_wp2_with fail
      refine (rIs_v ⟨#[59]⟩ true H1.out HR.out.1.rd).mono ?_
      rintro e3 w9 ⟨rfl, hb9⟩
      have R9 := Hh (HR.out.1.below hb9)
      have HV9 : Hid (Via ts func (fun l => (must [59] l).bind fun _ l => fn6 mc nm rs ps l) s sx) := Hh (HR.out.2.2.1.trans (via_eq fun _ => by
       show (regs _ _).bind _ = (must _ _).bind _
       rw [regs_eq, if_pos H1.out, must_yes H1.out]
       rfl))
      clear hb9
      go_wp2_with fail
      refine (rmust_v ⟨#[59]⟩ R9.out.rd).mono ?_
      rintro e4 wa ⟨sa, rfl, hsa, hra, htra⟩
      have Ra := Hh (Ai (R9.out.call hsa hra) (HV9.out.trans (Tr.next htra)))
      clear hsa hra htra
      go_wp2_with fail
      go_meet
      case rel =>
       have hm := HR.out.2.1
       subst hm
       exact ⟨sa, rs, RA, rc, Hh Ra.out⟩
     | false =>
      have H1 := Hh hr1
      clear hr1
      go_wp2_with fail
      refine (rIs_v ⟨#[59]⟩ false H1.out HR.out.1.rd).mono ?_
      rintro e3 w9 ⟨rfl, hb9⟩
      have R9 := Hh (HR.out.1.below hb9)
      have hq : Via ts func (fun l => (reg1 l).bind fun x r => (regs (rs ++ [x]) r).bind fun rs r => fn6 mc nm rs ps r) s sx := by
       refine HR.out.2.2.1.trans (via_eq fun _ => ?_)
       show (regs _ _).bind _ = _
       rw [regs_eq, H1.out]
       show ((reg1 (ts.drop sx.at_)).bind _).bind _ = _
       cases reg1 (ts.drop sx.at_) <;> rfl
      have HQ := Hh hq
      have hlen : m ≤ 2000000 := by have h1 := HR.out.2.2.2 HC2.out.1; have h2 := HR.out.1.rd.lt; have h3 := HR.out.1.rd.few; omega
      have HLEN := Hh hlen
      clear hb9 hq hlen
      go_wp2_with fail
      refine (rof_v 4 (by decide) R9.out.rd).mono ?_
      rintro e4 wa ⟨sa, ta, rfl, hsa, hra, htra⟩
      have Ra := Hh (R9.out.call hsa hra)
      have HTa := Hh htra
      clear hsa hra htra R9
      obtain ⟨wb, hwb⟩ : ∃ wb, wa.alloc (.cells #[.int .i64 0, .int .i64 0] 81) = wb := ⟨_, rfl⟩
      have nb := new_box wa _ 81 hwb
      obtain ⟨Q, hQ⟩ : ∃ Q, wa.heap.size = Q := ⟨_, rfl⟩
      have hHQ : H < wa.heap.size := Ra.out.hi
      have hown : ∀ k, Value.ownBlock (.slice RA rs.length rc) = some k → k ≠ Q := fun k hk e => by have := (Ra.out.ownR.lo k hk).2; omega
      have rb := Ra.out.below nb.1
      rw [hQ] at nb hHQ
      obtain ⟨wd, hwd⟩ : ∃ wd, (wb.setCell ⟨Q, 0, none⟩ (.int .i64 ta.n)).setCell ⟨Q, 1, none⟩ (.int .i64 0) = wd := ⟨_, rfl⟩
      have hz := two_heap (x0 := .int .i64 ta.n) (x1 := .int .i64 0) nb.2
      have hag : Agree (fun k => k ≠ Q) wb wd := hwd ▸ (set_away wb Q 0 (.int .i64 ta.n)).trans (set_away _ Q 1 (.int .i64 0))
      have hbl : Below Q wb wd := hwd ▸ ((Below.refl Q wb).setCell (p := ⟨Q, 0, none⟩) (Nat.le_refl _) _).setCell (p := ⟨Q, 1, none⟩) (Nat.le_refl _) _
      rw [hwd] at hz
      have Rd' := Hh (Ai (rb.beyond hbl hHQ hag nb.2 (.inr hown) (by decide)) (Ai hz (Ai hHQ hown)))
      have n0 : wb.cell? ⟨Q, 0, none⟩ = some (.int .i64 0) := cell_in nb.2 0
      have n1 : wb.cell? ⟨Q, 1, none⟩ = some (.int .i64 0) := cell_in nb.2 1
      have m0 := box_frozen nb.2 0
      have m1 := box_frozen nb.2 1
      clear nb hHQ hown rb hz hag hbl Ra
      unfold tkv
      go_wp2_with fail
      try rw [hwd]
      clear n0 n1 m0 m1 hwb hQ hwd
      refine (rmust_v ⟨#[58]⟩ Rd'.out.1.rd).mono ?_
      rintro e5 we ⟨se, rfl, hse, hre, htre⟩
      have Re := Hh (Ai (Rd'.out.1.call hse hre) (Ai (show we.heap[Q]? = some (.cells #[.int .i64 ta.n, .int .i64 0] 81 (0, 0)) by rw [hse.2.2.2.2 _ (Array.getElem?_eq_some_iff.1 Rd'.out.2.1).1 (by have := Rd'.out.1.plt; have := Rd'.out.1.lo; have := Rd'.out.2.2.1; omega)]; exact Rd'.out.2.1) Rd'.out.2.2))
      have HVe : Hid (Via ts reg1 (fun l => if isB l [120] = true then .ok ⟨ta.n, 1⟩ l.tail else (must [103] l).bind fun _ l => .ok ⟨ta.n, 0⟩ l) sx se) := Hh ((Tr.next HTa.out).trans (Tr.next htre))
      obtain ⟨bx, hbx⟩ : ∃ bx, isB (ts.drop se.at_) [120] = bx := ⟨_, rfl⟩
      have HBx := Hh hbx
      clear hse hre htre hbx Rd' HTa
      go_wp2_with fail
      refine (rIs_v ⟨#[120]⟩ bx HBx.out Re.out.1.rd).mono ?_
      rintro e6 wf ⟨rfl, hbf⟩
      have Rf := Hh (Ai (Re.out.1.below hbf) (Ai (kept_box Re.out.2.1 hbf) Re.out.2.2))
      clear hbf Re
      go_upto_if 54 with fail
      go_cut [] from 40 to 65 (fun wc => ∃ (sg : St) (cl : Int), Hid (FuD w wc p A n cp ts sg H mc ⟨nm.toArray⟩ (.slice RA m rc) (.slice PA ps.length pc) rs RA rc ps PA pc ∧ wc.heap[Q]? = some (.cells #[.int .i64 ta.n, .int .i64 cl] 81 (0, 0)) ∧ Tr ts reg1 sx sg ⟨ta.n, cl⟩))
      case first =>
       cases bx with
       | true =>
        obtain ⟨wg, hwg⟩ : ∃ wg, wf.setCell ⟨Q, 1, none⟩ (.int .i64 1) = wg := ⟨_, rfl⟩
        have hz := one_heap (x1 := .int .i64 1) Rf.out.2.1
        rw [hwg] at hz
        have Rgg := Hh (Ai (Rf.out.1.beyond (hwg ▸ (Below.refl Q wf).setCell (p := ⟨Q, 1, none⟩) (Nat.le_refl _) (.int .i64 1)) Rf.out.2.2.1 (hwg ▸ set_away wf Q 1 (.int .i64 1)) Rf.out.2.1 (.inr Rf.out.2.2.2) (by decide)) hz)
        have n1 : wf.cell? ⟨Q, 1, none⟩ = some (.int .i64 0) := cell_in Rf.out.2.1 1
        have m1 := box_frozen Rf.out.2.1 1
        clear hz
        go_wp2_with fail
        try rw [hwg]
        refine (rmust_v ⟨#[120]⟩ Rgg.out.1.rd).mono ?_
        rintro e7 wh ⟨sh, rfl, hsh, hrh, htrh⟩
        have Rh := Hh (Ai (Rgg.out.1.call hsh hrh) (show wh.heap[Q]? = some (.cells #[.int .i64 ta.n, .int .i64 1] 81 (0, 0)) by rw [hsh.2.2.2.2 _ (Array.getElem?_eq_some_iff.1 Rgg.out.2).1 (by have := Rgg.out.1.plt; have := Rgg.out.1.lo; have := Rf.out.2.2.1; omega)]; exact Rgg.out.2))
        have ht : Tr ts reg1 sx sh ⟨ta.n, 1⟩ := by
         refine (HVe.out.trans (via_eq (k := fun l => (must [120] l).bind fun _ l => .ok (⟨ta.n, 1⟩ : Rg) l) fun _ => ?_)).tr (Tr.map htrh fun _ => (⟨ta.n, 1⟩ : Rg))
         rw [HBx.out, must_yes HBx.out]
         rfl
        have HT := Hh ht
        clear hsh hrh htrh ht n1 m1 hwg
        go_wp2_with fail
        go_meet
        case rel => exact ⟨sh, 1, Hh ⟨Rh.out.1, Rh.out.2, HT.out⟩⟩
       | false =>
        go_wp2_with fail
        refine (rmust_v ⟨#[103]⟩ Rf.out.1.rd).mono ?_
        rintro e7 wh ⟨sh, rfl, hsh, hrh, htrh⟩
        have Rh := Hh (Ai (Rf.out.1.call hsh hrh) (show wh.heap[Q]? = some (.cells #[.int .i64 ta.n, .int .i64 0] 81 (0, 0)) by rw [hsh.2.2.2.2 _ (Array.getElem?_eq_some_iff.1 Rf.out.2.1).1 (by have := Rf.out.1.plt; have := Rf.out.1.lo; have := Rf.out.2.2.1; omega)]; exact Rf.out.2.1))
        have ht : Tr ts reg1 sx sh ⟨ta.n, 0⟩ := by
         refine (HVe.out.trans (via_eq (k := fun l => (must [103] l).bind fun _ l => .ok (⟨ta.n, 0⟩ : Rg) l) fun _ => ?_)).tr (Tr.map htrh fun _ => (⟨ta.n, 0⟩ : Rg))
         rw [HBx.out]
         rfl
        have HT := Hh ht
        clear hsh hrh htrh ht
        go_wp2_with fail
        go_meet
        case rel => exact ⟨sh, 0, Hh ⟨Rh.out.1, Rh.out.2, HT.out⟩⟩
      obtain ⟨sg, cl, RG⟩ := hcut
      obtain ⟨wk, hwk⟩ : ∃ wk, wc.alloc (.cells #[.int .i64 ta.n, .int .i64 cl] 81) = wk := ⟨_, rfl⟩
      have nb := new_box wc _ 81 hwk
      have RK := Hh (Ai (RG.out.1.below nb.1) (Ai nb.2 RG.out.2.2))
      have q0 : wc.cell? ⟨Q, 0, none⟩ = some (.int .i64 ta.n) := cell_in RG.out.2.1 0
      have q1 : wc.cell? ⟨Q, 1, none⟩ = some (.int .i64 cl) := cell_in RG.out.2.1 1
      have HNk : Hid (H + 1 ≤ wk.heap.size) := Hh RK.out.1.hi
      have HLn : Hid (rs.length = m) := Hh HR.out.2.1
      obtain ⟨⟨_, _, d2, _, _⟩, _, _, f2, _, _⟩ := box5 RG.out.1.b
      clear nb
      go_wp2_with (at_builtin; refine own_app rowRg rfl _ _ rfl HLn.out rfl RK.out.1.ownR wc.heap.size (⟨ta.n, cl⟩ : Rg) rfl RK.out.2.1 HLEN.out HNk.out ?_)
      intro g' c' wl ho hg
      have RL := Hh (RK.out.1.app HLn.out ho hg)
      clear ho hg q0 q1 d2 f2 hwk
      obtain ⟨⟨_, _, d2, _, _⟩, _, _, f2, _, _⟩ := box5 RL.out.b
      obtain ⟨wm, hwm⟩ : ∃ wm, wl.setCell ⟨H, 2, none⟩ (.slice (some ⟨g', 0, none⟩) (rs.length + 1) c') = wm := ⟨_, rfl⟩
      have RM := Hh (hwm ▸ RL.out.put 2 (.slice (some ⟨g', 0, none⟩) (rs.length + 1) c') (RL.out.puts.2.1 _) RL.out.ownP)
      have hfar : sg.code = 0 → rs.length + 1 ≤ sg.at_ := by
       intro hc5
       have h1 := HR.out.2.2.2 HC2.out.1
       have h2 := RK.out.2.2.far (fun l r a h => reg1_sub h) HR.out.1.rd.tlen hc5
       have h3 := HLn.out
       omega
      have hless := (RK.out.2.2.less HC2.out.1 HR.out.1.rd.tlen RM.out.rd.tlen (fun l r a h => reg1_sub h)).1
      have HZ := Hh (Ai RM.out (Ai (show (rs ++ [(⟨ta.n, cl⟩ : Rg)]).length = rs.length + 1 by rw [List.length_append]; rfl) (Ai (HQ.out.trans (Tr.next RK.out.2.2)) (Ai hfar hless))))
      have hgk := HK.out
      clear hless hfar
      go_wp2_with fail
      try rw [hwm]
      go_roundg (togo ts.length sg)
      case measure => rw [hgk]; exact HZ.out.2.2.2.2
      case rel => exact ⟨sg, _, _, _, _, rfl, HZ.out.1, HZ.out.2.1, HZ.out.2.2.1, HZ.out.2.2.2.1⟩
    ·have hcb2 : (sx.code == 0) = false := by rw [Bqf]; exact hc2
     have HC2 := Hh (Ai hc2 hcb2)
     clear hc2 hcb2
     go_wp2_with fail
     refine (rok_v false HC2.out.2 HR.out.1.rd).mono ?_
     rintro e2 w9 ⟨rfl, rfl⟩
     have R9 := Hh HR.out.1
     have HV9 : Hid (Via ts func (fun l => (must [59] l).bind fun _ l => fn6 mc nm rs ps l) s sx) := Hh (HR.out.2.2.1.stuck HC2.out.1)
     go_wp2_with fail
     refine (rmust_v ⟨#[59]⟩ R9.out.rd).mono ?_
     rintro e4 wa ⟨sa, rfl, hsa, hra, htra⟩
     have Ra := Hh (Ai (R9.out.call hsa hra) (HV9.out.trans (Tr.next htra)))
     clear hsa hra htra
     go_wp2_with fail
     go_meet
     case rel =>
      have hm := HR.out.2.1
      subst hm
      exact ⟨sa, rs, RA, rc, Hh Ra.out⟩
 obtain ⟨s8, rs, RA, rc, RH⟩ := hcut
 have hI : BkD w wc p A n cp ts s s8 H mc nm rs RA rc ps PA pc [] none 0 0 := ⟨RH.out.1.mem, RH.out.1.rd, RH.out.2, fun _ => Nat.zero_le _⟩
 have HI := Hh hI
 clear RH R7 hI HV6 Hv
 go_wp2_with fail
 go_loopg [] (togo ts.length s8) (fun gk wr => ∃ (s1 : St) (acc : List (Blk × BlkV)) (D : Option Addr) (c m : Nat), gk = togo ts.length s1 ∧ Hid (BkD w wr p A n cp ts s s1 H mc nm rs RA rc ps PA pc acc D c m))
 case atStart => exact ⟨s8, [], none, 0, 0, rfl, HI.out⟩
 case round =>
  obtain ⟨sx, acc, D, c, m, hk, HR⟩ := hrel
  have HK := Hh hk
  clear hk HI
  by_cases hc2 : sx.code = 0
  ·have hcb2 : (sx.code == 0) = true := by rw [hc2]; rfl
   have HC2 := Hh (Ai hc2 hcb2)
   clear hc2 hcb2
   go_wp2_with fail
   refine (rok_v true HC2.out.2 HR.out.rd).mono ?_
   rintro e2 w9 ⟨rfl, rfl⟩
   cases hr1 : isB (ts.drop sx.at_) [125] with
   | true =>
    have H1 := Hh hr1
    clear hr1
    go_wp2_with fail
    refine (rIs_v ⟨#[125]⟩ true H1.out HR.out.rd).mono ?_
    rintro e3 w9 ⟨rfl, hb9⟩
    have HR9 := Hh (HR.out.below hb9)
    have HV9 := Hh (HR.out.last (.inr H1.out))
    clear hb9
    go_wp2_with fail
    refine (rmust_v ⟨#[125]⟩ HR9.out.rd).mono ?_
    rintro e4 wa ⟨sa, rfl, hsa, hra, htra⟩
    have HE := Hh (Ai (HR9.out.mem.call hsa) (Ai hra (HV9.out.tr (Tr.map htra fun _ => (⟨mc, ⟨nm.toArray⟩, rs, ps, acc.map (·.1)⟩ : Fun)))))
    clear hsa hra htra
    obtain ⟨⟨u0, u1, u2, u3, u4⟩, _⟩ := box5 HE.out.1.b
    obtain ⟨⟨v0, v1, v2, v3, v4⟩, y0, y1, y2, y3, y4⟩ := box5 HE.out.1.z
    go_wp2_with fail
    have HF := HE.out.1.fin HA.out.2 HE.out.2.1 HE.out.2.2
    refine fin_fun (fn := Tryz.f21) rfl rfl HF.1 rfl ?_
    exact HF.2
   | false =>
    have H1 := Hh hr1
    clear hr1
    go_wp2_with fail
    refine (rIs_v ⟨#[125]⟩ false H1.out HR.out.rd).mono ?_
    rintro e3 wj ⟨rfl, hbj⟩
    have HRj := Hh (HR.out.below hbj)
    have hq : Via ts func (fun r => (block r).bind fun x r => (blocks (acc.map (·.1) ++ [x]) r).bind fun bs r => .ok ⟨mc, ⟨nm.toArray⟩, rs, ps, bs⟩ r) s sx := by
     refine HR.out.via.trans (via_eq fun _ => ?_)
     show (blocks _ _).bind _ = _
     rw [blocks_eq, H1.out]
     show ((block (ts.drop sx.at_)).bind _).bind _ = _
     cases block (ts.drop sx.at_) <;> rfl
    have HQ := Hh hq
    have hlen : m ≤ 2000000 := by have h1 := HR.out.far HC2.out.1; have h2 := HR.out.rd.lt; have h3 := HR.out.rd.few; omega
    have HLEN := Hh hlen
    clear hbj hq hlen
    go_wp2_with fail
    have bd := (Below.refl wj.heap.size wj).drew
    obtain ⟨wd, hwd⟩ : ∃ wd, wj.drew = wd := ⟨_, rfl⟩
    rw [hwd] at bd
    have HMd := Hh (HRj.out.mem.call (Step.of bd))
    have HLd := Hh (HRj.out.rd.below bd)
    obtain ⟨⟨_, _, _, _, c3⟩, _⟩ := box5 HMd.out.b
    clear bd
    refine region_z 7 (fun W => W.cell? ⟨H, 4, none⟩ = some (.slice D m c)) (by kernel_rfl) ?_
    rw [hwd]
    clear hwd
    refine anyZ_take (i := 0) (v := .pointer (some ⟨H, 4, none⟩)) rfl (by kernel_rfl) (fun _ _ _ h => h) (Or.inl ⟨by rfl, by intro W hSw; go_simp; try with_reducible rfl⟩) c3 ?_
    try dsimp only [Act.put, Lzs, Lz0, Lz1]
    refine anyZ_take (i := 1) (v := .slice D m c) rfl (by kernel_rfl) (fun _ _ _ h => h) (Or.inl ⟨by rfl, by intro W hSw; go_simp; try with_reducible rfl⟩) c3 ?_
    try dsimp only [Act.put, Lzs, Lz0, Lz1]
    refine anyZ_take (i := 2) (v := .pointer (some ⟨p, 0, none⟩)) rfl (by kernel_rfl) (fun _ _ _ h => h) (Or.inl ⟨by rfl, by intro W hSw; go_simp; try with_reducible rfl⟩) c3 ?_
    try dsimp only [Act.put, Lzs, Lz0, Lz1]
    refine anyZ_one (i := 3) (by kernel_rfl) rfl (fun K hK => ?_)
    go_simp
    refine Calls.mono (rblock_v HA.out.1 HC2.out.1 HLd.out) ?_
    rintro e5 w4 ⟨s5, x, val, rfl, hs, hr, htr, r, rfl, hH⟩
    have HM4 := Hh (HMd.out.call hs)
    have HX := Hh (Ai htr (safe_new (N := H + 1) (row := Value.ownBlock (.slice D m c)) hH HMd.out.hi (fun k hk => (HMd.out.own.lo k (by rw [HMd.out.len]; exact hk)).2)))
    have HL4 := Hh hr
    clear hs htr hH hr
    obtain ⟨⟨_, _, _, _, c3'⟩, _⟩ := box5 HM4.out.b
    unfold blkR
    go_simp
    refine hK.out _ _ (fun _ => c3') ?_
    clear hK K
    try dsimp only [Act.put, Lzs, Lz0, Lz1]
    refine anyZ_one (i := 4) (by kernel_rfl) rfl (fun K hK => ?_)
    obtain ⟨w5, hw5⟩ : ∃ w5, w4.alloc (.cells #[.string x.label, .bool x.edge, .slice r.ia r.il r.ic, .slice r.ka r.kn r.kc] 62) = w5 := ⟨_, rfl⟩
    have nb := new_box w4 _ 62 hw5
    have HM5 := Hh (HM4.out.call (Step.of nb.1))
    have HL5 := Hh (HL4.out.below nb.1)
    have HB5 := Hh (Ai nb.2 (HX.out.2.keep ⟨nb.1.size, fun k hk _ => nb.1.block k hk⟩))
    clear nb
    obtain ⟨⟨_, _, _, _, c3''⟩, _⟩ := box5 HM5.out.b
    go_simp
    try rw [hw5]
    clear hw5
    refine hK.out _ _ (fun _ => c3'') ?_
    clear hK K
    try dsimp only [Act.put, Lzs, Lz0, Lz1]
    refine anyZ_one (i := 5) (by kernel_rfl) rfl (fun K hK => ?_)
    rw [if_pos (by rfl)]
    refine own_app_wp rowBlk _ _ rfl HM5.out.len rfl HM5.out.own w4.heap.size (x, r) rfl HB5.out.1 HLEN.out HM5.out.hi ?_
    intro g' c' w6 ho hg hat
    have HM6 := Hh (HM5.out.app HB5.out.2 ho hg hat)
    have HL6 := Hh (Rd.grown HA.out.2 HL5.out hg HM5.out.step.size (fun k hk => by have := (HM5.out.own.lo k (by rw [HM5.out.len]; exact hk)).1; have := HM5.out.lo; omega))
    clear ho hg hat
    obtain ⟨⟨_, _, _, _, d3⟩, _, _, _, _, g3⟩ := box5 HM6.out.b
    refine hK.out _ _ (fun _ => d3) ?_
    clear hK K
    try dsimp only [Act.put, Lzs, Lz0, Lz1]
    refine anyZ_take (i := 6) (v := .pointer (some ⟨H, 4, none⟩)) rfl (by kernel_rfl) (fun _ _ _ h => h) (Or.inl ⟨by rfl, by intro W hSw; go_simp; try with_reducible rfl⟩) d3 ?_
    try dsimp only [Act.put, Lzs, Lz0, Lz1]
    refine anyZ_one (i := 7) (by kernel_rfl) rfl (fun K hK => ?_)
    obtain ⟨w7, hw7⟩ : ∃ w7, w6.setCell ⟨H, 4, none⟩ (.slice (some ⟨g', 0, none⟩) (m + 1) c') = w7 := ⟨_, rfl⟩
    have HM7 := Hh (hw7 ▸ HM6.out.put 4 (.slice (some ⟨g', 0, none⟩) (m + 1) c') (HM6.out.puts.2.2.2.2 _) HM6.out.ownR HM6.out.ownP)
    have HL7 := Hh (hw7 ▸ HL6.out.keep HA.out.2 (below_agree ((Below.refl w.heap.size w6).setCell (p := ⟨H, 4, none⟩) (by have := HM6.out.lo; show w.heap.size ≤ H; omega) (.slice (some ⟨g', 0, none⟩) (m + 1) c'))))
    go_simp
    try rw [hw7]
    clear hw7
    refine hK.out _ _ (fun h => absurd rfl h) ?_
    clear hK K
    try dsimp only [Act.put, Lzs, Lz0, Lz1]
    refine anyZ_done (by kernel_rfl) ?_ _
    have hfar : s5.code = 0 → m + 1 ≤ s5.at_ := by
     intro hc5
     have h1 := HR.out.far HC2.out.1
     have h2 := HX.out.1.far (fun l r a h => block_sub h) HR.out.rd.tlen hc5
     omega
    have hI : BkD w w7 p A n cp ts s s5 H mc nm rs RA rc ps PA pc (acc ++ [(x, r)]) (some ⟨g', 0, none⟩) c' (m + 1) := ⟨HM7.out, HL7.out, (by
     have := HQ.out.trans (Tr.next HX.out.1)
     rw [List.map_append]
     exact this), hfar⟩
    have hless := (HX.out.1.less HC2.out.1 HR.out.rd.tlen HL7.out.tlen (fun l r a h => block_sub h)).1
    have HZ := Hh (Ai hI hless)
    have hgk := HK.out
    clear hI hless hfar
    go_wp2_with fail
    go_roundg (togo ts.length s5)
    case measure => rw [hgk]; exact HZ.out.2
    case rel => exact ⟨s5, _, _, _, _, rfl, HZ.out.1⟩
  ·have hcb2 : (sx.code == 0) = false := by rw [Bqf]; exact hc2
   have HC2 := Hh (Ai hc2 hcb2)
   clear hc2 hcb2
   go_wp2_with fail
   refine (rok_v false HC2.out.2 HR.out.rd).mono ?_
   rintro e2 w9 ⟨rfl, rfl⟩
   have HR9 := Hh HR.out
   have HV9 := Hh (HR.out.last (.inl HC2.out.1))
   go_wp2_with fail
   refine (rmust_v ⟨#[125]⟩ HR9.out.rd).mono ?_
   rintro e4 wa ⟨sa, rfl, hsa, hra, htra⟩
   have HE := Hh (Ai (HR9.out.mem.call hsa) (Ai hra (HV9.out.tr (Tr.map htra fun _ => (⟨mc, ⟨nm.toArray⟩, rs, ps, acc.map (·.1)⟩ : Fun)))))
   clear hsa hra htra
   obtain ⟨⟨u0, u1, u2, u3, u4⟩, _⟩ := box5 HE.out.1.b
   obtain ⟨⟨v0, v1, v2, v3, v4⟩, y0, y1, y2, y3, y4⟩ := box5 HE.out.1.z
   go_wp2_with fail
   have HF := HE.out.1.fin HA.out.2 HE.out.2.1 HE.out.2.2
   refine fin_fun (fn := Tryz.f21) rfl rfl HF.1 rfl ?_
   exact HF.2
end
end Go.Proofs.YtbpichjmkllfaaaGreatDoor.Par
