/- Packed texts of one proof. Conditions: none. -/
import Derived.Test.YtbpichjmkllfaaaGreatDoorPq24
namespace Go.Proofs.YtbpichjmkllfaaaGreatDoor.Par
open Go.ChangeShapes Go.WideShapes Go.RowKit
open Lex (Tok tcl tkv tk tc)
set_option linter.unusedVariables false
set_option maxRecDepth 20000
section
variable {w : World} {p g n cp : Nat} {ts : List Tok} {a : Nat}
theorem funcL_eq (l : List Tok) : func l = (if isB l machineL = true then .ok () l.tail else must funcL l).bind fun _ r => (word r).bind fun s r => (paren r).bind fun ps r => (must [123] r).bind fun _ r => (regsM r).bind fun rs r => (blocks [] r).bind fun bs r => .ok ⟨isB l machineL, ⟨s.toArray⟩, rs, ps, bs⟩ r := by
 unfold func word paren regsM
 cases (if isB l machineL = true then Res.ok () l.tail else must funcL l) with
 | bad c q => rfl
 | ok u r =>
  simp only [Res.bind]
  cases ofk 1 r with
  | bad c q => rfl
  | ok t r =>
   simp only
   cases must [40] r with
   | bad c q => rfl
   | ok u r => rfl
theorem sizeFun : (Tryz.prog.info? 27).map (·.size) = some 5 := by kernel_rfl
theorem fin_fun {fn : Func} {q : Tmp} (h : fn.results = #[.cell q 27]) {act : Act} {w : World} {g : Nat} {x0 x1 x2 x3 x4 : Value} {R : Ending → World → Prop}
  (hp : act.tmps.getD q undef = .pointer (some ⟨g, 0, none⟩)) (hg : w.heap[g]? = some (.cells #[x0, x1, x2, x3, x4] 27 (0, 0))) (hd : act.defers = [])
  (hR : R (.returned (.agg #[x0, x1, x2, x3, x4])) w) : bodyPost Tryz.prog fn R .ret act w :=
 bodyPost_ret (results_cell_row h _ _ g 27 _ (0, 0) _ hp hg Tryz.underlying27 rfl sizeFun) hd hR
structure FunM (w W : World) (p H : Nat) (mc : Bool) (nm : ByteArray) (rs : List Rg) (RA : Option Addr) (rc : Nat) (ps : List Opn) (PA : Option Addr) (pc : Nat) (old : Value) (acc : List (Blk × BlkV)) (A : Option Addr) (c m : Nat) : Prop where
 step : Step w.heap.size p w W
 lo : w.heap.size < H
 plt : p < w.heap.size
 z : W.heap[w.heap.size]? = some (.cells #[.bool false, .string ⟨#[]⟩, .slice none 0 0, .slice none 0 0, .slice none 0 0] 27 (0, 0))
 b : W.heap[H]? = some (.cells #[.bool mc, .string nm, .slice RA rs.length rc, .slice PA ps.length pc, old] 27 (0, 0))
 ownR : OwnL 81 2 Rg.cs (H + 1) W RA rc rs
 ownP : OwnL 64 4 Opn.cs (H + 1) W PA pc ps
 own : OwnL 62 4 blkC (H + 1) W A c acc
 safe : ∀ x ∈ acc, Safe (H + 1) (Value.ownBlock (.slice A m c)) W fun W => IsBlk W x.1 x.2
 len : acc.length = m
section
variable {W W' : World} {H : Nat} {mc : Bool} {nm : ByteArray} {rs : List Rg} {RA : Option Addr} {rc : Nat} {ps : List Opn} {PA : Option Addr} {pc : Nat} {old : Value} {acc : List (Blk × BlkV)} {A : Option Addr} {c m : Nat}
theorem FunM.hi (h : FunM w W p H mc nm rs RA rc ps PA pc old acc A c m) : H < W.heap.size := (Array.getElem?_eq_some_iff.1 h.b).1
theorem FunM.call (h : FunM w W p H mc nm rs RA rc ps PA pc old acc A c m) (hs : Step W.heap.size p W W') : FunM w W' p H mc nm rs RA rc ps PA pc old acc A c m := by
 have hl := h.lo
 have hp := h.plt
 have hh := h.hi
 exact ⟨h.step.trans (hs.mono h.step.size), hl, hp, by rw [hs.2.2.2.2 _ (by omega) (by omega)]; exact h.z, by rw [hs.2.2.2.2 _ hh (by omega)]; exact h.b, h.ownR.step hs (by omega), h.ownP.step hs (by omega), h.own.step hs (by omega),
  fun x hx => (h.safe x hx).keep ⟨hs.size, fun k hk hs' => hs.2.2.2.2 k hk (by have := hs'.1; omega)⟩, h.len⟩
theorem FunM.put (h : FunM w W p H mc nm rs RA rc ps PA pc old acc A c m) (j : Nat) (v : Value) {mc' : Bool} {nm' : ByteArray} {rs' : List Rg} {RA' : Option Addr} {rc' : Nat} {ps' : List Opn} {PA' : Option Addr} {pc' : Nat} {old' : Value}
  (hb : (W.setCell ⟨H, j, none⟩ v).heap[H]? = some (.cells #[.bool mc', .string nm', .slice RA' rs'.length rc', .slice PA' ps'.length pc', old'] 27 (0, 0)))
  (hR : OwnL 81 2 Rg.cs (H + 1) W RA' rc' rs') (hP : OwnL 64 4 Opn.cs (H + 1) W PA' pc' ps') : FunM w (W.setCell ⟨H, j, none⟩ v) p H mc' nm' rs' RA' rc' ps' PA' pc' old' acc A c m := by
 have hl := h.lo
 exact ⟨h.step.trans (Step.of ((Below.refl _ W).setCell (p := ⟨H, j, none⟩) (by show w.heap.size ≤ H; omega) _)), hl, h.plt, far_put h.z (by omega), hb, own_put hR (Nat.lt_succ_self _), own_put hP (Nat.lt_succ_self _), own_put h.own (Nat.lt_succ_self _), fun x hx => (h.safe x hx).keep ⟨by simp [World.setCell], fun k _ hs => Below.heap_setCell _ _ _ _ (by have := hs.1; show k ≠ H; omega)⟩, h.len⟩
theorem FunM.puts (h : FunM w W p H mc nm rs RA rc ps PA pc old acc A c m) :
  (∀ x, (W.setCell ⟨H, 0, none⟩ (.bool x)).heap[H]? = some (.cells #[.bool x, .string nm, .slice RA rs.length rc, .slice PA ps.length pc, old] 27 (0, 0))) ∧
  (∀ x, (W.setCell ⟨H, 1, none⟩ (.string x)).heap[H]? = some (.cells #[.bool mc, .string x, .slice RA rs.length rc, .slice PA ps.length pc, old] 27 (0, 0))) ∧
  (∀ A' n' c', (W.setCell ⟨H, 2, none⟩ (.slice A' n' c')).heap[H]? = some (.cells #[.bool mc, .string nm, .slice A' n' c', .slice PA ps.length pc, old] 27 (0, 0))) ∧
  (∀ A' n' c', (W.setCell ⟨H, 3, none⟩ (.slice A' n' c')).heap[H]? = some (.cells #[.bool mc, .string nm, .slice RA rs.length rc, .slice A' n' c', old] 27 (0, 0))) ∧
  (∀ v, (W.setCell ⟨H, 4, none⟩ v).heap[H]? = some (.cells #[.bool mc, .string nm, .slice RA rs.length rc, .slice PA ps.length pc, v] 27 (0, 0))) := by
 have := h.b
 refine ⟨fun _ => ?_, fun _ => ?_, fun _ _ _ => ?_, fun _ _ _ => ?_, fun _ => ?_⟩ <;> simp [World.setCell, Array.getElem?_modify, this]
theorem FunM.app (h : FunM w W p H mc nm rs RA rc ps PA pc old acc A c m) {x : Blk × BlkV} {g' c' : Nat} (hx : Safe (H + 1) (Value.ownBlock (.slice A m c)) W fun W => IsBlk W x.1 x.2) (ho : OwnL 62 4 blkC (H + 1) W' (some ⟨g', 0, none⟩) c' (acc ++ [x])) (hg : W.grownBy W' (Value.ownBlock (.slice A m c))) (hat : Value.ownBlock (.slice A m c) = some g' ∨ g' = W.heap.size) :
  FunM w W' p H mc nm rs RA rc ps PA pc old (acc ++ [x]) (some ⟨g', 0, none⟩) c' (m + 1) := by
 have hl := h.lo
 have hh := h.hi
 have hlow : ∀ k, Value.ownBlock (.slice A m c) = some k → H + 1 ≤ k := fun k hk => (h.own.lo k (by rw [h.len]; exact hk)).1
 refine ⟨h.step.grown hg (by omega) (fun k hk => by have := hlow k hk; omega), hl, h.plt, by rw [hg.block _ (by omega) (fun e => by have := hlow _ e.symm; omega)]; exact h.z, by rw [hg.block _ hh (fun e => by have := hlow _ e.symm; omega)]; exact h.b, ?_, ?_, ho, ?_, by rw [List.length_append, h.len]; rfl⟩
 ·exact own_other h.ownR hg (fun j hj => by have := own_apart h.ownR h.own (by decide) hj; rw [h.len] at this; exact this)
 ·exact own_other h.ownP hg (fun j hj => by have := own_apart h.ownP h.own (by decide) hj; rw [h.len] at this; exact this)
 ·intro y hy
  have hy' : Safe (H + 1) (Value.ownBlock (.slice A m c)) W fun W => IsBlk W y.1 y.2 := by
   rcases List.mem_append.1 hy with h1 | h1
   ·exact h.safe y h1
   ·rw [List.mem_singleton] at h1
    rw [h1]
    exact hx
  obtain ⟨lo, hi, h1, h2, h3, h4⟩ := hy'
  refine ⟨lo, hi, h1, Nat.le_trans h2 hg.size, fun k hk => ?_, h4.keep ⟨hg.size, fun k hk hs => hg.block k hk (fun e => by have := h3 k e.symm; omega)⟩⟩
  have e : g' = k := by injection hk
  rcases hat with h5 | h5
  ·exact h3 k (by rw [← e]; exact h5)
  ·right; omega
end
def FunA (N : Nat) (w' : World) (x : Fun) (val : Value) : Prop := ∃ r, val = .agg (funR x r) ∧ Held (fun k => N ≤ k) w' fun W => IsFun W x r
theorem FunM.held {W : World} {H : Nat} {mc : Bool} {nm : ByteArray} {rs : List Rg} {RA : Option Addr} {rc : Nat} {ps : List Opn} {PA : Option Addr} {pc : Nat} {old : Value} {acc : List (Blk × BlkV)} {A : Option Addr} {c m : Nat} (h : FunM w W p H mc nm rs RA rc ps PA pc old acc A c m) (x0 x1 x2 x3 x4 : Value) :
  Held (fun k => w.heap.size ≤ k) (Lex.five W w.heap.size x0 x1 x2 x3 x4) fun W => IsFun W ⟨mc, nm, rs, ps, acc.map (·.1)⟩ ⟨RA, rs.length, rc, PA, ps.length, pc, A, acc.length, c, viewB acc⟩ := by
 have hl := h.lo
 have hA : Agree (fun k => H + 1 ≤ k) W (Lex.five W w.heap.size x0 x1 x2 x3 x4) := ⟨(Lex.five_below (Below.refl 0 W) (Nat.zero_le _)).size, fun k _ hk => by unfold Lex.five; simp [World.setCell, Array.getElem?_modify, show w.heap.size ≠ k by omega]⟩
 have k0 := (OwnL.heldN h.ownR).keep hA
 have k1 := (OwnL.heldN h.ownP).keep hA
 have k2 := (OwnL.heldN h.own).keep hA
 have k3 := fun x hx => (h.safe x hx).held.keep hA
 intro W' hW
 have hW' : Agree (fun k => H + 1 ≤ k) (Lex.five W w.heap.size x0 x1 x2 x3 x4) W' := hW.weak fun k _ hk => by omega
 exact ⟨(k0 W' hW').rgs, (k1 W' hW').ops, (k2 W' hW').blks fun x hx => k3 x hx W' hW'⟩
structure FunI (w W : World) (p g n cp : Nat) (ts : List Tok) (a a' H : Nat) (mc : Bool) (nm : ByteArray) (rs : List Rg) (RA : Option Addr) (rc : Nat) (ps : List Opn) (PA : Option Addr) (pc : Nat) (acc : List (Blk × BlkV)) (A : Option Addr) (c m : Nat) : Prop where
 mem : FunM w W p H mc nm rs RA rc ps PA pc (.slice A m c) acc A c m
 rd : Lr W p g n cp ts a'
 eq : func (ts.drop a) = (blocks (acc.map (·.1)) (ts.drop a')).bind fun bs r => .ok ⟨mc, nm, rs, ps, bs⟩ r
 far : acc.length ≤ a'
set_option maxHeartbeats 8000000 in
theorem lfunc_v (h : Lr w p g n cp ts a) : Calls Tryz.prog 46 #[.pointer (some ⟨p, 0, none⟩)] w (LP w p g n cp ts a func fun w' x val => FunA w.heap.size w' x val) := by
 obtain ⟨w0, hw0⟩ : ∃ w0, w.alloc (.cells #[.bool false, .string ⟨#[]⟩, .slice none 0 0, .slice none 0 0, .slice none 0 0] 27) = w0 := ⟨_, rfl⟩
 have nb := new_box w _ 27 hw0
 have hsz : w0.heap.size = w.heap.size + 1 := by rw [← hw0]; simp
 obtain ⟨w1, hw1⟩ : ∃ w1, w0.alloc (.cells #[.bool false, .string ⟨#[]⟩, .slice none 0 0, .slice none 0 0, .slice none 0 0] 27) = w1 := ⟨_, rfl⟩
 have nb1 := new_box w0 _ 27 hw1
 rw [hsz] at nb1
 have B1 : Below w.heap.size w w1 := nb.1.trans (nb1.1.mono (by omega))
 have z1 := kept_box nb.2 (hsz ▸ nb1.1)
 obtain ⟨H, hH⟩ : ∃ H, w.heap.size + 1 = H := ⟨_, rfl⟩
 rw [hH] at nb1
 have M1 : FunM w w1 p H false ⟨#[]⟩ [] none 0 [] none 0 (.slice none 0 0) [] none 0 0 := ⟨Step.of B1, by omega, h.plt, z1, nb1.2, OwnL.nil, OwnL.nil, OwnL.nil, by simp, rfl⟩
 have HA := Hh (Ai h (Ai M1 (h.below B1)))
 clear h nb nb1 B1 z1 M1
 go_enter Tryz.func46, Tryz.ntmps46
 go_upto_region 2 with fail
 try rw [hw0]
 try rw [hw1]
 have HH1 := Hh hH
 clear hw0 hw1
 try rw [hH]
 try rw [hsz]
 try rw [hH]
 clear hsz hH
 obtain ⟨mc, hmc⟩ : ∃ b, isB (ts.drop a) machineL = b := ⟨_, rfl⟩
 have hstart : ∀ (W : World) (a1 : Nat), True := fun _ _ => trivial
 clear hstart
 have Hm := Hh hmc
 clear hmc
 go_cut [] from 4 (fun wc => ∃ a0, Hid (FunM w wc p H mc ⟨#[]⟩ [] none 0 [] none 0 (.slice none 0 0) [] none 0 0 ∧ Lr wc p g n cp ts a0 ∧ a0 = if mc = true then a + 1 else a))
 case first =>
  cases mc with
  | true =>
   go_wp2_with fail
   refine (lmay_yes ⟨#[109, 97, 99, 104, 105, 110, 101]⟩ Hm.out HA.out.2.2).mono ?_
   rintro e w2 ⟨rfl, hs, hl⟩
   have M2 := HA.out.2.1.call hs
   obtain ⟨w3, hw3⟩ : ∃ w3, w2.setCell ⟨H, 0, none⟩ (.bool true) = w3 := ⟨_, rfl⟩
   have M3 := M2.put 0 (.bool true) (M2.puts.1 true) M2.ownR M2.ownP
   rw [hw3] at M3
   have hlo := M2.lo
   have hp := M2.plt
   have hg := HA.out.1.glt
   have hbig := HA.out.1.big
   have l3 : Lr w3 p g n cp ts (a + 1) := by rw [← hw3]; exact hl.put (by omega) (by omega) (by omega)
   have HS := Hh (Ai M3 l3)
   obtain ⟨⟨d0, _⟩, e0, _⟩ := box5 M2.b
   clear hs hl M2 M3 hlo hp hg hbig l3
   go_wp2_with fail
   try rw [hw3]
   go_meet
   case rel => exact ⟨a + 1, Hh ⟨HS.out.1, HS.out.2, rfl⟩⟩
  | false =>
   go_wp2_with fail
   refine (lmay_no ⟨#[109, 97, 99, 104, 105, 110, 101]⟩ Hm.out HA.out.2.2).mono ?_
   rintro e w2 ⟨rfl, hb2⟩
   have M2 := HA.out.2.1.call (Step.of hb2)
   obtain ⟨w3, hw3⟩ : ∃ w3, w2.setCell ⟨H, 0, none⟩ (.bool false) = w3 := ⟨_, rfl⟩
   have M3 := M2.put 0 (.bool false) (M2.puts.1 false) M2.ownR M2.ownP
   rw [hw3] at M3
   have hlo := M2.lo
   have hp := M2.plt
   have hg := HA.out.1.glt
   have hbig := HA.out.1.big
   have l3 : Lr w3 p g n cp ts a := by rw [← hw3]; exact (HA.out.2.2.below hb2).put (by omega) (by omega) (by omega)
   have HS := Hh (Ai M3 l3)
   obtain ⟨⟨d0, _⟩, e0, _⟩ := box5 M2.b
   clear hb2 M2 M3 hlo hp hg hbig l3
   go_wp2_with fail
   try rw [hw3]
   go_meet
   case rel => exact ⟨a, Hh ⟨HS.out.1, HS.out.2, rfl⟩⟩
 obtain ⟨a0, HT⟩ := hcut
 have g0 : wc.cell? ⟨H, 0, none⟩ = some (.bool mc) := cell_in HT.out.1.b 0
 go_upto_if 9 with fail
 clear g0
 go_cut [] from 4 (fun wc => ∃ a1, Hid (FunM w wc p H mc ⟨#[]⟩ [] none 0 [] none 0 (.slice none 0 0) [] none 0 0 ∧ Lr wc p g n cp ts a1 ∧ func (ts.drop a) = (word (ts.drop a1)).bind fun s r => (paren r).bind fun ps r => (must [123] r).bind fun _ r => (regsM r).bind fun rs r => (blocks [] r).bind fun bs r => .ok ⟨mc, ⟨s.toArray⟩, rs, ps, bs⟩ r))
 case first =>
  cases mc with
  | true =>
   go_wp2_with fail
   go_meet
   case rel =>
    refine ⟨a0, Hh ⟨HT.out.1, HT.out.2.1, ?_⟩⟩
    rw [funcL_eq, Hm.out, if_pos rfl, tail_at, show a0 = a + 1 from HT.out.2.2]
    rfl
  | false =>
   go_wp2_with fail
   refine (lmust_v ⟨#[102, 117, 110, 99]⟩ HT.out.2.1).mono ?_
   rintro e w4 ⟨hs, ⟨_, a1, val, hm, rfl, rfl, hl⟩ | ⟨c0, q, hc, hm, rfl⟩⟩
   rotate_left
   ·go_wp2_with fail
    refine ⟨rfl, HT.out.1.step.trans (hs.mono HT.out.1.step.size), Or.inr ⟨c0, q, hc, ?_, rfl⟩⟩
    rw [funcL_eq, Hm.out, ← show a0 = a from HT.out.2.2]
    show (must funcL (ts.drop a0)).bind _ = _
    rw [show must funcL (ts.drop a0) = _ from hm]
    rfl
   have HS := Hh (Ai (HT.out.1.call hs) (Ai hl (show func (ts.drop a) = (word (ts.drop a1)).bind fun s r => (paren r).bind fun ps r => (must [123] r).bind fun _ r => (regsM r).bind fun rs r => (blocks [] r).bind fun bs r => .ok ⟨false, ⟨s.toArray⟩, rs, ps, bs⟩ r by
    rw [funcL_eq, Hm.out, ← show a0 = a from HT.out.2.2]
    show (must funcL (ts.drop a0)).bind _ = _
    rw [show must funcL (ts.drop a0) = _ from hm]
    rfl)))
   clear hs hl hm
   go_wp2_with fail
   go_meet
   case rel => exact ⟨a1, HS⟩
 obtain ⟨a1, HS⟩ := hcut
 clear HT
 go_wp2_with fail
 refine (lword_v HS.out.2.1).mono ?_
 rintro e w5 ⟨hs, ⟨s, a2, val, hm, rfl, rfl, hl⟩ | ⟨c0, q, hc, hm, rfl⟩⟩
 rotate_left
 ·go_wp2_with fail
  refine ⟨rfl, HS.out.1.step.trans (hs.mono HS.out.1.step.size), Or.inr ⟨c0, q, hc, ?_, rfl⟩⟩
  rw [HS.out.2.2, hm]
  rfl
 have M5 := HS.out.1.call hs
 obtain ⟨w6, hw6⟩ : ∃ w6, w5.setCell ⟨H, 1, none⟩ (.string ⟨s.toArray⟩) = w6 := ⟨_, rfl⟩
 have M6 := M5.put 1 (.string ⟨s.toArray⟩) (M5.puts.2.1 _) M5.ownR M5.ownP
 rw [hw6] at M6
 have hlo := M5.lo
 have hp := M5.plt
 have hg := HA.out.1.glt
 have hbig := HA.out.1.big
 have l6 : Lr w6 p g n cp ts a2 := by rw [← hw6]; exact hl.put (by omega) (by omega) (by omega)
 have HU := Hh (Ai M6 (Ai l6 hm))
 obtain ⟨⟨_, d1, _⟩, _, e1, _⟩ := box5 M5.b
 clear hs hl hm M5 M6 hlo hp hg hbig l6
 go_wp2_with fail
 try rw [hw6]
 clear hw6 d1 e1
 refine (lpar_v HU.out.2.1).mono ?_
 rintro e w7 ⟨hs, ⟨ps, a3, val, hm, rfl, ⟨hxs, PA, pc, rfl, ho⟩, hl⟩ | ⟨c0, q, hc, hm, rfl⟩⟩
 rotate_left
 ·go_wp2_with fail
  refine ⟨rfl, HU.out.1.step.trans (hs.mono HU.out.1.step.size), Or.inr ⟨c0, q, hc, ?_, rfl⟩⟩
  rw [HS.out.2.2, HU.out.2.2, bindOk, hm]
  rfl
 have M7 := HU.out.1.call hs
 obtain ⟨w8, hw8⟩ : ∃ w8, w7.setCell ⟨H, 3, none⟩ (.slice PA ps.length pc) = w8 := ⟨_, rfl⟩
 have M8 := M7.put 3 (.slice PA ps.length pc) (M7.puts.2.2.2.1 _ _ _) M7.ownR (ho.less HU.out.1.hi)
 rw [hw8] at M8
 have hlo := M7.lo
 have hp := M7.plt
 have hg := HA.out.1.glt
 have hbig := HA.out.1.big
 have l8 : Lr w8 p g n cp ts a3 := by rw [← hw8]; exact hl.put (by omega) (by omega) (by omega)
 have HV := Hh (Ai M8 (Ai l8 hm))
 obtain ⟨⟨_, _, _, d3, _⟩, _, _, _, e3, _⟩ := box5 M7.b
 clear hs hl hm M7 M8 hlo hp hg hbig l8 ho hxs
 go_wp2_with fail
 try rw [hw8]
 clear hw8 d3 e3
 refine (lmust_v ⟨#[123]⟩ HV.out.2.1).mono ?_
 rintro e w9 ⟨hs, ⟨_, a4, val, hm, rfl, rfl, hl⟩ | ⟨c0, q, hc, hm, rfl⟩⟩
 rotate_left
 ·go_wp2_with fail
  refine ⟨rfl, HV.out.1.step.trans (hs.mono HV.out.1.step.size), Or.inr ⟨c0, q, hc, ?_, rfl⟩⟩
  rw [HS.out.2.2, HU.out.2.2, bindOk, HV.out.2.2, bindOk, show must [123] (ts.drop a3) = _ from hm]
  rfl
 have HW := Hh (Ai (HV.out.1.call hs) (Ai hl hm))
 clear hs hl hm
 go_wp2_with fail
 refine (lregs_v HW.out.2.1).mono ?_
 rintro e w10 ⟨hs, ⟨rs, a5, val, hm, rfl, ⟨hxs, RA, rc, rfl, ho⟩, hl⟩ | ⟨c0, q, hc, hm, rfl⟩⟩
 rotate_left
 ·go_wp2_with fail
  refine ⟨rfl, HW.out.1.step.trans (hs.mono HW.out.1.step.size), Or.inr ⟨c0, q, hc, ?_, rfl⟩⟩
  rw [HS.out.2.2, HU.out.2.2, bindOk, HV.out.2.2, bindOk, show must [123] (ts.drop a3) = _ from HW.out.2.2, bindOk, hm]
  rfl
 have M10 := HW.out.1.call hs
 obtain ⟨w11, hw11⟩ : ∃ w11, w10.setCell ⟨H, 2, none⟩ (.slice RA rs.length rc) = w11 := ⟨_, rfl⟩
 have M11 := M10.put 2 (.slice RA rs.length rc) (M10.puts.2.2.1 _ _ _) (ho.less HW.out.1.hi) M10.ownP
 rw [hw11] at M11
 have hlo := M10.lo
 have hp := M10.plt
 have hg := HA.out.1.glt
 have hbig := HA.out.1.big
 have l11 : Lr w11 p g n cp ts a5 := by rw [← hw11]; exact hl.put (by omega) (by omega) (by omega)
 have hI : FunI w w11 p g n cp ts a a5 H mc ⟨s.toArray⟩ rs RA rc ps PA pc [] none 0 0 := ⟨M11, l11, by
  rw [HS.out.2.2, HU.out.2.2, bindOk, HV.out.2.2, bindOk, show must [123] (ts.drop a3) = _ from HW.out.2.2, bindOk, hm]
  rfl, Nat.zero_le _⟩
 have HI := Hh hI
 obtain ⟨⟨_, _, d2, _, _⟩, _, _, e2, _, _⟩ := box5 M10.b
 clear hs hl hm M10 M11 hlo hp hg hbig l11 ho hxs hI
 go_wp2_with fail
 try rw [hw11]
 clear hw11 d2 e2
 go_loopg [] (n - a5) (fun gk wr => ∃ (a' : Nat) (acc : List (Blk × BlkV)) (A : Option Addr) (c m : Nat), gk = n - a' ∧ Hid (FunI w wr p g n cp ts a a' H mc ⟨s.toArray⟩ rs RA rc ps PA pc acc A c m))
 case atStart => exact ⟨a5, [], none, 0, 0, rfl, HI.out⟩
 case round =>
  obtain ⟨a', acc, A, c, m, hk, HR⟩ := hrel
  have hla := HR.out.rd.lt
  cases hr1 : isB (ts.drop a') [125] with
  | true =>
   have HK := Hh (Ai hk (Ai hla hr1))
   clear hk hla hr1
   go_wp2_with fail
   refine (lmay_yes ⟨#[125]⟩ HK.out.2.2 HR.out.rd).mono ?_
   rintro e w12 ⟨rfl, hs, hl⟩
   have HE := Hh (Ai (HR.out.mem.call hs) hl)
   clear hs hl
   obtain ⟨⟨u0, u1, u2, u3, u4⟩, _⟩ := box5 HE.out.1.b
   obtain ⟨⟨v0, v1, v2, v3, v4⟩, y0, y1, y2, y3, y4⟩ := box5 HE.out.1.z
   go_wp2_with fail
   refine fin_fun (fn := Tryz.f46) rfl rfl (Lex.five_heap HE.out.1.z) rfl ?_
   have hb : Below w.heap.size w12 (Lex.five w12 w.heap.size (.bool mc) (.string ⟨s.toArray⟩) (.slice RA rs.length rc) (.slice PA ps.length pc) (.slice A m c)) := Lex.five_below (Below.refl _ w12) (Nat.le_refl _)
   refine ⟨HE.out.1.step.trans (Step.of hb), Or.inl ⟨⟨mc, ⟨s.toArray⟩, rs, ps, acc.map (·.1)⟩, a' + 1, _, ?_, rfl, ⟨⟨RA, rs.length, rc, PA, ps.length, pc, A, acc.length, c, viewB acc⟩, ?_, HE.out.1.held _ _ _ _ _⟩, HE.out.2.far hb HA.out.1.plt HA.out.1.glt⟩⟩
   ·rw [HR.out.eq, blocks_eq, if_pos HK.out.2.2, tail_at]
    rfl
   ·unfold funR
    rw [HE.out.1.len]
  | false =>
   have HK := Hh (Ai hk (Ai hla hr1))
   have hq : func (ts.drop a) = (block (ts.drop a')).bind fun x r => (blocks (acc.map (·.1) ++ [x]) r).bind fun bs r => .ok ⟨mc, ⟨s.toArray⟩, rs, ps, bs⟩ r := by
    rw [HR.out.eq, blocks_eq, hr1]
    show ((block (ts.drop a')).bind _).bind _ = _
    cases block (ts.drop a') <;> rfl
   have HQ := Hh hq
   clear hk hla hr1 hq
   go_wp2_with fail
   refine (lmay_no ⟨#[125]⟩ HK.out.2.2 HR.out.rd).mono ?_
   rintro e w12 ⟨rfl, hb12⟩
   have HR9 := Hh (FunI.mk (HR.out.mem.call (Step.of hb12)) (HR.out.rd.below hb12) HR.out.eq HR.out.far)
   clear hb12 HR
   have HR := HR9
   clear HR9
   go_wp2_with fail
   have hlen : m ≤ 2000000 := by have := HR.out.far; have := HR.out.mem.len; have := HA.out.1.few; have := HK.out.2.1; omega
   have HLEN := Hh hlen
   clear hlen
   have bd := (Below.refl w12.heap.size w12).drew
   obtain ⟨wd, hwd⟩ : ∃ wd, w12.drew = wd := ⟨_, rfl⟩
   rw [hwd] at bd
   have HMd := Hh (HR.out.mem.call (Step.of bd))
   have HLd := Hh (HR.out.rd.below bd)
   obtain ⟨⟨_, _, _, _, c3⟩, _⟩ := box5 HMd.out.b
   clear bd
   refine region_z 7 (fun W => W.cell? ⟨H, 4, none⟩ = some (.slice A m c)) (by kernel_rfl) ?_
   rw [hwd]
   clear hwd
   refine anyZ_take (i := 0) (v := .pointer (some ⟨H, 4, none⟩)) rfl (by kernel_rfl) (fun _ _ _ h => h) (Or.inl ⟨by rfl, by intro W hSw; go_simp; try with_reducible rfl⟩) c3 ?_
   try dsimp only [Act.put, Lzs, Lz0, Lz1]
   refine anyZ_take (i := 1) (v := .slice A m c) rfl (by kernel_rfl) (fun _ _ _ h => h) (Or.inl ⟨by rfl, by intro W hSw; go_simp; try with_reducible rfl⟩) c3 ?_
   try dsimp only [Act.put, Lzs, Lz0, Lz1]
   refine anyZ_take (i := 2) (v := .pointer (some ⟨p, 0, none⟩)) rfl (by kernel_rfl) (fun _ _ _ h => h) (Or.inl ⟨by rfl, by intro W hSw; go_simp; try with_reducible rfl⟩) c3 ?_
   try dsimp only [Act.put, Lzs, Lz0, Lz1]
   refine anyZ_one (i := 3) (by kernel_rfl) rfl (fun K hK => ?_)
   go_simp
   refine Calls.mono (lblock_v HLd.out) ?_
   rintro e w4 ⟨hs, ⟨x, b2, val, hm, rfl, ⟨r, rfl, hH⟩, hl⟩ | ⟨c0, q, hc, hm, rfl⟩⟩
   rotate_left
   ·refine ⟨rfl, HMd.out.step.trans (hs.mono HMd.out.step.size), Or.inr ⟨c0, q, hc, ?_, rfl⟩⟩
    rw [HQ.out, hm]
    rfl
   have HM4 := Hh (HMd.out.call hs)
   have HX := Hh (Ai hm (safe_new (N := H + 1) (row := Value.ownBlock (.slice A m c)) hH HMd.out.hi (fun k hk => (HMd.out.own.lo k (by rw [HMd.out.len]; exact hk)).2)))
   have HL4 := Hh hl
   clear hs hm hH hl
   obtain ⟨⟨_, _, _, _, c3'⟩, _⟩ := box5 HM4.out.b
   unfold blkR
   go_wp2_with fail
   refine hK.out _ _ (fun _ => c3') ?_
   clear hK K
   try dsimp only [Act.put, Lzs, Lz0, Lz1]
   refine anyZ_one (i := 4) (by kernel_rfl) rfl (fun K hK => ?_)
   obtain ⟨w5, hw5⟩ : ∃ w5, w4.alloc (.cells #[.string x.label, .bool x.edge, .slice r.ia r.il r.ic, .slice r.ka r.kn r.kc] 62) = w5 := ⟨_, rfl⟩
   have nb := new_box w4 _ 62 hw5
   have HM5 := Hh (HM4.out.call (Step.of nb.1))
   have HL5 := Hh (HL4.out.below nb.1)
   have HB5 := Hh (Ai nb.2 (HX.out.2.keep ⟨nb.1.size, fun k hk _ => nb.1.block k hk⟩))
   clear nb
   obtain ⟨⟨_, _, _, _, c3''⟩, _⟩ := box5 HM5.out.b
   go_simp
   try rw [hw5]
   clear hw5
   refine hK.out _ _ (fun _ => c3'') ?_
   clear hK K
   try dsimp only [Act.put, Lzs, Lz0, Lz1]
   refine anyZ_one (i := 5) (by kernel_rfl) rfl (fun K hK => ?_)
   rw [if_pos (by rfl)]
   refine own_app_wp rowBlk _ _ rfl HM5.out.len rfl HM5.out.own w4.heap.size (x, r) rfl HB5.out.1 HLEN.out HM5.out.hi ?_
   intro g' c' w6 ho hg hat
   have HM6 := Hh (HM5.out.app HB5.out.2 ho hg hat)
   have HL6 := Hh (HL5.out.grown (N := H + 1) hg HM5.out.hi (fun k hk => (HM5.out.own.lo k (by rw [HM5.out.len]; exact hk)).1) (by have := HM5.out.lo; have := HM5.out.plt; omega) (by have := HM5.out.lo; have := HA.out.1.glt; omega))
   clear ho hg hat
   obtain ⟨⟨_, _, _, _, d3⟩, _, _, _, _, g3⟩ := box5 HM6.out.b
   refine hK.out _ _ (fun _ => d3) ?_
   clear hK K
   try dsimp only [Act.put, Lzs, Lz0, Lz1]
   refine anyZ_take (i := 6) (v := .pointer (some ⟨H, 4, none⟩)) rfl (by kernel_rfl) (fun _ _ _ h => h) (Or.inl ⟨by rfl, by intro W hSw; go_simp; try with_reducible rfl⟩) d3 ?_
   try dsimp only [Act.put, Lzs, Lz0, Lz1]
   refine anyZ_one (i := 7) (by kernel_rfl) rfl (fun K hK => ?_)
   obtain ⟨w7, hw7⟩ : ∃ w7, w6.setCell ⟨H, 4, none⟩ (.slice (some ⟨g', 0, none⟩) (m + 1) c') = w7 := ⟨_, rfl⟩
   have HM7 := Hh (hw7 ▸ HM6.out.put 4 (.slice (some ⟨g', 0, none⟩) (m + 1) c') (HM6.out.puts.2.2.2.2 _) HM6.out.ownR HM6.out.ownP)
   have HL7 := Hh (hw7 ▸ HL6.out.put (I := H) (o := 4) (v := .slice (some ⟨g', 0, none⟩) (m + 1) c') (by have := HM6.out.lo; have := HM6.out.plt; omega) (by have := HM6.out.lo; have := HA.out.1.glt; omega) (by have := HM6.out.lo; have := HM6.out.plt; have := HA.out.1.big; omega))
   go_simp
   try rw [hw7]
   clear hw7
   refine hK.out _ _ (fun h => absurd rfl h) ?_
   clear hK K
   try dsimp only [Act.put, Lzs, Lz0, Lz1]
   refine anyZ_done (by kernel_rfl) ?_ _
   have hlt := drop_lt (block_sub HX.out.1) (by rw [HA.out.1.len]; exact HK.out.2.1)
   have hI : FunI w w7 p g n cp ts a b2 H mc ⟨s.toArray⟩ rs RA rc ps PA pc (acc ++ [(x, r)]) (some ⟨g', 0, none⟩) c' (m + 1) := ⟨HM7.out, HL7.out, by rw [HQ.out, HX.out.1, List.map_append]; rfl, by rw [List.length_append]; have := HR.out.far; simp; omega⟩
   have HI := Hh hI
   have ha2 := HL7.out.lt
   have ha' := HK.out.2.1
   have hgk := HK.out.1
   clear hI
   go_wp2_with fail
   go_roundg (n - b2)
   case measure => omega
   case rel => exact ⟨b2, acc ++ [(x, r)], _, _, _, rfl, HI.out⟩
end
end Go.Proofs.YtbpichjmkllfaaaGreatDoor.Par
