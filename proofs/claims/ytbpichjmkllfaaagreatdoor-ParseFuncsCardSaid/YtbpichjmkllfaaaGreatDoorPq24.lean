/- Packed texts of one proof. Conditions: none. -/
import Derived.Test.YtbpichjmkllfaaaGreatDoorPq23
import Derived.Deep.CutRange
namespace Go.Proofs.YtbpichjmkllfaaaGreatDoor.Par
open Go.ChangeShapes Go.WideShapes Go.RowKit
open Lex (Tok tcl tkv tk tc)
set_option linter.unusedVariables false
set_option maxRecDepth 20000
def Safe (N : Nat) (row : Option Nat) (W : World) (P : World → Prop) : Prop := ∃ lo hi, N ≤ lo ∧ hi ≤ W.heap.size ∧ (∀ k, row = some k → k < lo ∨ hi ≤ k) ∧ Held (fun k => lo ≤ k ∧ k < hi) W P
theorem safe_new {N lo : Nat} {row : Option Nat} {W : World} {P : World → Prop} (h : Held (fun k => lo ≤ k) W P) (hN : N ≤ lo) (hr : ∀ k, row = some k → k < lo) : Safe N row W P :=
 ⟨lo, W.heap.size, hN, Nat.le_refl _, fun k e => .inl (hr k e), h.weak fun k hk hl => ⟨hl, hk⟩⟩
theorem Safe.keep {N : Nat} {row : Option Nat} {W W' : World} {P : World → Prop} (h : Safe N row W P) (hA : Agree (fun k => N ≤ k ∧ some k ≠ row) W W') : Safe N row W' P := by
 obtain ⟨lo, hi, h1, h2, h3, h4⟩ := h
 exact ⟨lo, hi, h1, Nat.le_trans h2 hA.1, h3, h4.keep (hA.weak fun k _ hk => ⟨by omega, fun e => by have := h3 k e.symm; omega⟩)⟩
theorem Safe.row {N : Nat} {row row' : Option Nat} {W : World} {P : World → Prop} (h : Safe N row W P) (hr : ∀ k, row' = some k → row = some k ∨ W.heap.size ≤ k) : Safe N row' W P := by
 obtain ⟨lo, hi, h1, h2, h3, h4⟩ := h
 exact ⟨lo, hi, h1, h2, fun k e => (hr k e).elim (h3 k) (fun h => .inr (by omega)), h4⟩
theorem Safe.held {N : Nat} {row : Option Nat} {W : World} {P : World → Prop} (h : Safe N row W P) : Held (fun k => N ≤ k) W P := by
 obtain ⟨lo, hi, h1, _, _, h4⟩ := h
 exact h4.weak fun k _ hk => by omega
section
variable {α : Type} {T st : TypeId} {sz : Nat} {cs : α → List Value}
theorem own_app_wp (hK : RowK T st sz cs) {W : World} {o : Oper} {a : Act} {K : Act → World → Prop} {Q : Exit → Act → World → Prop} (s x : Operand)
  (ho : o.op = .call { callee := .builtin .append, args := #[s, x], argTypes := #[st, st] })
  {N : Nat} {A : Option Addr} {c m : Nat} {l : List α} (hm : l.length = m) (hs : a.eval s = .slice A m c) (hown : OwnL T sz cs N W A c l) (b : Nat) (r : α) (hx : a.eval x = .slice (some ⟨b, 0, none⟩) 1 1)
  (hb : W.heap[b]? = some (.cells (cs r).toArray T (0, 0))) (hlen : m ≤ 2000000) (hN : N ≤ W.heap.size)
  (h : ∀ g c' w', OwnL T sz cs N w' (some ⟨g, 0, none⟩) c' (l ++ [r]) → W.grownBy w' (Value.ownBlock (.slice A m c)) → (Value.ownBlock (.slice A m c) = some g ∨ g = W.heap.size) → K (a.put o.dst (.slice (some ⟨g, 0, none⟩) (m + 1) c')) w') : o.wp Tryz.prog a W K Q := by
 obtain ⟨i, z, hi, hz, hz1, hz2, hz3⟩ := hK.info
 subst hm
 refine wp_append_lies W s x st ho N T i z sz i.bytes hK.under hi hz hz1 rfl hz3 hK.pos (.slice A l.length c) l.length (l.flatMap cs) hs hown ⟨b, 0, none⟩ 1 1 (cs r) hx (by rw [hK.len, Nat.one_mul]) ?_ (hK.one r) (by decide) (by unfold maxLen; omega) ?_ hN W.heap.size rfl ?_
 ·intro j u hu
  have hj : (⟨b, 0, none⟩ : Addr).add j = ⟨b, j, none⟩ := by rw [add_at]; simp
  rw [hj, cell_in hb j]
  simpa using hu
 ·have h1 : (l.length + 1) * i.bytes ≤ 2000001 * 1000000 := Nat.mul_le_mul (by omega) hz2
  omega
 ·intro g cap w' ho' hg hat _
  exact h g cap w' (own_more ho' rfl) hg hat
end
section
variable {w : World} {p g n cp : Nat} {ts : List Tok} {a : Nat}
theorem blockL_eq (l : List Tok) : block l = (namedM l).bind fun s r => (if isB r [91] = true then ops [93] [] r.tail else .ok [] r).bind fun ins r => (must [58] r).bind fun _ r => (code [] r).bind fun c r => .ok ⟨⟨s.toArray⟩, edgeB l, ins, c⟩ r := by
 unfold block namedM word
 cases edgeB l with
 | false =>
  simp only [Bool.false_eq_true, if_false]
  cases ofk 1 l <;> rfl
 | true =>
  simp only [if_true]
  cases ofk 1 l.tail with
  | bad c q => rfl
  | ok t r =>
   simp only [Res.bind]
   cases must [46] r with
   | bad c q => rfl
   | ok u r =>
    simp only
    cases ofk 1 r <;> rfl
structure BlkM (w W : World) (p H : Nat) (s : ByteArray) (e : Bool) (ins : List Opn) (IA : Option Addr) (icap : Nat) (old : Value) (acc : List (Ins × InsV)) (A : Option Addr) (c m : Nat) : Prop where
 step : Step w.heap.size p w W
 lo : w.heap.size < H
 plt : p < w.heap.size
 z : W.heap[w.heap.size]? = some (.cells #[.string ⟨#[]⟩, .bool false, .slice none 0 0, .slice none 0 0] 62 (0, 0))
 b : W.heap[H]? = some (.cells #[.string s, .bool e, .slice IA ins.length icap, old] 62 (0, 0))
 ownI : OwnL 64 4 Opn.cs (H + 1) W IA icap ins
 own : OwnL 67 10 insC (H + 1) W A c acc
 safe : ∀ x ∈ acc, Safe (H + 1) (Value.ownBlock (.slice A m c)) W fun W => IsIns W x.1 x.2
 len : acc.length = m
section
variable {W W' : World} {H : Nat} {s : ByteArray} {e : Bool} {ins : List Opn} {IA : Option Addr} {icap : Nat} {old : Value} {acc : List (Ins × InsV)} {A : Option Addr} {c m : Nat}
theorem BlkM.hi (h : BlkM w W p H s e ins IA icap old acc A c m) : H < W.heap.size := (Array.getElem?_eq_some_iff.1 h.b).1
theorem BlkM.call (h : BlkM w W p H s e ins IA icap old acc A c m) (hs : Step W.heap.size p W W') : BlkM w W' p H s e ins IA icap old acc A c m := by
 have hl := h.lo
 have hp := h.plt
 have hh := h.hi
 exact ⟨h.step.trans (hs.mono h.step.size), hl, hp, by rw [hs.2.2.2.2 _ (by omega) (by omega)]; exact h.z, by rw [hs.2.2.2.2 _ hh (by omega)]; exact h.b, h.ownI.step hs (by omega), h.own.step hs (by omega),
  fun x hx => (h.safe x hx).keep ⟨hs.size, fun k hk hs' => hs.2.2.2.2 k hk (by have := hs'.1; omega)⟩, h.len⟩
theorem BlkM.put (h : BlkM w W p H s e ins IA icap old acc A c m) (v : Value) : BlkM w (W.setCell ⟨H, 3, none⟩ v) p H s e ins IA icap v acc A c m := by
 have hl := h.lo
 refine ⟨h.step.trans (Step.of ((Below.refl _ W).setCell (p := ⟨H, 3, none⟩) (by show w.heap.size ≤ H; omega) _)), hl, h.plt, far_put h.z (by omega), ?_, own_put h.ownI (Nat.lt_succ_self _), own_put h.own (Nat.lt_succ_self _), fun x hx => (h.safe x hx).keep ⟨by simp [World.setCell], fun k _ hs => Below.heap_setCell _ _ _ _ (by have := hs.1; show k ≠ H; omega)⟩, h.len⟩
 have := h.b
 simp [World.setCell, Array.getElem?_modify, this]
theorem BlkM.app (h : BlkM w W p H s e ins IA icap old acc A c m) {x : Ins × InsV} {g' c' : Nat} (hx : Safe (H + 1) (Value.ownBlock (.slice A m c)) W fun W => IsIns W x.1 x.2) (ho : OwnL 67 10 insC (H + 1) W' (some ⟨g', 0, none⟩) c' (acc ++ [x])) (hg : W.grownBy W' (Value.ownBlock (.slice A m c))) (hat : Value.ownBlock (.slice A m c) = some g' ∨ g' = W.heap.size) :
  BlkM w W' p H s e ins IA icap old (acc ++ [x]) (some ⟨g', 0, none⟩) c' (m + 1) := by
 have hl := h.lo
 have hh := h.hi
 have hlow : ∀ k, Value.ownBlock (.slice A m c) = some k → H + 1 ≤ k := fun k hk => (h.own.lo k (by rw [h.len]; exact hk)).1
 refine ⟨h.step.grown hg (by omega) (fun k hk => by have := hlow k hk; omega), hl, h.plt, by rw [hg.block _ (by omega) (fun e => by have := hlow _ e.symm; omega)]; exact h.z, by rw [hg.block _ hh (fun e => by have := hlow _ e.symm; omega)]; exact h.b, ?_, ho, ?_, by rw [List.length_append, h.len]; rfl⟩
 ·exact own_other h.ownI hg (fun j hj => by have := own_apart h.ownI h.own (by decide) hj; rw [h.len] at this; exact this)
 ·intro y hy
  have hy' : Safe (H + 1) (Value.ownBlock (.slice A m c)) W fun W => IsIns W y.1 y.2 := by
   rcases List.mem_append.1 hy with h1 | h1
   ·exact h.safe y h1
   ·rw [List.mem_singleton] at h1
    rw [h1]
    exact hx
  have hr : Safe (H + 1) (Value.ownBlock (.slice (some ⟨g', 0, none⟩) (m + 1) c')) W fun W => IsIns W y.1 y.2 := by
   refine hy'.row fun k hk => ?_
   have e : g' = k := by injection hk
   rcases hat with h1 | h1
   ·left; rw [← e]; exact h1
   ·right; rw [← e, h1]; exact Nat.le_refl _
  obtain ⟨lo, hi, h1, h2, h3, h4⟩ := hy'
  obtain ⟨lo', hi', k1, k2, k3, k4⟩ := hr
  refine ⟨lo, hi, h1, Nat.le_trans h2 hg.size, fun k hk => ?_, h4.keep ⟨hg.size, fun k hk hs => hg.block k hk (fun e => by have := h3 k e.symm; omega)⟩⟩
  have e : g' = k := by injection hk
  rcases hat with h5 | h5
  ·exact h3 k (by rw [← e]; exact h5)
  ·right; omega
end
def BlkA (N : Nat) (w' : World) (x : Blk) (val : Value) : Prop := ∃ r, val = .agg (blkR x r) ∧ Held (fun k => N ≤ k) w' fun W => IsBlk W x r
theorem BlkM.held {W : World} {H : Nat} {s : ByteArray} {e : Bool} {ins : List Opn} {IA : Option Addr} {icap : Nat} {old : Value} {acc : List (Ins × InsV)} {A : Option Addr} {c m : Nat} (h : BlkM w W p H s e ins IA icap old acc A c m) (x0 x1 x2 x3 : Value) :
  Held (fun k => w.heap.size ≤ k) (four W w.heap.size x0 x1 x2 x3) fun W => IsBlk W ⟨s, e, ins, acc.map (·.1)⟩ ⟨IA, ins.length, icap, A, acc.length, c, viewI acc⟩ := by
 have hl := h.lo
 have hA : Agree (fun k => H + 1 ≤ k) W (four W w.heap.size x0 x1 x2 x3) := ⟨by rw [four_size]; exact Nat.le_refl _, fun k _ hk => four_far (by omega)⟩
 have k1 := (OwnL.heldN h.ownI).keep hA
 have k2 := (OwnL.heldN h.own).keep hA
 have k3 := fun x hx => (h.safe x hx).held.keep hA
 intro W' hW
 have hW' : Agree (fun k => H + 1 ≤ k) (four W w.heap.size x0 x1 x2 x3) W' := hW.weak fun k _ hk => by omega
 exact ⟨(k1 W' hW').ops, (k2 W' hW').code fun x hx => k3 x hx W' hW'⟩
structure BlkI (w W : World) (p g n cp : Nat) (ts : List Tok) (a a' H : Nat) (s : List UInt8) (b : Bool) (ins : List Opn) (IA : Option Addr) (icap : Nat) (acc : List (Ins × InsV)) (A : Option Addr) (c m : Nat) : Prop where
 mem : BlkM w W p H ⟨s.toArray⟩ b ins IA icap (.slice A m c) acc A c m
 rd : Lr W p g n cp ts a'
 eq : block (ts.drop a) = (code (acc.map (·.1)) (ts.drop a')).bind fun cd r => .ok ⟨⟨s.toArray⟩, b, ins, cd⟩ r
 far : acc.length ≤ a'
theorem BlkI.fin {w W : World} {a' H : Nat} {s : List UInt8} {b : Bool} {ins : List Opn} {IA : Option Addr} {icap : Nat} {acc : List (Ins × InsV)} {A : Option Addr} {c m : Nat} (hI : BlkI w W p g n cp ts a a' H s b ins IA icap acc A c m) (hg : g < w.heap.size) (he : (isB (ts.drop a') [125] || begins (ts.drop a')) = true) (val : Value) (hv : val = .agg #[.string ⟨s.toArray⟩, .bool b, .slice IA ins.length icap, .slice A m c]) :
  LP w p g n cp ts a block (fun w' x val => BlkA w.heap.size w' x val) (.returned val) (four W w.heap.size (.string ⟨s.toArray⟩) (.bool b) (.slice IA ins.length icap) (.slice A m c)) := by
 have hb : Below w.heap.size W (four W w.heap.size (.string ⟨s.toArray⟩) (.bool b) (.slice IA ins.length icap) (.slice A m c)) := four_below (Below.refl _ W) (Nat.le_refl _)
 refine ⟨hI.mem.step.trans (Step.of hb), Or.inl ⟨⟨⟨s.toArray⟩, b, ins, acc.map (·.1)⟩, a', val, ?_, rfl, ⟨⟨IA, ins.length, icap, A, acc.length, c, viewI acc⟩, ?_, hI.mem.held _ _ _ _⟩, hI.rd.far hb hI.mem.plt hg⟩⟩
 ·rw [hI.eq, code_eq, if_pos he]
  rfl
 ·rw [hv]
  unfold blkR
  rw [hI.mem.len]
set_option maxHeartbeats 4000000 in
theorem lblock_v (h : Lr w p g n cp ts a) : Calls Tryz.prog 80 #[.pointer (some ⟨p, 0, none⟩)] w (LP w p g n cp ts a block fun w' x val => BlkA w.heap.size w' x val) := by
 obtain ⟨b, hb⟩ : ∃ b, edgeB (ts.drop a) = b := ⟨_, rfl⟩
 obtain ⟨w0, hw0⟩ : ∃ w0, w.alloc (.cells #[.string ⟨#[]⟩, .bool false, .slice none 0 0, .slice none 0 0] 62) = w0 := ⟨_, rfl⟩
 have nb := new_box w _ 62 hw0
 have HA := Hh (Ai h (Ai hb nb))
 clear h hb nb
 go_enter Tryz.func80, Tryz.ntmps80
 go_wp2_with fail
 try rw [hw0]
 clear hw0
 refine (lnamed_v b HA.out.2.1 (HA.out.1.below HA.out.2.2.1)).mono ?_
 rintro e w1 ⟨hs, ⟨s, a1, val, hm, rfl, rfl, hl⟩ | ⟨c0, q, hc, hm, rfl⟩⟩
 rotate_left
 ·go_wp2_with fail
  refine ⟨rfl, (Step.of HA.out.2.2.1).trans (hs.mono HA.out.2.2.1.size), Or.inr ⟨c0, q, hc, ?_, rfl⟩⟩
  rw [blockL_eq, hm]
  rfl
 obtain ⟨w2, hw2⟩ : ∃ w2, w1.alloc (.cells #[.string ⟨s.toArray⟩, .bool b, .slice none 0 0, .slice none 0 0] 62) = w2 := ⟨_, rfl⟩
 have nb2 := new_box w1 _ 62 hw2
 have hlo := (Array.getElem?_eq_some_iff.1 HA.out.2.2.2).1
 have hp := HA.out.1.plt
 have z1 : w1.heap[w.heap.size]? = some (.cells #[.string ⟨#[]⟩, .bool false, .slice none 0 0, .slice none 0 0] 62 (0, 0)) := by
  rw [hs.2.2.2.2 _ hlo (by omega)]; exact HA.out.2.2.2
 have s1 : Step w.heap.size p w w1 := (Step.of HA.out.2.2.1).trans (hs.mono HA.out.2.2.1.size)
 have hlo1 : w.heap.size < w1.heap.size := Nat.lt_of_lt_of_le hlo hs.size
 have M2 : BlkM w w2 p w1.heap.size ⟨s.toArray⟩ b [] none 0 (.slice none 0 0) [] none 0 0 := ⟨s1.trans ((Step.of nb2.1).mono s1.size), hlo1, hp, kept_box z1 nb2.1, nb2.2, OwnL.nil, OwnL.nil, by simp, rfl⟩
 have h0 : block (ts.drop a) = (if isB (ts.drop a1) [91] = true then ops [93] [] (ts.drop a1).tail else .ok [] (ts.drop a1)).bind fun ins r => (must [58] r).bind fun _ r => (code [] r).bind fun c r => .ok ⟨⟨s.toArray⟩, b, ins, c⟩ r := by
  rw [blockL_eq, hm, HA.out.2.1]
  rfl
 have HB := Hh (Ai M2 (Ai (hl.below nb2.1) h0))
 clear hs hm hl nb2 hlo hp z1 s1 hlo1 M2 h0
 obtain ⟨H, hH⟩ : ∃ H, w1.heap.size = H := ⟨_, rfl⟩
 rw [hH] at HB
 have HW2 := Hh (Ai hw2 hH)
 clear hw2 hH
 go_upto_region 2 with fail
 rw [HW2.out.1, HW2.out.2]
 clear HW2
 obtain ⟨br, hbr⟩ : ∃ br, isB (ts.drop a1) [91] = br := ⟨_, rfl⟩
 have Hr := Hh hbr
 clear hbr
 go_cut [7] from 4 (fun s7 wc => s7 = .bool br ∧ ∃ a0, Hid (BlkM w wc p H ⟨s.toArray⟩ b [] none 0 (.slice none 0 0) [] none 0 0 ∧ Lr wc p g n cp ts a0 ∧ a0 = if br = true then a1 + 1 else a1))
 case first =>
  cases br with
  | false =>
   go_wp2_with fail
   refine (lmay_no ⟨#[91]⟩ Hr.out HB.out.2.1).mono ?_
   rintro e w3 ⟨rfl, hb3⟩
   have HC := Hh (Ai (HB.out.1.call (Step.of hb3)) (HB.out.2.1.below hb3))
   clear hb3
   go_wp2_with fail
   go_meet
   case rel => exact ⟨rfl, a1, Hh ⟨HC.out.1, HC.out.2, rfl⟩⟩
  | true =>
   go_wp2_with fail
   refine (lmay_yes ⟨#[91]⟩ Hr.out HB.out.2.1).mono ?_
   rintro e w3 ⟨rfl, hs, hl⟩
   have HC := Hh (Ai (HB.out.1.call hs) hl)
   clear hs hl
   go_wp2_with fail
   go_meet
   case rel => exact ⟨rfl, a1 + 1, Hh ⟨HC.out.1, HC.out.2, rfl⟩⟩
 obtain ⟨rfl, a0, HC⟩ := hcut
 go_upto_if 7 with fail
 go_cut [] from 4 (fun wc => ∃ (a3 : Nat) (ins : List Opn) (IA : Option Addr) (icap : Nat), Hid (BlkM w wc p H ⟨s.toArray⟩ b ins IA icap (.slice none 0 0) [] none 0 0 ∧ Lr wc p g n cp ts a3 ∧ block (ts.drop a) = (must [58] (ts.drop a3)).bind fun _ r => (code [] r).bind fun c r => .ok ⟨⟨s.toArray⟩, b, ins, c⟩ r))
 case first =>
  cases br with
  | false =>
   go_wp2_with fail
   go_meet
   case rel =>
    refine ⟨a0, [], none, 0, Hh ⟨HC.out.1, HC.out.2.1, ?_⟩⟩
    rw [HB.out.2.2, Hr.out, show a0 = a1 from HC.out.2.2]
    rfl
  | true =>
   have hq : block (ts.drop a) = (ops [93] [] (ts.drop a0)).bind fun ins r => (must [58] r).bind fun _ r => (code [] r).bind fun c r => .ok ⟨⟨s.toArray⟩, b, ins, c⟩ r := by
    rw [HB.out.2.2, Hr.out, if_pos rfl, tail_at, show a0 = a1 + 1 from HC.out.2.2]
   have HQ0 := Hh hq
   clear hq
   go_wp2_with fail
   refine (lrow_v HC.out.2.1).mono ?_
   rintro e w4 ⟨hs, ⟨ins, a2, IA, icap, hm, hxs, rfl, ho, hl⟩ | ⟨c0, q, hc, hm, rfl⟩⟩
   rotate_left
   ·go_wp2_with fail
    refine ⟨rfl, HC.out.1.step.trans (hs.mono HC.out.1.step.size), Or.inr ⟨c0, q, hc, ?_, rfl⟩⟩
    rw [HQ0.out, hm]
    rfl
   have M4 := HC.out.1.call hs
   obtain ⟨w5, hw5⟩ : ∃ w5, w4.setCell ⟨H, 2, none⟩ (.slice IA ins.length icap) = w5 := ⟨_, rfl⟩
   have hlo := M4.lo
   have hp := M4.plt
   have M5 : BlkM w w5 p H ⟨s.toArray⟩ b ins IA icap (.slice none 0 0) [] none 0 0 := by
    rw [← hw5]
    refine ⟨M4.step.trans (Step.of ((Below.refl _ w4).setCell (p := ⟨H, 2, none⟩) (by show w.heap.size ≤ H; omega) _)), hlo, hp, far_put M4.z (by omega), ?_, own_put (ho.less HC.out.1.hi) (Nat.lt_succ_self _), OwnL.nil, by simp, rfl⟩
    have := M4.b
    simp [World.setCell, Array.getElem?_modify, this]
   have l5 : Lr w5 p g n cp ts a2 := by
    rw [← hw5]
    have hg := HA.out.1.glt
    have hb := HA.out.1.big
    exact hl.put (by omega) (by omega) (by omega)
   have HD := Hh (Ai M5 (Ai l5 hm))
   obtain ⟨⟨_, _, d2, _⟩, _, _, g2, _⟩ := box4 M4.b
   clear hs hm hl ho M4 M5 l5 hlo hp hxs
   go_wp2_with fail
   try rw [hw5]
   clear hw5 d2 g2
   refine (lmust_v ⟨#[93]⟩ HD.out.2.1).mono ?_
   rintro e w6 ⟨hs, ⟨_, a3, val, hm, rfl, rfl, hl⟩ | ⟨c0, q, hc, hm, rfl⟩⟩
   rotate_left
   ·go_wp2_with fail
    refine ⟨rfl, HD.out.1.step.trans (hs.mono HD.out.1.step.size), Or.inr ⟨c0, q, hc, ?_, rfl⟩⟩
    rw [HQ0.out, HD.out.2.2, show must [93] (ts.drop a2) = _ from hm]
    rfl
   have HE := Hh (Ai (HD.out.1.call hs) (Ai hl hm))
   clear hs hm hl
   go_wp2_with fail
   go_meet
   case rel =>
    refine ⟨a3, ins, IA, icap, Hh ⟨HE.out.1, HE.out.2.1, ?_⟩⟩
    rw [HQ0.out, HD.out.2.2, show must [93] (ts.drop a2) = _ from HE.out.2.2]
    rfl
 obtain ⟨a3, ins, IA, icap, HE⟩ := hcut
 clear HC
 go_wp2_with fail
 refine (lmust_v ⟨#[58]⟩ HE.out.2.1).mono ?_
 rintro e w7 ⟨hs, ⟨_, a4, val, hm, rfl, rfl, hl⟩ | ⟨c0, q, hc, hm, rfl⟩⟩
 rotate_left
 ·go_wp2_with fail
  refine ⟨rfl, HE.out.1.step.trans (hs.mono HE.out.1.step.size), Or.inr ⟨c0, q, hc, ?_, rfl⟩⟩
  rw [HE.out.2.2, show must [58] (ts.drop a3) = _ from hm]
  rfl
 have hI : BlkI w w7 p g n cp ts a a4 H s b ins IA icap [] none 0 0 := ⟨HE.out.1.call hs, hl, by
  rw [HE.out.2.2, show must [58] (ts.drop a3) = _ from hm]
  rfl, Nat.zero_le _⟩
 have HI := Hh hI
 clear hs hm hl hI
 go_wp2_with fail
 go_loopg [] (n - a4) (fun gk wr => ∃ (a' : Nat) (acc : List (Ins × InsV)) (A : Option Addr) (c m : Nat), gk = n - a' ∧ Hid (BlkI w wr p g n cp ts a a' H s b ins IA icap acc A c m))
 case atStart => exact ⟨a4, [], none, 0, 0, rfl, HI.out⟩
 case round =>
  obtain ⟨a', acc, A, c, m, hk, HR⟩ := hrel
  have hla := HR.out.rd.lt
  obtain ⟨r1, hr1⟩ : ∃ r, isB (ts.drop a') [125] = r := ⟨_, rfl⟩
  obtain ⟨r2, hr2⟩ : ∃ r, begins (ts.drop a') = r := ⟨_, rfl⟩
  have HK := Hh (Ai hk (Ai hla (Ai hr1 hr2)))
  clear hk hla hr1 hr2
  go_wp2_with fail
  refine (lis_v ⟨#[125]⟩ r1 HK.out.2.2.1 HR.out.rd).mono ?_
  rintro e w8 ⟨rfl, hb8⟩
  cases r1 with
  | true =>
   have HE8 := Hh (BlkI.mk (HR.out.mem.call (Step.of hb8)) (HR.out.rd.below hb8) HR.out.eq HR.out.far)
   clear hb8
   obtain ⟨⟨u0, u1, u2, u3⟩, _⟩ := box4 HE8.out.mem.b
   obtain ⟨⟨v0, v1, v2, v3⟩, y0, y1, y2, y3⟩ := box4 HE8.out.mem.z
   go_wp2_with fail
   refine fin_blk (fn := Tryz.f80) rfl rfl (four_heap HE8.out.mem.z) rfl ?_
   exact HE8.out.fin HA.out.1.glt (by rw [HK.out.2.2.1]; rfl) _ rfl
  | false =>
   have HR8 := Hh (BlkI.mk (HR.out.mem.call (Step.of hb8)) (HR.out.rd.below hb8) HR.out.eq HR.out.far)
   clear hb8
   go_wp2_with fail
   refine (lhead_v r2 HK.out.2.2.2 HR8.out.rd).mono ?_
   rintro e w9 ⟨rfl, hb9⟩
   have HR9 := Hh (BlkI.mk (HR8.out.mem.call (Step.of hb9)) (HR8.out.rd.below hb9) HR8.out.eq HR8.out.far)
   clear hb9
   cases r2 with
   | true =>
    obtain ⟨⟨u0, u1, u2, u3⟩, _⟩ := box4 HR9.out.mem.b
    obtain ⟨⟨v0, v1, v2, v3⟩, y0, y1, y2, y3⟩ := box4 HR9.out.mem.z
    go_wp2_with fail
    refine fin_blk (fn := Tryz.f80) rfl rfl (four_heap HR9.out.mem.z) rfl ?_
    exact HR9.out.fin HA.out.1.glt (by rw [HK.out.2.2.1, HK.out.2.2.2]; rfl) _ rfl
   | false =>
    have hq : block (ts.drop a) = (instr (ts.drop a')).bind fun x r => (code (acc.map (·.1) ++ [x]) r).bind fun cd r => .ok ⟨⟨s.toArray⟩, b, ins, cd⟩ r := by
     rw [HR9.out.eq, code_eq, HK.out.2.2.1, HK.out.2.2.2]
     show ((instr (ts.drop a')).bind _).bind _ = _
     cases instr (ts.drop a') <;> rfl
    have HQ := Hh hq
    clear hq HR HR8
    have HR := HR9
    clear HR9
    go_wp2_with fail
    have hlen : m ≤ 2000000 := by have := HR.out.far; have := HR.out.mem.len; have := HA.out.1.few; have := HK.out.2.1; omega
    have HLEN := Hh hlen
    clear hlen
    have bd := (Below.refl w9.heap.size w9).drew
    obtain ⟨wd, hwd⟩ : ∃ wd, w9.drew = wd := ⟨_, rfl⟩
    rw [hwd] at bd
    have HMd := Hh (HR.out.mem.call (Step.of bd))
    have HLd := Hh (HR.out.rd.below bd)
    obtain ⟨⟨_, _, _, c3⟩, _⟩ := box4 HMd.out.b
    clear bd
    refine region_z 7 (fun W => W.cell? ⟨H, 3, none⟩ = some (.slice A m c)) (by kernel_rfl) ?_
    rw [hwd]
    clear hwd
    refine anyZ_take (i := 0) (v := .pointer (some ⟨H, 3, none⟩)) rfl (by kernel_rfl) (fun _ _ _ h => h) (Or.inl ⟨by rfl, by intro W hSw; go_simp; try with_reducible rfl⟩) c3 ?_
    try dsimp only [Act.put, Lzs, Lz0, Lz1]
    refine anyZ_take (i := 1) (v := .slice A m c) rfl (by kernel_rfl) (fun _ _ _ h => h) (Or.inl ⟨by rfl, by intro W hSw; go_simp; try with_reducible rfl⟩) c3 ?_
    try dsimp only [Act.put, Lzs, Lz0, Lz1]
    refine anyZ_take (i := 2) (v := .pointer (some ⟨p, 0, none⟩)) rfl (by kernel_rfl) (fun _ _ _ h => h) (Or.inl ⟨by rfl, by intro W hSw; go_simp; try with_reducible rfl⟩) c3 ?_
    try dsimp only [Act.put, Lzs, Lz0, Lz1]
    refine anyZ_one (i := 3) (by kernel_rfl) rfl (fun K hK => ?_)
    go_simp
    refine Calls.mono (linstr_v HLd.out) ?_
    rintro e w4 ⟨hs, ⟨x, a2, val, hm, rfl, ⟨r, rfl, hH⟩, hl⟩ | ⟨c0, q, hc, hm, rfl⟩⟩
    rotate_left
    ·refine ⟨rfl, HMd.out.step.trans (hs.mono HMd.out.step.size), Or.inr ⟨c0, q, hc, ?_, rfl⟩⟩
     rw [HQ.out, hm]
     rfl
    have HM4 := Hh (HMd.out.call hs)
    have HX := Hh (Ai hm (safe_new (N := H + 1) (row := Value.ownBlock (.slice A m c)) hH HMd.out.hi (fun k hk => (HMd.out.own.lo k (by rw [HMd.out.len]; exact hk)).2)))
    have HL4 := Hh hl
    clear hs hm hH hl
    obtain ⟨⟨_, _, _, c3'⟩, _⟩ := box4 HM4.out.b
    unfold insR
    go_wp2_with fail
    refine hK.out _ _ (fun _ => c3') ?_
    clear hK K
    try dsimp only [Act.put, Lzs, Lz0, Lz1]
    refine anyZ_one (i := 4) (by kernel_rfl) rfl (fun K hK => ?_)
    obtain ⟨w5, hw5⟩ : ∃ w5, w4.alloc (.cells #[.int .i64 x.op, .int .i64 x.dst.k, .int .i64 x.dst.c, .int .i64 x.dst.n, .int .i64 x.dst.t, .slice r.aa r.an r.ac, .string x.name, .int .i64 x.off, .slice r.la r.ln r.lc, .slice r.ca r.cn r.cc] 67) = w5 := ⟨_, rfl⟩
    have nb := new_box w4 _ 67 hw5
    have HM5 := Hh (HM4.out.call (Step.of nb.1))
    have HL5 := Hh (HL4.out.below nb.1)
    have HB5 := Hh (Ai nb.2 (HX.out.2.keep ⟨nb.1.size, fun k hk _ => nb.1.block k hk⟩))
    clear nb
    obtain ⟨⟨_, _, _, c3''⟩, _⟩ := box4 HM5.out.b
    go_simp
    try rw [hw5]
    clear hw5
    refine hK.out _ _ (fun _ => c3'') ?_
    clear hK K
    try dsimp only [Act.put, Lzs, Lz0, Lz1]
    refine anyZ_one (i := 5) (by kernel_rfl) rfl (fun K hK => ?_)
    rw [if_pos (by rfl)]
    refine own_app_wp rowIns _ _ rfl HM5.out.len rfl HM5.out.own w4.heap.size (x, r) rfl HB5.out.1 HLEN.out HM5.out.hi ?_
    intro g' c' w6 ho hg hat
    have HM6 := Hh (HM5.out.app HB5.out.2 ho hg hat)
    have HL6 := Hh (HL5.out.grown (N := H + 1) hg HM5.out.hi (fun k hk => (HM5.out.own.lo k (by rw [HM5.out.len]; exact hk)).1) (by have := HM5.out.lo; have := HM5.out.plt; omega) (by have := HM5.out.lo; have := HA.out.1.glt; omega))
    clear ho hg hat
    obtain ⟨⟨_, _, _, d3⟩, _, _, _, g3⟩ := box4 HM6.out.b
    refine hK.out _ _ (fun _ => d3) ?_
    clear hK K
    try dsimp only [Act.put, Lzs, Lz0, Lz1]
    refine anyZ_take (i := 6) (v := .pointer (some ⟨H, 3, none⟩)) rfl (by kernel_rfl) (fun _ _ _ h => h) (Or.inl ⟨by rfl, by intro W hSw; go_simp; try with_reducible rfl⟩) d3 ?_
    try dsimp only [Act.put, Lzs, Lz0, Lz1]
    refine anyZ_one (i := 7) (by kernel_rfl) rfl (fun K hK => ?_)
    obtain ⟨w7, hw7⟩ : ∃ w7, w6.setCell ⟨H, 3, none⟩ (.slice (some ⟨g', 0, none⟩) (m + 1) c') = w7 := ⟨_, rfl⟩
    have HM7 := Hh (hw7 ▸ HM6.out.put (.slice (some ⟨g', 0, none⟩) (m + 1) c'))
    have HL7 := Hh (hw7 ▸ HL6.out.put (I := H) (o := 3) (v := .slice (some ⟨g', 0, none⟩) (m + 1) c') (by have := HM6.out.lo; have := HM6.out.plt; omega) (by have := HM6.out.lo; have := HA.out.1.glt; omega) (by have := HM6.out.lo; have := HM6.out.plt; have := HA.out.1.big; omega))
    go_simp
    try rw [hw7]
    clear hw7
    refine hK.out _ _ (fun h => absurd rfl h) ?_
    clear hK K
    try dsimp only [Act.put, Lzs, Lz0, Lz1]
    refine anyZ_done (by kernel_rfl) ?_ _
    have hlt := drop_lt (instr_sub HX.out.1) (by rw [HA.out.1.len]; exact HK.out.2.1)
    have hI : BlkI w w7 p g n cp ts a a2 H s b ins IA icap (acc ++ [(x, r)]) (some ⟨g', 0, none⟩) c' (m + 1) := ⟨HM7.out, HL7.out, by rw [HQ.out, HX.out.1, List.map_append]; rfl, by rw [List.length_append]; have := HR.out.far; simp; omega⟩
    have HI := Hh hI
    have ha2 := HL7.out.lt
    have ha' := HK.out.2.1
    have hgk := HK.out.1
    clear hI
    go_wp2_with fail
    go_roundg (n - a2)
    case measure => omega
    case rel => exact ⟨a2, acc ++ [(x, r)], _, _, _, rfl, HI.out⟩
end
end Go.Proofs.YtbpichjmkllfaaaGreatDoor.Par
