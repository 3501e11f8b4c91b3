/- Packed texts of one proof. Conditions: none. -/
import Derived.Test.YtbpichjmkllfaaaGreatDoorPq21
namespace Go.Proofs.YtbpichjmkllfaaaGreatDoor.Par
open Go.ChangeShapes Go.WideShapes Go.RowKit
open Lex (Tok tcl tkv tk tc)
set_option linter.unusedVariables false
set_option maxRecDepth 20000
def Step2 (B p I : Nat) (w w' : World) : Prop := w'.os = w.os ∧ w'.tape = w.tape ∧ w'.output = w.output ∧ w.heap.size ≤ w'.heap.size ∧ ∀ k, k < B → k ≠ p → k ≠ I → w'.heap[k]? = w.heap[k]?
theorem Step2.refl (B p I : Nat) (w : World) : Step2 B p I w w := ⟨rfl, rfl, rfl, Nat.le_refl _, fun _ _ _ _ => rfl⟩
theorem Step2.trans {B p I : Nat} {a b c : World} (h : Step2 B p I a b) (k : Step2 B p I b c) : Step2 B p I a c :=
 ⟨k.1.trans h.1, k.2.1.trans h.2.1, k.2.2.1.trans h.2.2.1, Nat.le_trans h.2.2.2.1 k.2.2.2.1, fun i hi hp hI => (k.2.2.2.2 i hi hp hI).trans (h.2.2.2.2 i hi hp hI)⟩
theorem step_two {B p I : Nat} {w w' : World} (h : Step B p w w') : Step2 B p I w w' := ⟨h.1, h.2.1, h.2.2.1, h.2.2.2.1, fun k hk hp _ => h.2.2.2.2 k hk hp⟩
theorem Step2.size {B p I : Nat} {w w' : World} (h : Step2 B p I w w') : w.heap.size ≤ w'.heap.size := h.2.2.2.1
theorem Step2.put {B p I : Nat} {a w : World} (h : Step2 B p I a w) (o : Nat) (v : Value) : Step2 B p I a (w.setCell ⟨I, o, none⟩ v) :=
 h.trans ⟨rfl, rfl, rfl, by simp [World.setCell], fun k _ _ hI => Below.heap_setCell _ _ _ _ hI⟩
theorem Step2.one {B B' p I : Nat} {a w w' : World} (h : Step B p a w) (k : Step2 B' p I w w') (hB : B ≤ B') (hI : B ≤ I) : Step B p a w' :=
 h.trans ⟨k.1, k.2.1, k.2.2.1, k.2.2.2.1, fun i hi hp => k.2.2.2.2 i (by omega) hp (by omega)⟩
section
variable {α : Type} {T : TypeId} {sz : Nat} {cs : α → List Value}
theorem OwnL.heldN {N : Nat} {w : World} {A : Option Addr} {c : Nat} {l : List α} (h : OwnL T sz cs N w A c l) : Held (fun k => N ≤ k) w fun w => OwnL T sz cs N w A c l :=
 h.held.weak fun k _ e => (h.lo k e).1
theorem own_put {N : Nat} {w : World} {A : Option Addr} {c : Nat} {l : List α} {I o : Nat} {v : Value} (h : OwnL T sz cs N w A c l) (hI : I < N) : OwnL T sz cs N (w.setCell ⟨I, o, none⟩ v) A c l :=
 h.held _ ⟨by simp [World.setCell], fun k _ e => Below.heap_setCell _ _ _ _ (by have := (h.lo k e).1; show k ≠ I; omega)⟩
end
section
variable {w : World} {p g n cp : Nat} {ts : List Tok} {a : Nat}
theorem Lr.put {W : World} (h : Lr W p g n cp ts a) {I o : Nat} {v : Value} (hp : p ≠ I) (hg : g ≠ I) (h2 : 2 < I) : Lr (W.setCell ⟨I, o, none⟩ v) p g n cp ts a := by
 refine ⟨far_put h.box hp, h.toks.agree (S := fun k => k ≠ I) ⟨by simp [World.setCell], fun k _ hk => Below.heap_setCell _ _ _ _ hk⟩ (fun b o e => by injection e with e; injection e with e1 _; rw [← e1]; exact hg), by simpa [World.setCell] using h.glt, h.lt, h.sep, h.ends, h.wf, h.sg, h.short, ?_, h.big⟩
 exact h.gl.below (B := 2) ((Below.refl 2 W).setCell (p := ⟨I, o, none⟩) (by show 2 ≤ I; omega) _) (by decide)
def ic (op dk dc dn dt : Int) (A : Option Addr) (an ac : Nat) (nm : ByteArray) (off : Int) (L : Option Addr) (ln lc : Nat) (C : Option Addr) (cn cc : Nat) : Array Value :=
 #[.int .i64 op, .int .i64 dk, .int .i64 dc, .int .i64 dn, .int .i64 dt, .slice A an ac, .string nm, .int .i64 off, .slice L ln lc, .slice C cn cc]
theorem box10 {W : World} {I : Nat} {op dk dc dn dt : Int} {A : Option Addr} {an ac : Nat} {nm : ByteArray} {off : Int} {L : Option Addr} {ln lc : Nat} {C : Option Addr} {cn cc : Nat}
  (h : W.heap[I]? = some (.cells (ic op dk dc dn dt A an ac nm off L ln lc C cn cc) 67 (0, 0))) :
  (W.cell? ⟨I, 0, none⟩ = some (.int .i64 op) ∧ W.cell? ⟨I, 5, none⟩ = some (.slice A an ac) ∧ W.cell? ⟨I, 6, none⟩ = some (.string nm) ∧ W.cell? ⟨I, 7, none⟩ = some (.int .i64 off) ∧ W.cell? ⟨I, 8, none⟩ = some (.slice L ln lc) ∧ W.cell? ⟨I, 9, none⟩ = some (.slice C cn cc)) ∧
  (W.frozen? ⟨I, 0, none⟩ = false ∧ W.frozen? ⟨I, 5, none⟩ = false ∧ W.frozen? ⟨I, 6, none⟩ = false ∧ W.frozen? ⟨I, 7, none⟩ = false ∧ W.frozen? ⟨I, 8, none⟩ = false ∧ W.frozen? ⟨I, 9, none⟩ = false) :=
 ⟨⟨cell_in h 0, cell_in h 5, cell_in h 6, cell_in h 7, cell_in h 8, cell_in h 9⟩, box_frozen h 0, box_frozen h 5, box_frozen h 6, box_frozen h 7, box_frozen h 8, box_frozen h 9⟩
theorem put10 {W : World} {I : Nat} {op dk dc dn dt : Int} {A : Option Addr} {an ac : Nat} {nm : ByteArray} {off : Int} {L : Option Addr} {ln lc : Nat} {C : Option Addr} {cn cc : Nat}
  (h : W.heap[I]? = some (.cells (ic op dk dc dn dt A an ac nm off L ln lc C cn cc) 67 (0, 0))) :
  (∀ A' an' ac', (W.setCell ⟨I, 5, none⟩ (.slice A' an' ac')).heap[I]? = some (.cells (ic op dk dc dn dt A' an' ac' nm off L ln lc C cn cc) 67 (0, 0))) ∧
  (∀ x, (W.setCell ⟨I, 6, none⟩ (.string x)).heap[I]? = some (.cells (ic op dk dc dn dt A an ac x off L ln lc C cn cc) 67 (0, 0))) ∧
  (∀ x, (W.setCell ⟨I, 7, none⟩ (.int .i64 x)).heap[I]? = some (.cells (ic op dk dc dn dt A an ac nm x L ln lc C cn cc) 67 (0, 0))) ∧
  (∀ A' an' ac', (W.setCell ⟨I, 8, none⟩ (.slice A' an' ac')).heap[I]? = some (.cells (ic op dk dc dn dt A an ac nm off A' an' ac' C cn cc) 67 (0, 0))) ∧
  (∀ A' an' ac', (W.setCell ⟨I, 9, none⟩ (.slice A' an' ac')).heap[I]? = some (.cells (ic op dk dc dn dt A an ac nm off L ln lc A' an' ac') 67 (0, 0))) := by
 unfold ic at h ⊢
 refine ⟨fun _ _ _ => ?_, fun _ => ?_, fun _ => ?_, fun _ _ _ => ?_, fun _ _ _ => ?_⟩ <;> simp [World.setCell, Array.getElem?_modify, h]
structure RsI (w W : World) (p g n cp : Nat) (ts : List Tok) (I a' : Nat) (op dk dc dn dt : Int) (A : Option Addr) (an ac : Nat) (nm : ByteArray) (off : Int) (L : Option Addr) (ln lc : Nat) (C : Option Addr) (cn cc : Nat) : Prop where
 step : Step2 w.heap.size p I w W
 rd : Lr W p g n cp ts a'
 lo : I < w.heap.size
 pne : p ≠ I
 gne : g ≠ I
 big : 2 < I
 plt : p < w.heap.size
 ib : W.heap[I]? = some (.cells (ic op dk dc dn dt A an ac nm off L ln lc C cn cc) 67 (0, 0))
section
variable {W W' : World} {I a' : Nat} {op dk dc dn dt : Int} {A : Option Addr} {an ac : Nat} {nm : ByteArray} {off : Int} {L : Option Addr} {ln lc : Nat} {C : Option Addr} {cn cc : Nat}
theorem RsI.call (h : RsI w W p g n cp ts I a' op dk dc dn dt A an ac nm off L ln lc C cn cc) (hs : Step W.heap.size p W W') {b : Nat} (hl : Lr W' p g n cp ts b) : RsI w W' p g n cp ts I b op dk dc dn dt A an ac nm off L ln lc C cn cc :=
 ⟨h.step.trans (step_two (hs.mono h.step.size)), hl, h.lo, h.pne, h.gne, h.big, h.plt, by rw [hs.2.2.2.2 _ (Array.getElem?_eq_some_iff.1 h.ib).1 (Ne.symm h.pne)]; exact h.ib⟩
theorem RsI.setA (h : RsI w W p g n cp ts I a' op dk dc dn dt A an ac nm off L ln lc C cn cc) (A' : Option Addr) (an' ac' : Nat) : RsI w (W.setCell ⟨I, 5, none⟩ (.slice A' an' ac')) p g n cp ts I a' op dk dc dn dt A' an' ac' nm off L ln lc C cn cc :=
 ⟨h.step.put _ _, h.rd.put h.pne h.gne h.big, h.lo, h.pne, h.gne, h.big, h.plt, (put10 h.ib).1 _ _ _⟩
theorem RsI.setN (h : RsI w W p g n cp ts I a' op dk dc dn dt A an ac nm off L ln lc C cn cc) (x : ByteArray) : RsI w (W.setCell ⟨I, 6, none⟩ (.string x)) p g n cp ts I a' op dk dc dn dt A an ac x off L ln lc C cn cc :=
 ⟨h.step.put _ _, h.rd.put h.pne h.gne h.big, h.lo, h.pne, h.gne, h.big, h.plt, (put10 h.ib).2.1 _⟩
theorem RsI.setO (h : RsI w W p g n cp ts I a' op dk dc dn dt A an ac nm off L ln lc C cn cc) (x : Int) : RsI w (W.setCell ⟨I, 7, none⟩ (.int .i64 x)) p g n cp ts I a' op dk dc dn dt A an ac nm x L ln lc C cn cc :=
 ⟨h.step.put _ _, h.rd.put h.pne h.gne h.big, h.lo, h.pne, h.gne, h.big, h.plt, (put10 h.ib).2.2.1 _⟩
theorem RsI.setL (h : RsI w W p g n cp ts I a' op dk dc dn dt A an ac nm off L ln lc C cn cc) (A' : Option Addr) (an' ac' : Nat) : RsI w (W.setCell ⟨I, 8, none⟩ (.slice A' an' ac')) p g n cp ts I a' op dk dc dn dt A an ac nm off A' an' ac' C cn cc :=
 ⟨h.step.put _ _, h.rd.put h.pne h.gne h.big, h.lo, h.pne, h.gne, h.big, h.plt, (put10 h.ib).2.2.2.1 _ _ _⟩
theorem RsI.setC (h : RsI w W p g n cp ts I a' op dk dc dn dt A an ac nm off L ln lc C cn cc) (A' : Option Addr) (an' ac' : Nat) : RsI w (W.setCell ⟨I, 9, none⟩ (.slice A' an' ac')) p g n cp ts I a' op dk dc dn dt A an ac nm off L ln lc A' an' ac' :=
 ⟨h.step.put _ _, h.rd.put h.pne h.gne h.big, h.lo, h.pne, h.gne, h.big, h.plt, (put10 h.ib).2.2.2.2 _ _ _⟩
end
def RestP (w : World) (p g n cp : Nat) (ts : List Tok) (a I op : Nat) (O dk dc dn dt : Int) (e : Ending) (w' : World) : Prop :=
 (∃ (x : Has) (a' : Nat) (A : Option Addr) (ac : Nat) (L : Option Addr) (lc : Nat) (C : Option Addr) (cc : Nat), rest op (ts.drop a) = .ok x (ts.drop a') ∧ e = .returned (.tuple #[]) ∧
  RsI w w' p g n cp ts I a' O dk dc dn dt A x.args.length ac x.name x.off L x.labels.length lc C x.cases.length cc ∧
  OwnL 64 4 Opn.cs w.heap.size w' A ac x.args ∧ OwnL 9 1 strC w.heap.size w' L lc x.labels ∧ OwnL 3 1 intC w.heap.size w' C cc x.cases) ∨
 ∃ c q, c ≠ 0 ∧ rest op (ts.drop a) = .bad c q ∧ Step2 w.heap.size p I w w' ∧ e = .panicked [gave c q]
def R0 (w : World) (p g n cp : Nat) (ts : List Tok) (I a : Nat) (O dk dc dn dt : Int) : Prop := RsI w w p g n cp ts I a O dk dc dn dt none 0 0 ⟨#[]⟩ 0 none 0 0 none 0 0
set_option maxHeartbeats 1000000 in
theorem lrest_call {I : Nat} {dk dc dn dt : Int} (h : R0 w p g n cp ts I a 19 dk dc dn dt) : Calls Tryz.prog 146 #[.pointer (some ⟨p, 0, none⟩), .pointer (some ⟨I, 0, none⟩)] w (RestP w p g n cp ts a I 19 19 dk dc dn dt) := by
 have F1 := field1
 obtain ⟨⟨c0, _⟩, _⟩ := box10 h.ib
 have HA := Hh h
 clear h
 go_enter Tryz.func146, Tryz.ntmps146
 go_wp2_with fail
 refine (lone_v 3 (by decide) HA.out.rd).mono ?_
 rintro e w1 ⟨hs, ⟨t, a1, val, hm, rfl, rfl, hl⟩ | ⟨c, q, hc, hm, rfl⟩⟩
 ·have R1 := HA.out.call hs hl
  obtain ⟨⟨_, c5, c6, c7, c8, c9⟩, _, f5, f6, f7, f8, f9⟩ := box10 R1.ib
  have HB := Hh (Ai R1 hm)
  have R2 := R1.setN ⟨t.text.toArray⟩
  obtain ⟨w2, hw2⟩ : ∃ w2, w1.setCell ⟨I, 6, none⟩ (.string ⟨t.text.toArray⟩) = w2 := ⟨_, rfl⟩
  rw [hw2] at R2
  have HC := Hh R2
  clear hs hm hl R1 R2
  unfold tkv
  go_wp2_with fail
  try rw [hw2]
  clear hw2 c5 c6 c7 c8 c9 f5 f6 f7 f8 f9
  refine (lpar_v HC.out.rd).mono ?_
  rintro e w3 ⟨hs, ⟨xs, a3, val, hm, rfl, ⟨hx, A, c, rfl, ho⟩, hl⟩ | ⟨c, q, hc, hm, rfl⟩⟩
  ·have R3 := HC.out.call hs hl
   obtain ⟨⟨_, c5, c6, c7, c8, c9⟩, _, f5, f6, f7, f8, f9⟩ := box10 R3.ib
   have HD := Hh (Ai R3 (Ai hm (ho.less HC.out.step.size)))
   clear hs hm hl ho R3
   go_wp2_with fail
   go_end0
   refine Or.inl ⟨⟨xs, ⟨t.text.toArray⟩, 0, [], []⟩, a3, A, c, none, 0, none, 0, ?_, rfl, HD.out.1.setA _ _ _, own_put HD.out.2.2 HA.out.lo, OwnL.nil, OwnL.nil⟩
   unfold rest
   rw [if_pos rfl, HB.out.2]
   show (must [40] (ts.drop a1)).bind _ = _
   have := HD.out.2.1
   unfold paren at this
   cases hp : must [40] (ts.drop a1) with
   | bad c q => rw [hp] at this; cases this
   | ok u r =>
    rw [hp] at this
    show (ops0 [41] r).bind _ = _
    rw [show ops0 [41] r = _ from this]
    rfl
  ·go_wp2_with fail
   refine ⟨rfl, Or.inr ⟨c, q, hc, ?_, HC.out.step.trans (step_two (hs.mono HC.out.step.size)), rfl⟩⟩
   unfold rest
   rw [if_pos rfl, HB.out.2]
   show (must [40] (ts.drop a1)).bind _ = _
   unfold paren at hm
   cases hp : must [40] (ts.drop a1) with
   | bad c' q' =>
    rw [hp] at hm
    have hm' : (Res.bad c' q' : Res (List Opn)) = .bad c q := hm
    injection hm' with e1 e2
    subst e1; subst e2
    rfl
   | ok u r =>
    rw [hp] at hm
    show (ops0 [41] r).bind _ = _
    rw [show ops0 [41] r = _ from hm]
    rfl
 ·go_wp2_with fail
  refine ⟨rfl, Or.inr ⟨c, q, hc, ?_, step_two hs, rfl⟩⟩
  unfold rest
  rw [if_pos rfl, hm]
  rfl
theorem bindOk {α β : Type} (x : α) (r : List Tok) (f : α → List Tok → Res β) : (Res.ok x r).bind f = f x r := rfl
theorem bindBad {α β : Type} (c : Int) (q : Nat) (f : α → List Tok → Res β) : (Res.bad c q : Res α).bind f = .bad c q := rfl
def restK (op : Nat) (a : List Opn) (l : List Tok) : Res Has :=
 if op = 17 ∨ op = 18 then (if isB l [43] = true then (value l.tail).bind fun n l => .ok ⟨a, ⟨#[]⟩, n, [], []⟩ l else .ok ⟨a, ⟨#[]⟩, 0, [], []⟩ l)
 else if op = 20 then (label l).bind fun s l => .ok ⟨a, ⟨#[]⟩, 0, [⟨s.toArray⟩], []⟩ l
 else if op = 21 then (must [44] l).bind fun _ l => (label l).bind fun s l => (must [44] l).bind fun _ l => (label l).bind fun u l => .ok ⟨a, ⟨#[]⟩, 0, [⟨s.toArray⟩, ⟨u.toArray⟩], []⟩ l
 else if op = 22 then (casesM l).bind fun x l => .ok ⟨a, ⟨#[]⟩, 0, x.2, x.1⟩ l
 else .ok ⟨a, ⟨#[]⟩, 0, [], []⟩ l
theorem rest_other {op : Nat} (h : op ≠ 19) (l : List Tok) : rest op l = (argsN (Opr.many (op : Int)) [] l).bind (restK op) := by
 unfold rest
 rw [if_neg h]
 cases argsN (Opr.many (op : Int)) [] l with
 | bad c q => rfl
 | ok a r =>
  rw [bindOk, bindOk]
  unfold restK casesM
  by_cases h1 : op = 17 ∨ op = 18
  ·rw [if_pos h1, if_pos h1]
  ·rw [if_neg h1, if_neg h1]
   by_cases h2 : op = 20
   ·rw [if_pos h2, if_pos h2]
   ·rw [if_neg h2, if_neg h2]
    by_cases h3 : op = 21
    ·rw [if_pos h3, if_pos h3]
    ·rw [if_neg h3, if_neg h3]
     by_cases h4 : op = 22
     ·rw [if_pos h4, if_pos h4]
      cases must [91] r <;> rfl
     ·rw [if_neg h4, if_neg h4]
theorem restK_ld {op : Nat} (h : op = 17 ∨ op = 18) (a : List Opn) (l : List Tok) : restK op a l = (if isB l [43] = true then (value l.tail).bind fun n l => .ok ⟨a, ⟨#[]⟩, n, [], []⟩ l else .ok ⟨a, ⟨#[]⟩, 0, [], []⟩ l) := by unfold restK; rw [if_pos h]
theorem restK_br (a : List Opn) (l : List Tok) : restK 20 a l = (label l).bind fun s l => .ok ⟨a, ⟨#[]⟩, 0, [⟨s.toArray⟩], []⟩ l := by unfold restK; rw [if_neg (by decide), if_pos rfl]
theorem restK_brif (a : List Opn) (l : List Tok) : restK 21 a l = (must [44] l).bind fun _ l => (label l).bind fun s l => (must [44] l).bind fun _ l => (label l).bind fun u l => .ok ⟨a, ⟨#[]⟩, 0, [⟨s.toArray⟩, ⟨u.toArray⟩], []⟩ l := by unfold restK; rw [if_neg (by decide), if_neg (by decide), if_pos rfl]
theorem restK_sw (a : List Opn) (l : List Tok) : restK 22 a l = (casesM l).bind fun x l => .ok ⟨a, ⟨#[]⟩, 0, x.2, x.1⟩ l := by unfold restK; rw [if_neg (by decide), if_neg (by decide), if_neg (by decide), if_pos rfl]
theorem restK_else {op : Nat} (n17 : op ≠ 17) (n18 : op ≠ 18) (n20 : op ≠ 20) (n21 : op ≠ 21) (n22 : op ≠ 22) (a : List Opn) (l : List Tok) : restK op a l = .ok ⟨a, ⟨#[]⟩, 0, [], []⟩ l := by
 unfold restK
 rw [if_neg (by rintro (e | e); exact n17 e; exact n18 e), if_neg n20, if_neg n21, if_neg n22]
theorem own_two {N b : Nat} {W : World} {r u : ByteArray} (hb : W.heap[b]? = some (.cells #[.string r, .string u] 9 (0, 0))) (hN : N ≤ b) : OwnL 9 1 strC N W (some ⟨b, 0, none⟩) 2 [r, u] :=
 ⟨rfl, .inr ⟨b, 2, _, rfl, hN, hb, Nat.le_refl _, by unfold maxLen; decide, rfl, rfl⟩⟩
set_option maxHeartbeats 1000000 in
theorem lrest_load {I : Nat} {dk dc dn dt : Int} (h : R0 w p g n cp ts I a 17 dk dc dn dt) : Calls Tryz.prog 146 #[.pointer (some ⟨p, 0, none⟩), .pointer (some ⟨I, 0, none⟩)] w (RestP w p g n cp ts a I 17 17 dk dc dn dt) := by
 obtain ⟨⟨c0, _⟩, _⟩ := box10 h.ib
 have hM : Opr.many (17 : Int) = 1 ∧ (17 : Int) ≠ 19 ∧ 1 ≤ 1000 ∧ (17 : Nat) ≠ 19 ∧ Opr.many (((17 : Nat)) : Int) = 1 := ⟨by decide +kernel, by decide, by decide, by decide, by decide +kernel⟩
 have HA := Hh h
 have HM := Hh hM
 clear h hM
 go_enter Tryz.func146, Tryz.ntmps146
 go_wp2_with fail
 refine (ltaken_v (17 : Int) 1 HM.out.1 HM.out.2.1 HM.out.2.2.1 HA.out.rd).mono ?_
 rintro e w1 ⟨hs, ⟨xs, a1, val, hm, rfl, ⟨hx, A, c, rfl, ho⟩, hl⟩ | ⟨c, q, hc, hm, rfl⟩⟩
 rotate_left
 ·go_wp2_with fail
  refine ⟨rfl, Or.inr ⟨c, q, hc, ?_, step_two hs, rfl⟩⟩
  rw [rest_other HM.out.2.2.2.1, HM.out.2.2.2.2, hm, bindBad]
 have R1 := HA.out.call hs hl
 obtain ⟨⟨_, b5, _, _, _, _⟩, _, g5, _, _, _, _⟩ := box10 R1.ib
 have HB := Hh (Ai R1 (Ai hm ho))
 have R2 := R1.setA A xs.length c
 obtain ⟨w2, hw2⟩ : ∃ w2, w1.setCell ⟨I, 5, none⟩ (.slice A xs.length c) = w2 := ⟨_, rfl⟩
 rw [hw2] at R2
 have o2 := own_put (I := I) (o := 5) (v := .slice A xs.length c) ho HA.out.lo
 rw [hw2] at o2
 have HC := Hh (Ai R2 o2)
 clear hs hm hl R1 o2 ho c0 hx
 obtain ⟨⟨c0, c5, c6, c7, c8, c9⟩, f0, f5, f6, f7, f8, f9⟩ := box10 R2.ib
 clear R2
 go_wp2_with fail
 try rw [hw2]
 clear hw2 b5 g5
 cases hr : isB (ts.drop a1) [43] with
 | false =>
  refine (lmay_no ⟨#[43]⟩ hr HC.out.1.rd).mono ?_
  rintro e w3 ⟨rfl, hb⟩
  have HD := Hh (Ai hb hr)
  clear hb hr
  go_wp2_with fail
  go_end0
  refine Or.inl ⟨⟨xs, ⟨#[]⟩, 0, [], []⟩, a1, A, c, none, 0, none, 0, ?_, rfl, HC.out.1.call (Step.of HD.out.1) (HC.out.1.rd.below HD.out.1), HC.out.2.below HD.out.1, OwnL.nil, OwnL.nil⟩
  rw [rest_other HM.out.2.2.2.1, HM.out.2.2.2.2, HB.out.2.1, bindOk]
  rw [restK_ld (Or.inl rfl), HD.out.2]
  rfl
 | true =>
  refine (lmay_yes ⟨#[43]⟩ hr HC.out.1.rd).mono ?_
  rintro e w3 ⟨rfl, hs, hl⟩
  have HD := Hh (Ai (HC.out.1.call hs hl) (Ai (own_step HC.out.2 hs HA.out.plt) hr))
  clear hs hl hr
  go_wp2_with fail
  refine (lval_v HD.out.1.rd).mono ?_
  rintro e w4 ⟨hs, ⟨v, a3, val, hm, rfl, rfl, hl⟩ | ⟨c0, q, hc, hm, rfl⟩⟩
  ·have R4 := HD.out.1.call hs hl
   have HE := Hh (Ai R4 (Ai hm (own_step HD.out.2.1 hs HA.out.plt)))
   clear hs hm hl c0 c5 c6 c7 c8 c9 f0 f5 f6 f7 f8 f9
   obtain ⟨⟨c0, c5, c6, c7, c8, c9⟩, f0, f5, f6, f7, f8, f9⟩ := box10 R4.ib
   clear R4
   go_wp2_with fail
   go_end0
   refine Or.inl ⟨⟨xs, ⟨#[]⟩, v, [], []⟩, a3, A, c, none, 0, none, 0, ?_, rfl, HE.out.1.setO v, own_put HE.out.2.2 HA.out.lo, OwnL.nil, OwnL.nil⟩
   rw [rest_other HM.out.2.2.2.1, HM.out.2.2.2.2, HB.out.2.1, bindOk]
   rw [restK_ld (Or.inl rfl), HD.out.2.2, if_pos rfl, tail_at, HE.out.2.1]
   rfl
  ·go_wp2_with fail
   refine ⟨rfl, Or.inr ⟨c0, q, hc, ?_, HD.out.1.step.trans (step_two (hs.mono HD.out.1.step.size)), rfl⟩⟩
   rw [rest_other HM.out.2.2.2.1, HM.out.2.2.2.2, HB.out.2.1, bindOk]
   rw [restK_ld (Or.inl rfl), HD.out.2.2, if_pos rfl, tail_at, hm]
   rfl
set_option maxHeartbeats 1000000 in
theorem lrest_store {I : Nat} {dk dc dn dt : Int} (h : R0 w p g n cp ts I a 18 dk dc dn dt) : Calls Tryz.prog 146 #[.pointer (some ⟨p, 0, none⟩), .pointer (some ⟨I, 0, none⟩)] w (RestP w p g n cp ts a I 18 18 dk dc dn dt) := by
 obtain ⟨⟨c0, _⟩, _⟩ := box10 h.ib
 have hM : Opr.many (18 : Int) = 2 ∧ (18 : Int) ≠ 19 ∧ 2 ≤ 1000 ∧ (18 : Nat) ≠ 19 ∧ Opr.many (((18 : Nat)) : Int) = 2 := ⟨by decide +kernel, by decide, by decide, by decide, by decide +kernel⟩
 have HA := Hh h
 have HM := Hh hM
 clear h hM
 go_enter Tryz.func146, Tryz.ntmps146
 go_wp2_with fail
 refine (ltaken_v (18 : Int) 2 HM.out.1 HM.out.2.1 HM.out.2.2.1 HA.out.rd).mono ?_
 rintro e w1 ⟨hs, ⟨xs, a1, val, hm, rfl, ⟨hx, A, c, rfl, ho⟩, hl⟩ | ⟨c, q, hc, hm, rfl⟩⟩
 rotate_left
 ·go_wp2_with fail
  refine ⟨rfl, Or.inr ⟨c, q, hc, ?_, step_two hs, rfl⟩⟩
  rw [rest_other HM.out.2.2.2.1, HM.out.2.2.2.2, hm, bindBad]
 have R1 := HA.out.call hs hl
 obtain ⟨⟨_, b5, _, _, _, _⟩, _, g5, _, _, _, _⟩ := box10 R1.ib
 have HB := Hh (Ai R1 (Ai hm ho))
 have R2 := R1.setA A xs.length c
 obtain ⟨w2, hw2⟩ : ∃ w2, w1.setCell ⟨I, 5, none⟩ (.slice A xs.length c) = w2 := ⟨_, rfl⟩
 rw [hw2] at R2
 have o2 := own_put (I := I) (o := 5) (v := .slice A xs.length c) ho HA.out.lo
 rw [hw2] at o2
 have HC := Hh (Ai R2 o2)
 clear hs hm hl R1 o2 ho c0 hx
 obtain ⟨⟨c0, c5, c6, c7, c8, c9⟩, f0, f5, f6, f7, f8, f9⟩ := box10 R2.ib
 clear R2
 go_wp2_with fail
 try rw [hw2]
 clear hw2 b5 g5
 cases hr : isB (ts.drop a1) [43] with
 | false =>
  refine (lmay_no ⟨#[43]⟩ hr HC.out.1.rd).mono ?_
  rintro e w3 ⟨rfl, hb⟩
  have HD := Hh (Ai hb hr)
  clear hb hr
  go_wp2_with fail
  go_end0
  refine Or.inl ⟨⟨xs, ⟨#[]⟩, 0, [], []⟩, a1, A, c, none, 0, none, 0, ?_, rfl, HC.out.1.call (Step.of HD.out.1) (HC.out.1.rd.below HD.out.1), HC.out.2.below HD.out.1, OwnL.nil, OwnL.nil⟩
  rw [rest_other HM.out.2.2.2.1, HM.out.2.2.2.2, HB.out.2.1, bindOk]
  rw [restK_ld (Or.inr rfl), HD.out.2]
  rfl
 | true =>
  refine (lmay_yes ⟨#[43]⟩ hr HC.out.1.rd).mono ?_
  rintro e w3 ⟨rfl, hs, hl⟩
  have HD := Hh (Ai (HC.out.1.call hs hl) (Ai (own_step HC.out.2 hs HA.out.plt) hr))
  clear hs hl hr
  go_wp2_with fail
  refine (lval_v HD.out.1.rd).mono ?_
  rintro e w4 ⟨hs, ⟨v, a3, val, hm, rfl, rfl, hl⟩ | ⟨c0, q, hc, hm, rfl⟩⟩
  ·have R4 := HD.out.1.call hs hl
   have HE := Hh (Ai R4 (Ai hm (own_step HD.out.2.1 hs HA.out.plt)))
   clear hs hm hl c0 c5 c6 c7 c8 c9 f0 f5 f6 f7 f8 f9
   obtain ⟨⟨c0, c5, c6, c7, c8, c9⟩, f0, f5, f6, f7, f8, f9⟩ := box10 R4.ib
   clear R4
   go_wp2_with fail
   go_end0
   refine Or.inl ⟨⟨xs, ⟨#[]⟩, v, [], []⟩, a3, A, c, none, 0, none, 0, ?_, rfl, HE.out.1.setO v, own_put HE.out.2.2 HA.out.lo, OwnL.nil, OwnL.nil⟩
   rw [rest_other HM.out.2.2.2.1, HM.out.2.2.2.2, HB.out.2.1, bindOk]
   rw [restK_ld (Or.inr rfl), HD.out.2.2, if_pos rfl, tail_at, HE.out.2.1]
   rfl
  ·go_wp2_with fail
   refine ⟨rfl, Or.inr ⟨c0, q, hc, ?_, HD.out.1.step.trans (step_two (hs.mono HD.out.1.step.size)), rfl⟩⟩
   rw [rest_other HM.out.2.2.2.1, HM.out.2.2.2.2, HB.out.2.1, bindOk]
   rw [restK_ld (Or.inr rfl), HD.out.2.2, if_pos rfl, tail_at, hm]
   rfl
set_option maxHeartbeats 1000000 in
theorem lrest_br {I : Nat} {dk dc dn dt : Int} (h : R0 w p g n cp ts I a 20 dk dc dn dt) : Calls Tryz.prog 146 #[.pointer (some ⟨p, 0, none⟩), .pointer (some ⟨I, 0, none⟩)] w (RestP w p g n cp ts a I 20 20 dk dc dn dt) := by
 obtain ⟨⟨c0, _⟩, _⟩ := box10 h.ib
 have hM : Opr.many (20 : Int) = 0 ∧ (20 : Int) ≠ 19 ∧ 0 ≤ 1000 ∧ (20 : Nat) ≠ 19 ∧ Opr.many (((20 : Nat)) : Int) = 0 := ⟨by decide +kernel, by decide, by decide, by decide, by decide +kernel⟩
 have HA := Hh h
 have HM := Hh hM
 clear h hM
 go_enter Tryz.func146, Tryz.ntmps146
 go_wp2_with fail
 refine (ltaken_v (20 : Int) 0 HM.out.1 HM.out.2.1 HM.out.2.2.1 HA.out.rd).mono ?_
 rintro e w1 ⟨hs, ⟨xs, a1, val, hm, rfl, ⟨hx, A, c, rfl, ho⟩, hl⟩ | ⟨c, q, hc, hm, rfl⟩⟩
 rotate_left
 ·go_wp2_with fail
  refine ⟨rfl, Or.inr ⟨c, q, hc, ?_, step_two hs, rfl⟩⟩
  rw [rest_other HM.out.2.2.2.1, HM.out.2.2.2.2, hm, bindBad]
 have R1 := HA.out.call hs hl
 obtain ⟨⟨_, b5, _, _, _, _⟩, _, g5, _, _, _, _⟩ := box10 R1.ib
 have HB := Hh (Ai R1 (Ai hm ho))
 have R2 := R1.setA A xs.length c
 obtain ⟨w2, hw2⟩ : ∃ w2, w1.setCell ⟨I, 5, none⟩ (.slice A xs.length c) = w2 := ⟨_, rfl⟩
 rw [hw2] at R2
 have o2 := own_put (I := I) (o := 5) (v := .slice A xs.length c) ho HA.out.lo
 rw [hw2] at o2
 have HC := Hh (Ai R2 o2)
 clear hs hm hl R1 o2 ho c0 hx
 obtain ⟨⟨c0, c5, c6, c7, c8, c9⟩, f0, f5, f6, f7, f8, f9⟩ := box10 R2.ib
 clear R2
 go_wp2_with fail
 try rw [hw2]
 clear hw2 b5 g5
 refine (llab_v HC.out.1.rd).mono ?_
 rintro e w3 ⟨hs, ⟨s, a3, val, hm, rfl, rfl, hl⟩ | ⟨c0, q, hc, hm, rfl⟩⟩
 ·have R3 := HC.out.1.call hs hl
  have o3 := own_step HC.out.2 hs HA.out.plt
  obtain ⟨w4, hw4⟩ : ∃ w4, w3.alloc (.cells #[.string ⟨s.toArray⟩] 9) = w4 := ⟨_, rfl⟩
  have nb := new_box w3 _ 9 hw4
  have R4 := R3.call (Step.of nb.1) (hl.below nb.1)
  have HD := Hh (Ai R4 (Ai hm (Ai (o3.below nb.1) (Ai nb.2 R3.step.size))))
  clear hs hm hl R3 o3 nb c0 c5 c6 c7 c8 c9 f0 f5 f6 f7 f8 f9
  obtain ⟨⟨c0, c5, c6, c7, c8, c9⟩, f0, f5, f6, f7, f8, f9⟩ := box10 R4.ib
  clear R4
  go_wp2_with fail
  go_end0
  refine Or.inl ⟨⟨xs, ⟨#[]⟩, 0, [⟨s.toArray⟩], []⟩, a3, A, c, some ⟨w3.heap.size, 0, none⟩, 1, none, 0, ?_, rfl, HD.out.1.setL _ _ _, own_put HD.out.2.2.1 HA.out.lo, own_put (own_first rowStr HD.out.2.2.2.1 HD.out.2.2.2.2) HA.out.lo, OwnL.nil⟩
  rw [rest_other HM.out.2.2.2.1, HM.out.2.2.2.2, HB.out.2.1, bindOk]
  rw [restK_br, HD.out.2.1]
  rfl
 ·go_wp2_with fail
  refine ⟨rfl, Or.inr ⟨c0, q, hc, ?_, HC.out.1.step.trans (step_two (hs.mono HC.out.1.step.size)), rfl⟩⟩
  rw [rest_other HM.out.2.2.2.1, HM.out.2.2.2.2, HB.out.2.1, bindOk]
  rw [restK_br, hm]
  rfl
set_option maxHeartbeats 1000000 in
theorem lrest_brif {I : Nat} {dk dc dn dt : Int} (h : R0 w p g n cp ts I a 21 dk dc dn dt) : Calls Tryz.prog 146 #[.pointer (some ⟨p, 0, none⟩), .pointer (some ⟨I, 0, none⟩)] w (RestP w p g n cp ts a I 21 21 dk dc dn dt) := by
 obtain ⟨⟨c0, _⟩, _⟩ := box10 h.ib
 have hM : Opr.many (21 : Int) = 1 ∧ (21 : Int) ≠ 19 ∧ 1 ≤ 1000 ∧ (21 : Nat) ≠ 19 ∧ Opr.many (((21 : Nat)) : Int) = 1 := ⟨by decide +kernel, by decide, by decide, by decide, by decide +kernel⟩
 have HA := Hh h
 have HM := Hh hM
 clear h hM
 go_enter Tryz.func146, Tryz.ntmps146
 go_wp2_with fail
 refine (ltaken_v (21 : Int) 1 HM.out.1 HM.out.2.1 HM.out.2.2.1 HA.out.rd).mono ?_
 rintro e w1 ⟨hs, ⟨xs, a1, val, hm, rfl, ⟨hx, A, c, rfl, ho⟩, hl⟩ | ⟨c, q, hc, hm, rfl⟩⟩
 rotate_left
 ·go_wp2_with fail
  refine ⟨rfl, Or.inr ⟨c, q, hc, ?_, step_two hs, rfl⟩⟩
  rw [rest_other HM.out.2.2.2.1, HM.out.2.2.2.2, hm, bindBad]
 have R1 := HA.out.call hs hl
 obtain ⟨⟨_, b5, _, _, _, _⟩, _, g5, _, _, _, _⟩ := box10 R1.ib
 have HB := Hh (Ai R1 (Ai hm ho))
 have R2 := R1.setA A xs.length c
 obtain ⟨w2, hw2⟩ : ∃ w2, w1.setCell ⟨I, 5, none⟩ (.slice A xs.length c) = w2 := ⟨_, rfl⟩
 rw [hw2] at R2
 have o2 := own_put (I := I) (o := 5) (v := .slice A xs.length c) ho HA.out.lo
 rw [hw2] at o2
 have HC := Hh (Ai R2 o2)
 clear hs hm hl R1 o2 ho c0 hx
 obtain ⟨⟨c0, c5, c6, c7, c8, c9⟩, f0, f5, f6, f7, f8, f9⟩ := box10 R2.ib
 clear R2
 go_wp2_with fail
 try rw [hw2]
 clear hw2 b5 g5
 refine (lmust_v ⟨#[44]⟩ HC.out.1.rd).mono ?_
 rintro e w3 ⟨hs, ⟨_, a2, val, hm, rfl, rfl, hl⟩ | ⟨c0, q, hc, hm, rfl⟩⟩
 rotate_left
 ·go_wp2_with fail
  refine ⟨rfl, Or.inr ⟨c0, q, hc, ?_, HC.out.1.step.trans (step_two (hs.mono HC.out.1.step.size)), rfl⟩⟩
  rw [rest_other HM.out.2.2.2.1, HM.out.2.2.2.2, HB.out.2.1, bindOk]
  rw [restK_brif]
  rw [show must [44] (ts.drop a1) = _ from hm]
  rfl
 have HD := Hh (Ai (HC.out.1.call hs hl) (Ai hm (own_step HC.out.2 hs HA.out.plt)))
 clear hs hm hl
 go_wp2_with fail
 refine (llab_v HD.out.1.rd).mono ?_
 rintro e w4 ⟨hs, ⟨s, a3, val, hm, rfl, rfl, hl⟩ | ⟨c0, q, hc, hm, rfl⟩⟩
 rotate_left
 ·go_wp2_with fail
  refine ⟨rfl, Or.inr ⟨c0, q, hc, ?_, HD.out.1.step.trans (step_two (hs.mono HD.out.1.step.size)), rfl⟩⟩
  rw [rest_other HM.out.2.2.2.1, HM.out.2.2.2.2, HB.out.2.1, bindOk]
  rw [restK_brif]
  rw [show must [44] (ts.drop a1) = _ from HD.out.2.1]
  show (label (ts.drop a2)).bind _ = _
  rw [hm]
  rfl
 have HE := Hh (Ai (HD.out.1.call hs hl) (Ai hm (own_step HD.out.2.2 hs HA.out.plt)))
 clear hs hm hl
 go_wp2_with fail
 refine (lmust_v ⟨#[44]⟩ HE.out.1.rd).mono ?_
 rintro e w5 ⟨hs, ⟨_, a4, val, hm, rfl, rfl, hl⟩ | ⟨c0, q, hc, hm, rfl⟩⟩
 rotate_left
 ·go_wp2_with fail
  refine ⟨rfl, Or.inr ⟨c0, q, hc, ?_, HE.out.1.step.trans (step_two (hs.mono HE.out.1.step.size)), rfl⟩⟩
  rw [rest_other HM.out.2.2.2.1, HM.out.2.2.2.2, HB.out.2.1, bindOk]
  rw [restK_brif]
  rw [show must [44] (ts.drop a1) = _ from HD.out.2.1]
  show (label (ts.drop a2)).bind _ = _
  rw [HE.out.2.1]
  show (must [44] (ts.drop a3)).bind _ = _
  rw [show must [44] (ts.drop a3) = _ from hm]
  rfl
 have HF := Hh (Ai (HE.out.1.call hs hl) (Ai hm (own_step HE.out.2.2 hs HA.out.plt)))
 clear hs hm hl
 go_wp2_with fail
 refine (llab_v HF.out.1.rd).mono ?_
 rintro e w6 ⟨hs, ⟨u, a5, val, hm, rfl, rfl, hl⟩ | ⟨c0, q, hc, hm, rfl⟩⟩
 rotate_left
 ·go_wp2_with fail
  refine ⟨rfl, Or.inr ⟨c0, q, hc, ?_, HF.out.1.step.trans (step_two (hs.mono HF.out.1.step.size)), rfl⟩⟩
  rw [rest_other HM.out.2.2.2.1, HM.out.2.2.2.2, HB.out.2.1, bindOk]
  rw [restK_brif]
  rw [show must [44] (ts.drop a1) = _ from HD.out.2.1]
  show (label (ts.drop a2)).bind _ = _
  rw [HE.out.2.1]
  show (must [44] (ts.drop a3)).bind _ = _
  rw [show must [44] (ts.drop a3) = _ from HF.out.2.1]
  show (label (ts.drop a4)).bind _ = _
  rw [hm]
  rfl
 have R3 := HF.out.1.call hs hl
 have o3 := own_step HF.out.2.2 hs HA.out.plt
 obtain ⟨w7, hw7⟩ : ∃ w7, w6.alloc (.cells #[.string ⟨s.toArray⟩, .string ⟨u.toArray⟩] 9) = w7 := ⟨_, rfl⟩
 have nb := new_box w6 _ 9 hw7
 have R4 := R3.call (Step.of nb.1) (hl.below nb.1)
 have HG := Hh (Ai R4 (Ai hm (Ai (o3.below nb.1) (Ai nb.2 R3.step.size))))
 clear hs hm hl R3 o3 nb c0 c5 c6 c7 c8 c9 f0 f5 f6 f7 f8 f9
 obtain ⟨⟨c0, c5, c6, c7, c8, c9⟩, f0, f5, f6, f7, f8, f9⟩ := box10 R4.ib
 clear R4
 go_wp2_with fail
 go_end0
 refine Or.inl ⟨⟨xs, ⟨#[]⟩, 0, [⟨s.toArray⟩, ⟨u.toArray⟩], []⟩, a5, A, c, some ⟨w6.heap.size, 0, none⟩, 2, none, 0, ?_, rfl, HG.out.1.setL _ _ _, own_put HG.out.2.2.1 HA.out.lo, own_put (own_two HG.out.2.2.2.1 HG.out.2.2.2.2) HA.out.lo, OwnL.nil⟩
 rw [rest_other HM.out.2.2.2.1, HM.out.2.2.2.2, HB.out.2.1, bindOk]
 rw [restK_brif]
 rw [show must [44] (ts.drop a1) = _ from HD.out.2.1]
 show (label (ts.drop a2)).bind _ = _
 rw [HE.out.2.1]
 show (must [44] (ts.drop a3)).bind _ = _
 rw [show must [44] (ts.drop a3) = _ from HF.out.2.1]
 show (label (ts.drop a4)).bind _ = _
 rw [HG.out.2.1]
 rfl
set_option maxHeartbeats 1000000 in
theorem lrest_switch {I : Nat} {dk dc dn dt : Int} (h : R0 w p g n cp ts I a 22 dk dc dn dt) : Calls Tryz.prog 146 #[.pointer (some ⟨p, 0, none⟩), .pointer (some ⟨I, 0, none⟩)] w (RestP w p g n cp ts a I 22 22 dk dc dn dt) := by
 obtain ⟨⟨c0, _⟩, _⟩ := box10 h.ib
 have hM : Opr.many (22 : Int) = 1 ∧ (22 : Int) ≠ 19 ∧ 1 ≤ 1000 ∧ (22 : Nat) ≠ 19 ∧ Opr.many (((22 : Nat)) : Int) = 1 := ⟨by decide +kernel, by decide, by decide, by decide, by decide +kernel⟩
 have HA := Hh h
 have HM := Hh hM
 clear h hM
 go_enter Tryz.func146, Tryz.ntmps146
 go_wp2_with fail
 refine (ltaken_v (22 : Int) 1 HM.out.1 HM.out.2.1 HM.out.2.2.1 HA.out.rd).mono ?_
 rintro e w1 ⟨hs, ⟨xs, a1, val, hm, rfl, ⟨hx, A, c, rfl, ho⟩, hl⟩ | ⟨c, q, hc, hm, rfl⟩⟩
 rotate_left
 ·go_wp2_with fail
  refine ⟨rfl, Or.inr ⟨c, q, hc, ?_, step_two hs, rfl⟩⟩
  rw [rest_other HM.out.2.2.2.1, HM.out.2.2.2.2, hm, bindBad]
 have R1 := HA.out.call hs hl
 obtain ⟨⟨_, b5, _, _, _, _⟩, _, g5, _, _, _, _⟩ := box10 R1.ib
 have HB := Hh (Ai R1 (Ai hm ho))
 have R2 := R1.setA A xs.length c
 obtain ⟨w2, hw2⟩ : ∃ w2, w1.setCell ⟨I, 5, none⟩ (.slice A xs.length c) = w2 := ⟨_, rfl⟩
 rw [hw2] at R2
 have o2 := own_put (I := I) (o := 5) (v := .slice A xs.length c) ho HA.out.lo
 rw [hw2] at o2
 have HC := Hh (Ai R2 o2)
 clear hs hm hl R1 o2 ho c0 hx
 obtain ⟨⟨c0, c5, c6, c7, c8, c9⟩, f0, f5, f6, f7, f8, f9⟩ := box10 R2.ib
 clear R2
 go_wp2_with fail
 try rw [hw2]
 clear hw2 b5 g5
 refine (lcases_v HC.out.1.rd).mono ?_
 rintro e w3 ⟨hs, ⟨y, a3, val, hm, rfl, ⟨C, cc, L, d, rfl, hi, hL⟩, hl⟩ | ⟨c0, q, hc, hm, rfl⟩⟩
 ·have R3 := HC.out.1.call hs hl
  have sz := HC.out.1.step.size
  obtain ⟨⟨d0, d5, d6, d7, d8, d9⟩, e0, e5, e6, e7, e8, e9⟩ := box10 R3.ib
  have R4 := R3.setC C y.1.length cc
  obtain ⟨w4, hw4⟩ : ∃ w4, w3.setCell ⟨I, 9, none⟩ (.slice C y.1.length cc) = w4 := ⟨_, rfl⟩
  have o4 := own_put (I := I) (o := 9) (v := .slice C y.1.length cc) (own_step HC.out.2 hs HA.out.plt) HA.out.lo
  have i4 := own_put (I := I) (o := 9) (v := .slice C y.1.length cc) (hi.less sz) HA.out.lo
  have l4 := own_put (I := I) (o := 9) (v := .slice C y.1.length cc) (hL.less sz) HA.out.lo
  rw [hw4] at R4 o4 i4 l4
  have HD := Hh (Ai R4 (Ai hm (Ai o4 (Ai i4 l4))))
  clear hs hm hl R3 hi hL sz o4 i4 l4 c0 c5 c6 c7 c8 c9 f0 f5 f6 f7 f8 f9
  obtain ⟨⟨c0, c5, c6, c7, c8, c9⟩, f0, f5, f6, f7, f8, f9⟩ := box10 R4.ib
  clear R4
  go_wp2_with fail
  go_end0
  refine Or.inl ⟨⟨xs, ⟨#[]⟩, 0, y.2, y.1⟩, a3, A, c, L, d, C, cc, ?_, rfl, HD.out.1.setL _ _ _, own_put HD.out.2.2.1 HA.out.lo, own_put HD.out.2.2.2.2 HA.out.lo, own_put HD.out.2.2.2.1 HA.out.lo⟩
  rw [rest_other HM.out.2.2.2.1, HM.out.2.2.2.2, HB.out.2.1, bindOk]
  rw [restK_sw, HD.out.2.1, bindOk]
 ·go_wp2_with fail
  refine ⟨rfl, Or.inr ⟨c0, q, hc, ?_, HC.out.1.step.trans (step_two (hs.mono HC.out.1.step.size)), rfl⟩⟩
  rw [rest_other HM.out.2.2.2.1, HM.out.2.2.2.2, HB.out.2.1, bindOk]
  rw [restK_sw, hm, bindBad]
set_option maxHeartbeats 1000000 in
theorem lrest_else {I op M : Nat} {O dk dc dn dt : Int} (hO : (op : Int) = O) (hM : Opr.many O = M) (hM3 : M ≤ 1000) (n17 : op ≠ 17) (n18 : op ≠ 18) (n19 : op ≠ 19) (n20 : op ≠ 20) (n21 : op ≠ 21) (n22 : op ≠ 22) (h : R0 w p g n cp ts I a O dk dc dn dt) : Calls Tryz.prog 146 #[.pointer (some ⟨p, 0, none⟩), .pointer (some ⟨I, 0, none⟩)] w (RestP w p g n cp ts a I op O dk dc dn dt) := by
 obtain ⟨⟨c0, _⟩, _⟩ := box10 h.ib
 have k17 : (O == 17) = false := by rw [Bqf]; omega
 have k18 : (O == 18) = false := by rw [Bqf]; omega
 have k19 : (O == 19) = false := by rw [Bqf]; omega
 have k20 : (O == 20) = false := by rw [Bqf]; omega
 have k21 : (O == 21) = false := by rw [Bqf]; omega
 have k22 : (O == 22) = false := by rw [Bqf]; omega
 have HM := Hh (Ai hM (Ai (show O ≠ 19 by omega) (Ai hM3 (Ai n19 (show Opr.many (op : Int) = M by rw [hO]; exact hM)))))
 have HN := Hh (Ai n17 (Ai n18 (Ai n20 (Ai n21 n22))))
 have HA := Hh h
 clear h hM hM3 n17 n18 n19 n20 n21 n22 hO
 go_enter Tryz.func146, Tryz.ntmps146
 go_wp2_with fail
 refine (ltaken_v O M HM.out.1 HM.out.2.1 HM.out.2.2.1 HA.out.rd).mono ?_
 rintro e w1 ⟨hs, ⟨xs, a1, val, hm, rfl, ⟨hx, A, c, rfl, ho⟩, hl⟩ | ⟨c, q, hc, hm, rfl⟩⟩
 rotate_left
 ·go_wp2_with fail
  refine ⟨rfl, Or.inr ⟨c, q, hc, ?_, step_two hs, rfl⟩⟩
  rw [rest_other HM.out.2.2.2.1, HM.out.2.2.2.2, hm, bindBad]
 have R1 := HA.out.call hs hl
 obtain ⟨⟨_, b5, _, _, _, _⟩, _, g5, _, _, _, _⟩ := box10 R1.ib
 have HB := Hh (Ai R1 (Ai hm ho))
 have R2 := R1.setA A xs.length c
 obtain ⟨w2, hw2⟩ : ∃ w2, w1.setCell ⟨I, 5, none⟩ (.slice A xs.length c) = w2 := ⟨_, rfl⟩
 rw [hw2] at R2
 have o2 := own_put (I := I) (o := 5) (v := .slice A xs.length c) ho HA.out.lo
 rw [hw2] at o2
 have HC := Hh (Ai R2 o2)
 clear hs hm hl R1 o2 ho c0 hx
 obtain ⟨⟨c0, c5, c6, c7, c8, c9⟩, f0, f5, f6, f7, f8, f9⟩ := box10 R2.ib
 clear R2
 go_wp2_with fail
 go_end0
 refine Or.inl ⟨⟨xs, ⟨#[]⟩, 0, [], []⟩, a1, A, c, none, 0, none, 0, ?_, rfl, HC.out.1, HC.out.2, OwnL.nil, OwnL.nil⟩
 rw [rest_other HM.out.2.2.2.1, HM.out.2.2.2.2, HB.out.2.1, bindOk]
 rw [restK_else HN.out.1 HN.out.2.1 HN.out.2.2.1 HN.out.2.2.2.1 HN.out.2.2.2.2]
end
end Go.Proofs.YtbpichjmkllfaaaGreatDoor.Par
