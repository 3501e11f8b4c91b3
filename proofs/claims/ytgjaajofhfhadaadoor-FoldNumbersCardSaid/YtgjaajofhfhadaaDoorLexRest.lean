
/- Tokens as values; what the program's right and wrong answer. -/
import Derived.Test.YtgjaajofhfhadaaDoorFauCore
import Derived.Test.YtgjaajofhfhadaaDoorNam
import Derived.Test.YtgjaajofhfhadaaDoorQuo
import Derived.Test.YtgjaajofhfhadaaDoorDec
import Derived.Test.YtgjaajofhfhadaaDoorLexPlain
import Derived.Lib.Bytealg
import Derived.Lib.Strings
import Derived.Lib.Slices
import Derived.Lib.Walk
import Derived.Lib.IndexAny
import Derived.OwnWalk
import Derived.WalkMore
import Derived.Laws.OwnMore
import Derived.Deep.AppendLies
import Derived.Maps.AppendAt
import Derived.Laws.StructEq
import Derived.Deep.RegionHeld3
import Derived.Deep.QuietTactic
import Derived.BigQuiet
namespace Go.Proofs.YtgjaajofhfhadaaDoor.Lex
open Go.ChangeShapes Go.WideShapes Go.RowKit
set_option linter.unusedVariables false
set_option maxRecDepth 20000

/-- A token's cells, and the token as a value. -/
def tc (k : Int) (s : ByteArray) (n c a : Int) : Array Value := #[.int .i64 k, .string s, .int .i64 n, .int .i64 c, .int .i64 a]
def tk (k : Int) (s : ByteArray) (n c a : Int) : Value := .agg (tc k s n c a)
def t0 : Array Value := tc 0 ⟨#[]⟩ 0 0 0
theorem results_cell3 {P : Program} {fn : Func} {p u v : Tmp} {ty : TypeId} (h : fn.results = #[.cell p ty, .tmp u, .tmp v]) (tmps : Array Value) (w : World) (g : Nat) (t : TypeId) (cs : Array Value) (fr : Nat × Nat) (d : TypeDesc)
    (hp : tmps.getD p undef = .pointer (some ⟨g, 0, none⟩)) (hg : w.heap[g]? = some (.cells cs t fr))
    (hu : P.underlying ty = some d) (hd : (match d with | .struct _ | .array _ _ => true | _ => false) = true) (hi : (P.info? ty).map (·.size) = some cs.size) :
    (results fn tmps).run P w = .ok (.tuple #[.agg cs, tmps.getD u undef, tmps.getD v undef]) w := by
  have hp' : tmps[p]?.getD undef = .pointer (some ⟨g, 0, none⟩) := by simpa using hp
  simp [results, h, hp', asAddr, run_loadVar_row w g t ty cs fr d hg hu hd hi]
/-- Five cells laid in. -/
def five (w : World) (b : Nat) (x0 x1 x2 x3 x4 : Value) : World := ((((w.setCell ⟨b, 0, none⟩ x0).setCell ⟨b, 1, none⟩ x1).setCell ⟨b, 2, none⟩ x2).setCell ⟨b, 3, none⟩ x3).setCell ⟨b, 4, none⟩ x4
theorem five_heap {w : World} {b : Nat} {x0 x1 x2 x3 x4 y0 y1 y2 y3 y4 : Value} {T : TypeId} (h : w.heap[b]? = some (.cells #[y0, y1, y2, y3, y4] T (0, 0))) : (five w b x0 x1 x2 x3 x4).heap[b]? = some (.cells #[x0, x1, x2, x3, x4] T (0, 0)) := by
  unfold five
  simp [World.setCell, Array.getElem?_modify, h]
theorem five_below {B : Nat} {w w1 : World} {b : Nat} {x0 x1 x2 x3 x4 : Value} (h : Below B w w1) (hb : B ≤ b) : Below B w (five w1 b x0 x1 x2 x3 x4) :=
  ((((h.setCell (p := ⟨b, 0, none⟩) hb _).setCell (p := ⟨b, 1, none⟩) hb _).setCell (p := ⟨b, 2, none⟩) hb _).setCell (p := ⟨b, 3, none⟩) hb _).setCell (p := ⟨b, 4, none⟩) hb _
theorem slice_run (s : ByteArray) (a e : Nat) (h1 : a ≤ e) (h2 : e ≤ s.size) (W : World) :
    (Instr.slice 9 (.string s) (some (.int .i64 (a : Int))) (some (.int .i64 (e : Int))) none).run Tryd.prog W = .ok (.string (s.extract a e)) W := by
  rw [run_slice_string W 9 _ .i64 .i64 _ _ Tryd.underlying9 (by omega) (by omega) (by omega)]
  rfl
theorem info37 : (Tryd.prog.info? 46).map (·.size) = some 5 := by kernel_rfl
/-- The answer of a token's reading, out of the cell that it stands in. -/
theorem fin3 {fn : Func} {p u v : Tmp} (h : fn.results = #[.cell p 46, .tmp u, .tmp v]) {act : Act} {w : World} {g : Nat} {k n c a : Int} {s : ByteArray} {R : Ending → World → Prop}
    (hp : act.tmps.getD p undef = .pointer (some ⟨g, 0, none⟩)) (hg : w.heap[g]? = some (.cells (tc k s n c a) 46 (0, 0))) (hd : act.defers = [])
    (hR : R (.returned (.tuple #[tk k s n c a, act.tmps.getD u undef, act.tmps.getD v undef])) w) : bodyPost Tryd.prog fn R .ret act w :=
  bodyPost_ret (results_cell3 h _ _ g 46 _ (0, 0) _ hp hg Tryd.underlying46 rfl info37) hd hR
theorem heap_alloc3_new (w : World) (A B C : Obj) : (((w.alloc A).alloc B).alloc C).heap[w.heap.size + 1 + 1]? = some C := by
  have h := heap_alloc2_new (w.alloc A) B C
  have e : (w.alloc A).heap.size = w.heap.size + 1 := by
    show (w.heap.push A).size = _
    simp
  rwa [e] at h
end Go.Proofs.YtgjaajofhfhadaaDoor.Lex
/- What the small functions of lex answer: blanks, digits, prefixes, where a line ends, where digits end, classes. -/
namespace Go.Proofs.YtgjaajofhfhadaaDoor.Lex
open Go.ChangeShapes Go.WideShapes Go.RowKit
set_option linter.unusedVariables false
set_option maxRecDepth 20000

theorem u8_eq {c : UInt8} {n : Nat} (hn : n < 256) : c = UInt8.ofNat n ↔ c.toNat = n := by
  constructor
  · intro e; rw [e]; simp; omega
  · intro e; rw [← e]; simp
theorem blank_iff (c : UInt8) : blank c = (decide (c.toNat = 32) || decide (c.toNat = 9) || decide (c.toNat = 13) || decide (c.toNat = 10)) := by
  unfold blank
  have h1 : decide (c = 32) = decide (c.toNat = 32) := decide_eq_decide.2 (u8_eq (n := 32) (by omega))
  have h2 : decide (c = 9) = decide (c.toNat = 9) := decide_eq_decide.2 (u8_eq (n := 9) (by omega))
  have h3 : decide (c = 13) = decide (c.toNat = 13) := decide_eq_decide.2 (u8_eq (n := 13) (by omega))
  have h4 : decide (c = 10) = decide (c.toNat = 10) := decide_eq_decide.2 (u8_eq (n := 10) (by omega))
  rw [h1, h2, h3, h4]
theorem to_run (t P : ByteArray) (h : P.size ≤ t.size) (W : World) :
    (Instr.slice 9 (.string t) none (some (.int .i64 (P.size : Int))) none).run Tryd.prog W = .ok (.string (t.extract 0 P.size)) W := by
  rw [run_slice_string_to_if W 9 t .i64 _ Tryd.underlying9, if_pos (by omega), show ((P.size : Int)).toNat = P.size by omega]
theorem u8_back (b : UInt8) : ((b.toNat : Int)).toNat.toUInt8 = b := by simp
theorem idx_ways (c : UInt8) : ∀ l : List UInt8, (Lib.indexByte l c = -1 ∧ (l.takeWhile (· != c)).length = l.length) ∨ Lib.indexByte l c = ((l.takeWhile (· != c)).length : Int)
  | [] => .inl ⟨rfl, rfl⟩
  | b :: l => by
    unfold Lib.indexByte
    by_cases h : b = c
    · subst h
      right
      rw [if_pos (by simp), List.takeWhile_cons_of_neg (by simp)]; rfl
    · have h1 : (b == c) = false := by rw [beq_eq_false_iff_ne]; exact h
      have h2 : (b != c) = true := by rw [bne_iff_ne]; exact h
      rw [h1, List.takeWhile_cons_of_pos (p := (· != c)) h2]
      rcases idx_ways c l with ⟨e1, e2⟩ | e1
      · left
        rw [e1]; simp [e2]
      · right
        rw [e1]
        have h3 : (((l.takeWhile (· != c)).length : Int) == -1) = false := by rw [beq_eq_false_iff_ne]; omega
        rw [h3]; simp
theorem dg_stop (l : List UInt8) (n : Nat) (h : n < l.length) (hd : dgt l[n] = false) : dg (l.drop n) = [] := by
  rw [List.drop_eq_getElem_cons h]; unfold dg; rw [List.takeWhile_cons_of_neg (by simp [hd])]
theorem dg_step (l : List UInt8) (n : Nat) (h : n < l.length) (hd : dgt l[n] = true) : (dg (l.drop n)).length = (dg (l.drop (n + 1))).length + 1 := by
  rw [List.drop_eq_getElem_cons h]; unfold dg; rw [List.takeWhile_cons_of_pos hd]; simp
theorem dg_end (l : List UInt8) (n : Nat) (h : l.length ≤ n) : dg (l.drop n) = [] := by rw [List.drop_eq_nil_of_le h]; rfl
/-- The class whose letter stands at a text's beginning. -/
def clsOf : List UInt8 → Int × Bool
  | [] => (0, false)
  | d :: _ => if d.toNat = 103 then (0, true) else if d.toNat = 120 then (1, true) else (0, false)
end Go.Proofs.YtgjaajofhfhadaaDoor.Lex
/- What behindBlanks answers: the place behind all blanks and remarks. -/
namespace Go.Proofs.YtgjaajofhfhadaaDoor.Lex
open Go.ChangeShapes Go.WideShapes Go.RowKit
set_option linter.unusedVariables false
set_option maxRecDepth 20000

/-- From a on there are only blanks and remarks up to b; at b the text ends, or something else stands there. -/
structure Skp (l : List UInt8) (a b : Nat) : Prop where
  le : a ≤ b
  lt : b ≤ l.length
  same : ∀ out, rest l a out = rest l b out
  stop : b = l.length ∨ ∀ k, nx (l.drop b) b ≠ .skip k
def BB (s : ByteArray) (a : Nat) (e : Ending) : Prop := ∃ b : Nat, e = .returned (.int .i64 (b : Int)) ∧ Skp s.data.toList a b
theorem nx_blank {c : UInt8} {r : List UInt8} {p : Nat} (h : blank c = true) : nx (c :: r) p = .skip 1 := by rw [nx_cons, if_pos h]
theorem nx_rem {c : UInt8} {r : List UInt8} {p : Nat} (h : blank c = false) (h2 : c = 47 ∧ r.head? = some 47) : nx (c :: r) p = .skip ((c :: r).takeWhile (· != 10)).length := by
  rw [nx_cons, if_neg (by rw [h]; decide), if_pos h2]
theorem nx_else {c : UInt8} {r : List UInt8} {p : Nat} (h : blank c = false) (h2 : ¬ (c = 47 ∧ r.head? = some 47)) (k : Nat) : nx (c :: r) p ≠ .skip k := by
  rw [nx_cons, if_neg (by rw [h]; decide), if_neg h2]
  split
  · split <;> simp
  · exact plain_skip
theorem pre_rem (c : UInt8) (r : List UInt8) : [47, 47].isPrefixOf (c :: r) = decide (c = 47 ∧ r.head? = some 47) := by
  cases r with
  | nil => simp [List.isPrefixOf]
  | cons d r =>
    rw [Bool.eq_iff_iff]
    simp [List.isPrefixOf]
    constructor <;> rintro ⟨h1, h2⟩ <;> exact ⟨h1.symm, h2.symm⟩
end Go.Proofs.YtgjaajofhfhadaaDoor.Lex
/- What the readings of tokens answer: end, none, word, points, text, number, virtual register, slot, register. -/
namespace Go.Proofs.YtgjaajofhfhadaaDoor.Lex
open Go.ChangeShapes Go.WideShapes Go.RowKit
set_option linter.unusedVariables false
set_option maxRecDepth 20000

/-- The answer's cells, as a call leaves them. -/
structure Res (w w1 : World) (g : Nat) : Prop where
  below : Below w.heap.size w w1
  ge : w.heap.size ≤ g
  z : w1.heap[g]? = some (.cells t0 46 (0, 0))
theorem res2 (w : World) (A : Obj) : Res w ((w.alloc A).alloc (.cells t0 46)) (w.heap.size + 1) := ⟨((Below.refl _ w).alloc (Nat.le_refl _) _).alloc (by simp) _, Nat.le_succ _, heap_alloc2_new w _ _⟩
theorem res3 (w : World) (A B : Obj) : Res w (((w.alloc A).alloc B).alloc (.cells t0 46)) (w.heap.size + 1 + 1) := ⟨(((Below.refl _ w).alloc (Nat.le_refl _) _).alloc (by simp) _).alloc (by simp; omega) _, by omega, heap_alloc3_new w _ _ _⟩
theorem Res.next {w w1 w2 : World} {g : Nat} (h : Res w w1 g) (hb : Below w1.heap.size w1 w2) : Res w w2 g :=
  ⟨h.below.trans (hb.mono h.below.size), h.ge, (hb.block _ (Fau.fresh0 h.z)).trans h.z⟩
theorem Res.cells {w w1 : World} {g : Nat} (h : Res w w1 g) :
    w1.cell? ⟨g, 0, none⟩ = some (.int .i64 0) ∧ w1.cell? ⟨g, 1, none⟩ = some (.string ⟨#[]⟩) ∧ w1.cell? ⟨g, 2, none⟩ = some (.int .i64 0) ∧ w1.cell? ⟨g, 3, none⟩ = some (.int .i64 0) ∧ w1.cell? ⟨g, 4, none⟩ = some (.int .i64 0) := by
  refine ⟨?_, ?_, ?_, ?_, ?_⟩ <;> (rw [Lib.cell_of_heap h.z]; rfl)
theorem Res.frozen {w w1 : World} {g : Nat} (h : Res w w1 g) : w1.frozen? ⟨g, 0, none⟩ = false ∧ w1.frozen? ⟨g, 1, none⟩ = false ∧ w1.frozen? ⟨g, 2, none⟩ = false ∧ w1.frozen? ⟨g, 3, none⟩ = false ∧ w1.frozen? ⟨g, 4, none⟩ = false :=
  ⟨Lib.frozen_of_heap h.z 0, Lib.frozen_of_heap h.z 1, Lib.frozen_of_heap h.z 2, Lib.frozen_of_heap h.z 3, Lib.frozen_of_heap h.z 4⟩
theorem Res.five {w w1 : World} {g : Nat} (h : Res w w1 g) (x0 x1 x2 x3 x4 : Value) : (Lex.five w1 g x0 x1 x2 x3 x4).heap[g]? = some (.cells #[x0, x1, x2, x3, x4] 46 (0, 0)) ∧ Below w.heap.size w (Lex.five w1 g x0 x1 x2 x3 x4) :=
  ⟨five_heap h.z, five_below h.below h.ge⟩
/-- A token as a value; what a reading answers. -/
def tkv (t : Tok) : Value := tk t.kind ⟨t.text.toArray⟩ t.n t.cls t.at_
def good (t : Value) (e : Nat) : Ending := .returned (.tuple #[t, .int .i64 (e : Int), .nilIface])
def bad (c : Int) (a : Int) : Ending := .returned (.tuple #[.agg t0, .int .i64 0, Fau.bare c a])
end Go.Proofs.YtgjaajofhfhadaaDoor.Lex
/- What the readings of tokens with digits, and of texts, answer. -/
namespace Go.Proofs.YtgjaajofhfhadaaDoor.Lex
open Go.ChangeShapes Go.WideShapes Go.RowKit
set_option linter.unusedVariables false
set_option maxRecDepth 20000

end Go.Proofs.YtgjaajofhfhadaaDoor.Lex
/- What way answers: by what the token at a place is read. -/
namespace Go.Proofs.YtgjaajofhfhadaaDoor.Lex
open Go.ChangeShapes Go.WideShapes Go.RowKit
set_option linter.unusedVariables false
set_option maxRecDepth 20000

def sgs : List UInt8 := [123, 125, 40, 41, 91, 93, 44, 58, 59, 61, 43, 45, 42]
theorem sgs_in {c : UInt8} (h : c ∈ sgs) : 0 ≤ Lib.indexByte sgs c := by
  have := Lib.contains_iff_indexByte sgs c
  rw [List.contains_iff_mem.2 h] at this
  exact of_decide_eq_true this.symm
theorem sgs_out {c : UInt8} (h : ¬ c ∈ sgs) : Lib.indexByte sgs c < 0 := by
  have := Lib.contains_iff_indexByte sgs c
  have h2 : sgs.contains c = false := by rw [Bool.eq_false_iff]; intro k; exact h (List.contains_iff_mem.1 k)
  rw [h2] at this
  have := of_decide_eq_false this.symm
  omega
end Go.Proofs.YtgjaajofhfhadaaDoor.Lex
/- Digits as numbers: what Get answers of them, and so what a token with digits is. -/
namespace Go.Proofs.YtgjaajofhfhadaaDoor.Lex
open Go.ChangeShapes Go.WideShapes Go.RowKit
set_option linter.unusedVariables false
set_option maxRecDepth 20000

theorem well_iff (D : List UInt8) : Deci.well D false ↔ ¬ (D = [] ∨ (D.head? = some 48 ∧ 1 < D.length)) := by
  unfold Deci.well
  constructor
  · rintro ⟨h1, h2⟩ (h | ⟨h3, h4⟩)
    · exact h1 h
    · have := (h2 48 h3 (by decide)).1; omega
  · intro h
    refine ⟨fun e => h (.inl e), fun c hc h48 => ⟨?_, rfl⟩⟩
    have e : c = 48 := (u8_eq (n := 48) (by omega)).2 h48
    subst e
    have : 0 < D.length := by cases D with
      | nil => cases hc
      | cons => simp
    have : ¬ 1 < D.length := fun k => h (.inr ⟨hc, k⟩)
    omega
theorem well_neg (D : List UInt8) (h : Deci.well D false) (h0 : 0 < Deci.val D) : Deci.well D true := by
  refine ⟨h.1, fun c hc h48 => ?_⟩
  exfalso
  have h1 := (h.2 c hc h48).1
  have e : c = 48 := (u8_eq (n := 48) (by omega)).2 h48
  subst e
  match D, hc, h1 with
  | [x], hc, _ =>
    simp at hc
    subst hc
    revert h0; decide
theorem vcode_ways (top : Nat) (D : List UInt8) : (¬ Deci.well D false ∧ vcode top D = 12) ∨ (Deci.well D false ∧ top < Deci.val D ∧ vcode top D = 2) ∨ (Deci.well D false ∧ Deci.val D ≤ top ∧ vcode top D = 0) := by
  unfold vcode
  by_cases h : D = [] ∨ (D.head? = some 48 ∧ 1 < D.length)
  · exact .inl ⟨fun k => (well_iff D).1 k h, by rw [if_pos h]⟩
  · rw [if_neg h]
    by_cases h2 : top < Deci.val D
    · exact .inr (.inl ⟨(well_iff D).2 h, h2, by rw [if_pos h2]⟩)
    · exact .inr (.inr ⟨(well_iff D).2 h, by omega, by rw [if_neg h2]⟩)
theorem isDig_of {c : UInt8} (h : dgt c = true) : Deci.isDig c := by
  unfold dgt at h; unfold Deci.isDig
  simp at h; exact h
theorem scn_dig (d : ByteArray) (hd : ∀ c ∈ d.data.toList, dgt c = true) : Deci.Scn d 0 false 0 d.size := by
  have hi : ∀ i (h : i < d.size), Deci.isDig d[i] := fun i h => by
    have := hd (d.data.toList[i]'(by rw [Nam.len_list]; exact h)) (List.getElem_mem _)
    rw [Nam.at_list d i h] at this
    exact isDig_of this
  exact ⟨Nat.zero_le _, (fun h => by cases h), fun _ h e => by have := hi 0 h; unfold Deci.isDig at this; omega, rfl, Nat.zero_le _, Nat.le_refl _, fun i h _ _ => hi i h, fun h => absurd h (Nat.lt_irrefl _)⟩
theorem dgs_all (d : ByteArray) : Deci.dgs d 0 d.size = d.data.toList := by
  unfold Deci.dgs; rw [ByteArray.data_extract]; simp
  exact List.take_of_length_le (Nat.le_refl _)
theorem getT_ok {n : Nat} {x y : Int} (h : ¬ y < (n : Int)) : Deci.getT n (x, y, 0) = (x, 0) := by unfold Deci.getT; exact (if_pos rfl).trans (if_neg h)
theorem cat_size (d : ByteArray) : ((⟨#[45]⟩ : ByteArray) ++ d).size = d.size + 1 := by rw [ByteArray.size_append]; show 1 + d.size = _; omega
theorem cat_zero (d : ByteArray) (h : 0 < ((⟨#[45]⟩ : ByteArray) ++ d).size) : ((⟨#[45]⟩ : ByteArray) ++ d)[0] = 45 := by
  rw [ByteArray.getElem_append_left (by decide)]; rfl
theorem cat_dgs (d : ByteArray) : Deci.dgs ((⟨#[45]⟩ : ByteArray) ++ d) 1 ((⟨#[45]⟩ : ByteArray) ++ d).size = d.data.toList := by
  unfold Deci.dgs; rw [Quo.extract_list, ByteArray.data_append]; simp
theorem scn_neg (d : ByteArray) (hd : ∀ c ∈ d.data.toList, dgt c = true) : Deci.Scn (⟨#[45]⟩ ++ d) 0 true 1 (⟨#[45]⟩ ++ d : ByteArray).size := by
  have hz := cat_size d
  have hi : ∀ i (h : i < ((⟨#[45]⟩ : ByteArray) ++ d).size), 1 ≤ i → Deci.isDig ((⟨#[45]⟩ : ByteArray) ++ d)[i] := fun i h h1 => by
    rw [ByteArray.getElem_append_right (by show 1 ≤ i; exact h1)]
    have hj : i - (⟨#[45]⟩ : ByteArray).size < d.size := by show i - 1 < d.size; omega
    have := hd (d.data.toList[i - (⟨#[45]⟩ : ByteArray).size]'(by rw [Nam.len_list]; exact hj)) (List.getElem_mem _)
    rw [Nam.at_list d _ hj] at this
    exact isDig_of this
  exact ⟨Nat.zero_le _, fun _ => ⟨by omega, by rw [cat_zero]; rfl⟩, (fun h => by cases h), rfl, by omega, Nat.le_refl _, fun i h h1 _ => hi i h h1, fun h => absurd h (Nat.lt_irrefl _)⟩
/-- What is answered of what stands at a place. -/
def ansE (a : Nat) : Nx → Ending
  | .skip _ => bad 0 0
  | .tok t k => good (tkv t) (a + k)
  | .bad e p => bad e p
theorem ansE_tok {a k e : Nat} {t : Tok} (h : a + k = e) : ansE a (.tok t k) = good (tkv t) e := by subst h; rfl
theorem ext_list (s : ByteArray) (a e : Nat) : (s.extract a e).data.toList = (s.data.toList.drop a).take (e - a) := by
  rw [ByteArray.data_extract]; simp
theorem ba_eq {x : ByteArray} {l : List UInt8} (h : x.data.toList = l) : x = ⟨l.toArray⟩ := by subst h; cases x; simp
/-- The bytes of a token with digits. -/
theorem ext_pre (s : ByteArray) (a e : Nat) (pre r : List UInt8) (h : s.data.toList.drop a = pre ++ r) (he : a + pre.length + (dg r).length = e) : s.extract a e = ⟨(pre ++ dg r).toArray⟩ := by
  apply ba_eq
  rw [ext_list, h, show e - a = pre.length + (dg r).length by omega, List.take_length_add_append]
  congr 1
  unfold dg
  exact (List.prefix_iff_eq_take.1 (List.takeWhile_prefix _)).symm
theorem ext_dg (s : ByteArray) (fr e : Nat) (he : fr + (dg (s.data.toList.drop fr)).length = e) : (s.extract fr e).data.toList = dg (s.data.toList.drop fr) := by
  rw [ext_list, show e - fr = (dg (s.data.toList.drop fr)).length by omega]
  unfold dg
  exact (List.prefix_iff_eq_take.1 (List.takeWhile_prefix _)).symm
theorem drop_pre {l pre r : List UInt8} {a fr : Nat} (h : l.drop a = pre ++ r) (hf : a + pre.length = fr) : l.drop fr = r := by
  rw [← hf, ← List.drop_drop, h, List.drop_left]
theorem ext_size (s : ByteArray) (a e : Nat) (h : e ≤ s.size) : (s.extract a e).size = e - a := by rw [ByteArray.size_extract]; omega
end Go.Proofs.YtgjaajofhfhadaaDoor.Lex
/- The token at a place: by what it is read, and what is answered. -/
namespace Go.Proofs.YtgjaajofhfhadaaDoor.Lex
open Go.ChangeShapes Go.WideShapes Go.RowKit
set_option linter.unusedVariables false
set_option maxRecDepth 20000

theorem scan_fuel : ∀ (n : Nat) (l : List UInt8) (f f' p : Nat) (t : List UInt8), l.length ≤ n → l.length < f → l.length < f' → Quo.scan f l p t = Quo.scan f' l p t := by
  intro n
  induction n with
  | zero =>
    intro l f f' p t h1 h2 h3
    obtain rfl : l = [] := List.eq_nil_of_length_eq_zero (by omega)
    obtain ⟨f, rfl⟩ : ∃ g, f = g + 1 := ⟨f - 1, by omega⟩
    obtain ⟨f', rfl⟩ : ∃ g, f' = g + 1 := ⟨f' - 1, by omega⟩
    rfl
  | succ n ih =>
    intro l f f' p t h1 h2 h3
    obtain ⟨f, rfl⟩ : ∃ g, f = g + 1 := ⟨f - 1, by omega⟩
    obtain ⟨f', rfl⟩ : ∃ g, f' = g + 1 := ⟨f' - 1, by omega⟩
    cases l with
    | nil => rfl
    | cons c r =>
      rw [Quo.scan, Quo.scan]
      by_cases hp : (Quo.piece (c :: r)).2 = 0
      · rw [if_pos hp, if_pos hp]
      · have hp1 : (c :: r).length = r.length + 1 := rfl
        rw [if_neg hp, if_neg hp]
        rw [ih ((c :: r).drop (Quo.piece (c :: r)).2) f f' _ _ (by rw [List.length_drop]; omega) (by rw [List.length_drop]; omega) (by rw [List.length_drop]; omega)]
theorem u8n {c : UInt8} {n : Nat} (h : c.toNat ≠ n) (hn : n < 256) : c ≠ UInt8.ofNat n := fun e => h ((u8_eq hn).1 e)
theorem letter_not {c : UInt8} (h : Nam.letter c = true) : blank c = false ∧ c ≠ 47 ∧ c ≠ 34 := by
  revert h
  refine Quo.all_bytes (fun c => Nam.letter c = true → blank c = false ∧ c ≠ 47 ∧ c ≠ 34) ?_ c
  decide +kernel
theorem dgt_not {c : UInt8} (h : dgt c = true) : blank c = false ∧ c ≠ 47 ∧ c ≠ 34 ∧ c ≠ 37 ∧ c ≠ 35 ∧ c ≠ 36 := by
  revert h
  refine Quo.all_bytes (fun c => dgt c = true → blank c = false ∧ c ≠ 47 ∧ c ≠ 34 ∧ c ≠ 37 ∧ c ≠ 35 ∧ c ≠ 36) ?_ c
  decide +kernel
theorem sgs_not {c : UInt8} (h : c ∈ sgs) : blank c = false ∧ c ≠ 47 ∧ c ≠ 34 ∧ c ≠ 37 ∧ c ≠ 35 ∧ c ≠ 36 ∧ c ≠ 46 ∧ c ∈ signs := by
  revert h
  refine Quo.all_bytes (fun c => c ∈ sgs → blank c = false ∧ c ≠ 47 ∧ c ≠ 34 ∧ c ≠ 37 ∧ c ≠ 35 ∧ c ≠ 36 ∧ c ≠ 46 ∧ c ∈ signs) ?_ c
  decide +kernel
theorem signs_in {c : UInt8} (h : c ∈ signs) (h46 : c ≠ 46) : c ∈ sgs := by
  revert h h46
  refine Quo.all_bytes (fun c => c ∈ signs → c ≠ 46 → c ∈ sgs) ?_ c
  decide +kernel
theorem one_ext (s : ByteArray) (a : Nat) (ha : a < s.size) : s.extract a (a + 1) = ⟨[s[a]].toArray⟩ := by
  apply ba_eq
  rw [ext_list, Quo.drop_cons s a ha, show a + 1 - a = 1 by omega]; rfl
theorem pre_two (r : List UInt8) : [46, 46].isPrefixOf ((46 : UInt8) :: r) = decide (r.head? = some 46) := by
  cases r with
  | nil => simp [List.isPrefixOf]
  | cons d r => rw [Bool.eq_iff_iff]; simp [List.isPrefixOf]; exact eq_comm
end Go.Proofs.YtgjaajofhfhadaaDoor.Lex
/- What All answers: a text's tokens, or what is wrong. -/
namespace Go.Proofs.YtgjaajofhfhadaaDoor.Lex
open Go.ChangeShapes Go.WideShapes Go.RowKit
set_option linter.unusedVariables false
set_option maxRecDepth 20000

/-- Tokens as cells. -/
def tcl (t : Tok) : Array Value := tc t.kind ⟨t.text.toArray⟩ t.n t.cls t.at_
def tcs (l : List Tok) : List Value := l.flatMap fun t => (tcl t).toList
theorem tcs_append (l m : List Tok) : tcs (l ++ m) = tcs l ++ tcs m := List.flatMap_append
theorem tcs_one (t : Tok) : tcs [t] = (tcl t).toList := by unfold tcs; simp
theorem tcs_len (l : List Tok) : (tcs l).length = l.length * 5 := by
  induction l with
  | nil => rfl
  | cons t l ih => show (tcs ([t] ++ l)).length = _; rw [tcs_append, List.length_append, ih, tcs_one, List.length_cons]; show 5 + _ = _; omega
theorem tcs_at (l : List Tok) (k j : Nat) (hk : k < l.length) (hj : j < 5) : (tcs l)[k * 5 + j]? = (tcl l[k])[j]? := by
  induction l generalizing k with
  | nil => cases hk
  | cons t l ih =>
    show (tcs ([t] ++ l))[k * 5 + j]? = _
    rw [tcs_append, tcs_one]
    have h5 : (tcl t).toList.length = 5 := rfl
    cases k with
    | zero =>
      rw [List.getElem?_append_left (by omega)]
      simp
    | succ k =>
      rw [List.getElem?_append_right (by omega), h5, show (k + 1) * 5 + j - 5 = k * 5 + j by omega, ih k (by simpa using hk)]
      simp
def OwnK (N : Nat) (w : World) (A : Option Addr) (c : Nat) (l : List Tok) : Prop := w.ownsRow N 46 5 (.slice A l.length c) l.length (tcs l)
theorem OwnK.lo {N : Nat} {w : World} {A : Option Addr} {c : Nat} {l : List Tok} (h : OwnK N w A c l) : ∀ k, Value.ownBlock (.slice A l.length c) = some k → N ≤ k ∧ k < w.heap.size := World.ownsRow.lt h
theorem below_grown {w w' : World} (h : Below w.heap.size w w') : w.grownBy w' none := ⟨h.os, h.tape, h.output, h.size, fun i hi _ => h.block i hi⟩
theorem OwnK.grow {N : Nat} {w w' : World} {A : Option Addr} {c : Nat} {l : List Tok} (h : OwnK N w A c l) (hb : Below w.heap.size w w') : OwnK N w' A c l := by
  refine World.ownsRow.kept h (below_grown hb) ?_
  cases e : Value.ownBlock (.slice A l.length c) with
  | none => exact .inl rfl
  | some k => exact .inr (by simp)
theorem info37z : (Tryd.prog.info? 46).map (fun i => (i.zero, i.size, i.bytes)) = some (some (.agg t0), 5, 48) := by kernel_rfl
/-- What All hands back. -/
def AllP (s : ByteArray) (w : World) (e : Ending) (w' : World) : Prop :=
  ∃ m code q, all s.data.toList = (m, code, q) ∧ Below w.heap.size w w' ∧
    ((code = 0 ∧ ∃ A c, e = .returned (.tuple #[.slice A m.length c, .nilIface]) ∧ OwnK w.heap.size w' A c m) ∨ (code ≠ 0 ∧ e = .returned (.tuple #[.slice none 0 0, Fau.bare code (q : Int)])))
structure Sofar (s : ByteArray) (w wr : World) (n : Nat) (A : Option Addr) (c : Nat) (out : List Tok) : Prop where
  le : n ≤ s.size
  few : out.length ≤ n
  same : all s.data.toList = rest s.data.toList n out
  below : Below w.heap.size w wr
  own : OwnK w.heap.size wr A c out
theorem news_new (w : World) (cs : Array Value) (t : TypeId) (l : List Value) (hl : cs.toList = l) : ∀ j u, l[j]? = some u → (w.alloc (.cells cs t)).cell? ((⟨w.heap.size, 0, none⟩ : Addr).add j) = some u := Quo.news_new w cs t l hl
theorem two_news (w : World) (cs : Array Value) (l : List Value) (hl : cs.toList = l) : ∀ j u, l[j]? = some u → ((w.alloc (.cells cs 46)).alloc (.cells cs 46)).cell? ((⟨w.heap.size + 1, 0, none⟩ : Addr).add j) = some u := fun j u hj => by
  have := news_new (w.alloc (.cells cs 46)) cs 46 l hl j u hj
  simpa using this
theorem tok_step {w wr w2 w3 : World} {A : Option Addr} {c N g' cap' : Nat} {out : List Tok} {t : Tok} {C D : Obj} (hb : Below w.heap.size w wr) (ho : OwnK w.heap.size wr A c out) (hN : out.length = N) (h2 : Below wr.heap.size wr w2)
    (hown : w3.ownsRow w.heap.size 46 5 (.slice (some ⟨g', 0, none⟩) (N + 1) cap') (N + 1) (tcs out ++ tcs [t])) (hg : ((w2.alloc C).alloc D).grownBy w3 (Value.ownBlock (.slice A N c))) :
    Below w.heap.size w w3 ∧ OwnK w.heap.size w3 (some ⟨g', 0, none⟩) cap' (out ++ [t]) := by
  have hr : ∀ k, Value.ownBlock (.slice A N c) = some k → w.heap.size ≤ k := fun k e => (ho.lo k (by rw [hN]; exact e)).1
  have h3 : Below w.heap.size w w2 := hb.trans (h2.mono hb.size)
  refine ⟨((h3.alloc h3.size C).alloc (by have := h3.size; simp; omega) D).grown hg (by have := h3.size; simp; omega) hr, ?_⟩
  unfold OwnK
  have e1 : (out ++ [t]).length = N + 1 := by simp [hN]
  rw [e1, tcs_append]; exact hown
theorem tcs_cell (t : Tok) : ∀ u ∈ tcs [t], u.oneCell' = true := by
  rw [tcs_one]
  intro u hu
  unfold tcl tc at hu
  simp at hu
  rcases hu with rfl | rfl | rfl | rfl | rfl <;> rfl
end Go.Proofs.YtgjaajofhfhadaaDoor.Lex
/- Two tokens compared; what Is answers; how All's answer is read. -/
namespace Go.Proofs.YtgjaajofhfhadaaDoor.Lex
open Go.ChangeShapes Go.WideShapes Go.RowKit
set_option linter.unusedVariables false
set_option maxRecDepth 20000

theorem fields37 : Tryd.prog.underlying 46 = some (.struct (Tryd.prog.fieldsOf 46)) := by kernel_rfl
theorem held37 : Tryd.prog.stoodInHeld 46 = false := by kernel_rfl
theorem part0 (k : Int) (s : ByteArray) (n c a : Int) (w : World) : (part 3 (tc k s n c a) 0).run Tryd.prog w = .ok (.int .i64 k) w := by kernel_rfl
theorem part1 (k : Int) (s : ByteArray) (n c a : Int) (w : World) : (part 9 (tc k s n c a) 1).run Tryd.prog w = .ok (.string s) w := by kernel_rfl
theorem part2 (k : Int) (s : ByteArray) (n c a : Int) (w : World) : (part 3 (tc k s n c a) 2).run Tryd.prog w = .ok (.int .i64 n) w := by kernel_rfl
theorem part3 (k : Int) (s : ByteArray) (n c a : Int) (w : World) : (part 3 (tc k s n c a) 3).run Tryd.prog w = .ok (.int .i64 c) w := by kernel_rfl
theorem part4 (k : Int) (s : ByteArray) (n c a : Int) (w : World) : (part 3 (tc k s n c a) 4).run Tryd.prog w = .ok (.int .i64 a) w := by kernel_rfl
theorem names37 : (Tryd.prog.fieldsOf 46).toList.map (fun f => (f.name, f.type, f.offset)) = [("Kind", 3, 0), ("Text", 9, 1), ("N", 3, 2), ("Class", 3, 3), ("At", 3, 4)] := by kernel_rfl
def teq (k : Int) (s : ByteArray) (n c a : Int) (k' : Int) (s' : ByteArray) (n' c' a' : Int) : Bool := (k == k') && ((s.toList == s'.toList) && ((n == n') && ((c == c') && (a == a'))))
theorem eqf (k : Int) (s : ByteArray) (n c a : Int) (k' : Int) (s' : ByteArray) (n' c' a' : Int) (w : World) (d : Nat) (fs : List Field) (h : fs.map (fun f => (f.name, f.type, f.offset)) = [("Kind", 3, 0), ("Text", 9, 1), ("N", 3, 2), ("Class", 3, 3), ("At", 3, 4)]) :
    (Op.eqFields (d + 1) (tc k s n c a) (tc k' s' n' c' a') fs).run Tryd.prog w = .ok (teq k s n c a k' s' n' c' a') w := by
  obtain ⟨f0, f1, f2, f3, f4, rfl⟩ : ∃ f0 f1 f2 f3 f4, fs = [f0, f1, f2, f3, f4] := by
    have hl : fs.length = 5 := by have := congrArg List.length h; simpa using this
    match fs, hl with
    | [f0, f1, f2, f3, f4], _ => exact ⟨f0, f1, f2, f3, f4, rfl⟩
  simp only [List.map_cons, List.map_nil, List.cons.injEq, Prod.mk.injEq] at h
  obtain ⟨⟨a1, a2, a3⟩, ⟨b1, b2, b3⟩, ⟨c1, c2, c3⟩, ⟨d1, d2, d3⟩, ⟨e1, e2, e3⟩, _⟩ := h
  simp [Op.eqFields, a1, a2, a3, b1, b2, b3, c1, c2, c3, d1, d2, d3, e1, e2, e3, part0, part1, part2, part3, part4, run_equalIn_int _ _ _ _ _ _ _ Tryd.underlying3, run_equalIn_string _ _ _ _ _ Tryd.underlying9, Result.andThen]
  clear a1 a2 a3 b1 b2 b3 c1 c2 c3 d1 d2 d3 e1 e2 e3
  unfold teq
  cases h1 : k == k' <;> cases h2 : s.toList == s'.toList <;> cases h3 : n == n' <;> cases h4 : c == c' <;> cases h5 : a == a' <;> simp_all
theorem eqIn37 (k : Int) (s : ByteArray) (n c a : Int) (k' : Int) (s' : ByteArray) (n' c' a' : Int) (r : Bool) (hr : teq k s n c a k' s' n' c' a' = r) (W : World) : (Op.equalIn 10000 46 (.agg (tc k s n c a)) (.agg (tc k' s' n' c' a'))).run Tryd.prog W = .ok r W := by
  rw [run_equalIn_struct W (P := Tryd.prog) 9999 46 _ _ fields37 held37, eqf k s n c a k' s' n' c' a' W 9998 _ names37, hr]
theorem eql37 (k : Int) (s : ByteArray) (n c a : Int) (k' : Int) (s' : ByteArray) (n' c' a' : Int) (r : Bool) (hr : teq k s n c a k' s' n' c' a' = r) (W : World) : (binOp .eql 46 (.agg (tc k s n c a)) (.agg (tc k' s' n' c' a'))).run Tryd.prog W = .ok (.bool r) W := by
  rw [run_eql_struct, eqIn37 _ _ _ _ _ _ _ _ _ _ r hr W]; rfl
theorem neq37 (k : Int) (s : ByteArray) (n c a : Int) (k' : Int) (s' : ByteArray) (n' c' a' : Int) (r : Bool) (hr : teq k s n c a k' s' n' c' a' = !r) (W : World) : (binOp .neq 46 (.agg (tc k s n c a)) (.agg (tc k' s' n' c' a'))).run Tryd.prog W = .ok (.bool r) W := by
  rw [run_neq_struct, eqIn37 _ _ _ _ _ _ _ _ _ _ _ hr W]; cases r <;> rfl
theorem is_word (s t : ByteArray) (n c a : Int) (h : (s.toList == t.toList) = true) (w : World) : Calls Tryd.prog 17 #[tk 1 s n c a, .string t] w fun e w' => e = .returned (.bool true) ∧ Below w.heap.size w w' := by
  have hb := Lib.hid ((Below.refl _ w).alloc (Nat.le_refl _) (.cells (tc 1 s n c a) 46))
  unfold tk tc
  go_enter Tryd.func17, Tryd.ntmps17
  go_wp2_with fail
  go_ret
  exact ⟨rfl, hb.out⟩
theorem is_text (s t : ByteArray) (n c a : Int) (w : World) : Calls Tryd.prog 17 #[tk 3 s n c a, .string t] w fun e w' => e = .returned (.bool false) ∧ Below w.heap.size w w' := by
  have hb := Lib.hid ((Below.refl _ w).alloc (Nat.le_refl _) (.cells (tc 3 s n c a) 46))
  unfold tk tc
  go_enter Tryd.func17, Tryd.ntmps17
  go_wp2_with fail
  go_ret
  exact ⟨rfl, hb.out⟩
theorem AllP.good {s : ByteArray} {w w' : World} {e : Ending} {m : List Tok} {q : Nat} (h : AllP s w e w') (hm : all s.data.toList = (m, 0, q)) :
    ∃ A c, e = .returned (.tuple #[.slice A m.length c, .nilIface]) ∧ OwnK w.heap.size w' A c m ∧ Below w.heap.size w w' := by
  obtain ⟨m', code, q', h1, h2, h3⟩ := h
  rw [hm] at h1
  injection h1 with e1 e2
  injection e2 with e2 e3
  subst e1 e2 e3
  rcases h3 with ⟨_, A, c, h4, h5⟩ | ⟨h4, _⟩
  · exact ⟨A, c, h4, h5, h2⟩
  · exact absurd rfl h4
theorem AllP.bad {s : ByteArray} {w w' : World} {e : Ending} {m : List Tok} {code : Int} {q : Nat} (h : AllP s w e w') (hm : all s.data.toList = (m, code, q)) (hc : code ≠ 0) :
    e = .returned (.tuple #[.slice none 0 0, Fau.bare code (q : Int)]) ∧ Below w.heap.size w w' := by
  obtain ⟨m', code', q', h1, h2, h3⟩ := h
  rw [hm] at h1
  injection h1 with e1 e2
  injection e2 with e2 e3
  subst e1 e2 e3
  rcases h3 with ⟨h4, _⟩ | ⟨_, h4⟩
  · exact absurd h4 hc
  · exact ⟨h4, h2⟩
/-- The cells of an own slice's tokens. -/
theorem OwnK.form {N : Nat} {w : World} {A : Option Addr} {c : Nat} {l : List Tok} (h : OwnK N w A c l) (hl : 0 < l.length) : ∃ g, A = some ⟨g, 0, none⟩ ∧ N ≤ g ∧ g < w.heap.size ∧ ∀ k j, (hk : k < l.length) → j < 5 → w.cell? ⟨g, k * 5 + j, none⟩ = (tcl l[k])[j]? := by
  obtain ⟨g, cap, e, hb, hlt⟩ := World.ownsRow.form h hl
  simp only [Value.slice.injEq, true_and] at e
  obtain ⟨rfl, rfl⟩ := e
  refine ⟨g, rfl, hb, hlt, fun k j hk hj => ?_⟩
  rw [World.ownsRow.cellAt h _ (by omega)]
  exact tcs_at l k j hk hj
end Go.Proofs.YtgjaajofhfhadaaDoor.Lex
/- Aids: sums of texts; cells that stay; digits. -/
namespace Go.Proofs.YtgjaajofhfhadaaDoor.Lex
open Go.ChangeShapes Go.WideShapes Go.RowKit
set_option linter.unusedVariables false
set_option maxRecDepth 20000

theorem add_run (a b c : ByteArray) (h : a.size + b.size ≤ 9223372036854775807) (hc : a ++ b = c) (W : World) : (Op.stringOp .add a b).run Tryd.prog W = .ok (.string c) W := by
  rw [run_string_add_sum W a b h, hc]
theorem stepS {w wr w1 : World} {b k : Nat} {v : Value} (h : wr.cell? ⟨b, k, none⟩ = some v ∧ Below w.heap.size w wr) (hb : Below wr.heap.size wr w1) : Hid (w1.cell? ⟨b, k, none⟩ = some v ∧ Below w.heap.size w w1) :=
  ⟨(hb.cell (p := ⟨b, k, none⟩) (World.block_lt_of_cell? _ _ h.1)).trans h.1, h.2.trans (hb.mono h.2.size)⟩
theorem txt_nat (u : Nat) : Deci.txt (u : Int) = Deci.digs u := by
  unfold Deci.txt
  rw [if_neg (by omega)]; rfl
theorem digs_size (u : Nat) (h : u < 9223372036854775808) : (Deci.digs u).length ≤ 19 := Deci.digs_le 18 u (by omega)
end Go.Proofs.YtgjaajofhfhadaaDoor.Lex
/- The statement on telling again, in parts: a token's bytes; what is compared. -/
namespace Go.Proofs.YtgjaajofhfhadaaDoor.Lex
open Go.ChangeShapes Go.WideShapes Go.RowKit
set_option linter.unusedVariables false
set_option maxRecDepth 20000

/-- The five cells of token k. -/
theorem cells5 {N : Nat} {w : World} {g c : Nat} {l : List Tok} (h : OwnK N w (some ⟨g, 0, none⟩) c l) (k : Nat) (hk : k < l.length) :
    w.cell? ⟨g, k * 5, none⟩ = some (.int .i64 l[k].kind) ∧ w.cell? ⟨g, k * 5 + 1, none⟩ = some (.string ⟨l[k].text.toArray⟩) ∧ w.cell? ⟨g, k * 5 + 2, none⟩ = some (.int .i64 l[k].n) ∧ w.cell? ⟨g, k * 5 + 3, none⟩ = some (.int .i64 l[k].cls) ∧ w.cell? ⟨g, k * 5 + 4, none⟩ = some (.int .i64 l[k].at_) := by
  obtain ⟨g', e, _, _, hc⟩ := h.form (by omega)
  injection e with e
  injection e with e1 e2
  subst e1
  exact ⟨hc k 0 hk (by decide), hc k 1 hk (by decide), hc k 2 hk (by decide), hc k 3 hk (by decide), hc k 4 hk (by decide)⟩
theorem cells5t {N : Nat} {w : World} {g c : Nat} {l : List Tok} (h : OwnK N w (some ⟨g, 0, none⟩) c l) (k : Nat) (t : Tok) (ht : l[k]? = some t) :
    w.cell? ⟨g, k * 5, none⟩ = some (.int .i64 t.kind) ∧ w.cell? ⟨g, k * 5 + 1, none⟩ = some (.string ⟨t.text.toArray⟩) ∧ w.cell? ⟨g, k * 5 + 2, none⟩ = some (.int .i64 t.n) ∧ w.cell? ⟨g, k * 5 + 3, none⟩ = some (.int .i64 t.cls) ∧ w.cell? ⟨g, k * 5 + 4, none⟩ = some (.int .i64 t.at_) := by
  obtain ⟨hk, rfl⟩ := List.getElem?_eq_some_iff.1 ht
  exact cells5 h k hk
theorem map_at {l m : List Tok} (h : m.map bare = l.map bare) (k : Nat) (t : Tok) (ht : l[k]? = some t) : ∃ u, m[k]? = some u ∧ bare t = bare u := by
  have e : (m.map bare)[k]? = (l.map bare)[k]? := by rw [h]
  rw [List.getElem?_map, List.getElem?_map, ht] at e
  cases hu : m[k]? with
  | none => rw [hu] at e; cases e
  | some u => rw [hu] at e; injection e with e; exact ⟨u, rfl, e.symm⟩
end Go.Proofs.YtgjaajofhfhadaaDoor.Lex
/- The document's own: whether two lists of tokens are one. -/
namespace Go.Proofs.YtgjaajofhfhadaaDoor.Lex
open Go.ChangeShapes Go.WideShapes Go.RowKit
set_option linter.unusedVariables false
set_option maxRecDepth 20000

/-- Tokens of a slice in memory, nil among it. -/
def Toks (w : World) (A : Option Addr) (l : List Tok) : Prop := l = [] ∨ ∃ (N g c : Nat), A = some ⟨g, 0, none⟩ ∧ OwnK N w (some ⟨g, 0, none⟩) c l
end Go.Proofs.YtgjaajofhfhadaaDoor.Lex
