/- Packed texts of one proof. Conditions: none. -/
import Derived.Test.YtbpichjmkllfaaaGreatDoorPq02
namespace Go.Proofs.YtbpichjmkllfaaaGreatDoor.Fol
open Go.RowKit Lex
set_option linter.unusedVariables false
structure Opn where
 minus : Bool
 sum : Int
 joins : Int
 product : Int
inductive Res where
 | val (n : Int) (at_ : Nat)
 | bad (c : Int) (p : Nat)
inductive Mode where
 | fac
 | beh (n : Int)
def reck (op a b : Int) : Int := (doV op a b).1
def Opn.times (o : Opn) (n : Int) : Opn := { o with product := reck 3 o.product n }
def Opn.join (o : Opn) (op : Int) : Opn := ⟨o.minus, reck o.joins o.sum o.product, op, 1⟩
def Opn.all (o : Opn) : Int := reck o.joins o.sum o.product
def Opn.closed (o : Opn) : Int := if o.minus then reck 2 0 o.all else o.all
def opened (minus : Bool) : Opn := ⟨minus, 0, 1, 1⟩
def isT (t : Tok) (s : List UInt8) : Bool := (decide (t.kind = 1) || decide (t.kind = 7)) && decide (t.text = s)
def numT (t : Tok) (minus : Bool) : Int × Int := if t.kind ≠ 2 then (0, 20) else if minus then (reck 2 0 t.n, 0) else if t.n = -9223372036854775808 then (0, 2) else (t.n, 0)
def mayT (many : Nat) (minus : Bool) : Int := if many = 0 ∧ minus = true then 20 else if many = 32 then 21 else 0
def mach (l : List Tok) : Nat → Mode → Nat → List Opn → Option Res
 | 0, _, _, _ => none
 | k + 1, .fac, a, stk =>
  match l[a]? with
  | none => none
  | some t0 =>
   match l[if isT t0 [45] then a + 1 else a]? with
   | none => none
   | some t =>
    if isT t [40] then
     (if mayT stk.length (isT t0 [45]) = 0 then mach l k .fac ((if isT t0 [45] then a + 1 else a) + 1) (opened (isT t0 [45]) :: stk)
      else some (.bad (mayT stk.length (isT t0 [45])) t.at_))
    else if (numT t (isT t0 [45])).2 = 0 then mach l k (.beh (numT t (isT t0 [45])).1) ((if isT t0 [45] then a + 1 else a) + 1) stk
    else some (.bad (numT t (isT t0 [45])).2 t.at_)
 | k + 1, .beh n, a, [] => some (.val n a)
 | k + 1, .beh n, a, o :: r =>
  match l[a]? with
  | none => none
  | some t =>
   if isT t [41] then mach l k (.beh (o.times n).closed) (a + 1) r
   else if isT t [42] then mach l k .fac (a + 1) (o.times n :: r)
   else if isT t [43] then mach l k .fac (a + 1) ((o.times n).join 1 :: r)
   else if isT t [45] then mach l k .fac (a + 1) ((o.times n).join 2 :: r)
   else some (.bad 20 t.at_)
end Go.Proofs.YtbpichjmkllfaaaGreatDoor.Fol
namespace Go.Proofs.YtbpichjmkllfaaaGreatDoor.Opr
set_option linter.unusedVariables false
set_option maxRecDepth 20000
structure Rw where
 nm : ByteArray
 ds : ByteArray
 ar : List ByteArray
 lb : Int
 al : Bool
def rw0 : Rw := ⟨⟨#[]⟩, ⟨#[]⟩, [], 0, false⟩
def two (nm : ByteArray) : Rw := ⟨nm, ⟨#[103]⟩, [⟨#[103]⟩, ⟨#[103, 105]⟩], 0, false⟩
def names : List ByteArray := [⟨#[97, 100, 100]⟩, ⟨#[115, 117, 98]⟩, ⟨#[109, 117, 108]⟩, ⟨#[97, 110, 100]⟩, ⟨#[111, 114]⟩, ⟨#[120, 111, 114]⟩, ⟨#[115, 104, 108]⟩, ⟨#[115, 104, 114]⟩, ⟨#[115, 97, 114]⟩, ⟨#[100, 105, 118]⟩, ⟨#[114, 101, 109]⟩, ⟨#[101, 113]⟩, ⟨#[110, 101]⟩, ⟨#[108, 116]⟩, ⟨#[108, 101]⟩]
def r15 : Rw := ⟨⟨#[99, 111, 112, 121]⟩, ⟨#[103, 120]⟩, [⟨#[103, 120, 105]⟩], 0, false⟩
def r16 : Rw := ⟨⟨#[108, 111, 97, 100]⟩, ⟨#[103]⟩, [⟨#[120]⟩], 0, false⟩
def r17 : Rw := ⟨⟨#[115, 116, 111, 114, 101]⟩, ⟨#[]⟩, [⟨#[103]⟩, ⟨#[120]⟩], 0, false⟩
def r18 : Rw := ⟨⟨#[99, 97, 108, 108]⟩, ⟨#[103, 110]⟩, [⟨#[103, 105, 115]⟩, ⟨#[103, 105, 115]⟩, ⟨#[103, 105, 115]⟩, ⟨#[103, 105, 115]⟩, ⟨#[103, 105, 115]⟩, ⟨#[103, 105, 115]⟩, ⟨#[103, 105, 115]⟩, ⟨#[103, 105, 115]⟩], 0, false⟩
def r19 : Rw := ⟨⟨#[98, 114]⟩, ⟨#[]⟩, [], 1, false⟩
def r20 : Rw := ⟨⟨#[98, 114, 105, 102]⟩, ⟨#[]⟩, [⟨#[103]⟩], 2, false⟩
def r21 : Rw := ⟨⟨#[115, 119, 105, 116, 99, 104]⟩, ⟨#[]⟩, [⟨#[103]⟩], -1, false⟩
def r22 : Rw := ⟨⟨#[114, 101, 116]⟩, ⟨#[]⟩, [⟨#[103, 105]⟩], 0, false⟩
def r23 : Rw := ⟨⟨#[109, 111, 118, 101]⟩, ⟨#[103, 120]⟩, [⟨#[103, 120]⟩], 0, true⟩
def r24 : Rw := ⟨⟨#[115, 112, 105, 108, 108]⟩, ⟨#[115]⟩, [⟨#[103, 120]⟩], 0, true⟩
def r25 : Rw := ⟨⟨#[114, 101, 108, 111, 97, 100]⟩, ⟨#[103, 120]⟩, [⟨#[115]⟩], 0, true⟩
def r26 : Rw := ⟨⟨#[115, 119, 97, 112]⟩, ⟨#[]⟩, [⟨#[103, 120, 115]⟩, ⟨#[103, 120, 115]⟩], 0, true⟩
def tab : List Rw := names.map two ++ [r15, r16, r17, r18, r19, r20, r21, r22, r23, r24, r25, r26]
def rowOf (n : Int) : Rw := if 1 ≤ n ∧ n ≤ 27 then tab.getD (n.toNat - 1) rw0 else rw0
def isOp (n : Int) : Bool := decide (1 ≤ n) && decide (n ≤ 27)
def isR (n : Int) : Bool := decide (1 ≤ n) && decide (n ≤ 15)
def toR (n : Int) : Int := if 1 ≤ n ∧ n ≤ 15 then 1 else if n = 17 then 1 else if n = 19 then 17 else if n = 16 ∨ n = 24 ∨ n = 26 then 3 else if n = 25 then 8 else 0
def firstR (n : Int) : Int := if 1 ≤ n ∧ n ≤ 15 then 1 else if n = 18 ∨ n = 21 ∨ n = 22 then 1 else if n = 17 then 2 else if n = 23 then 5 else if n = 24 ∨ n = 25 then 3 else if n = 16 then 7 else if n = 26 then 8 else if n = 27 then 11 else 0
def secondR (n : Int) : Int := if 1 ≤ n ∧ n ≤ 15 then 5 else if n = 18 then 2 else if n = 27 then 11 else 0
def fromR (n i : Int) : Int := if n = 19 ∧ 0 ≤ i ∧ i < 8 then 13 else if i = 0 then firstR n else if i = 1 then secondR n else 0
def atR (n i : Int) : Int := if i = -1 then toR n else fromR n i
theorem ops (n : Int) : (1 ≤ n ∧ n ≤ 15) ∨ n = 16 ∨ n = 17 ∨ n = 18 ∨ n = 19 ∨ n = 20 ∨ n = 21 ∨ n = 22 ∨ n = 23 ∨ n = 24 ∨ n = 25 ∨ n = 26 ∨ n = 27 ∨ (n < 1 ∨ 27 < n) := by omega
theorem rowOf_none (n : Int) (h : n < 1 ∨ 27 < n) : rowOf n = rw0 := by unfold rowOf; rw [if_neg (by omega)]
theorem rowOf_op (k : Nat) (hk : k < 27) : rowOf ((k : Int) + 1) = tab.getD k rw0 := by
 unfold rowOf
 rw [if_pos (by omega), show ((k : Int) + 1).toNat - 1 = k by omega]
theorem rowOf_two (n : Int) (h : 1 ≤ n ∧ n ≤ 15) : ∃ s, rowOf n = two s := by
 obtain ⟨k, rfl⟩ : ∃ k : Nat, n = (k : Int) + 1 := ⟨n.toNat - 1, by omega⟩
 have hk : k < 15 := by omega
 rw [rowOf_op k (by omega)]
 refine ⟨names.getD k ⟨#[]⟩, ?_⟩
 match k, hk with
 | 0, _ => rfl
 | 1, _ => rfl
 | 2, _ => rfl
 | 3, _ => rfl
 | 4, _ => rfl
 | 5, _ => rfl
 | 6, _ => rfl
 | 7, _ => rfl
 | 8, _ => rfl
 | 9, _ => rfl
 | 10, _ => rfl
 | 11, _ => rfl
 | 12, _ => rfl
 | 13, _ => rfl
 | 14, _ => rfl
theorem tab_len : tab.length = 27 := rfl
def many (n : Int) : Nat := (rowOf n).ar.length
theorem many_at (n : Int) : (∀ k : Nat, k < many n → atR n (k : Int) ≠ 0) ∧ atR n (many n : Int) = 0 ∧ many n ≤ 8 := by
 unfold many
 rcases ops n with h | rfl | rfl | rfl | rfl | rfl | rfl | rfl | rfl | rfl | rfl | rfl | rfl | h
 ·obtain ⟨s, hs⟩ := rowOf_two n h
  have h19 : n ≠ 19 := by omega
  rw [hs]
  refine ⟨fun k hk => ?_, ?_, by simp [two]⟩
  ·have : k = 0 ∨ k = 1 := by simp [two] at hk; omega
   rcases this with rfl | rfl <;> simp [atR, fromR, firstR, secondR, h, h19]
  ·simp [two, atR, fromR, h19]
 all_goals try decide +kernel
 ·rw [rowOf_none n h]
  have h19 : n ≠ 19 := by omega
  refine ⟨fun k hk => by simp [rw0] at hk, ?_, by simp [rw0]⟩
  have h1 : ¬ (1 ≤ n ∧ n ≤ 15) := by omega
  simp [rw0, atR, fromR, firstR, h19, h1]
  omega
end Go.Proofs.YtbpichjmkllfaaaGreatDoor.Opr
namespace Go.Proofs.YtbpichjmkllfaaaGreatDoor.Par
open Lex (Tok)
set_option linter.unusedVariables false
set_option maxRecDepth 20000
inductive Res (α : Type) where
 | ok (a : α) (r : List Tok)
 | bad (c : Int) (p : Nat)
def Res.bind {α β : Type} (x : Res α) (f : α → List Tok → Res β) : Res β :=
 match x with
 | .ok a r => f a r
 | .bad c p => .bad c p
def headAt : List Tok → Nat
 | [] => 0
 | t :: _ => t.at_
def kindOf : List Tok → Nat
 | [] => 0
 | t :: _ => t.kind
def textOf : List Tok → List UInt8
 | [] => []
 | t :: _ => t.text
def err {α : Type} (l : List Tok) : Res α := .bad 20 (headAt l)
def isB (l : List Tok) (s : List UInt8) : Bool :=
 match l with
 | [] => false
 | t :: _ => Fol.isT t s
def must (s : List UInt8) (l : List Tok) : Res Unit := if isB l s = true then .ok () l.tail else err l
def ofk (k : Nat) (l : List Tok) : Res Tok :=
 match l with
 | [] => err l
 | t :: r => if t.kind = k then .ok t r else err l
def value (l : List Tok) : Res Int :=
 match Fol.mach l (2 * l.length + 2) .fac 0 [] with
 | some (.val n a) => .ok n (l.drop a)
 | some (.bad c p) => .bad c p
 | none => err l
def tag (l : List Tok) : Res Int := (must [58] l).bind fun _ l => (ofk 4 l).bind fun v l => .ok v.n l
def operand (l : List Tok) : Res Opn :=
 if kindOf l = 4 then (ofk 4 l).bind fun t l => .ok ⟨1, 0, t.n, 0⟩ l
 else if kindOf l = 5 then (ofk 5 l).bind fun t l => (tag l).bind fun v l => .ok ⟨2, t.cls, t.n, v⟩ l
 else if kindOf l = 6 then (ofk 6 l).bind fun t l => (tag l).bind fun v l => .ok ⟨3, 0, t.n, v⟩ l
 else if isB l [95] = true then .ok ⟨0, 0, 0, 0⟩ l.tail
 else (value l).bind fun n l => .ok ⟨4, 0, n, 0⟩ l
def opsF : Nat → List UInt8 → List Opn → List Tok → Res (List Opn)
 | 0, _, _, _ => .bad 0 0
 | k + 1, e, acc, l => (operand l).bind fun a r => if isB r [44] = true then opsF k e (acc ++ [a]) r.tail else (must e r).bind fun _ r => .ok (acc ++ [a]) r
def ops (e : List UInt8) (acc : List Opn) (l : List Tok) : Res (List Opn) := opsF (l.length + 1) e acc l
def ops0 (e : List UInt8) (l : List Tok) : Res (List Opn) := if isB l e = true then .ok [] l.tail else ops e [] l
def label (l : List Tok) : Res (List UInt8) :=
 (ofk 1 l).bind fun t l => if isB l [46] = true then (ofk 1 l.tail).bind fun u l => .ok (t.text ++ 46 :: u.text) l else .ok t.text l
def findOp (s : List UInt8) : Nat :=
 match Opr.tab.findIdx? (fun r => decide (r.nm.data.toList = s)) with
 | some k => k + 1
 | none => 0
def argsN : Nat → List Opn → List Tok → Res (List Opn)
 | 0, acc, l => .ok acc l
 | k + 1, acc, l => (if acc = [] then .ok () l else must [44] l).bind fun _ l => (operand l).bind fun a l => argsN k (acc ++ [a]) l
def case1 (l : List Tok) : Res (Int × List UInt8) :=
 (value l).bind fun n l => (must [58] l).bind fun _ l => (label l).bind fun s l => (must [44] l).bind fun _ l => .ok (n, s) l
def elseL : List UInt8 := [101, 108, 115, 101]
def casesF : Nat → List Int → List ByteArray → List Tok → Res (List Int × List ByteArray)
 | 0, _, _, _ => .bad 0 0
 | k + 1, cs, ls, l =>
  if isB l elseL = true then (must [58] l.tail).bind fun _ l => (label l).bind fun s l => (must [93] l).bind fun _ l => .ok (cs, ls ++ [⟨s.toArray⟩]) l
  else (case1 l).bind fun x r => casesF k (cs ++ [x.1]) (ls ++ [⟨x.2.toArray⟩]) r
def cases (cs : List Int) (ls : List ByteArray) (l : List Tok) : Res (List Int × List ByteArray) := casesF (l.length + 1) cs ls l
structure Has where
 args : List Opn
 name : ByteArray
 off : Int
 labels : List ByteArray
 cases : List Int
def rest (op : Nat) (l : List Tok) : Res Has :=
 if op = 19 then (ofk 3 l).bind fun t l => (must [40] l).bind fun _ l => (ops0 [41] l).bind fun a l => .ok ⟨a, ⟨t.text.toArray⟩, 0, [], []⟩ l
 else (argsN (Opr.many (op : Int)) [] l).bind fun a l =>
  if op = 17 ∨ op = 18 then (if isB l [43] = true then (value l.tail).bind fun n l => .ok ⟨a, ⟨#[]⟩, n, [], []⟩ l else .ok ⟨a, ⟨#[]⟩, 0, [], []⟩ l)
  else if op = 20 then (label l).bind fun s l => .ok ⟨a, ⟨#[]⟩, 0, [⟨s.toArray⟩], []⟩ l
  else if op = 21 then (must [44] l).bind fun _ l => (label l).bind fun s l => (must [44] l).bind fun _ l => (label l).bind fun u l => .ok ⟨a, ⟨#[]⟩, 0, [⟨s.toArray⟩, ⟨u.toArray⟩], []⟩ l
  else if op = 22 then (must [91] l).bind fun _ l => (cases [] [] l).bind fun x l => .ok ⟨a, ⟨#[]⟩, 0, x.2, x.1⟩ l
  else .ok ⟨a, ⟨#[]⟩, 0, [], []⟩ l
def instr2 (d : Opn) (l : List Tok) : Res Ins :=
 if kindOf l = 1 ∧ findOp (textOf l) ≠ 0 then
  (rest (findOp (textOf l)) l.tail).bind fun x r => (must [59] r).bind fun _ r => .ok ⟨(findOp (textOf l) : Int), d, x.args, x.name, x.off, x.labels, x.cases⟩ r
 else err l
def instr (l : List Tok) : Res Ins :=
 if kindOf l = 4 ∨ kindOf l = 5 ∨ kindOf l = 6 then (operand l).bind fun d l => (must [61] l).bind fun _ l => instr2 d l
 else if kindOf l = 1 ∧ findOp (textOf l) = 0 then err l.tail
 else instr2 ⟨0, 0, 0, 0⟩ l
def edgeL : List UInt8 := [101, 100, 103, 101]
def edgeB (l : List Tok) : Bool := decide (kindOf l = 1) && (isB l edgeL && decide (kindOf l.tail = 1))
def begins (l : List Tok) : Bool := decide (kindOf l = 1) && (isB l.tail [58] || (isB l.tail [91] || edgeB l))
def codeF : Nat → List Ins → List Tok → Res (List Ins)
 | 0, _, _ => .bad 0 0
 | k + 1, acc, l => if (isB l [125] || begins l) = true then .ok acc l else (instr l).bind fun x r => codeF k (acc ++ [x]) r
def code (acc : List Ins) (l : List Tok) : Res (List Ins) := codeF (l.length + 1) acc l
def block (l : List Tok) : Res Blk :=
 (ofk 1 (if edgeB l = true then l.tail else l)).bind fun t r =>
 (if edgeB l = true then (must [46] r).bind fun _ r => (ofk 1 r).bind fun u r => .ok (t.text ++ 46 :: u.text) r else .ok t.text r).bind fun s r =>
 (if isB r [91] = true then ops [93] [] r.tail else .ok [] r).bind fun ins r =>
 (must [58] r).bind fun _ r => (code [] r).bind fun c r => .ok ⟨⟨s.toArray⟩, edgeB l, ins, c⟩ r
def reg1 (l : List Tok) : Res Rg :=
 (ofk 4 l).bind fun v l => (must [58] l).bind fun _ l => if isB l [120] = true then .ok ⟨v.n, 1⟩ l.tail else (must [103] l).bind fun _ l => .ok ⟨v.n, 0⟩ l
def regsF : Nat → List Rg → List Tok → Res (List Rg)
 | 0, _, _ => .bad 0 0
 | k + 1, acc, l => if isB l [59] = true then .ok acc l.tail else (reg1 l).bind fun x r => regsF k (acc ++ [x]) r
def regs (acc : List Rg) (l : List Tok) : Res (List Rg) := regsF (l.length + 1) acc l
def blocksF : Nat → List Blk → List Tok → Res (List Blk)
 | 0, _, _ => .bad 0 0
 | k + 1, acc, l => if isB l [125] = true then .ok acc l.tail else (block l).bind fun x r => blocksF k (acc ++ [x]) r
def blocks (acc : List Blk) (l : List Tok) : Res (List Blk) := blocksF (l.length + 1) acc l
def machineL : List UInt8 := [109, 97, 99, 104, 105, 110, 101]
def funcL : List UInt8 := [102, 117, 110, 99]
def regsL : List UInt8 := [114, 101, 103, 115]
def func (l : List Tok) : Res Fun :=
 (if isB l machineL = true then .ok () l.tail else must funcL l).bind fun _ r => (ofk 1 r).bind fun t r => (must [40] r).bind fun _ r => (ops0 [41] r).bind fun ps r => (must [123] r).bind fun _ r =>
 (if (isB r regsL && decide (kindOf r.tail = 4)) = true then regs [] r.tail else .ok [] r).bind fun rs r =>
 (blocks [] r).bind fun bs r => .ok ⟨isB l machineL, ⟨t.text.toArray⟩, rs, ps, bs⟩ r
def whole (l : List Tok) : Res Fun := (func l).bind fun f r => (ofk 0 r).bind fun _ r => .ok f r
end Go.Proofs.YtbpichjmkllfaaaGreatDoor.Par
namespace Go.Proofs.YtbpichjmkllfaaaGreatDoor.Fol
open Go.RowKit Lex
set_option linter.unusedVariables false
def FacP (l : List Tok) (k a : Nat) (stk : List Opn) (R : Res) (m : Bool) (p : Nat) (t : Tok) : Prop :=
 (isT t [40] = true ∧ mayT stk.length m = 0 ∧ mach l k .fac (p + 1) (opened m :: stk) = some R) ∨
 (isT t [40] = true ∧ ¬ mayT stk.length m = 0 ∧ R = .bad (mayT stk.length m) t.at_) ∨
 (isT t [40] = false ∧ ∃ n, numT t m = (n, 0) ∧ mach l k (.beh n) (p + 1) stk = some R) ∨
 (isT t [40] = false ∧ ∃ n c, numT t m = (n, c) ∧ ¬ c = 0 ∧ R = .bad c t.at_)
theorem mach_fac {l : List Tok} {k a : Nat} {stk : List Opn} {R : Res} (h : mach l (k + 1) .fac a stk = some R) :
  ∃ t0 t, l[a]? = some t0 ∧ ((isT t0 [45] = true ∧ l[a + 1]? = some t ∧ FacP l k a stk R true (a + 1) t) ∨ (isT t0 [45] = false ∧ l[a]? = some t ∧ FacP l k a stk R false a t)) := by
 rw [mach] at h
 cases h0 : l[a]? with
 | none => rw [h0] at h; cases h
 | some t0 =>
  rw [h0] at h
  simp only at h
  have key : ∀ (m : Bool) (p : Nat), (match l[p]? with
   | none => none
   | some t =>
    if isT t [40] then
     (if mayT stk.length m = 0 then mach l k .fac (p + 1) (opened m :: stk)
      else some (.bad (mayT stk.length m) t.at_))
    else if (numT t m).2 = 0 then mach l k (.beh (numT t m).1) (p + 1) stk
    else some (.bad (numT t m).2 t.at_)) = some R → ∃ t, l[p]? = some t ∧ FacP l k a stk R m p t := by
   intro m p h
   cases hp : l[p]? with
   | none => rw [hp] at h; cases h
   | some t =>
    rw [hp] at h
    simp only at h
    refine ⟨t, rfl, ?_⟩
    cases ho : isT t [40] with
    | true =>
     rw [ho, if_pos rfl] at h
     by_cases hm : mayT stk.length m = 0
     ·rw [if_pos hm] at h; exact .inl ⟨ho, hm, h⟩
     ·rw [if_neg hm] at h; injection h with h; exact .inr (.inl ⟨ho, hm, h.symm⟩)
    | false =>
     rw [ho, if_neg (by decide)] at h
     by_cases hm : (numT t m).2 = 0
     ·rw [if_pos hm] at h; exact .inr (.inr (.inl ⟨ho, _, by rw [← hm], h⟩))
     ·rw [if_neg hm] at h; injection h with h; exact .inr (.inr (.inr ⟨ho, _, _, rfl, hm, h.symm⟩))
  cases hm : isT t0 [45] with
  | true =>
   rw [hm] at h
   simp only [if_true] at h
   obtain ⟨t, h1, h2⟩ := key true (a + 1) h
   exact ⟨t0, t, rfl, .inl ⟨hm, h1, h2⟩⟩
  | false =>
   rw [hm] at h
   simp only [Bool.false_eq_true, if_false] at h
   obtain ⟨t, h1, h2⟩ := key false a h
   exact ⟨t0, t, rfl, .inr ⟨hm, h0 ▸ h1, h2⟩⟩
theorem mach_top {l : List Tok} {k a : Nat} {n : Int} {R : Res} (h : mach l (k + 1) (.beh n) a [] = some R) : R = .val n a := by
 rw [mach] at h; injection h with h; exact h.symm
theorem mach_beh {l : List Tok} {k a : Nat} {n : Int} {o : Opn} {r : List Opn} {R : Res} (h : mach l (k + 1) (.beh n) a (o :: r) = some R) :
  ∃ t, l[a]? = some t ∧ (
   (isT t [41] = true ∧ mach l k (.beh (o.times n).closed) (a + 1) r = some R) ∨
   (isT t [41] = false ∧ isT t [42] = true ∧ mach l k .fac (a + 1) (o.times n :: r) = some R) ∨
   (isT t [41] = false ∧ isT t [42] = false ∧ isT t [43] = true ∧ mach l k .fac (a + 1) ((o.times n).join 1 :: r) = some R) ∨
   (isT t [41] = false ∧ isT t [42] = false ∧ isT t [43] = false ∧ isT t [45] = true ∧ mach l k .fac (a + 1) ((o.times n).join 2 :: r) = some R) ∨
   (isT t [41] = false ∧ isT t [42] = false ∧ isT t [43] = false ∧ isT t [45] = false ∧ R = .bad 20 t.at_)) := by
 rw [mach] at h
 cases h0 : l[a]? with
 | none => rw [h0] at h; cases h
 | some t =>
  rw [h0] at h
  simp only at h
  refine ⟨t, rfl, ?_⟩
  cases h1 : isT t [41] with
  | true => rw [h1, if_pos rfl] at h; exact .inl ⟨rfl, h⟩
  | false =>
   rw [h1, if_neg (by decide)] at h
   cases h2 : isT t [42] with
   | true => rw [h2, if_pos rfl] at h; exact .inr (.inl ⟨rfl, rfl, h⟩)
   | false =>
    rw [h2, if_neg (by decide)] at h
    cases h3 : isT t [43] with
    | true => rw [h3, if_pos rfl] at h; exact .inr (.inr (.inl ⟨rfl, rfl, rfl, h⟩))
    | false =>
     rw [h3, if_neg (by decide)] at h
     cases h4 : isT t [45] with
     | true => rw [h4, if_pos rfl] at h; exact .inr (.inr (.inr (.inl ⟨rfl, rfl, rfl, rfl, h⟩)))
     | false =>
      rw [h4, if_neg (by decide)] at h
      injection h with h
      exact .inr (.inr (.inr (.inr ⟨rfl, rfl, rfl, rfl, h.symm⟩)))
end Go.Proofs.YtbpichjmkllfaaaGreatDoor.Fol
