/- Values of expressions as plain lists: what stands open, and what reading goes on to. -/
import Derived.Test.YtgjaajofhfhadaaDoorMath
import Derived.Test.YtgjaajofhfhadaaDoorLexPlain
namespace Go.Proofs.YtgjaajofhfhadaaDoor.Fol
open Go.RowKit Lex
set_option linter.unusedVariables false

/-- What is open. -/
structure Opn where
  minus : Bool
  sum : Int
  joins : Int
  product : Int
/-- A value and the place behind it; or a code and where. -/
inductive Res where
  | val (n : Int) (at_ : Nat)
  | bad (c : Int) (p : Nat)
inductive Mode where
  | fac
  | beh (n : Int)
def reck (op a b : Int) : Int := (doV op a b).1
def Opn.times (o : Opn) (n : Int) : Opn := { o with product := reck 3 o.product n }
def Opn.join (o : Opn) (op : Int) : Opn := ⟨o.minus, reck o.joins o.sum o.product, op, 1⟩
def Opn.all (o : Opn) : Int := reck o.joins o.sum o.product
def Opn.closed (o : Opn) : Int := if o.minus then reck 2 0 o.all else o.all
def opened (minus : Bool) : Opn := ⟨minus, 0, 1, 1⟩
/-- Is a token that sign? -/
def isT (t : Tok) (s : List UInt8) : Bool := (decide (t.kind = 1) || decide (t.kind = 7)) && decide (t.text = s)
/-- What is made of a token where a number must stand: a number and 0, or a code. -/
def numT (t : Tok) (minus : Bool) : Int × Int := if t.kind ≠ 2 then (0, 20) else if minus then (reck 2 0 t.n, 0) else if t.n = -9223372036854775808 then (0, 2) else (t.n, 0)
def mayT (many : Nat) (minus : Bool) : Int := if many = 0 ∧ minus = true then 20 else if many = 32 then 21 else 0
/-- From a factor's place on, or behind a number: what comes of it. -/
def mach (l : List Tok) : Nat → Mode → Nat → List Opn → Option Res
  | 0, _, _, _ => none
  | k + 1, .fac, a, stk =>
    match l[a]? with
    | none => none
    | some t0 =>
      match l[if isT t0 [45] then a + 1 else a]? with
      | none => none
      | some t =>
        if isT t [40] then
          (if mayT stk.length (isT t0 [45]) = 0 then mach l k .fac ((if isT t0 [45] then a + 1 else a) + 1) (opened (isT t0 [45]) :: stk)
           else some (.bad (mayT stk.length (isT t0 [45])) t.at_))
        else if (numT t (isT t0 [45])).2 = 0 then mach l k (.beh (numT t (isT t0 [45])).1) ((if isT t0 [45] then a + 1 else a) + 1) stk
        else some (.bad (numT t (isT t0 [45])).2 t.at_)
  | k + 1, .beh n, a, [] => some (.val n a)
  | k + 1, .beh n, a, o :: r =>
    match l[a]? with
    | none => none
    | some t =>
      if isT t [41] then mach l k (.beh (o.times n).closed) (a + 1) r
      else if isT t [42] then mach l k .fac (a + 1) (o.times n :: r)
      else if isT t [43] then mach l k .fac (a + 1) ((o.times n).join 1 :: r)
      else if isT t [45] then mach l k .fac (a + 1) ((o.times n).join 2 :: r)
      else some (.bad 20 t.at_)
end Go.Proofs.YtgjaajofhfhadaaDoor.Fol
