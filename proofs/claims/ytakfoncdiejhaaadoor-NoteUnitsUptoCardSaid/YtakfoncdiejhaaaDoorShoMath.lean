
/- The texts of functions, plain. -/
import Derived.Test.YtakfoncdiejhaaaDoorTg
import Derived.Test.YtakfoncdiejhaaaDoorOpr
import Derived.Test.YtakfoncdiejhaaaDoorQuo
import Derived.Test.YtakfoncdiejhaaaDoorIrData
namespace Go.Proofs.YtakfoncdiejhaaaDoor
set_option linter.unusedVariables false
set_option maxRecDepth 20000

def vregT (n : Int) : List UInt8 := 37 :: Deci.txt n
def opnT (x : Opn) : List UInt8 :=
  if x.k = 0 then [95] else if x.k = 1 then vregT x.n else if x.k = 4 then Deci.txt x.n
  else if x.k = 2 ∨ x.k = 3 then Tg.nameOf x.k x.c x.n ++ 58 :: vregT x.t else [63]
/-- Texts in a row, with a comma and a blank between two. -/
def rowT : List (List UInt8) → List UInt8
  | [] => []
  | a :: r => a ++ r.flatMap (fun b => 44 :: 32 :: b)
def sepT (k : Nat) : List UInt8 := if k = 0 then [] else [44, 32]
theorem rowT_snoc (l : List (List UInt8)) (a : List UInt8) : rowT (l ++ [a]) = rowT l ++ sepT l.length ++ a := by
  cases l with
  | nil => simp [rowT, sepT]
  | cons b r => simp [rowT, sepT]
theorem rowT_end (l : List (List UInt8)) (a t : List UInt8) : rowT (l ++ [a ++ t]) = rowT (l ++ [a]) ++ t := by
  rw [rowT_snoc, rowT_snoc]; simp
theorem rowT_take (l : List (List UInt8)) (k : Nat) (a : List UInt8) (h : l[k]? = some a) : rowT (l.take (k + 1)) = rowT (l.take k) ++ sepT k ++ a := by
  obtain ⟨hk, he⟩ := List.getElem?_eq_some_iff.1 h
  rw [List.take_add_one, h, Option.toList_some, rowT_snoc, List.length_take, Nat.min_eq_left (Nat.le_of_lt hk)]
theorem rowT_le (l : List (List UInt8)) (k : Nat) : (rowT (l.take k)).length ≤ (rowT l).length := by
  cases l with
  | nil => simp
  | cons a r =>
    cases k with
    | zero => simp [rowT]
    | succ k =>
      rw [List.take_succ_cons]
      unfold rowT
      rw [List.length_append, List.length_append]
      have h := congrArg List.length (show r.flatMap (fun b => 44 :: 32 :: b) = (r.take k).flatMap (fun b => 44 :: 32 :: b) ++ (r.drop k).flatMap (fun b => (44 : UInt8) :: 32 :: b) by rw [← List.flatMap_append, List.take_append_drop])
      rw [List.length_append] at h
      omega
def opT (n : Int) : List UInt8 := if Opr.isOp n = true then (Opr.nameOf n).data.toList else [63]
def txs (l : List ByteArray) : List (List UInt8) := l.map fun s => s.data.toList
def takenT (args : List Opn) (labels : List ByteArray) : List UInt8 := if args = [] ∧ labels = [] then [] else 32 :: rowT (args.map opnT ++ txs labels)
def offT (args : List Opn) (off : Int) : List UInt8 := if args = [] ∨ off = 0 then [] else [32, 43, 32] ++ Deci.txt off
def nthT (labels : List ByteArray) (k : Nat) : List UInt8 := (txs labels).getD k []
def caseT (n : Int) (labels : List ByteArray) (k : Nat) : List UInt8 := Deci.txt n ++ [58, 32] ++ nthT labels k
def casesL (cs : List Int) (labels : List ByteArray) : List (List UInt8) := cs.mapIdx fun k n => caseT n labels k
def elseT (cs : List Int) (labels : List ByteArray) : List UInt8 := [101, 108, 115, 101, 58, 32] ++ nthT labels cs.length
def casesT (cs : List Int) (labels : List ByteArray) : List UInt8 := [32, 91] ++ (rowT (casesL cs labels ++ [elseT cs labels]) ++ [93])
def callT (nm : ByteArray) (args : List Opn) : List UInt8 := 32 :: (Quo.put nm.data.toList ++ 40 :: (rowT (args.map opnT) ++ [41]))
def restT (i : Ins) : List UInt8 :=
  if i.op = 19 then callT i.name i.args
  else if i.op = 17 ∨ i.op = 18 then takenT i.args [] ++ offT i.args i.off
  else if i.op = 20 ∨ i.op = 21 then takenT i.args i.labels
  else if i.op = 22 then takenT i.args [] ++ casesT i.cases i.labels
  else takenT i.args []
def dstT (x : Opn) : List UInt8 := if x.k = 0 then [] else opnT x ++ [32, 61, 32]
def insT (i : Ins) : List UInt8 := dstT i.dst ++ (opT i.op ++ restT i)
def edgeT (b : Bool) : List UInt8 := if b then [101, 100, 103, 101, 32] else []
def inT (l : List Opn) : List UInt8 := if l = [] then [] else [32, 91] ++ (rowT (l.map opnT) ++ [93])
def headT (b : Blk) : List UInt8 := edgeT b.edge ++ (b.label.data.toList ++ (inT b.ins ++ [58]))
def lineT (i : Ins) : List UInt8 := [32, 32] ++ (insT i ++ [59, 10])
def blkT (b : Blk) : List UInt8 := headT b ++ 10 :: b.code.flatMap lineT
def regT (r : Rg) : List UInt8 := 32 :: (vregT r.id ++ 58 :: Tg.letter r.cl)
def regsT (l : List Rg) : List UInt8 := if l = [] then [] else [114, 101, 103, 115] ++ (l.flatMap regT ++ [59, 10])
def funT0 (m : Bool) : List UInt8 := if m then [109, 97, 99, 104, 105, 110, 101, 32] else [102, 117, 110, 99, 32]
def funT1 (f : Fun) : List UInt8 := funT0 f.machine ++ (f.name.data.toList ++ 40 :: (rowT (f.params.map opnT) ++ [41, 32, 123, 10]))
def funT (f : Fun) : List UInt8 := funT1 f ++ (regsT f.regs ++ (f.blocks.flatMap blkT ++ [125, 10]))
theorem casesL_len (cs : List Int) (labels : List ByteArray) : (casesL cs labels).length = cs.length := by unfold casesL; simp
theorem casesL_at (cs : List Int) (labels : List ByteArray) (k : Nat) (n : Int) (h : cs[k]? = some n) : (casesL cs labels ++ [elseT cs labels])[k]? = some (caseT n labels k) := by
  obtain ⟨hk, he⟩ := List.getElem?_eq_some_iff.1 h
  rw [List.getElem?_append_left (by rw [casesL_len]; exact hk)]
  unfold casesL
  simp [h]
theorem flat_take {α : Type} (g : α → List UInt8) (l : List α) (k : Nat) (a : α) (h : l[k]? = some a) : (l.take (k + 1)).flatMap g = (l.take k).flatMap g ++ g a := by
  rw [List.take_add_one, h, Option.toList_some, List.flatMap_append]; simp
theorem flat_le {α : Type} (g : α → List UInt8) (l : List α) (k : Nat) : ((l.take k).flatMap g).length ≤ (l.flatMap g).length := by
  have h := congrArg List.length (show l.flatMap g = (l.take k).flatMap g ++ (l.drop k).flatMap g by rw [← List.flatMap_append, List.take_append_drop])
  rw [List.length_append] at h
  omega
end Go.Proofs.YtakfoncdiejhaaaDoor
