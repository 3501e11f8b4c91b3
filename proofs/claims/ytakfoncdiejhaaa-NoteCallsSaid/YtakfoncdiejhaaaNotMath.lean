
/- The texts of targets, allocations, units and calls, plain. -/
import Derived.Test.YtakfoncdiejhaaaShoMath
namespace Go.Proofs.Ytakfoncdiejhaaa
set_option linter.unusedVariables false

/-- A segment's text. -/
def segT (s : Sg) : List UInt8 := Deci.txt s.f ++ ([46, 46] ++ (Deci.txt s.t ++ (32 :: Tg.nameOf s.k s.c s.n)))
/-- Is it the first of its register's in a row; the last? -/
def fstB (l : List Sg) (k : Nat) (s : Sg) : Bool := k == 0 || ((l.getD (k - 1) default).v != s.v)
def lstB (l : List Sg) (k : Nat) (s : Sg) : Bool := k + 1 == l.length || ((l.getD (k + 1) default).v != s.v)
def fstT (b : Bool) (v : Int) : List UInt8 := if b then [32, 32, 37] ++ (Deci.txt v ++ [58, 32]) else []
def lstT (b : Bool) : List UInt8 := if b then [59, 10] else [44, 32]
def segAt (l : List Sg) (k : Nat) (s : Sg) : List UInt8 := fstT (fstB l k s) s.v ++ (segT s ++ lstT (lstB l k s))
def segsT (l : List Sg) : List UInt8 := (l.mapIdx (segAt l)).flatten
def alloT (slots : Int) (l : List Sg) : List UInt8 := [97, 108, 108, 111, 99, 32, 115, 108, 111, 116, 115, 32] ++ (Deci.txt slots ++ ([32, 123, 10] ++ (segsT l ++ [125, 10])))
/-- The first so many segments' texts. -/
def segsTo (l : List Sg) (k : Nat) : List UInt8 := ((l.mapIdx (segAt l)).take k).flatten
theorem segsTo_zero (l : List Sg) : segsTo l 0 = [] := by unfold segsTo; simp
theorem segsTo_all (l : List Sg) : segsTo l l.length = segsT l := by
  unfold segsTo segsT
  rw [List.take_of_length_le (by simp)]
theorem segsTo_step (l : List Sg) (k : Nat) (s : Sg) (h : l[k]? = some s) : segsTo l (k + 1) = segsTo l k ++ segAt l k s := by
  unfold segsTo
  rw [List.take_add_one, List.getElem?_mapIdx, h]
  simp
theorem segsTo_le (l : List Sg) (k : Nat) : (segsTo l k).length ≤ (segsT l).length := by
  unfold segsTo segsT
  have h := congrArg List.length (congrArg List.flatten (List.take_append_drop k (l.mapIdx (segAt l))))
  rw [List.flatten_append, List.length_append] at h
  omega
/-- The registers that a call spoils, of one class. -/
def spoT (c : Int) (l : List Int) : List UInt8 := l.flatMap fun n => 32 :: Tg.nameOf 2 c n
def cloT (c0 c1 : List Int) : List UInt8 := if c0.length + c1.length = 0 then [] else [32, 99, 108, 111, 98, 98, 101, 114]
def tgtT1 (r0 r1 slots : Int) : List UInt8 := [116, 97, 114, 103, 101, 116, 32, 103, 32] ++ (Deci.txt r0 ++ ([32, 120, 32] ++ (Deci.txt r1 ++ ([32, 115, 108, 111, 116, 115, 32] ++ Deci.txt slots))))
def tgtT (r0 r1 : Int) (c0 c1 : List Int) (slots : Int) : List UInt8 := tgtT1 r0 r1 slots ++ (cloT c0 c1 ++ (spoT 0 c0 ++ (spoT 1 c1 ++ [59, 10])))
/-- A call's text. -/
def calT (nm : ByteArray) (args : List Int) : List UInt8 := nm.data.toList ++ (40 :: (rowT (args.map Deci.txt) ++ [41]))
/-! How long they are. -/
theorem segT_le (s : Sg) (h1 : Deci.fit s.f) (h2 : Deci.fit s.t) (h3 : Deci.fit s.n) : (segT s).length ≤ 65 := by
  have a1 := Deci.txt_len s.f h1.1 h1.2
  have a2 := Deci.txt_len s.t h2.1 h2.2
  have a3 := Deci.txt_len s.n h3.1 h3.2
  have a4 : (Tg.nameOf s.k s.c s.n).length ≤ 22 := by
    unfold Tg.nameOf
    split
    · split
      · simp; omega
      · split
        · simp; omega
        · simp
    · split
      · simp; omega
      · simp
  unfold segT
  simp only [List.length_append, List.length_cons, List.length_nil]
  omega
end Go.Proofs.Ytakfoncdiejhaaa
