/- The table of operations, plain: what each is called, what its places may have, how many labels it has. -/
import Derived.WalkKit
import Derived.Test.YtakfoncdiejhaaaDoorProg
import Derived.LaidEql
import Derived.RowKitTokens
import Derived.Below
import Derived.Deep.Light
import Derived.StillTailTactics
import Derived.Lib.Hide
import Derived.Maps.AppendAt
import Derived.Deep.AppendLies
import Derived.OwnWalk
import Derived.Laws.OwnMore
import Derived.BigQuiet
import Derived.Deep.QuietTactic
import Derived.Laws.ResultCell
import Derived.Deep.MidRow
import Derived.Test.YtakfoncdiejhaaaDoorRows
import Derived.Lib.LaidTab
import Derived.LaidLaws
import Derived.OpenShut
namespace Go.Proofs.YtakfoncdiejhaaaDoor.Opr
set_option linter.unusedVariables false
set_option maxRecDepth 20000

/-- A row: name, where it gives to, what it takes, how many labels, of machine code alone. -/
structure Rw where
  nm : ByteArray
  ds : ByteArray
  ar : List ByteArray
  lb : Int
  al : Bool
def rw0 : Rw := ⟨⟨#[]⟩, ⟨#[]⟩, [], 0, false⟩
def two (nm : ByteArray) : Rw := ⟨nm, ⟨#[103]⟩, [⟨#[103]⟩, ⟨#[103, 105]⟩], 0, false⟩
def names : List ByteArray := [⟨#[97, 100, 100]⟩, ⟨#[115, 117, 98]⟩, ⟨#[109, 117, 108]⟩, ⟨#[97, 110, 100]⟩, ⟨#[111, 114]⟩, ⟨#[120, 111, 114]⟩, ⟨#[115, 104, 108]⟩, ⟨#[115, 104, 114]⟩, ⟨#[115, 97, 114]⟩, ⟨#[100, 105, 118]⟩, ⟨#[114, 101, 109]⟩, ⟨#[101, 113]⟩, ⟨#[110, 101]⟩, ⟨#[108, 116]⟩, ⟨#[108, 101]⟩]
def r15 : Rw := ⟨⟨#[99, 111, 112, 121]⟩, ⟨#[103, 120]⟩, [⟨#[103, 120, 105]⟩], 0, false⟩
def r16 : Rw := ⟨⟨#[108, 111, 97, 100]⟩, ⟨#[103]⟩, [⟨#[120]⟩], 0, false⟩
def r17 : Rw := ⟨⟨#[115, 116, 111, 114, 101]⟩, ⟨#[]⟩, [⟨#[103]⟩, ⟨#[120]⟩], 0, false⟩
def r18 : Rw := ⟨⟨#[99, 97, 108, 108]⟩, ⟨#[103, 110]⟩, [⟨#[103, 105, 115]⟩, ⟨#[103, 105, 115]⟩, ⟨#[103, 105, 115]⟩, ⟨#[103, 105, 115]⟩, ⟨#[103, 105, 115]⟩, ⟨#[103, 105, 115]⟩, ⟨#[103, 105, 115]⟩, ⟨#[103, 105, 115]⟩], 0, false⟩
def r19 : Rw := ⟨⟨#[98, 114]⟩, ⟨#[]⟩, [], 1, false⟩
def r20 : Rw := ⟨⟨#[98, 114, 105, 102]⟩, ⟨#[]⟩, [⟨#[103]⟩], 2, false⟩
def r21 : Rw := ⟨⟨#[115, 119, 105, 116, 99, 104]⟩, ⟨#[]⟩, [⟨#[103]⟩], -1, false⟩
def r22 : Rw := ⟨⟨#[114, 101, 116]⟩, ⟨#[]⟩, [⟨#[103, 105]⟩], 0, false⟩
def r23 : Rw := ⟨⟨#[109, 111, 118, 101]⟩, ⟨#[103, 120]⟩, [⟨#[103, 120]⟩], 0, true⟩
def r24 : Rw := ⟨⟨#[115, 112, 105, 108, 108]⟩, ⟨#[115]⟩, [⟨#[103, 120]⟩], 0, true⟩
def r25 : Rw := ⟨⟨#[114, 101, 108, 111, 97, 100]⟩, ⟨#[103, 120]⟩, [⟨#[115]⟩], 0, true⟩
def r26 : Rw := ⟨⟨#[115, 119, 97, 112]⟩, ⟨#[]⟩, [⟨#[103, 120, 115]⟩, ⟨#[103, 120, 115]⟩], 0, true⟩
def tab : List Rw := names.map two ++ [r15, r16, r17, r18, r19, r20, r21, r22, r23, r24, r25, r26]
/-- The row of any number; of what is no operation the empty one. -/
def rowOf (n : Int) : Rw := if 1 ≤ n ∧ n ≤ 27 then tab.getD (n.toNat - 1) rw0 else rw0
def isOp (n : Int) : Bool := decide (1 ≤ n) && decide (n ≤ 27)
def isR (n : Int) : Bool := decide (1 ≤ n) && decide (n ≤ 15)
/-- What a place may have, as bits: g 1, x 2, i 4, s 8, n 16. -/
def toR (n : Int) : Int := if 1 ≤ n ∧ n ≤ 15 then 1 else if n = 17 then 1 else if n = 19 then 17 else if n = 16 ∨ n = 24 ∨ n = 26 then 3 else if n = 25 then 8 else 0
def firstR (n : Int) : Int := if 1 ≤ n ∧ n ≤ 15 then 1 else if n = 18 ∨ n = 21 ∨ n = 22 then 1 else if n = 17 then 2 else if n = 23 then 5 else if n = 24 ∨ n = 25 then 3 else if n = 16 then 7 else if n = 26 then 8 else if n = 27 then 11 else 0
def secondR (n : Int) : Int := if 1 ≤ n ∧ n ≤ 15 then 5 else if n = 18 then 2 else if n = 27 then 11 else 0
def fromR (n i : Int) : Int := if n = 19 ∧ 0 ≤ i ∧ i < 8 then 13 else if i = 0 then firstR n else if i = 1 then secondR n else 0
def atR (n i : Int) : Int := if i = -1 then toR n else fromR n i
theorem ops (n : Int) : (1 ≤ n ∧ n ≤ 15) ∨ n = 16 ∨ n = 17 ∨ n = 18 ∨ n = 19 ∨ n = 20 ∨ n = 21 ∨ n = 22 ∨ n = 23 ∨ n = 24 ∨ n = 25 ∨ n = 26 ∨ n = 27 ∨ (n < 1 ∨ 27 < n) := by omega
theorem ops27 (n : Int) (h : 1 ≤ n ∧ n ≤ 27) : ∃ k : Fin 27, n = (k.val : Int) + 1 := ⟨⟨n.toNat - 1, by omega⟩, by simp; omega⟩
theorem rowOf_none (n : Int) (h : n < 1 ∨ 27 < n) : rowOf n = rw0 := by unfold rowOf; rw [if_neg (by omega)]
theorem rowOf_op (k : Nat) (hk : k < 27) : rowOf ((k : Int) + 1) = tab.getD k rw0 := by
  unfold rowOf
  rw [if_pos (by omega), show ((k : Int) + 1).toNat - 1 = k by omega]
theorem rowOf_two (n : Int) (h : 1 ≤ n ∧ n ≤ 15) : ∃ s, rowOf n = two s := by
  obtain ⟨k, rfl⟩ : ∃ k : Nat, n = (k : Int) + 1 := ⟨n.toNat - 1, by omega⟩
  have hk : k < 15 := by omega
  rw [rowOf_op k (by omega)]
  refine ⟨names.getD k ⟨#[]⟩, ?_⟩
  match k, hk with
  | 0, _ => rfl
  | 1, _ => rfl
  | 2, _ => rfl
  | 3, _ => rfl
  | 4, _ => rfl
  | 5, _ => rfl
  | 6, _ => rfl
  | 7, _ => rfl
  | 8, _ => rfl
  | 9, _ => rfl
  | 10, _ => rfl
  | 11, _ => rfl
  | 12, _ => rfl
  | 13, _ => rfl
  | 14, _ => rfl
theorem tab_len : tab.length = 27 := rfl
/-- How many places an operation takes from. -/
def many (n : Int) : Nat := (rowOf n).ar.length
theorem many_at (n : Int) : (∀ k : Nat, k < many n → atR n (k : Int) ≠ 0) ∧ atR n (many n : Int) = 0 ∧ many n ≤ 8 := by
  unfold many
  rcases ops n with h | rfl | rfl | rfl | rfl | rfl | rfl | rfl | rfl | rfl | rfl | rfl | rfl | h
  · obtain ⟨s, hs⟩ := rowOf_two n h
    have h19 : n ≠ 19 := by omega
    rw [hs]
    refine ⟨fun k hk => ?_, ?_, by simp [two]⟩
    · have : k = 0 ∨ k = 1 := by simp [two] at hk; omega
      rcases this with rfl | rfl <;> simp [atR, fromR, firstR, secondR, h, h19]
    · simp [two, atR, fromR, h19]
  all_goals try decide +kernel
  · rw [rowOf_none n h]
    have h19 : n ≠ 19 := by omega
    refine ⟨fun k hk => by simp [rw0] at hk, ?_, by simp [rw0]⟩
    have h1 : ¬ (1 ≤ n ∧ n ≤ 15) := by omega
    simp [rw0, atR, fromR, firstR, h19, h1]
    omega
def mayOf (n : Int) : Bool := (rowOf n).ds.toList != []
def mustOf (n : Int) : Bool := mayOf n && (n != 19)
theorem gives_at (n : Int) : toR n = 0 ∧ mayOf n = false ∧ mustOf n = false ∨ (toR n = 1 ∨ toR n = 3 ∨ toR n = 8) ∧ mayOf n = true ∧ mustOf n = true ∨ toR n = 17 ∧ mayOf n = true ∧ mustOf n = false := by
  unfold mustOf mayOf
  rcases ops n with h | rfl | rfl | rfl | rfl | rfl | rfl | rfl | rfl | rfl | rfl | rfl | rfl | h
  · obtain ⟨s, hs⟩ := rowOf_two n h
    have h19 : (n != 19) = true := by rw [bne_iff_ne]; omega
    rw [hs, h19]
    have e : (two s).ds.toList = [103] := (by decide +kernel : (ByteArray.mk #[103]).toList = [103])
    rw [e]
    refine .inr (.inl ⟨.inl (by simp [toR, h]), by decide, by decide⟩)
  all_goals try decide +kernel
  · rw [rowOf_none n h]
    have e : rw0.ds.toList = [] := by decide +kernel
    rw [e]
    have h1 : ¬ (1 ≤ n ∧ n ≤ 15) := by omega
    refine .inl ⟨?_, by decide, by simp⟩
    simp [toR, h1]
    omega
end Go.Proofs.YtakfoncdiejhaaaDoor.Opr
/- What the small functions of op answer: Is, Machine, Last, Labels, and what a place may have. -/
namespace Go.Proofs.YtakfoncdiejhaaaDoor.Opr
open Go.ChangeShapes Go.WideShapes Go.RowKit
set_option linter.unusedVariables false
set_option maxRecDepth 20000

theorem is_v (n : Int) (b : Bool) (h : isOp n = b) (w : World) : Calls Tryd.prog 72 #[.int .i64 n] w fun e w' => e = .returned (.bool b) ∧ w = w' := by
  unfold isOp at h
  by_cases h1 : 1 ≤ n
  · have c1 : decide (1 ≤ n) = true := decide_eq_true h1
    by_cases h2 : n ≤ 27
    · have c2 : decide (n ≤ 27) = true := decide_eq_true h2
      have hb : b = true := by rw [← h, c1, c2]; rfl
      subst hb
      clear h
      go_enter Tryd.func72, Tryd.ntmps72
      go_wp2_with fail
      go_ret
      exact ⟨rfl, rfl⟩
    · have c2 : decide (n ≤ 27) = false := decide_eq_false h2
      have hb : b = false := by rw [← h, c1, c2]; rfl
      subst hb
      clear h h2
      go_enter Tryd.func72, Tryd.ntmps72
      go_wp2_with fail
      go_ret
      exact ⟨rfl, rfl⟩
  · have c1 : decide (1 ≤ n) = false := decide_eq_false h1
    have hb : b = false := by rw [← h, c1]; rfl
    subst hb
    clear h h1
    go_enter Tryd.func72, Tryd.ntmps72
    go_wp2_with fail
    go_ret
    exact ⟨rfl, rfl⟩
def machOf (n : Int) : Bool := (n == 24) || (n == 25) || (n == 26) || (n == 27)
def lastOf (n : Int) : Bool := (n == 20) || (n == 21) || (n == 22) || (n == 23)
def labsOf (n cs : Int) : Int := if n = 20 then 1 else if n = 21 then 2 else if n = 22 then cs + 1 else 0
end Go.Proofs.YtakfoncdiejhaaaDoor.Opr
/- What Gives, Args and Fits of op answer. -/
namespace Go.Proofs.YtakfoncdiejhaaaDoor.Opr
open Go.ChangeShapes Go.WideShapes Go.RowKit
set_option linter.unusedVariables false
set_option maxRecDepth 20000

/-- What Fits answers, by the bits. -/
def fitR (v c : Int) : Bool := if c = 0 then decide (v % 2 = 1) else if c = 1 then decide (v / 2 % 2 = 1) else false
theorem at_some (n i : Int) : atR n i = 0 ∨ atR n i = 1 ∨ atR n i = 2 ∨ atR n i = 3 ∨ atR n i = 5 ∨ atR n i = 7 ∨ atR n i = 8 ∨ atR n i = 11 ∨ atR n i = 13 ∨ atR n i = 17 := by
  unfold atR fromR toR firstR secondR
  repeat' split
  all_goals decide
end Go.Proofs.YtakfoncdiejhaaaDoor.Opr
/- What Classes of op answers: a slice of its own. -/
namespace Go.Proofs.YtakfoncdiejhaaaDoor.Opr
open Go.ChangeShapes Go.WideShapes Go.RowKit
set_option linter.unusedVariables false
set_option maxRecDepth 20000

def ints (l : List Int) : List Value := l.map (Value.int .i64)
def clsR (v : Int) : Nat → List Int
  | 0 => []
  | k + 1 => clsR v k ++ if fitR v (k : Int) then [(k : Int)] else []
theorem clsR_yes (v : Int) (k : Nat) (h : fitR v (k : Int) = true) : clsR v (k + 1) = clsR v k ++ [(k : Int)] := by rw [clsR, if_pos h]
theorem clsR_no (v : Int) (k : Nat) (h : fitR v (k : Int) = false) : clsR v (k + 1) = clsR v k := by rw [clsR, h]; simp
theorem info3 : (Tryd.prog.info? 3).map (fun i => (i.zero, i.size, i.bytes)) = some (some (.int .i64 0), 1, 8) := by kernel_rfl
theorem news_new (w : World) (cs : Array Value) (t : TypeId) (l : List Value) (hl : cs.toList = l) : ∀ j u, l[j]? = some u → (w.alloc (.cells cs t)).cell? ((⟨w.heap.size, 0, none⟩ : Addr).add j) = some u := by
  subst hl
  exact World.news_of_block (heap_alloc_new w _)
/-- What Classes hands back. -/
def ClsP (v : Int) (w : World) (e : Ending) (w' : World) : Prop :=
  ∃ A c, e = .returned (.slice A (clsR v 2).length c) ∧ w'.ownsRow w.heap.size 3 1 (.slice A (clsR v 2).length c) (clsR v 2).length (ints (clsR v 2)) ∧ Below w.heap.size w w'
structure Cl (v : Int) (w wr : World) (k : Nat) (A : Option Addr) (c N : Nat) : Prop where
  len : (clsR v k).length = N
  own : wr.ownsRow w.heap.size 3 1 (.slice A N c) N (ints (clsR v k))
  below : Below w.heap.size w wr
theorem Cl.next {v : Int} {w wr w1 : World} {k : Nat} {A : Option Addr} {c N g cap : Nat} {o : Obj} (h : Cl v w wr k A c N) (hf : fitR v (k : Int) = true)
    (ho : w1.ownsRow w.heap.size 3 1 (.slice (some ⟨g, 0, none⟩) (N + 1) cap) (N + 1) (ints (clsR v k) ++ [.int .i64 (k : Int)])) (hg : (wr.alloc o).grownBy w1 (Value.ownBlock (.slice A N c))) :
    Cl v w w1 (k + 1) (some ⟨g, 0, none⟩) cap (N + 1) := by
  have e := clsR_yes v k hf
  refine ⟨by rw [e, List.length_append, h.len]; rfl, by rw [e]; unfold ints at ho ⊢; rw [List.map_append]; exact ho, ?_⟩
  have h1 := h.below.alloc h.below.size o
  exact h1.grown hg (by have := h.below.size; simp; omega) (fun k hk => (h.own.lt k hk).1)
theorem Cl.same {v : Int} {w wr : World} {k : Nat} {A : Option Addr} {c N : Nat} (h : Cl v w wr k A c N) (hf : fitR v (k : Int) = false) : Cl v w wr (k + 1) A c N := by
  have e := clsR_no v k hf
  exact ⟨by rw [e]; exact h.len, by rw [e]; exact h.own, h.below⟩
end Go.Proofs.YtakfoncdiejhaaaDoor.Opr
/- What the document's own table is: All builds it anew at each call. -/
namespace Go.Proofs.YtakfoncdiejhaaaDoor.Opr
open Go.ChangeShapes Go.WideShapes Go.RowKit
set_option linter.unusedVariables false

/-- A row's cells; A: where its list of texts begins. -/
def rc (x : Rw × Option Addr) : Array Value := #[.string x.1.nm, .string x.1.ds, .slice x.2 x.1.ar.length x.1.ar.length, .int .i64 x.1.lb, .bool x.1.al]
def rcs (l : List (Rw × Option Addr)) : List Value := l.flatMap fun x => (rc x).toList
theorem rcs_append (l m : List (Rw × Option Addr)) : rcs (l ++ m) = rcs l ++ rcs m := List.flatMap_append
theorem rcs_one (x : Rw × Option Addr) : rcs [x] = (rc x).toList := by unfold rcs; simp
theorem rcs_at (l : List (Rw × Option Addr)) (k j : Nat) (hk : k < l.length) (hj : j < 5) : (rcs l)[k * 5 + j]? = (rc l[k])[j]? := by
  induction l generalizing k with
  | nil => cases hk
  | cons t l ih =>
    show (rcs ([t] ++ l))[k * 5 + j]? = _
    rw [rcs_append, rcs_one]
    have h5 : (rc t).toList.length = 5 := rfl
    cases k with
    | zero =>
      rw [List.getElem?_append_left (by omega)]
      simp
    | succ k =>
      rw [List.getElem?_append_right (by omega), h5, show (k + 1) * 5 + j - 5 = k * 5 + j by omega, ih k (by simpa using hk)]
      simp
theorem rcs_cell (x : Rw × Option Addr) : ∀ u ∈ rcs [x], u.oneCell' = true := by
  rw [rcs_one]
  intro u hu
  unfold rc at hu
  simp at hu
  rcases hu with rfl | rfl | rfl | rfl | rfl <;> rfl
def z25 : Array Value := #[.string ⟨#[]⟩, .string ⟨#[]⟩, .slice none 0 0, .int .i64 0, .bool false]
theorem info25 : (Tryd.prog.info? 98).map (fun i => (i.zero, i.size, i.bytes)) = some (some (.agg z25), 5, 72) := by kernel_rfl
/-- The texts ar are those of a list of the call's own, or there are none. -/
def Argd (B : Nat) (w : World) (A : Option Addr) (ar : List ByteArray) : Prop :=
  (ar = [] ∧ A = none) ∨ ∃ g cs, A = some ⟨g, 0, none⟩ ∧ B ≤ g ∧ w.heap[g]? = some (.cells cs 9 (0, 0)) ∧ cs.toList = ar.map Value.string
theorem Argd.grown {B : Nat} {w w' : World} {A : Option Addr} {ar : List ByteArray} (h : Argd B w A ar) {row : Option Nat} (hg : w.grownBy w' row) (hr : ∀ g, row = some g → ∃ cs, w.heap[g]? = some (.cells cs 98 (0, 0))) : Argd B w' A ar := by
  rcases h with h | ⟨g, cs, h1, h2, h3, h4⟩
  · exact .inl h
  · refine .inr ⟨g, cs, h1, h2, ?_, h4⟩
    have hlt := (Array.getElem?_eq_some_iff.1 h3).1
    rw [hg.block g hlt ?_]
    · exact h3
    · intro e
      obtain ⟨cs', h5⟩ := hr g e.symm
      rw [h3] at h5
      injection h5 with h5
      injection h5 with _ h6
      cases h6
theorem Argd.alloc {B : Nat} {w : World} {A : Option Addr} {ar : List ByteArray} (h : Argd B w A ar) (o : Obj) : Argd B (w.alloc o) A ar := by
  rcases h with h | ⟨g, cs, h1, h2, h3, h4⟩
  · exact .inl h
  · exact .inr ⟨g, cs, h1, h2, by rw [Below.heap_alloc _ _ _ (Array.getElem?_eq_some_iff.1 h3).1]; exact h3, h4⟩
theorem Argd.below {B : Nat} {w w' : World} {A : Option Addr} {ar : List ByteArray} (h : Argd B w A ar) (hb : Below w.heap.size w w') : Argd B w' A ar := by
  rcases h with h | ⟨g, cs, h1, h2, h3, h4⟩
  · exact .inl h
  · exact .inr ⟨g, cs, h1, h2, by rw [hb.block g (Array.getElem?_eq_some_iff.1 h3).1]; exact h3, h4⟩
theorem own_row {B : Nat} {w : World} {A : Option Addr} {c N : Nat} {xs : List Value} (h : w.ownsRow B 98 5 (.slice A N c) N xs) : ∀ g, Value.ownBlock (.slice A N c) = some g → ∃ cs, w.heap[g]? = some (.cells cs 98 (0, 0)) := by
  intro g hg
  rcases h.2 with ⟨h1, _⟩ | ⟨g', cap, cur, h1, _, h3, _⟩
  · injection h1 with h1 _ _
    subst h1
    cases hg
  · injection h1 with h1 _ _
    subst h1
    injection hg with hg
    exact ⟨cur, by rw [← hg]; exact h3⟩
/-- So many rows are laid. -/
structure Tb (w wr : World) (N : Nat) (A : Option Addr) (c : Nat) (l : List (Rw × Option Addr)) : Prop where
  len : l.length = N
  rows : l.map Prod.fst = tab.take N
  own : wr.ownsRow w.heap.size 98 5 (.slice A N c) N (rcs l)
  below : Below w.heap.size w wr
  args : ∀ x ∈ l, Argd w.heap.size wr x.2 x.1.ar
theorem Tb.snoc {w wr W w1 : World} {N : Nat} {A : Option Addr} {c g cap : Nat} {l : List (Rw × Option Addr)} (h : Tb w wr N A c l) (x : Rw × Option Addr) (hx : tab[N]? = some x.1)
    (hbW : Below w.heap.size w W) (hW : W.ownsRow w.heap.size 98 5 (.slice A N c) N (rcs l)) (ha : ∀ y ∈ l, Argd w.heap.size W y.2 y.1.ar) (hxa : Argd w.heap.size W x.2 x.1.ar)
    (ho : w1.ownsRow w.heap.size 98 5 (.slice (some ⟨g, 0, none⟩) (N + 1) cap) (N + 1) (rcs l ++ rcs [x])) (hg : W.grownBy w1 (Value.ownBlock (.slice A N c))) :
    Tb w w1 (N + 1) (some ⟨g, 0, none⟩) cap (l ++ [x]) := by
  have hr := own_row hW
  refine ⟨by rw [List.length_append, h.len]; rfl, ?_, by rw [rcs_append]; exact ho, hbW.grown hg hbW.size (fun k hk => (hW.lt k hk).1), ?_⟩
  · rw [List.map_append, h.rows, List.take_add_one, hx]; rfl
  · intro y hy
    rcases List.mem_append.1 hy with hy | hy
    · exact (ha y hy).grown hg hr
    · have : y = x := by simpa using hy
      subst this
      exact hxa.grown hg hr
theorem Tb.next {w wr w1 : World} {N : Nat} {A : Option Addr} {c g cap : Nat} {l : List (Rw × Option Addr)} (h : Tb w wr N A c l) (r : Rw) (hx : tab[N]? = some r) (cs ds : Array Value) (hcs : cs.toList = r.ar.map Value.string)
    (ho : w1.ownsRow w.heap.size 98 5 (.slice (some ⟨g, 0, none⟩) (N + 1) cap) (N + 1) (rcs l ++ rcs [(r, some ⟨wr.heap.size, 0, none⟩)])) (hg : ((wr.alloc (.cells cs 9)).alloc (.cells ds 98)).grownBy w1 (Value.ownBlock (.slice A N c))) :
    Tb w w1 (N + 1) (some ⟨g, 0, none⟩) cap (l ++ [(r, some ⟨wr.heap.size, 0, none⟩)]) := by
  have hs := h.below.size
  refine h.snoc (r, some ⟨wr.heap.size, 0, none⟩) hx ((h.below.alloc hs _).alloc (by simp; omega) _) ((h.own.alloc _).alloc _) (fun y hy => ((h.args y hy).alloc _).alloc _) ?_ ho hg
  refine Argd.alloc (.inr ⟨wr.heap.size, cs, rfl, hs, heap_alloc_new wr _, hcs⟩) _
theorem Tb.next0 {w wr w1 : World} {N : Nat} {A : Option Addr} {c g cap : Nat} {l : List (Rw × Option Addr)} (h : Tb w wr N A c l) (r : Rw) (hx : tab[N]? = some r) (ds : Array Value) (hr : r.ar = [])
    (ho : w1.ownsRow w.heap.size 98 5 (.slice (some ⟨g, 0, none⟩) (N + 1) cap) (N + 1) (rcs l ++ rcs [(r, none)])) (hg : (wr.alloc (.cells ds 98)).grownBy w1 (Value.ownBlock (.slice A N c))) :
    Tb w w1 (N + 1) (some ⟨g, 0, none⟩) cap (l ++ [(r, none)]) := by
  have hs := h.below.size
  exact h.snoc (r, none) hx (h.below.alloc hs _) (h.own.alloc _) (fun y hy => (h.args y hy).alloc _) (.inl ⟨hr, rfl⟩) ho hg
theorem tab_15 : tab[15]? = some r15 := rfl
theorem tab_16 : tab[16]? = some r16 := rfl
theorem tab_17 : tab[17]? = some r17 := rfl
theorem tab_18 : tab[18]? = some r18 := rfl
theorem tab_19 : tab[19]? = some r19 := rfl
theorem tab_20 : tab[20]? = some r20 := rfl
theorem tab_21 : tab[21]? = some r21 := rfl
theorem tab_22 : tab[22]? = some r22 := rfl
theorem tab_23 : tab[23]? = some r23 := rfl
theorem tab_24 : tab[24]? = some r24 := rfl
theorem tab_25 : tab[0x19]? = some r25 := rfl
theorem tab_26 : tab[26]? = some r26 := rfl
theorem names_tab (k : Nat) (hk : k < 15) : tab[k]? = some (two (names.getD k ⟨#[]⟩)) := by
  match k, hk with
  | 0, _ => rfl
  | 1, _ => rfl
  | 2, _ => rfl
  | 3, _ => rfl
  | 4, _ => rfl
  | 5, _ => rfl
  | 6, _ => rfl
  | 7, _ => rfl
  | 8, _ => rfl
  | 9, _ => rfl
  | 10, _ => rfl
  | 11, _ => rfl
  | 12, _ => rfl
  | 13, _ => rfl
  | 14, _ => rfl
def rows_up (w W : World) (cs ds : Array Value) : World := (W.alloc (.cells cs 9)).alloc (.cells ds 98)
theorem two_new (w : World) (x : Obj) (cs : Array Value) (l : List Value) (hl : cs.toList = l) : ∀ j u, l[j]? = some u → ((w.alloc x).alloc (.cells cs 98)).cell? ((⟨w.heap.size + 1, 0, none⟩ : Addr).add j) = some u := fun j u hj => by
  have := news_new (w.alloc x) cs 98 l hl j u hj
  simpa using this
def namesBlock : Obj := (.cells #[.string ⟨#[97, 100, 100]⟩, .string ⟨#[115, 117, 98]⟩, .string ⟨#[109, 117, 108]⟩, .string ⟨#[97, 110, 100]⟩, .string ⟨#[111, 114]⟩, .string ⟨#[120, 111, 114]⟩, .string ⟨#[115, 104, 108]⟩, .string ⟨#[115, 104, 114]⟩, .string ⟨#[115, 97, 114]⟩, .string ⟨#[100, 105, 118]⟩, .string ⟨#[114, 101, 109]⟩, .string ⟨#[101, 113]⟩, .string ⟨#[110, 101]⟩, .string ⟨#[108, 116]⟩, .string ⟨#[108, 101]⟩] 9)
theorem names_cells (j : Nat) (hj : j < 15) : (#[.string ⟨#[97, 100, 100]⟩, .string ⟨#[115, 117, 98]⟩, .string ⟨#[109, 117, 108]⟩, .string ⟨#[97, 110, 100]⟩, .string ⟨#[111, 114]⟩, .string ⟨#[120, 111, 114]⟩, .string ⟨#[115, 104, 108]⟩, .string ⟨#[115, 104, 114]⟩, .string ⟨#[115, 97, 114]⟩, .string ⟨#[100, 105, 118]⟩, .string ⟨#[114, 101, 109]⟩, .string ⟨#[101, 113]⟩, .string ⟨#[110, 101]⟩, .string ⟨#[108, 116]⟩, .string ⟨#[108, 101]⟩] : Array Value)[j]? = some (.string (names.getD j ⟨#[]⟩)) := by
  match j, hj with
  | 0, _ => rfl
  | 1, _ => rfl
  | 2, _ => rfl
  | 3, _ => rfl
  | 4, _ => rfl
  | 5, _ => rfl
  | 6, _ => rfl
  | 7, _ => rfl
  | 8, _ => rfl
  | 9, _ => rfl
  | 10, _ => rfl
  | 11, _ => rfl
  | 12, _ => rfl
  | 13, _ => rfl
  | 14, _ => rfl
theorem keep_names {w wr w1 : World} {A : Option Addr} {c N : Nat} {xs : List Value} {o o' : Obj} (h : wr.heap[w.heap.size]? = some namesBlock)
    (ho : wr.ownsRow w.heap.size 98 5 (.slice A N c) N xs) (hg : ((wr.alloc o).alloc o').grownBy w1 (Value.ownBlock (.slice A N c))) :
    w1.heap[w.heap.size]? = some namesBlock := by
  have hlt := (Array.getElem?_eq_some_iff.1 h).1
  rw [hg.block w.heap.size (by simp; omega) ?_, Below.heap_alloc _ _ _ (by simp; omega), Below.heap_alloc _ _ _ hlt]
  · exact h
  · intro e
    obtain ⟨cs', h5⟩ := own_row ho _ e.symm
    rw [h] at h5
    injection h5 with h5
    injection h5 with _ h6
    cases h6
/-- What All hands back. -/
def AllP (w : World) (e : Ending) (w' : World) : Prop := ∃ g c l, e = .returned (.slice (some ⟨g, 0, none⟩) 27 c) ∧ Tb w w' 27 (some ⟨g, 0, none⟩) c l
set_option maxHeartbeats 4000000 in
set_option maxRecDepth 100000 in
theorem all_v (w : World) : Calls Tryd.prog 50 #[] w (AllP w) := by
  obtain ⟨i0, hi0, hz0, hz1, hz2⟩ := info_parts info25
  have I0 := Lib.hid (And.intro hi0 (And.intro hz0 (And.intro hz1 hz2)))
  clear hi0 hz0 hz1 hz2
  go_enter Tryd.func50, Tryd.ntmps50
  go_wp2_with fail
  go_loopg [1, 3] 15 (fun gk x u wr => ∃ (k : Nat) (A : Option Addr) (c : Nat) (l : List (Rw × Option Addr)), k + gk = 15 ∧ x = .slice A k c ∧ u = .int .i64 (k : Int) ∧ Hid (Tb w wr k A c l ∧ wr.heap[w.heap.size]? = some namesBlock))
  case atStart => exact ⟨0, none, 0, [], by omega, rfl, rfl, ⟨rfl, rfl, World.ownsRow_nil _ _ _ _, (Below.refl _ w).alloc (Nat.le_refl _) _, by simp⟩, heap_alloc_new w _⟩
  case round =>
    obtain ⟨k, A, c, l, hk, rfl, rfl, HH⟩ := hrel
    by_cases hlt : k < 15
    · obtain ⟨s, hs⟩ : ∃ s, names.getD k ⟨#[]⟩ = s := ⟨_, rfl⟩
      have hc : wr.cell? ⟨w.heap.size, k, none⟩ = some (.string s) := by rw [cell_of_row _ _ _ _ _ _ HH.out.2, ← hs]; exact names_cells k hlt
      have HS := Lib.hid hs
      have hB2 : w.heap.size ≤ wr.heap.size := HH.out.1.below.size
      clear hs
      go_wp2_with (at_builtin; refine wpList_append_lies _ rfl (.tmp 9) (.tmp 16) 108 rfl w.heap.size 98 i0 (.agg z25) 5 72 Tryd.underlying108 I0.out.1 I0.out.2.1 I0.out.2.2.1 I0.out.2.2.2 rfl (by decide) (.slice A k c) k (rcs l) rfl ((HH.out.1.own.alloc _).alloc _) ⟨wr.heap.size + 1, 0, none⟩ 1 1 (rcs [(two s, some ⟨wr.heap.size, 0, none⟩)]) rfl rfl (two_new wr _ _ _ (rcs_one (two s, some ⟨wr.heap.size, 0, none⟩)).symm) (rcs_cell _) (by decide) (by unfold maxLen; omega) (by omega) (by simp; omega) _ rfl ?_)
      intro g' cap' w1 hown hgrow _ _
      have H2 := Lib.hid (And.intro (HH.out.1.next (two s) (by rw [names_tab k hlt, HS.out]) _ _ rfl hown hgrow) (keep_names HH.out.2 HH.out.1.own hgrow))
      clear hown hgrow
      go_wp2_with fail
      go_roundg (gk - 1)
      case measure => omega
      case rel => exact ⟨k + 1, _, _, _, by omega, rfl, by go_num, H2.out⟩
    · obtain rfl : k = 15 := by omega
      have H15 := Lib.hid HH.out.1
      have hB15 : w.heap.size ≤ wr.heap.size := HH.out.1.below.size
      clear hlt HH hk
      go_wp2_with (at_builtin; refine wpList_append_lies _ rfl (.tmp 18) (.tmp 21) 108 rfl w.heap.size 98 i0 (.agg z25) 5 72 Tryd.underlying108 I0.out.1 I0.out.2.1 I0.out.2.2.1 I0.out.2.2.2 rfl (by decide) (.slice A 15 c) 15 (rcs l) rfl ((H15.out.own.alloc _).alloc _) ⟨wr.heap.size + 1, 0, none⟩ 1 1 (rcs [(r15, some ⟨wr.heap.size, 0, none⟩)]) rfl rfl (two_new wr _ _ _ (rcs_one (r15, some ⟨wr.heap.size, 0, none⟩)).symm) (rcs_cell _) (by decide) (by unfold maxLen; omega) (by omega) (by simp; omega) _ rfl ?_)
      intro g15 c15 w15 hown hgrow _ _
      have H16 := Lib.hid (H15.out.next r15 tab_15 _ _ rfl hown hgrow)
      have hB16 : w.heap.size ≤ w15.heap.size := H16.out.below.size
      clear hown hgrow H15 hB15
      obtain ⟨l15, hl15⟩ : ∃ l', l ++ [(r15, some ⟨wr.heap.size, 0, none⟩)] = l' := ⟨_, rfl⟩
      rw [hl15] at H16
      clear hl15
      go_wp2_with (at_builtin; refine wpList_append_lies _ rfl (.tmp 23) (.tmp 26) 108 rfl w.heap.size 98 i0 (.agg z25) 5 72 Tryd.underlying108 I0.out.1 I0.out.2.1 I0.out.2.2.1 I0.out.2.2.2 rfl (by decide) (.slice (some ⟨g15, 0, none⟩) 16 c15) 16 (rcs l15) rfl ((H16.out.own.alloc _).alloc _) ⟨w15.heap.size + 1, 0, none⟩ 1 1 (rcs [(r16, some ⟨w15.heap.size, 0, none⟩)]) rfl rfl (two_new w15 _ _ _ (rcs_one (r16, some ⟨w15.heap.size, 0, none⟩)).symm) (rcs_cell _) (by decide) (by unfold maxLen; omega) (by omega) (by simp; omega) _ rfl ?_)
      intro g16 c16 w16 hown hgrow _ _
      have H17 := Lib.hid (H16.out.next r16 tab_16 _ _ rfl hown hgrow)
      have hB17 : w.heap.size ≤ w16.heap.size := H17.out.below.size
      clear hown hgrow H16 hB16
      obtain ⟨l16, hl16⟩ : ∃ l', l15 ++ [(r16, some ⟨w15.heap.size, 0, none⟩)] = l' := ⟨_, rfl⟩
      rw [hl16] at H17
      clear hl16
      go_wp2_with (at_builtin; refine wpList_append_lies _ rfl (.tmp 28) (.tmp 31) 108 rfl w.heap.size 98 i0 (.agg z25) 5 72 Tryd.underlying108 I0.out.1 I0.out.2.1 I0.out.2.2.1 I0.out.2.2.2 rfl (by decide) (.slice (some ⟨g16, 0, none⟩) 17 c16) 17 (rcs l16) rfl ((H17.out.own.alloc _).alloc _) ⟨w16.heap.size + 1, 0, none⟩ 1 1 (rcs [(r17, some ⟨w16.heap.size, 0, none⟩)]) rfl rfl (two_new w16 _ _ _ (rcs_one (r17, some ⟨w16.heap.size, 0, none⟩)).symm) (rcs_cell _) (by decide) (by unfold maxLen; omega) (by omega) (by simp; omega) _ rfl ?_)
      intro g17 c17 w17 hown hgrow _ _
      have H18 := Lib.hid (H17.out.next r17 tab_17 _ _ rfl hown hgrow)
      have hB18 : w.heap.size ≤ w17.heap.size := H18.out.below.size
      clear hown hgrow H17 hB17
      obtain ⟨l17, hl17⟩ : ∃ l', l16 ++ [(r17, some ⟨w16.heap.size, 0, none⟩)] = l' := ⟨_, rfl⟩
      rw [hl17] at H18
      clear hl17
      go_wp2_with (at_builtin; refine wpList_append_lies _ rfl (.tmp 33) (.tmp 36) 108 rfl w.heap.size 98 i0 (.agg z25) 5 72 Tryd.underlying108 I0.out.1 I0.out.2.1 I0.out.2.2.1 I0.out.2.2.2 rfl (by decide) (.slice (some ⟨g17, 0, none⟩) 18 c17) 18 (rcs l17) rfl ((H18.out.own.alloc _).alloc _) ⟨w17.heap.size + 1, 0, none⟩ 1 1 (rcs [(r18, some ⟨w17.heap.size, 0, none⟩)]) rfl rfl (two_new w17 _ _ _ (rcs_one (r18, some ⟨w17.heap.size, 0, none⟩)).symm) (rcs_cell _) (by decide) (by unfold maxLen; omega) (by omega) (by simp; omega) _ rfl ?_)
      intro g18 c18 w18 hown hgrow _ _
      have H19 := Lib.hid (H18.out.next r18 tab_18 _ _ rfl hown hgrow)
      have hB19 : w.heap.size ≤ w18.heap.size := H19.out.below.size
      clear hown hgrow H18 hB18
      obtain ⟨l18, hl18⟩ : ∃ l', l17 ++ [(r18, some ⟨w17.heap.size, 0, none⟩)] = l' := ⟨_, rfl⟩
      rw [hl18] at H19
      clear hl18
      go_wp2_with (at_builtin; refine wpList_append_lies _ rfl (.tmp 38) (.tmp 40) 108 rfl w.heap.size 98 i0 (.agg z25) 5 72 Tryd.underlying108 I0.out.1 I0.out.2.1 I0.out.2.2.1 I0.out.2.2.2 rfl (by decide) (.slice (some ⟨g18, 0, none⟩) 19 c18) 19 (rcs l18) rfl (H19.out.own.alloc _) ⟨w18.heap.size, 0, none⟩ 1 1 (rcs [(r19, none)]) rfl rfl (news_new w18 _ _ _ (rcs_one (r19, none)).symm) (rcs_cell _) (by decide) (by unfold maxLen; omega) (by omega) (by simp; omega) _ rfl ?_)
      intro g19 c19 w19 hown hgrow _ _
      have H20 := Lib.hid (H19.out.next0 r19 tab_19 _ rfl hown hgrow)
      have hB20 : w.heap.size ≤ w19.heap.size := H20.out.below.size
      clear hown hgrow H19 hB19
      obtain ⟨l19, hl19⟩ : ∃ l', l18 ++ [(r19, none)] = l' := ⟨_, rfl⟩
      rw [hl19] at H20
      clear hl19
      go_wp2_with (at_builtin; refine wpList_append_lies _ rfl (.tmp 42) (.tmp 45) 108 rfl w.heap.size 98 i0 (.agg z25) 5 72 Tryd.underlying108 I0.out.1 I0.out.2.1 I0.out.2.2.1 I0.out.2.2.2 rfl (by decide) (.slice (some ⟨g19, 0, none⟩) 20 c19) 20 (rcs l19) rfl ((H20.out.own.alloc _).alloc _) ⟨w19.heap.size + 1, 0, none⟩ 1 1 (rcs [(r20, some ⟨w19.heap.size, 0, none⟩)]) rfl rfl (two_new w19 _ _ _ (rcs_one (r20, some ⟨w19.heap.size, 0, none⟩)).symm) (rcs_cell _) (by decide) (by unfold maxLen; omega) (by omega) (by simp; omega) _ rfl ?_)
      intro g20 c20 w20 hown hgrow _ _
      have H21 := Lib.hid (H20.out.next r20 tab_20 _ _ rfl hown hgrow)
      have hB21 : w.heap.size ≤ w20.heap.size := H21.out.below.size
      clear hown hgrow H20 hB20
      obtain ⟨l20, hl20⟩ : ∃ l', l19 ++ [(r20, some ⟨w19.heap.size, 0, none⟩)] = l' := ⟨_, rfl⟩
      rw [hl20] at H21
      clear hl20
      go_wp2_with (at_builtin; refine wpList_append_lies _ rfl (.tmp 47) (.tmp 50) 108 rfl w.heap.size 98 i0 (.agg z25) 5 72 Tryd.underlying108 I0.out.1 I0.out.2.1 I0.out.2.2.1 I0.out.2.2.2 rfl (by decide) (.slice (some ⟨g20, 0, none⟩) 21 c20) 21 (rcs l20) rfl ((H21.out.own.alloc _).alloc _) ⟨w20.heap.size + 1, 0, none⟩ 1 1 (rcs [(r21, some ⟨w20.heap.size, 0, none⟩)]) rfl rfl (two_new w20 _ _ _ (rcs_one (r21, some ⟨w20.heap.size, 0, none⟩)).symm) (rcs_cell _) (by decide) (by unfold maxLen; omega) (by omega) (by simp; omega) _ rfl ?_)
      intro g21 c21 w21 hown hgrow _ _
      have H22 := Lib.hid (H21.out.next r21 tab_21 _ _ rfl hown hgrow)
      have hB22 : w.heap.size ≤ w21.heap.size := H22.out.below.size
      clear hown hgrow H21 hB21
      obtain ⟨l21, hl21⟩ : ∃ l', l20 ++ [(r21, some ⟨w20.heap.size, 0, none⟩)] = l' := ⟨_, rfl⟩
      rw [hl21] at H22
      clear hl21
      go_wp2_with (at_builtin; refine wpList_append_lies _ rfl (.tmp 52) (.tmp 55) 108 rfl w.heap.size 98 i0 (.agg z25) 5 72 Tryd.underlying108 I0.out.1 I0.out.2.1 I0.out.2.2.1 I0.out.2.2.2 rfl (by decide) (.slice (some ⟨g21, 0, none⟩) 22 c21) 22 (rcs l21) rfl ((H22.out.own.alloc _).alloc _) ⟨w21.heap.size + 1, 0, none⟩ 1 1 (rcs [(r22, some ⟨w21.heap.size, 0, none⟩)]) rfl rfl (two_new w21 _ _ _ (rcs_one (r22, some ⟨w21.heap.size, 0, none⟩)).symm) (rcs_cell _) (by decide) (by unfold maxLen; omega) (by omega) (by simp; omega) _ rfl ?_)
      intro g22 c22 w22 hown hgrow _ _
      have H23 := Lib.hid (H22.out.next r22 tab_22 _ _ rfl hown hgrow)
      have hB23 : w.heap.size ≤ w22.heap.size := H23.out.below.size
      clear hown hgrow H22 hB22
      obtain ⟨l22, hl22⟩ : ∃ l', l21 ++ [(r22, some ⟨w21.heap.size, 0, none⟩)] = l' := ⟨_, rfl⟩
      rw [hl22] at H23
      clear hl22
      go_wp2_with (at_builtin; refine wpList_append_lies _ rfl (.tmp 57) (.tmp 60) 108 rfl w.heap.size 98 i0 (.agg z25) 5 72 Tryd.underlying108 I0.out.1 I0.out.2.1 I0.out.2.2.1 I0.out.2.2.2 rfl (by decide) (.slice (some ⟨g22, 0, none⟩) 23 c22) 23 (rcs l22) rfl ((H23.out.own.alloc _).alloc _) ⟨w22.heap.size + 1, 0, none⟩ 1 1 (rcs [(r23, some ⟨w22.heap.size, 0, none⟩)]) rfl rfl (two_new w22 _ _ _ (rcs_one (r23, some ⟨w22.heap.size, 0, none⟩)).symm) (rcs_cell _) (by decide) (by unfold maxLen; omega) (by omega) (by simp; omega) _ rfl ?_)
      intro g23 c23 w23 hown hgrow _ _
      have H24 := Lib.hid (H23.out.next r23 tab_23 _ _ rfl hown hgrow)
      have hB24 : w.heap.size ≤ w23.heap.size := H24.out.below.size
      clear hown hgrow H23 hB23
      obtain ⟨l23, hl23⟩ : ∃ l', l22 ++ [(r23, some ⟨w22.heap.size, 0, none⟩)] = l' := ⟨_, rfl⟩
      rw [hl23] at H24
      clear hl23
      go_wp2_with (at_builtin; refine wpList_append_lies _ rfl (.tmp 62) (.tmp 65) 108 rfl w.heap.size 98 i0 (.agg z25) 5 72 Tryd.underlying108 I0.out.1 I0.out.2.1 I0.out.2.2.1 I0.out.2.2.2 rfl (by decide) (.slice (some ⟨g23, 0, none⟩) 24 c23) 24 (rcs l23) rfl ((H24.out.own.alloc _).alloc _) ⟨w23.heap.size + 1, 0, none⟩ 1 1 (rcs [(r24, some ⟨w23.heap.size, 0, none⟩)]) rfl rfl (two_new w23 _ _ _ (rcs_one (r24, some ⟨w23.heap.size, 0, none⟩)).symm) (rcs_cell _) (by decide) (by unfold maxLen; omega) (by omega) (by simp; omega) _ rfl ?_)
      intro g24 c24 w24 hown hgrow _ _
      have H25 := Lib.hid (H24.out.next r24 tab_24 _ _ rfl hown hgrow)
      have hB25 : w.heap.size ≤ w24.heap.size := H25.out.below.size
      clear hown hgrow H24 hB24
      obtain ⟨l24, hl24⟩ : ∃ l', l23 ++ [(r24, some ⟨w23.heap.size, 0, none⟩)] = l' := ⟨_, rfl⟩
      rw [hl24] at H25
      clear hl24
      go_wp2_with (at_builtin; refine wpList_append_lies _ rfl (.tmp 67) (.tmp 70) 108 rfl w.heap.size 98 i0 (.agg z25) 5 72 Tryd.underlying108 I0.out.1 I0.out.2.1 I0.out.2.2.1 I0.out.2.2.2 rfl (by decide) (.slice (some ⟨g24, 0, none⟩) 0x19 c24) 0x19 (rcs l24) rfl ((H25.out.own.alloc _).alloc _) ⟨w24.heap.size + 1, 0, none⟩ 1 1 (rcs [(r25, some ⟨w24.heap.size, 0, none⟩)]) rfl rfl (two_new w24 _ _ _ (rcs_one (r25, some ⟨w24.heap.size, 0, none⟩)).symm) (rcs_cell _) (by decide) (by unfold maxLen; omega) (by omega) (by simp; omega) _ rfl ?_)
      intro g25 c25 w25 hown hgrow _ _
      have H26 := Lib.hid (H25.out.next r25 tab_25 _ _ rfl hown hgrow)
      have hB26 : w.heap.size ≤ w25.heap.size := H26.out.below.size
      clear hown hgrow H25 hB25
      obtain ⟨l25, hl25⟩ : ∃ l', l24 ++ [(r25, some ⟨w24.heap.size, 0, none⟩)] = l' := ⟨_, rfl⟩
      rw [hl25] at H26
      clear hl25
      go_wp2_with (at_builtin; refine wpList_append_lies _ rfl (.tmp 72) (.tmp 75) 108 rfl w.heap.size 98 i0 (.agg z25) 5 72 Tryd.underlying108 I0.out.1 I0.out.2.1 I0.out.2.2.1 I0.out.2.2.2 rfl (by decide) (.slice (some ⟨g25, 0, none⟩) 26 c25) 26 (rcs l25) rfl ((H26.out.own.alloc _).alloc _) ⟨w25.heap.size + 1, 0, none⟩ 1 1 (rcs [(r26, some ⟨w25.heap.size, 0, none⟩)]) rfl rfl (two_new w25 _ _ _ (rcs_one (r26, some ⟨w25.heap.size, 0, none⟩)).symm) (rcs_cell _) (by decide) (by unfold maxLen; omega) (by omega) (by simp; omega) _ rfl ?_)
      intro g26 c26 w26 hown hgrow _ _
      have H27 := Lib.hid (H26.out.next r26 tab_26 _ _ rfl hown hgrow)
      have hB27 : w.heap.size ≤ w26.heap.size := H27.out.below.size
      clear hown hgrow H26 hB26
      obtain ⟨l26, hl26⟩ : ∃ l', l25 ++ [(r26, some ⟨w25.heap.size, 0, none⟩)] = l' := ⟨_, rfl⟩
      rw [hl26] at H27
      clear hl26
      go_wp2_with fail
      go_ret
      exact ⟨_, _, _, rfl, H27.out⟩
end Go.Proofs.YtakfoncdiejhaaaDoor.Opr
/- The document's own Find: the row of an operation, or the empty one. -/
namespace Go.Proofs.YtakfoncdiejhaaaDoor.Opr
open Go.ChangeShapes Go.WideShapes Go.RowKit
set_option linter.unusedVariables false
set_option maxRecDepth 20000

theorem Argd.mono {B B' : Nat} {w : World} {A : Option Addr} {ar : List ByteArray} (h : Argd B w A ar) (hB : B' ≤ B) : Argd B' w A ar := by
  rcases h with h | ⟨g, cs, h1, h2, h3, h4⟩
  · exact .inl h
  · exact .inr ⟨g, cs, h1, Nat.le_trans hB h2, h3, h4⟩
theorem Tb.at {w wr : World} {g c : Nat} {l : List (Rw × Option Addr)} (h : Tb w wr 27 (some ⟨g, 0, none⟩) c l) (k : Nat) (hk : k < 27) :
    ∃ A, Argd w.heap.size wr A (tab.getD k rw0).ar ∧ wr.cell? ⟨g, k * 5, none⟩ = some (.string (tab.getD k rw0).nm) ∧ wr.cell? ⟨g, k * 5 + 1, none⟩ = some (.string (tab.getD k rw0).ds) ∧
      wr.cell? ⟨g, k * 5 + 2, none⟩ = some (.slice A (tab.getD k rw0).ar.length (tab.getD k rw0).ar.length) ∧ wr.cell? ⟨g, k * 5 + 3, none⟩ = some (.int .i64 (tab.getD k rw0).lb) ∧ wr.cell? ⟨g, k * 5 + 4, none⟩ = some (.bool (tab.getD k rw0).al) := by
  have hkl : k < l.length := by rw [h.len]; exact hk
  have hr : (l[k]).1 = tab.getD k rw0 := by
    have e := congrArg (fun m => m[k]?) h.rows
    simp only [List.getElem?_map, List.getElem?_eq_getElem hkl, Option.map_some] at e
    rw [List.getElem?_take_of_lt hk, List.getElem?_eq_getElem (by rw [tab_len]; exact hk)] at e
    injection e with e
    rw [e, List.getD_eq_getElem?_getD, List.getElem?_eq_getElem (by rw [tab_len]; exact hk)]; rfl
  have hA := h.args l[k] (List.getElem_mem hkl)
  rw [hr] at hA
  have hc := fun j (hj : j < 5) => (h.own.cellAt (k * 5 + j) (by omega)).trans (rcs_at l k j hkl hj)
  have c0 := hc 0 (by decide)
  have c1 := hc 1 (by decide)
  have c2 := hc 2 (by decide)
  have c3 := hc 3 (by decide)
  have c4 := hc 4 (by decide)
  unfold rc at c0 c1 c2 c3 c4
  rw [hr] at c0 c1 c2 c3 c4
  exact ⟨_, hA, c0, c1, c2, c3, c4⟩
theorem results_cell2 {P : Program} {fn : Func} {p u : Tmp} {ty : TypeId} (h : fn.results = #[.cell p ty, .tmp u]) (tmps : Array Value) (w : World) (g : Nat) (t : TypeId) (cs : Array Value) (fr : Nat × Nat) (d : TypeDesc)
    (hp : tmps.getD p undef = .pointer (some ⟨g, 0, none⟩)) (hg : w.heap[g]? = some (.cells cs t fr))
    (hu : P.underlying ty = some d) (hd : (match d with | .struct _ | .array _ _ => true | _ => false) = true) (hi : (P.info? ty).map (·.size) = some cs.size) :
    (results fn tmps).run P w = .ok (.tuple #[.agg cs, tmps.getD u undef]) w := by
  have hp' : tmps[p]?.getD undef = .pointer (some ⟨g, 0, none⟩) := by simpa using hp
  simp [results, h, hp', asAddr, run_loadVar_row w g t ty cs fr d hg hu hd hi]
def five (w : World) (b : Nat) (x0 x1 x2 x3 x4 : Value) : World := ((((w.setCell ⟨b, 0, none⟩ x0).setCell ⟨b, 1, none⟩ x1).setCell ⟨b, 2, none⟩ x2).setCell ⟨b, 3, none⟩ x3).setCell ⟨b, 4, none⟩ x4
theorem five_heap {w : World} {b : Nat} {x0 x1 x2 x3 x4 y0 y1 y2 y3 y4 : Value} {T : TypeId} (h : w.heap[b]? = some (.cells #[y0, y1, y2, y3, y4] T (0, 0))) : (five w b x0 x1 x2 x3 x4).heap[b]? = some (.cells #[x0, x1, x2, x3, x4] T (0, 0)) := by
  unfold five
  simp [World.setCell, Array.getElem?_modify, h]
theorem five_below {B : Nat} {w w1 : World} {b : Nat} {x0 x1 x2 x3 x4 : Value} (h : Below B w w1) (hb : B ≤ b) : Below B w (five w1 b x0 x1 x2 x3 x4) :=
  ((((h.setCell (p := ⟨b, 0, none⟩) hb _).setCell (p := ⟨b, 1, none⟩) hb _).setCell (p := ⟨b, 2, none⟩) hb _).setCell (p := ⟨b, 3, none⟩) hb _).setCell (p := ⟨b, 4, none⟩) hb _
theorem five_far {w : World} {b g : Nat} {x0 x1 x2 x3 x4 : Value} (h : g ≠ b) : (five w b x0 x1 x2 x3 x4).heap[g]? = w.heap[g]? := by
  unfold five
  simp [World.setCell, Array.getElem?_modify, Ne.symm h]
theorem size25 : (Tryd.prog.info? 98).map (·.size) = some 5 := by kernel_rfl
theorem fin2 {fn : Func} {p u : Tmp} (h : fn.results = #[.cell p 98, .tmp u]) {act : Act} {w : World} {g : Nat} {x0 x1 x2 x3 x4 : Value} {R : Ending → World → Prop}
    (hp : act.tmps.getD p undef = .pointer (some ⟨g, 0, none⟩)) (hg : w.heap[g]? = some (.cells #[x0, x1, x2, x3, x4] 98 (0, 0))) (hd : act.defers = [])
    (hR : R (.returned (.tuple #[.agg #[x0, x1, x2, x3, x4], act.tmps.getD u undef])) w) : bodyPost Tryd.prog fn R .ret act w :=
  bodyPost_ret (results_cell2 h _ _ g 98 _ (0, 0) _ hp hg Tryd.underlying98 rfl size25) hd hR
/-- What Find hands back. -/
def FindP (n : Int) (w : World) (e : Ending) (w' : World) : Prop :=
  ∃ A, e = .returned (.tuple #[.agg (rc (rowOf n, A)), .bool (isOp n)]) ∧ Argd w.heap.size w' A (rowOf n).ar ∧ Below w.heap.size w w'
/-- The answer's cells, and what a call behind leaves of them. -/
structure Own5 (w w1 : World) : Prop where
  below : Below w.heap.size w w1
  z : w1.heap[w.heap.size]? = some (.cells z25 98 (0, 0))
theorem own5_next {w w1 : World} (hb : Below (w.heap.size + 1) (w.alloc (.cells z25 98)) w1) : Own5 w w1 := by
  refine ⟨((Below.refl _ w).alloc (Nat.le_refl _) _).trans (hb.mono (by omega)), ?_⟩
  rw [hb.block w.heap.size (by omega)]
  exact heap_alloc_new w _
theorem Own5.cells {w w1 : World} (h : Own5 w w1) : w1.cell? ⟨w.heap.size, 0, none⟩ = some (.string ⟨#[]⟩) ∧ w1.cell? ⟨w.heap.size, 1, none⟩ = some (.string ⟨#[]⟩) ∧ w1.cell? ⟨w.heap.size, 2, none⟩ = some (.slice none 0 0) ∧
    w1.cell? ⟨w.heap.size, 3, none⟩ = some (.int .i64 0) ∧ w1.cell? ⟨w.heap.size, 4, none⟩ = some (.bool false) := by
  refine ⟨?_, ?_, ?_, ?_, ?_⟩ <;> (rw [cell_of_row _ _ _ _ _ _ h.z]; rfl)
theorem Own5.frozen {w w1 : World} (h : Own5 w w1) : w1.frozen? ⟨w.heap.size, 0, none⟩ = false ∧ w1.frozen? ⟨w.heap.size, 1, none⟩ = false ∧
    w1.frozen? ⟨w.heap.size, 2, none⟩ = false ∧ w1.frozen? ⟨w.heap.size, 3, none⟩ = false ∧ w1.frozen? ⟨w.heap.size, 4, none⟩ = false :=
  ⟨frozen_of_row _ _ _ _ _ h.z, frozen_of_row _ _ _ _ _ h.z, frozen_of_row _ _ _ _ _ h.z, frozen_of_row _ _ _ _ _ h.z, frozen_of_row _ _ _ _ _ h.z⟩
theorem Own5.five {w w1 : World} (h : Own5 w w1) (x0 x1 x2 x3 x4 : Value) : (five w1 w.heap.size x0 x1 x2 x3 x4).heap[w.heap.size]? = some (.cells #[x0, x1, x2, x3, x4] 98 (0, 0)) ∧ Below w.heap.size w (five w1 w.heap.size x0 x1 x2 x3 x4) :=
  ⟨five_heap h.z, five_below h.below (Nat.le_refl _)⟩
theorem Own5.args {w w1 : World} {A : Option Addr} {ar : List ByteArray} (h : Argd (w.heap.size + 1) w1 A ar) (x0 x1 x2 x3 x4 : Value) : Argd w.heap.size (Go.Proofs.YtakfoncdiejhaaaDoor.Opr.five w1 w.heap.size x0 x1 x2 x3 x4) A ar := by
  rcases h with h | ⟨g, cs, h1, h2, h3, h4⟩
  · exact .inl h
  · exact .inr ⟨g, cs, h1, by omega, by rw [five_far (by omega)]; exact h3, h4⟩
theorem rfind_in (k : Nat) (hk : k < 27) (n : Int) (hn : n = (k : Int) + 1) (w : World) : Calls Tryd.prog 39 #[.int .i64 n] w (FindP n w) := by
  have hr : rowOf n = tab.getD k rw0 := by rw [hn]; exact rowOf_op k hk
  have ho : isOp n = true := by unfold isOp; simp; omega
  obtain ⟨R, hR⟩ : ∃ R, tab.getD k rw0 = R := ⟨_, rfl⟩
  rw [hR] at hr
  have HR := Lib.hid (And.intro hr (And.intro ho hR))
  have q : n - 1 = (k : Int) := by omega
  have c1 : decide (n < 1) = false := by rw [decide_eq_false_iff_not]; omega
  have c2 : decide (27 < n) = false := by rw [decide_eq_false_iff_not]; omega
  have n1 : 1 ≤ n := by omega
  have n2 : n ≤ 27 := by omega
  have k0 : (0 : Int) ≤ (k : Int) := by omega
  have k1 : (k : Int) < 27 := by omega
  clear hn hr ho hR
  go_enter Tryd.func39, Tryd.ntmps39
  go_wp2_with fail
  refine (all_v _).mono ?_
  rintro e w1 ⟨g, c, l, rfl, htb⟩
  obtain ⟨A, hA, d0, d1, d2, d3, d4⟩ := htb.at k hk
  rw [HR.out.2.2] at hA d0 d1 d2 d3 d4
  have hb := htb.below
  rw [World.size_alloc] at hb hA
  have M1 := Lib.hid (own5_next hb)
  have HA := Lib.hid hA
  obtain ⟨z0, z1, z2, z3, z4⟩ := M1.out.cells
  obtain ⟨f0, f1, f2, f3, f4⟩ := M1.out.frozen
  clear htb hA hb
  go_wp2_with fail
  refine fin2 (fn := Tryd.f39) rfl rfl (M1.out.five _ _ _ _ _).1 rfl ?_
  refine ⟨A, ?_, ?_, (M1.out.five _ _ _ _ _).2⟩
  · rw [HR.out.1, HR.out.2.1]; rfl
  · rw [HR.out.1]; exact Own5.args HA.out _ _ _ _ _
theorem rfind_low (n : Int) (hn : n < 1) (w : World) : Calls Tryd.prog 39 #[.int .i64 n] w (FindP n w) := by
  have hr : rowOf n = rw0 := rowOf_none n (.inl hn)
  have ho : isOp n = false := by unfold isOp; simp; omega
  have HR := Lib.hid (And.intro hr ho)
  have c1 : decide (n < 1) = true := decide_eq_true hn
  clear hn hr ho
  go_enter Tryd.func39, Tryd.ntmps39
  go_wp2_with fail
  refine (all_v _).mono ?_
  rintro e w1 ⟨g, c, l, rfl, htb⟩
  have hb := htb.below
  rw [World.size_alloc] at hb
  have M1 := Lib.hid (own5_next hb)
  obtain ⟨z0, z1, z2, z3, z4⟩ := M1.out.cells
  obtain ⟨f0, f1, f2, f3, f4⟩ := M1.out.frozen
  clear htb hb
  go_wp2_with fail
  refine fin2 (fn := Tryd.f39) rfl rfl (M1.out.five _ _ _ _ _).1 rfl ?_
  refine ⟨none, ?_, ?_, (M1.out.five _ _ _ _ _).2⟩
  · rw [HR.out.1, HR.out.2]; rfl
  · rw [HR.out.1]; exact .inl ⟨rfl, rfl⟩
theorem rfind_high (n : Int) (hn : 27 < n) (w : World) : Calls Tryd.prog 39 #[.int .i64 n] w (FindP n w) := by
  have hr : rowOf n = rw0 := rowOf_none n (.inr hn)
  have ho : isOp n = false := by unfold isOp; simp; omega
  have HR := Lib.hid (And.intro hr ho)
  have c1 : decide (n < 1) = false := by rw [decide_eq_false_iff_not]; omega
  have c2 : decide (27 < n) = true := decide_eq_true hn
  clear hn hr ho
  go_enter Tryd.func39, Tryd.ntmps39
  go_wp2_with fail
  refine (all_v _).mono ?_
  rintro e w1 ⟨g, c, l, rfl, htb⟩
  have hb := htb.below
  rw [World.size_alloc] at hb
  have M1 := Lib.hid (own5_next hb)
  obtain ⟨z0, z1, z2, z3, z4⟩ := M1.out.cells
  obtain ⟨f0, f1, f2, f3, f4⟩ := M1.out.frozen
  clear htb hb
  go_wp2_with fail
  refine fin2 (fn := Tryd.f39) rfl rfl (M1.out.five _ _ _ _ _).1 rfl ?_
  refine ⟨none, ?_, ?_, (M1.out.five _ _ _ _ _).2⟩
  · rw [HR.out.1, HR.out.2]; rfl
  · rw [HR.out.1]; exact .inl ⟨rfl, rfl⟩
theorem rfind_v (n : Int) (w : World) : Calls Tryd.prog 39 #[.int .i64 n] w (FindP n w) := by
  by_cases h1 : n < 1
  · exact rfind_low n h1 w
  · by_cases h2 : 27 < n
    · exact rfind_high n h2 w
    · exact rfind_in (n - 1).toNat (by omega) n (by omega) w
end Go.Proofs.YtakfoncdiejhaaaDoor.Opr
/- The table of names, and what Name and Find of op answer. -/
namespace Go.Proofs.YtakfoncdiejhaaaDoor.Opr
open Go.ChangeShapes Go.WideShapes Go.RowKit
set_option linter.unusedVariables false
set_option maxRecDepth 20000

def nameOf (n : Int) : ByteArray := (rowOf n).nm
/-- The table as a value. -/
def nameRow : Array Value := #[.string ⟨#[]⟩, .string ⟨#[97, 100, 100]⟩, .string ⟨#[115, 117, 98]⟩, .string ⟨#[109, 117, 108]⟩, .string ⟨#[97, 110, 100]⟩, .string ⟨#[111, 114]⟩, .string ⟨#[120, 111, 114]⟩, .string ⟨#[115, 104, 108]⟩, .string ⟨#[115, 104, 114]⟩, .string ⟨#[115, 97, 114]⟩, .string ⟨#[100, 105, 118]⟩, .string ⟨#[114, 101, 109]⟩, .string ⟨#[101, 113]⟩, .string ⟨#[110, 101]⟩, .string ⟨#[108, 116]⟩, .string ⟨#[108, 101]⟩, .string ⟨#[99, 111, 112, 121]⟩, .string ⟨#[108, 111, 97, 100]⟩, .string ⟨#[115, 116, 111, 114, 101]⟩, .string ⟨#[99, 97, 108, 108]⟩, .string ⟨#[98, 114]⟩, .string ⟨#[98, 114, 105, 102]⟩, .string ⟨#[115, 119, 105, 116, 99, 104]⟩, .string ⟨#[114, 101, 116]⟩, .string ⟨#[109, 111, 118, 101]⟩, .string ⟨#[115, 112, 105, 108, 108]⟩, .string ⟨#[114, 101, 108, 111, 97, 100]⟩, .string ⟨#[115, 119, 97, 112]⟩]
theorem nameRow_at (k : Nat) (hk : k < 28) : nameRow[k]? = some (.string (nameOf (k : Int))) := by
  have h : k = 0 ∨ k = 1 ∨ k = 2 ∨ k = 3 ∨ k = 4 ∨ k = 5 ∨ k = 6 ∨ k = 7 ∨ k = 8 ∨ k = 9 ∨ k = 10 ∨ k = 11 ∨ k = 12 ∨ k = 13 ∨ k = 14 ∨ k = 15 ∨ k = 16 ∨ k = 17 ∨ k = 18 ∨ k = 19 ∨ k = 20 ∨ k = 21 ∨ k = 22 ∨ k = 23 ∨ k = 24 ∨ k = 25 ∨ k = 26 ∨ k = 27 := by omega
  clear hk
  rcases h with rfl | rfl | rfl | rfl | rfl | rfl | rfl | rfl | rfl | rfl | rfl | rfl | rfl | rfl | rfl | rfl | rfl | rfl | rfl | rfl | rfl | rfl | rfl | rfl | rfl | rfl | rfl | rfl
  all_goals rfl
/-- The program's table of names, in memory. -/
def Glob (w : World) : Prop := 0 < w.heap.size ∧ w.rangeAt 0 0 nameRow.toList
theorem Glob.below {B : Nat} {w w' : World} (h : Glob w) (hb : Below B w w') (hB : 0 < B) : Glob w' :=
  ⟨Nat.lt_of_lt_of_le h.1 hb.size, fun j v hj => (hb.cell (p := ⟨0, 0 + j, none⟩) hB).trans (h.2 j v hj)⟩
theorem Glob.at {w : World} (h : Glob w) (k : Nat) (hk : k < 28) : w.cell? ⟨0, k, none⟩ = some (.string (nameOf (k : Int))) := by
  have := h.2 k _ (by rw [Array.getElem?_toList]; exact nameRow_at k hk)
  rwa [Nat.zero_add] at this
theorem size47 : (Tryd.prog.info? 127).map (·.size) = some nameRow.toList.length := by kernel_rfl
theorem load_names {ops : Array Oper} {rest : List Oper} {o : Oper} {a : Act} {w : World} {Q : Exit → Act → World → Prop} (hgd : o.guard = none) (x : Operand) (ho : o.op = .load 127 x)
    (hx : a.eval x = .pointer (some ⟨0, 0, none⟩)) (hG : Glob w) (h : wpList Tryd.prog ops Q rest (a.put o.dst (.agg nameRow)) w) : wpList Tryd.prog ops Q (o :: rest) a w :=
  wpList_load_mid hgd 127 x ho 0 0 hx nameRow.toList _ hG.2 Tryd.underlying127 rfl size47 h
theorem index_0 (W : World) : (Instr.index 127 (.agg nameRow) (.int .i64 0)).run Tryd.prog W = .ok (.string (nameOf 0)) W := by kernel_rfl
theorem index_1 (W : World) : (Instr.index 127 (.agg nameRow) (.int .i64 1)).run Tryd.prog W = .ok (.string (nameOf 1)) W := by kernel_rfl
theorem index_2 (W : World) : (Instr.index 127 (.agg nameRow) (.int .i64 2)).run Tryd.prog W = .ok (.string (nameOf 2)) W := by kernel_rfl
theorem index_3 (W : World) : (Instr.index 127 (.agg nameRow) (.int .i64 3)).run Tryd.prog W = .ok (.string (nameOf 3)) W := by kernel_rfl
theorem index_4 (W : World) : (Instr.index 127 (.agg nameRow) (.int .i64 4)).run Tryd.prog W = .ok (.string (nameOf 4)) W := by kernel_rfl
theorem index_5 (W : World) : (Instr.index 127 (.agg nameRow) (.int .i64 5)).run Tryd.prog W = .ok (.string (nameOf 5)) W := by kernel_rfl
theorem index_6 (W : World) : (Instr.index 127 (.agg nameRow) (.int .i64 6)).run Tryd.prog W = .ok (.string (nameOf 6)) W := by kernel_rfl
theorem index_7 (W : World) : (Instr.index 127 (.agg nameRow) (.int .i64 7)).run Tryd.prog W = .ok (.string (nameOf 7)) W := by kernel_rfl
theorem index_8 (W : World) : (Instr.index 127 (.agg nameRow) (.int .i64 8)).run Tryd.prog W = .ok (.string (nameOf 8)) W := by kernel_rfl
theorem index_9 (W : World) : (Instr.index 127 (.agg nameRow) (.int .i64 9)).run Tryd.prog W = .ok (.string (nameOf 9)) W := by kernel_rfl
theorem index_10 (W : World) : (Instr.index 127 (.agg nameRow) (.int .i64 10)).run Tryd.prog W = .ok (.string (nameOf 10)) W := by kernel_rfl
theorem index_11 (W : World) : (Instr.index 127 (.agg nameRow) (.int .i64 11)).run Tryd.prog W = .ok (.string (nameOf 11)) W := by kernel_rfl
theorem index_12 (W : World) : (Instr.index 127 (.agg nameRow) (.int .i64 12)).run Tryd.prog W = .ok (.string (nameOf 12)) W := by kernel_rfl
theorem index_13 (W : World) : (Instr.index 127 (.agg nameRow) (.int .i64 13)).run Tryd.prog W = .ok (.string (nameOf 13)) W := by kernel_rfl
theorem index_14 (W : World) : (Instr.index 127 (.agg nameRow) (.int .i64 14)).run Tryd.prog W = .ok (.string (nameOf 14)) W := by kernel_rfl
theorem index_15 (W : World) : (Instr.index 127 (.agg nameRow) (.int .i64 15)).run Tryd.prog W = .ok (.string (nameOf 15)) W := by kernel_rfl
theorem index_16 (W : World) : (Instr.index 127 (.agg nameRow) (.int .i64 16)).run Tryd.prog W = .ok (.string (nameOf 16)) W := by kernel_rfl
theorem index_17 (W : World) : (Instr.index 127 (.agg nameRow) (.int .i64 17)).run Tryd.prog W = .ok (.string (nameOf 17)) W := by kernel_rfl
theorem index_18 (W : World) : (Instr.index 127 (.agg nameRow) (.int .i64 18)).run Tryd.prog W = .ok (.string (nameOf 18)) W := by kernel_rfl
theorem index_19 (W : World) : (Instr.index 127 (.agg nameRow) (.int .i64 19)).run Tryd.prog W = .ok (.string (nameOf 19)) W := by kernel_rfl
theorem index_20 (W : World) : (Instr.index 127 (.agg nameRow) (.int .i64 20)).run Tryd.prog W = .ok (.string (nameOf 20)) W := by kernel_rfl
theorem index_21 (W : World) : (Instr.index 127 (.agg nameRow) (.int .i64 21)).run Tryd.prog W = .ok (.string (nameOf 21)) W := by kernel_rfl
theorem index_22 (W : World) : (Instr.index 127 (.agg nameRow) (.int .i64 22)).run Tryd.prog W = .ok (.string (nameOf 22)) W := by kernel_rfl
theorem index_23 (W : World) : (Instr.index 127 (.agg nameRow) (.int .i64 23)).run Tryd.prog W = .ok (.string (nameOf 23)) W := by kernel_rfl
theorem index_24 (W : World) : (Instr.index 127 (.agg nameRow) (.int .i64 24)).run Tryd.prog W = .ok (.string (nameOf 24)) W := by kernel_rfl
theorem index_25 (W : World) : (Instr.index 127 (.agg nameRow) (.int .i64 25)).run Tryd.prog W = .ok (.string (nameOf 25)) W := by kernel_rfl
theorem index_26 (W : World) : (Instr.index 127 (.agg nameRow) (.int .i64 26)).run Tryd.prog W = .ok (.string (nameOf 26)) W := by kernel_rfl
theorem index_27 (W : World) : (Instr.index 127 (.agg nameRow) (.int .i64 27)).run Tryd.prog W = .ok (.string (nameOf 27)) W := by kernel_rfl
theorem index_run (k : Nat) (hk : k < 28) (s : ByteArray) (hs : nameOf (k : Int) = s) (W : World) : (Instr.index 127 (.agg nameRow) (.int .i64 (k : Int))).run Tryd.prog W = .ok (.string s) W := by
  subst hs
  have h : k = 0 ∨ k = 1 ∨ k = 2 ∨ k = 3 ∨ k = 4 ∨ k = 5 ∨ k = 6 ∨ k = 7 ∨ k = 8 ∨ k = 9 ∨ k = 10 ∨ k = 11 ∨ k = 12 ∨ k = 13 ∨ k = 14 ∨ k = 15 ∨ k = 16 ∨ k = 17 ∨ k = 18 ∨ k = 19 ∨ k = 20 ∨ k = 21 ∨ k = 22 ∨ k = 23 ∨ k = 24 ∨ k = 25 ∨ k = 26 ∨ k = 27 := by omega
  clear hk
  rcases h with rfl | rfl | rfl | rfl | rfl | rfl | rfl | rfl | rfl | rfl | rfl | rfl | rfl | rfl | rfl | rfl | rfl | rfl | rfl | rfl | rfl | rfl | rfl | rfl | rfl | rfl | rfl | rfl
  · exact index_0 W
  · exact index_1 W
  · exact index_2 W
  · exact index_3 W
  · exact index_4 W
  · exact index_5 W
  · exact index_6 W
  · exact index_7 W
  · exact index_8 W
  · exact index_9 W
  · exact index_10 W
  · exact index_11 W
  · exact index_12 W
  · exact index_13 W
  · exact index_14 W
  · exact index_15 W
  · exact index_16 W
  · exact index_17 W
  · exact index_18 W
  · exact index_19 W
  · exact index_20 W
  · exact index_21 W
  · exact index_22 W
  · exact index_23 W
  · exact index_24 W
  · exact index_25 W
  · exact index_26 W
  · exact index_27 W
theorem nameOf_none (n : Int) (h : n < 1 ∨ 27 < n) : nameOf n = ⟨#[]⟩ := by unfold nameOf; rw [rowOf_none n h]; rfl
theorem name_in (k : Nat) (hk : k < 28) (h0 : 0 < k) (s : ByteArray) (h : nameOf (k : Int) = s) (w : World) (hG : Glob w) :
    Calls Tryd.prog 73 #[.int .i64 (k : Int)] w fun e w' => e = .returned (.string s) ∧ w = w' := by
  have hc := hG.at k hk
  rw [h] at hc
  have HG := Lib.hid hG
  have k1 : (k : Int) < 28 := by omega
  have ho : isOp (k : Int) = true := by unfold isOp; simp; omega
  have HO := Lib.hid ho
  clear h ho hG
  go_enter Tryd.func73, Tryd.ntmps73
  go_wp2_with fail
  refine (is_v (k : Int) true HO.out _).mono ?_
  rintro e w1 ⟨rfl, rfl⟩
  go_wp2_with fail
  go_ret
  exact ⟨rfl, rfl⟩
theorem name_out (n : Int) (h : n < 1 ∨ 27 < n) (w : World) : Calls Tryd.prog 73 #[.int .i64 n] w fun e w' => e = .returned (.string ⟨#[]⟩) ∧ w = w' := by
  have ho : isOp n = false := by
    unfold isOp
    rw [Bool.and_eq_false_iff, decide_eq_false_iff_not, decide_eq_false_iff_not]
    omega
  have HO := Lib.hid ho
  clear h ho
  go_enter Tryd.func73, Tryd.ntmps73
  go_wp2_with fail
  refine (is_v n false HO.out _).mono ?_
  rintro e w1 ⟨rfl, rfl⟩
  go_wp2_with fail
  go_ret
  exact ⟨rfl, rfl⟩
theorem name_v (n : Int) (s : ByteArray) (h : nameOf n = s) (w : World) (hG : Glob w) : Calls Tryd.prog 73 #[.int .i64 n] w fun e w' => e = .returned (.string s) ∧ w = w' := by
  by_cases hn : n < 1 ∨ 27 < n
  · rw [nameOf_none n hn] at h
    subst h
    exact name_out n hn w
  · obtain ⟨k, rfl⟩ : ∃ k : Nat, n = (k : Int) := ⟨n.toNat, by omega⟩
    exact name_in k (by omega) (by omega) s h w hG
/-- What Find answers of a text. -/
def FindS (s : ByteArray) (r : Int) (b : Bool) : Prop := (b = true ∧ 1 ≤ r ∧ r ≤ 27 ∧ nameOf r = s) ∨ (b = false ∧ r = 0 ∧ ∀ k : Nat, 1 ≤ k → k < 28 → nameOf (k : Int) ≠ s)
def FindQ (s : ByteArray) (w : World) (e : Ending) (w' : World) : Prop := ∃ r b, FindS s r b ∧ e = .returned (.tuple #[.int .i64 r, .bool b]) ∧ w = w'
theorem names_apart : ∀ j k : Fin 28, 1 ≤ j.val → 1 ≤ k.val → nameOf (j.val : Int) = nameOf (k.val : Int) → j = k := by decide +kernel
theorem names_some : ∀ k : Fin 28, 1 ≤ k.val → nameOf (k.val : Int) ≠ ⟨#[]⟩ := by decide +kernel
theorem FindS.of_op {n : Int} (h1 : 1 ≤ n) (h2 : n ≤ 27) {s : ByteArray} (hs : nameOf n = s) {r : Int} {b : Bool} (h : FindS s r b) : b = true ∧ r = n := by
  rcases h with ⟨hb, h3, h4, h5⟩ | ⟨hb, _, h5⟩
  · refine ⟨hb, ?_⟩
    have := names_apart ⟨r.toNat, by omega⟩ ⟨n.toNat, by omega⟩ (by simp; omega) (by simp; omega) (by
      show nameOf (r.toNat : Int) = nameOf (n.toNat : Int)
      rw [show (r.toNat : Int) = r by omega, show (n.toNat : Int) = n by omega, h5, hs])
    injection this with this
    omega
  · exact absurd (by rw [show ((n.toNat : Nat) : Int) = n by omega]; exact hs) (h5 n.toNat (by omega) (by omega))
theorem FindS.of_none {r : Int} {b : Bool} (h : FindS ⟨#[]⟩ r b) : b = false ∧ r = 0 := by
  rcases h with ⟨hb, h3, h4, h5⟩ | ⟨hb, h3, _⟩
  · exact absurd (by rw [show ((r.toNat : Nat) : Int) = r by omega]; exact h5) (names_some ⟨r.toNat, by omega⟩ (by simp; omega))
  · exact ⟨hb, h3⟩
theorem FindS.is {s : ByteArray} {r : Int} {b : Bool} (h : FindS s r b) : isOp r = b := by
  rcases h with ⟨rfl, h3, h4, _⟩ | ⟨rfl, rfl, _⟩
  · unfold isOp; simp; omega
  · rfl
end Go.Proofs.YtakfoncdiejhaaaDoor.Opr
/- The program's table of names, as the row lists it, is what the walks read. -/
namespace Go.Proofs.YtakfoncdiejhaaaDoor.Opr
open Go.ChangeShapes Go.WideShapes Go.RowKit
set_option linter.unusedVariables false
set_option maxRecDepth 20000

def strData {H : Type} (ss : List ByteArray) : DataW H := .agg (ss.map fun s => .lit (.string s.data.toList))
theorem cells_of_strs {H : Type} {enc : TypeId × Value → H} {P : Program} {w : World} {base : Nat} {sp : Nat → Bool} {held : Bool} {fuel : Nat} {t e : TypeId} {n : Nat} {cs : List Value} {ss : List ByteArray} {p : List MemPlace}
    (ht : P.underlying t = some (.array n e)) (he : P.underlying e = some .string) (hce : P.cellsOf e = 1) (hct : P.cellsOf t = n)
    (h : DataW.trod enc P w base sp held fuel t cs = some (strData ss, p)) : cs = ss.map Value.string := by
  cases fuel with
  | zero => simp [DataW.trod] at h
  | succ fuel =>
    simp only [DataW.trod, ht, hce, hct, Nat.mul_one] at h
    split at h
    · rename_i hl
      obtain ⟨xs, hm, hx⟩ := Option.map_eq_some_iff.1 h
      have hxs : xs.map (·.1) = ss.map fun s => (DataW.lit (.string s.data.toList) : DataW H) := by
        have := congrArg Prod.fst hx
        simpa [strData] using this
      have hxl : xs.length = n := by simpa using Lib.mapM_length hm
      have hzl : ss.length = n := by
        have := congrArg List.length hxs
        simp at this
        omega
      apply List.ext_getElem?
      intro i
      by_cases hi : i < n
      · obtain ⟨b, hb, hf⟩ := Lib.mapM_at hm i i (by simp [hi])
        obtain ⟨s, hc, hb2, _⟩ := DataW.trod_string he hf
        subst hb2
        have h1 : cs[i]? = some (.string s) := by
          have := congrArg (·[0]?) hc
          simpa [List.getElem?_take, List.getElem?_drop] using this
        have h2 : (xs.map (·.1))[i]? = some (DataW.lit (.string s.data.toList) : DataW H) := by simp [hb]
        rw [hxs] at h2
        simp only [List.getElem?_map, Option.map_eq_some_iff, DataW.lit.injEq, Lit.string.injEq] at h2
        obtain ⟨s', hs', e⟩ := h2
        have : s' = s := ByteArray.ext (Array.ext' e)
        subst this
        simp [h1, hs']
      · rw [List.getElem?_eq_none (by omega), List.getElem?_eq_none (by simp; omega)]
    · cases h
def nameList : List ByteArray := ⟨#[]⟩ :: tab.map Rw.nm
theorem glob_of_laid {W : World} (hL : laidMet Tryd.prog [("dyehouse/op.names", Rows.laid_dyehouse_op_names)] W) : Glob W := by
  have e : (Rows.laid_dyehouse_op_names : DataW Unit) = strData nameList := by rfl
  rw [e] at hL
  have hg : Tryd.prog.globalNamed "dyehouse/op.names" = some 0 := by kernel_rfl
  obtain ⟨ps, ⟨g', t', cs, fuel, p, q, hg', ht', hvar, hd, _, _⟩, _⟩ := hL
  obtain rfl := Option.some.inj (hg.symm.trans hg')
  have hty : (Tryd.prog.globals[0]?).map (·.type) = some 127 := by kernel_rfl
  obtain rfl := Option.some.inj (hty.symm.trans ht')
  have hcs := cells_of_strs Tryd.underlying127 Tryd.underlying9 (by kernel_rfl) (by kernel_rfl) hd
  have hn : nameList.map Value.string = nameRow.toList := by rfl
  rw [hn] at hcs
  have hc : ∀ j v, nameRow.toList[j]? = some v → W.cell? ⟨0, j, none⟩ = some v := fun j v hj => by
    have h1 := World.var?_cell hg hvar j
    rw [← Array.getElem?_toList, hcs] at h1
    exact h1.trans hj
  have h0 := hc 0 (.string ⟨#[]⟩) rfl
  refine ⟨?_, fun j v hj => by rw [Nat.zero_add]; exact hc j v hj⟩
  unfold World.cell? at h0
  cases hb : W.heap[0]? with
  | none => simp [hb] at h0
  | some c => exact (Array.getElem?_eq_some_iff.1 hb).1
end Go.Proofs.YtakfoncdiejhaaaDoor.Opr
