/- Packed texts of one proof. Conditions: none. -/
import Derived.Lib.Hide
import Derived.Test.YtbpichjmkllfaaaGreatDoorProg
import Derived.WalkKit
import Derived.Below
import Derived.Deep.QuietTactic
import Derived.Deep.Slices
import Derived.OwnWalk
import Derived.Laws.OwnMore
import Derived.Deep.AppendLies
import Derived.ProofKit
import Derived.OpenShut
namespace Go.Proofs.YtbpichjmkllfaaaGreatDoor
open Go.ChangeShapes Go.WideShapes Go.RowKit
theorem Ai {a b : Prop} (x : a) (y : b) : a ∧ b := ⟨x, y⟩
theorem Hh {p : Prop} (h : p) : Hid p := Lib.hid h
theorem Lzs {α : Type} (l : List α) (i : Nat) (a : α) : l.toArray.setIfInBounds i a = (l.set i a).toArray := by simp
theorem Lz0 {α : Type} {a b : α} {l : List α} : (a :: l).set 0 b = b :: l := rfl
theorem Lz1 {α : Type} {a b : α} {l : List α} {n : Nat} : (a :: l).set (n + 1) b = a :: l.set n b := rfl
theorem Bqf {α : Type} [BEq α] [LawfulBEq α] {a b : α} : (a == b) = false ↔ a ≠ b := beq_eq_false_iff_ne
end Go.Proofs.YtbpichjmkllfaaaGreatDoor
namespace Go.Proofs.YtbpichjmkllfaaaGreatDoor
open Go.ChangeShapes Go.WideShapes Go.RowKit
set_option linter.unusedVariables false
set_option maxRecDepth 20000
theorem spot_lt {w : World} {a : Addr} {v : Value} (h : w.cell? a = some v) : a.block < w.heap.size := by
 unfold World.cell? at h
 cases hb : w.heap[a.block]? with
 | none => simp [hb] at h
 | some c => exact (Array.getElem?_eq_some_iff.1 hb).1
theorem add_at (b o j : Nat) : (⟨b, o, none⟩ : Addr).add j = ⟨b, o + j, none⟩ := by unfold Addr.add; split <;> simp_all
structure Opn where
 k : Int
 c : Int
 n : Int
 t : Int
deriving DecidableEq
instance : Inhabited Opn := ⟨⟨0, 0, 0, 0⟩⟩
def Opn.cs (x : Opn) : List Value := [.int .i64 x.k, .int .i64 x.c, .int .i64 x.n, .int .i64 x.t]
def IsOps (w : World) (A : Option Addr) (n : Nat) (l : List Opn) : Prop :=
 l.length = n ∧ n ≤ 9223372036854775807 ∧ (l = [] ∨ ∃ b o, A = some ⟨b, o, none⟩ ∧ b < w.heap.size ∧ ∀ k (h : k < l.length), w.cell? ⟨b, o + k * 4, none⟩ = some (.int .i64 l[k].k) ∧ w.cell? ⟨b, o + k * 4 + 1, none⟩ = some (.int .i64 l[k].c) ∧ w.cell? ⟨b, o + k * 4 + 2, none⟩ = some (.int .i64 l[k].n) ∧ w.cell? ⟨b, o + k * 4 + 3, none⟩ = some (.int .i64 l[k].t))
theorem IsOps.below {w w' : World} {A : Option Addr} {n : Nat} {l : List Opn} (h : IsOps w A n l) (hb : Below w.heap.size w w') : IsOps w' A n l := by
 obtain ⟨h1, hm, h | ⟨b, o, rfl, hlt, hc⟩⟩ := h
 ·exact ⟨h1, hm, .inl h⟩
 ·refine ⟨h1, hm, .inr ⟨b, o, rfl, Nat.lt_of_lt_of_le hlt hb.size, fun k hk => ?_⟩⟩
  obtain ⟨c0, c1, c2, c3⟩ := hc k hk
  exact ⟨(hb.cell hlt).trans c0, (hb.cell hlt).trans c1, (hb.cell hlt).trans c2, (hb.cell hlt).trans c3⟩
theorem IsOps.at {w : World} {A : Option Addr} {n : Nat} {l : List Opn} (h : IsOps w A n l) {k : Nat} (hk : k < n) : ∃ b o, A = some ⟨b, o, none⟩ ∧ b < w.heap.size ∧ ∃ x, l[k]? = some x ∧ w.cell? ⟨b, o + k * 4, none⟩ = some (.int .i64 x.k) ∧ w.cell? ⟨b, o + k * 4 + 1, none⟩ = some (.int .i64 x.c) ∧ w.cell? ⟨b, o + k * 4 + 2, none⟩ = some (.int .i64 x.n) ∧ w.cell? ⟨b, o + k * 4 + 3, none⟩ = some (.int .i64 x.t) := by
 obtain ⟨h1, hm, h | ⟨b, o, rfl, hlt, hc⟩⟩ := h
 ·rw [h] at h1; simp at h1; omega
 ·exact ⟨b, o, rfl, hlt, l[k]'(by omega), List.getElem?_eq_getElem (by omega), hc k (by omega)⟩
theorem IsOps.nil (w : World) (A : Option Addr) : IsOps w A 0 [] := ⟨rfl, by omega, .inl rfl⟩
structure Rg where
 id : Int
 cl : Int
deriving DecidableEq
instance : Inhabited Rg := ⟨⟨0, 0⟩⟩
def Rg.cs (x : Rg) : List Value := [.int .i64 x.id, .int .i64 x.cl]
def IsRegs (w : World) (A : Option Addr) (n : Nat) (l : List Rg) : Prop :=
 l.length = n ∧ n ≤ 9223372036854775807 ∧ (l = [] ∨ ∃ b o, A = some ⟨b, o, none⟩ ∧ b < w.heap.size ∧ ∀ k (h : k < l.length), w.cell? ⟨b, o + k * 2, none⟩ = some (.int .i64 l[k].id) ∧ w.cell? ⟨b, o + k * 2 + 1, none⟩ = some (.int .i64 l[k].cl))
theorem IsRegs.below {w w' : World} {A : Option Addr} {n : Nat} {l : List Rg} (h : IsRegs w A n l) (hb : Below w.heap.size w w') : IsRegs w' A n l := by
 obtain ⟨h1, hm, h | ⟨b, o, rfl, hlt, hc⟩⟩ := h
 ·exact ⟨h1, hm, .inl h⟩
 ·refine ⟨h1, hm, .inr ⟨b, o, rfl, Nat.lt_of_lt_of_le hlt hb.size, fun k hk => ?_⟩⟩
  obtain ⟨c0, c1⟩ := hc k hk
  exact ⟨(hb.cell hlt).trans c0, (hb.cell hlt).trans c1⟩
theorem IsRegs.at {w : World} {A : Option Addr} {n : Nat} {l : List Rg} (h : IsRegs w A n l) {k : Nat} (hk : k < n) : ∃ b o, A = some ⟨b, o, none⟩ ∧ b < w.heap.size ∧ ∃ x, l[k]? = some x ∧ w.cell? ⟨b, o + k * 2, none⟩ = some (.int .i64 x.id) ∧ w.cell? ⟨b, o + k * 2 + 1, none⟩ = some (.int .i64 x.cl) := by
 obtain ⟨h1, hm, h | ⟨b, o, rfl, hlt, hc⟩⟩ := h
 ·rw [h] at h1; simp at h1; omega
 ·exact ⟨b, o, rfl, hlt, l[k]'(by omega), List.getElem?_eq_getElem (by omega), hc k (by omega)⟩
structure Sg where
 v : Int
 f : Int
 t : Int
 k : Int
 c : Int
 n : Int
deriving DecidableEq
instance : Inhabited Sg := ⟨⟨0, 0, 0, 0, 0, 0⟩⟩
def IsInts (w : World) (A : Option Addr) (n : Nat) (l : List Int) : Prop :=
 l.length = n ∧ n ≤ 9223372036854775807 ∧ (l = [] ∨ ∃ b o, A = some ⟨b, o, none⟩ ∧ b < w.heap.size ∧ ∀ k (h : k < l.length), w.cell? ⟨b, o + k, none⟩ = some (.int .i64 l[k]))
theorem IsInts.below {w w' : World} {A : Option Addr} {n : Nat} {l : List Int} (h : IsInts w A n l) (hb : Below w.heap.size w w') : IsInts w' A n l := by
 obtain ⟨h1, hm, h | ⟨b, o, rfl, hlt, hc⟩⟩ := h
 ·exact ⟨h1, hm, .inl h⟩
 ·refine ⟨h1, hm, .inr ⟨b, o, rfl, Nat.lt_of_lt_of_le hlt hb.size, fun k hk => ?_⟩⟩
  obtain c0 := hc k hk
  exact (hb.cell hlt).trans c0
theorem IsInts.at {w : World} {A : Option Addr} {n : Nat} {l : List Int} (h : IsInts w A n l) {k : Nat} (hk : k < n) : ∃ b o, A = some ⟨b, o, none⟩ ∧ b < w.heap.size ∧ ∃ x, l[k]? = some x ∧ w.cell? ⟨b, o + k, none⟩ = some (.int .i64 x) := by
 obtain ⟨h1, hm, h | ⟨b, o, rfl, hlt, hc⟩⟩ := h
 ·rw [h] at h1; simp at h1; omega
 ·exact ⟨b, o, rfl, hlt, l[k]'(by omega), List.getElem?_eq_getElem (by omega), hc k (by omega)⟩
def IsStrs (w : World) (A : Option Addr) (n : Nat) (l : List ByteArray) : Prop :=
 l.length = n ∧ n ≤ 9223372036854775807 ∧ (l = [] ∨ ∃ b o, A = some ⟨b, o, none⟩ ∧ b < w.heap.size ∧ ∀ k (h : k < l.length), w.cell? ⟨b, o + k, none⟩ = some (.string l[k]))
theorem IsStrs.below {w w' : World} {A : Option Addr} {n : Nat} {l : List ByteArray} (h : IsStrs w A n l) (hb : Below w.heap.size w w') : IsStrs w' A n l := by
 obtain ⟨h1, hm, h | ⟨b, o, rfl, hlt, hc⟩⟩ := h
 ·exact ⟨h1, hm, .inl h⟩
 ·refine ⟨h1, hm, .inr ⟨b, o, rfl, Nat.lt_of_lt_of_le hlt hb.size, fun k hk => ?_⟩⟩
  obtain c0 := hc k hk
  exact (hb.cell hlt).trans c0
theorem IsStrs.at {w : World} {A : Option Addr} {n : Nat} {l : List ByteArray} (h : IsStrs w A n l) {k : Nat} (hk : k < n) : ∃ b o, A = some ⟨b, o, none⟩ ∧ b < w.heap.size ∧ ∃ x, l[k]? = some x ∧ w.cell? ⟨b, o + k, none⟩ = some (.string x) := by
 obtain ⟨h1, hm, h | ⟨b, o, rfl, hlt, hc⟩⟩ := h
 ·rw [h] at h1; simp at h1; omega
 ·exact ⟨b, o, rfl, hlt, l[k]'(by omega), List.getElem?_eq_getElem (by omega), hc k (by omega)⟩
structure Ins where
 op : Int
 dst : Opn
 args : List Opn
 name : ByteArray
 off : Int
 labels : List ByteArray
 cases : List Int
instance : Inhabited Ins := ⟨⟨0, default, [], ⟨#[]⟩, 0, [], []⟩⟩
structure InsV where
 aa : Option Addr
 an : Nat
 ac : Nat
 la : Option Addr
 ln : Nat
 lc : Nat
 ca : Option Addr
 cn : Nat
 cc : Nat
def insR (i : Ins) (r : InsV) : Array Value := #[.int .i64 i.op, .int .i64 i.dst.k, .int .i64 i.dst.c, .int .i64 i.dst.n, .int .i64 i.dst.t, .slice r.aa r.an r.ac, .string i.name, .int .i64 i.off, .slice r.la r.ln r.lc, .slice r.ca r.cn r.cc]
structure IsIns (w : World) (i : Ins) (r : InsV) : Prop where
 args : IsOps w r.aa r.an i.args
 labels : IsStrs w r.la r.ln i.labels
 cases : IsInts w r.ca r.cn i.cases
theorem IsIns.below {w w' : World} {i : Ins} {r : InsV} (h : IsIns w i r) (hb : Below w.heap.size w w') : IsIns w' i r := ⟨h.args.below hb, h.labels.below hb, h.cases.below hb⟩
def IsCode (w : World) (A : Option Addr) (n : Nat) (R : Nat → InsV) (l : List Ins) : Prop :=
 l.length = n ∧ n ≤ 9223372036854775807 ∧ (l = [] ∨ ∃ b o, A = some ⟨b, o, none⟩ ∧ b < w.heap.size ∧ ∀ k (h : k < l.length), w.cell? ⟨b, o + k * 10, none⟩ = some (.int .i64 l[k].op) ∧ w.cell? ⟨b, o + k * 10 + 1, none⟩ = some (.int .i64 l[k].dst.k) ∧ w.cell? ⟨b, o + k * 10 + 2, none⟩ = some (.int .i64 l[k].dst.c) ∧ w.cell? ⟨b, o + k * 10 + 3, none⟩ = some (.int .i64 l[k].dst.n) ∧ w.cell? ⟨b, o + k * 10 + 4, none⟩ = some (.int .i64 l[k].dst.t) ∧ w.cell? ⟨b, o + k * 10 + 5, none⟩ = some (.slice (R k).aa (R k).an (R k).ac) ∧ w.cell? ⟨b, o + k * 10 + 6, none⟩ = some (.string l[k].name) ∧ w.cell? ⟨b, o + k * 10 + 7, none⟩ = some (.int .i64 l[k].off) ∧ w.cell? ⟨b, o + k * 10 + 8, none⟩ = some (.slice (R k).la (R k).ln (R k).lc) ∧ w.cell? ⟨b, o + k * 10 + 9, none⟩ = some (.slice (R k).ca (R k).cn (R k).cc)) ∧ ∀ k (h : k < l.length), IsIns w l[k] (R k)
theorem IsCode.below {w w' : World} {A : Option Addr} {n : Nat} {R : Nat → InsV} {l : List Ins} (h : IsCode w A n R l) (hb : Below w.heap.size w w') : IsCode w' A n R l := by
 obtain ⟨h1, hm, h | ⟨b, o, rfl, hlt, hc⟩, h3⟩ := h
 ·exact ⟨h1, hm, .inl h, fun k hk => (h3 k hk).below hb⟩
 ·refine ⟨h1, hm, .inr ⟨b, o, rfl, Nat.lt_of_lt_of_le hlt hb.size, fun k hk => ?_⟩, fun k hk => (h3 k hk).below hb⟩
  obtain ⟨c0, c1, c2, c3, c4, c5, c6, c7, c8, c9⟩ := hc k hk
  exact ⟨(hb.cell hlt).trans c0, (hb.cell hlt).trans c1, (hb.cell hlt).trans c2, (hb.cell hlt).trans c3, (hb.cell hlt).trans c4, (hb.cell hlt).trans c5, (hb.cell hlt).trans c6, (hb.cell hlt).trans c7, (hb.cell hlt).trans c8, (hb.cell hlt).trans c9⟩
theorem IsCode.at {w : World} {A : Option Addr} {n : Nat} {R : Nat → InsV} {l : List Ins} (h : IsCode w A n R l) {k : Nat} (hk : k < n) : ∃ b o, A = some ⟨b, o, none⟩ ∧ b < w.heap.size ∧ ∃ x, l[k]? = some x ∧ IsIns w x (R k) ∧ w.cell? ⟨b, o + k * 10, none⟩ = some (.int .i64 x.op) ∧ w.cell? ⟨b, o + k * 10 + 1, none⟩ = some (.int .i64 x.dst.k) ∧ w.cell? ⟨b, o + k * 10 + 2, none⟩ = some (.int .i64 x.dst.c) ∧ w.cell? ⟨b, o + k * 10 + 3, none⟩ = some (.int .i64 x.dst.n) ∧ w.cell? ⟨b, o + k * 10 + 4, none⟩ = some (.int .i64 x.dst.t) ∧ w.cell? ⟨b, o + k * 10 + 5, none⟩ = some (.slice (R k).aa (R k).an (R k).ac) ∧ w.cell? ⟨b, o + k * 10 + 6, none⟩ = some (.string x.name) ∧ w.cell? ⟨b, o + k * 10 + 7, none⟩ = some (.int .i64 x.off) ∧ w.cell? ⟨b, o + k * 10 + 8, none⟩ = some (.slice (R k).la (R k).ln (R k).lc) ∧ w.cell? ⟨b, o + k * 10 + 9, none⟩ = some (.slice (R k).ca (R k).cn (R k).cc) := by
 obtain ⟨h1, hm, h | ⟨b, o, rfl, hlt, hc⟩, h3⟩ := h
 ·rw [h] at h1; simp at h1; omega
 ·exact ⟨b, o, rfl, hlt, l[k]'(by omega), List.getElem?_eq_getElem (by omega), h3 k (by omega), hc k (by omega)⟩
structure Blk where
 label : ByteArray
 edge : Bool
 ins : List Opn
 code : List Ins
instance : Inhabited Blk := ⟨⟨⟨#[]⟩, false, [], []⟩⟩
structure BlkV where
 ia : Option Addr
 il : Nat
 ic : Nat
 ka : Option Addr
 kn : Nat
 kc : Nat
 R : Nat → InsV
def blkR (i : Blk) (r : BlkV) : Array Value := #[.string i.label, .bool i.edge, .slice r.ia r.il r.ic, .slice r.ka r.kn r.kc]
structure IsBlk (w : World) (i : Blk) (r : BlkV) : Prop where
 ins : IsOps w r.ia r.il i.ins
 code : IsCode w r.ka r.kn r.R i.code
theorem IsBlk.below {w w' : World} {i : Blk} {r : BlkV} (h : IsBlk w i r) (hb : Below w.heap.size w w') : IsBlk w' i r := ⟨h.ins.below hb, h.code.below hb⟩
def IsBlks (w : World) (A : Option Addr) (n : Nat) (R : Nat → BlkV) (l : List Blk) : Prop :=
 l.length = n ∧ n ≤ 9223372036854775807 ∧ (l = [] ∨ ∃ b o, A = some ⟨b, o, none⟩ ∧ b < w.heap.size ∧ ∀ k (h : k < l.length), w.cell? ⟨b, o + k * 4, none⟩ = some (.string l[k].label) ∧ w.cell? ⟨b, o + k * 4 + 1, none⟩ = some (.bool l[k].edge) ∧ w.cell? ⟨b, o + k * 4 + 2, none⟩ = some (.slice (R k).ia (R k).il (R k).ic) ∧ w.cell? ⟨b, o + k * 4 + 3, none⟩ = some (.slice (R k).ka (R k).kn (R k).kc)) ∧ ∀ k (h : k < l.length), IsBlk w l[k] (R k)
theorem IsBlks.below {w w' : World} {A : Option Addr} {n : Nat} {R : Nat → BlkV} {l : List Blk} (h : IsBlks w A n R l) (hb : Below w.heap.size w w') : IsBlks w' A n R l := by
 obtain ⟨h1, hm, h | ⟨b, o, rfl, hlt, hc⟩, h3⟩ := h
 ·exact ⟨h1, hm, .inl h, fun k hk => (h3 k hk).below hb⟩
 ·refine ⟨h1, hm, .inr ⟨b, o, rfl, Nat.lt_of_lt_of_le hlt hb.size, fun k hk => ?_⟩, fun k hk => (h3 k hk).below hb⟩
  obtain ⟨c0, c1, c2, c3⟩ := hc k hk
  exact ⟨(hb.cell hlt).trans c0, (hb.cell hlt).trans c1, (hb.cell hlt).trans c2, (hb.cell hlt).trans c3⟩
theorem IsBlks.at {w : World} {A : Option Addr} {n : Nat} {R : Nat → BlkV} {l : List Blk} (h : IsBlks w A n R l) {k : Nat} (hk : k < n) : ∃ b o, A = some ⟨b, o, none⟩ ∧ b < w.heap.size ∧ ∃ x, l[k]? = some x ∧ IsBlk w x (R k) ∧ w.cell? ⟨b, o + k * 4, none⟩ = some (.string x.label) ∧ w.cell? ⟨b, o + k * 4 + 1, none⟩ = some (.bool x.edge) ∧ w.cell? ⟨b, o + k * 4 + 2, none⟩ = some (.slice (R k).ia (R k).il (R k).ic) ∧ w.cell? ⟨b, o + k * 4 + 3, none⟩ = some (.slice (R k).ka (R k).kn (R k).kc) := by
 obtain ⟨h1, hm, h | ⟨b, o, rfl, hlt, hc⟩, h3⟩ := h
 ·rw [h] at h1; simp at h1; omega
 ·exact ⟨b, o, rfl, hlt, l[k]'(by omega), List.getElem?_eq_getElem (by omega), h3 k (by omega), hc k (by omega)⟩
theorem IsBlks.nil (w : World) (A : Option Addr) (R : Nat → BlkV) : IsBlks w A 0 R [] := ⟨rfl, by omega, .inl rfl, fun k h => by cases h⟩
structure Fun where
 machine : Bool
 name : ByteArray
 regs : List Rg
 params : List Opn
 blocks : List Blk
instance : Inhabited Fun := ⟨⟨false, ⟨#[]⟩, [], [], []⟩⟩
structure FunV where
 ra : Option Addr
 rn : Nat
 rc : Nat
 pa : Option Addr
 pn : Nat
 pc : Nat
 ba : Option Addr
 bn : Nat
 bc : Nat
 R : Nat → BlkV
def funR (f : Fun) (v : FunV) : Array Value := #[.bool f.machine, .string f.name, .slice v.ra v.rn v.rc, .slice v.pa v.pn v.pc, .slice v.ba v.bn v.bc]
structure IsFun (w : World) (f : Fun) (v : FunV) : Prop where
 regs : IsRegs w v.ra v.rn f.regs
 params : IsOps w v.pa v.pn f.params
 blocks : IsBlks w v.ba v.bn v.R f.blocks
theorem IsFun.below {w w' : World} {f : Fun} {v : FunV} (h : IsFun w f v) (hb : Below w.heap.size w w') : IsFun w' f v := ⟨h.regs.below hb, h.params.below hb, h.blocks.below hb⟩
def sameL {α : Type} (f : α → α → Bool) : List α → List α → Bool
 | [], [] => true
 | a :: l, b :: m => f a b && sameL f l m
 | _, _ => false
theorem sameL_len {α : Type} (f : α → α → Bool) (l m : List α) (h : l.length ≠ m.length) : sameL f l m = false := by
 induction l generalizing m with
 | nil => cases m with
  | nil => exact absurd rfl h
  | cons b m => rfl
 | cons a l ih => cases m with
  | nil => rfl
  | cons b m =>
   show (f a b && sameL f l m) = false
   rw [ih m (fun e => h (by simp [e])), Bool.and_false]
theorem sameL_no {α : Type} (f : α → α → Bool) (l m : List α) (k : Nat) (x y : α) (hx : l[k]? = some x) (hy : m[k]? = some y) (h : f x y = false) : sameL f l m = false := by
 induction l generalizing m k with
 | nil => simp at hx
 | cons a l ih => cases m with
  | nil => rfl
  | cons b m =>
   show (f a b && sameL f l m) = false
   cases k with
   | zero =>
    simp only [List.getElem?_cons_zero, Option.some.injEq] at hx hy
    rw [hx, hy, h, Bool.false_and]
   | succ k => rw [ih m k (by simpa using hx) (by simpa using hy), Bool.and_false]
theorem sameL_yes {α : Type} (f : α → α → Bool) (l m : List α) (hl : l.length = m.length) (h : ∀ (k : Nat) (x y : α), l[k]? = some x → m[k]? = some y → f x y = true) : sameL f l m = true := by
 induction l generalizing m with
 | nil => cases m with
  | nil => rfl
  | cons b m => simp at hl
 | cons a l ih => cases m with
  | nil => simp at hl
  | cons b m =>
   show (f a b && sameL f l m) = true
   rw [h 0 a b rfl rfl, ih m (by simpa using hl) (fun k x y hx hy => h (k + 1) x y (by simpa using hx) (by simpa using hy))]
   rfl
theorem sameL_refl {α : Type} (f : α → α → Bool) (hf : ∀ x, f x x = true) (l : List α) : sameL f l l = true :=
 sameL_yes f l l rfl (fun k x y hx hy => by rw [hx] at hy; injection hy with hy; rw [hy]; exact hf y)
def intEq (a b : Int) : Bool := a == b
def strEq (a b : ByteArray) : Bool := a.toList == b.toList
def opEq (a b : Opn) : Bool := a.k == b.k && (a.c == b.c && (a.n == b.n && a.t == b.t))
def rgEq (a b : Rg) : Bool := a.id == b.id && a.cl == b.cl
def insEq (a b : Ins) : Bool := a.op == b.op && opEq a.dst b.dst && sameL opEq a.args b.args && (a.name.toList == b.name.toList) && a.off == b.off && sameL strEq a.labels b.labels && sameL intEq a.cases b.cases
def blkEq (a b : Blk) : Bool := (a.label.toList == b.label.toList) && a.edge == b.edge && sameL opEq a.ins b.ins && sameL insEq a.code b.code
def funEq (a b : Fun) : Bool := a.machine == b.machine && (a.name.toList == b.name.toList) && sameL rgEq a.regs b.regs && sameL opEq a.params b.params && sameL blkEq a.blocks b.blocks
theorem intEq_refl (a : Int) : intEq a a = true := by unfold intEq; simp
theorem strEq_refl (a : ByteArray) : strEq a a = true := by unfold strEq; simp
theorem opEq_refl (a : Opn) : opEq a a = true := by unfold opEq; simp
theorem rgEq_refl (a : Rg) : rgEq a a = true := by unfold rgEq; simp
theorem insEq_refl (a : Ins) : insEq a a = true := by unfold insEq; simp [sameL_refl _ opEq_refl, sameL_refl _ strEq_refl, sameL_refl _ intEq_refl, opEq_refl]
theorem blkEq_refl (a : Blk) : blkEq a a = true := by unfold blkEq; simp [sameL_refl _ opEq_refl, sameL_refl _ insEq_refl]
theorem funEq_refl (a : Fun) : funEq a a = true := by unfold funEq; simp [sameL_refl _ opEq_refl, sameL_refl _ rgEq_refl, sameL_refl _ blkEq_refl]
theorem cell_in {w : World} {g : Nat} {cs : Array Value} {t : TypeId} (h : w.heap[g]? = some (.cells cs t (0, 0))) (j : Nat) : w.cell? ⟨g, j, none⟩ = cs[j]? := by
 simp only [World.cell?, h]
 simp
theorem kept_box {w w1 : World} {cs : Array Value} {t : TypeId} {g : Nat} {fr : Nat × Nat} (h : w.heap[g]? = some (.cells cs t fr)) (hb : Below w.heap.size w w1) : w1.heap[g]? = some (.cells cs t fr) := by
 rw [hb.block g (Array.getElem?_eq_some_iff.1 h).1]; exact h
theorem box_two (w : World) (a b : Obj) : ((w.alloc a).alloc b).heap[w.heap.size]? = some a ∧ ((w.alloc a).alloc b).heap[w.heap.size + 1]? = some b := by
 constructor
 ·rw [Below.heap_alloc _ _ _ (by simp)]; exact heap_alloc_new w a
 ·have := heap_alloc_new (w.alloc a) b
  simpa using this
theorem below_drewN (w : World) (n : Nat) : Below w.heap.size w (w.drewN n) := ⟨rfl, rfl, rfl, Nat.le_refl _, fun _ _ => rfl⟩
def Agree (S : Nat → Prop) (w w' : World) : Prop := w.heap.size ≤ w'.heap.size ∧ ∀ k, k < w.heap.size → S k → w'.heap[k]? = w.heap[k]?
theorem Agree.refl (S : Nat → Prop) (w : World) : Agree S w w := ⟨Nat.le_refl _, fun _ _ _ => rfl⟩
theorem Agree.trans {S : Nat → Prop} {a b c : World} (h : Agree S a b) (k : Agree S b c) : Agree S a c :=
 ⟨Nat.le_trans h.1 k.1, fun i hi hs => (k.2 i (Nat.lt_of_lt_of_le hi h.1) hs).trans (h.2 i hi hs)⟩
theorem Agree.weak {S S' : Nat → Prop} {w w' : World} (h : Agree S w w') (hS : ∀ k, k < w.heap.size → S' k → S k) : Agree S' w w' := ⟨h.1, fun k hk hs => h.2 k hk (hS k hk hs)⟩
theorem below_agree {B : Nat} {w w' : World} (h : Below B w w') : Agree (fun k => k < B) w w' := ⟨h.size, fun k _ hs => h.block k hs⟩
theorem grown_agree {row : Option Nat} {w w' : World} (h : w.grownBy w' row) : Agree (fun k => some k ≠ row) w w' := ⟨h.size, fun k hk hs => h.block k hk hs⟩
theorem Agree.cell {S : Nat → Prop} {w w' : World} (h : Agree S w w') {a : Addr} {v : Value} (hs : S a.block) (hc : w.cell? a = some v) : w'.cell? a = some v :=
 (World.cell?_of_block (h.2 a.block (World.block_lt_of_cell? w a hc) hs)).trans hc
def Held (S : Nat → Prop) (w : World) (P : World → Prop) : Prop := ∀ w', Agree S w w' → P w'
theorem Held.here {S : Nat → Prop} {w : World} {P : World → Prop} (h : Held S w P) : P w := h w (Agree.refl S w)
theorem Held.keep {S : Nat → Prop} {w w' : World} {P : World → Prop} (h : Held S w P) (k : Agree S w w') : Held S w' P := fun w'' k' => h w'' (k.trans k')
theorem Held.weak {S S' : Nat → Prop} {w : World} {P : World → Prop} (h : Held S w P) (hS : ∀ k, k < w.heap.size → S k → S' k) : Held S' w P := fun w' k => h w' (k.weak hS)
def Step (B p : Nat) (w w' : World) : Prop := w'.os = w.os ∧ w'.tape = w.tape ∧ w'.output = w.output ∧ w.heap.size ≤ w'.heap.size ∧ ∀ k, k < B → k ≠ p → w'.heap[k]? = w.heap[k]?
theorem Step.refl (B p : Nat) (w : World) : Step B p w w := ⟨rfl, rfl, rfl, Nat.le_refl _, fun _ _ _ => rfl⟩
theorem Step.trans {B p : Nat} {a b c : World} (h : Step B p a b) (k : Step B p b c) : Step B p a c :=
 ⟨k.1.trans h.1, k.2.1.trans h.2.1, k.2.2.1.trans h.2.2.1, Nat.le_trans h.2.2.2.1 k.2.2.2.1, fun i hi hp => (k.2.2.2.2 i hi hp).trans (h.2.2.2.2 i hi hp)⟩
theorem Step.mono {B B' p : Nat} {w w' : World} (h : Step B p w w') (hB : B' ≤ B) : Step B' p w w' := ⟨h.1, h.2.1, h.2.2.1, h.2.2.2.1, fun k hk hp => h.2.2.2.2 k (by omega) hp⟩
theorem Step.size {B p : Nat} {w w' : World} (h : Step B p w w') : w.heap.size ≤ w'.heap.size := h.2.2.2.1
theorem Step.of {B p : Nat} {w w' : World} (h : Below B w w') : Step B p w w' := ⟨h.os, h.tape, h.output, h.size, fun k hk _ => h.block k hk⟩
theorem Step.agree {B p : Nat} {w w' : World} (h : Step B p w w') : Agree (fun k => k < B ∧ k ≠ p) w w' := ⟨h.2.2.2.1, fun k _ hs => h.2.2.2.2 k hs.1 hs.2⟩
theorem Step.put {B p : Nat} {a w : World} (h : Step B p a w) (o : Nat) (v : Value) : Step B p a (w.setCell ⟨p, o, none⟩ v) :=
 h.trans ⟨rfl, rfl, rfl, by simp [World.setCell], fun k _ hp => Below.heap_setCell _ _ _ _ hp⟩
theorem Step.drew {B p : Nat} {a w : World} (h : Step B p a w) : Step B p a w.drew := h.trans ⟨rfl, rfl, rfl, Nat.le_refl _, fun _ _ _ => rfl⟩
theorem drew_agree (S : Nat → Prop) (w : World) : Agree S w w.drew := ⟨Nat.le_refl _, fun _ _ _ => rfl⟩
theorem Step.alloc {B p : Nat} {a w : World} (h : Step B p a w) (hB : B ≤ w.heap.size) (o : Obj) : Step B p a (w.alloc o) :=
 h.trans ⟨rfl, rfl, rfl, by simp, fun k hk _ => Below.heap_alloc _ _ _ (by omega)⟩
theorem Step.grown {B p : Nat} {a w w' : World} {row : Option Nat} (h : Step B p a w) (hg : w.grownBy w' row) (hB : B ≤ w.heap.size) (hr : ∀ k, row = some k → B ≤ k) : Step B p a w' :=
 h.trans ⟨hg.os, hg.tape, hg.output, hg.size, fun k hk _ => hg.block k (by omega) (fun e => by have := hr k e.symm; omega)⟩
section
variable {α : Type} {T : TypeId} {sz : Nat} {cs : α → List Value}
def OwnL (T : TypeId) (sz : Nat) (cs : α → List Value) (N : Nat) (w : World) (A : Option Addr) (c : Nat) (l : List α) : Prop := w.ownsRow N T sz (.slice A l.length c) l.length (l.flatMap cs)
theorem flat_at (hc : ∀ x, (cs x).length = sz) (l : List α) (k j : Nat) (hk : k < l.length) (hj : j < sz) : (l.flatMap cs)[k * sz + j]? = (cs l[k])[j]? := by
 induction l generalizing k with
 | nil => cases hk
 | cons t l ih =>
  rw [List.flatMap_cons]
  cases k with
  | zero =>
   rw [List.getElem?_append_left (by rw [hc]; omega)]
   simp
  | succ k =>
   rw [List.getElem?_append_right (by rw [hc, Nat.succ_mul]; omega), hc, show (k + 1) * sz + j - sz = k * sz + j by rw [Nat.succ_mul]; omega, ih k (by simpa using hk)]
   simp
theorem OwnL.nil {N : Nat} {w : World} : OwnL T sz cs N w none 0 ([] : List α) := World.ownsRow_nil _ _ _ _
theorem OwnL.lo {N : Nat} {w : World} {A : Option Addr} {c : Nat} {l : List α} (h : OwnL T sz cs N w A c l) : ∀ k, Value.ownBlock (.slice A l.length c) = some k → N ≤ k ∧ k < w.heap.size := World.ownsRow.lt h
theorem OwnL.less {N N' : Nat} {w : World} {A : Option Addr} {c : Nat} {l : List α} (h : OwnL T sz cs N w A c l) (hN : N' ≤ N) : OwnL T sz cs N' w A c l := by
 obtain ⟨h1, h2 | ⟨g, cap, cur, h2, h3, h4⟩⟩ := h
 ·exact ⟨h1, .inl h2⟩
 ·exact ⟨h1, .inr ⟨g, cap, cur, h2, Nat.le_trans hN h3, h4⟩⟩
theorem OwnL.held {N : Nat} {w : World} {A : Option Addr} {c : Nat} {l : List α} (h : OwnL T sz cs N w A c l) : Held (fun k => Value.ownBlock (.slice A l.length c) = some k) w fun w => OwnL T sz cs N w A c l := by
 intro w' hw
 obtain ⟨h1, h2 | ⟨g, cap, cur, h2, h3, h4, h5⟩⟩ := h
 ·exact ⟨h1, .inl h2⟩
 ·refine ⟨h1, .inr ⟨g, cap, cur, h2, h3, ?_, h5⟩⟩
  rw [hw.2 g (Array.getElem?_eq_some_iff.1 h4).1 (by rw [h2]; rfl)]
  exact h4
theorem OwnL.step {N : Nat} {w w' : World} {A : Option Addr} {c p : Nat} {l : List α} (h : OwnL T sz cs N w A c l) (hs : Step w.heap.size p w w') (hp : p < N) : OwnL T sz cs N w' A c l :=
 h.held w' (hs.agree.weak fun k hk e => ⟨hk, by have := (h.lo k e).1; omega⟩)
theorem OwnL.below {N : Nat} {w w' : World} {A : Option Addr} {c : Nat} {l : List α} (h : OwnL T sz cs N w A c l) (hs : Below w.heap.size w w') : OwnL T sz cs N w' A c l :=
 h.held w' ((below_agree hs).weak fun k hk e => hk)
theorem OwnL.form {N : Nat} {w : World} {A : Option Addr} {c : Nat} {l : List α} (h : OwnL T sz cs N w A c l) (hc : ∀ x, (cs x).length = sz) : l.length ≤ 9223372036854775807 ∧ (l = [] ∨ ∃ g, A = some ⟨g, 0, none⟩ ∧ N ≤ g ∧ g < w.heap.size ∧ ∀ k j, (hk : k < l.length) → j < sz → w.cell? ⟨g, k * sz + j, none⟩ = (cs l[k])[j]?) := by
 cases l with
 | nil => exact ⟨by simp, .inl rfl⟩
 | cons x l =>
  obtain ⟨g, cap, e, hb, hlt⟩ := World.ownsRow.form h (by simp)
  simp only [Value.slice.injEq, true_and] at e
  obtain ⟨rfl, rfl⟩ := e
  constructor
  ·obtain ⟨_, ⟨h2, _⟩ | ⟨g', cap', cur, h2, h3, h4, h5, h6, _⟩⟩ := h
   ·cases h2
   ·unfold maxLen at h6
    omega
  ·refine .inr ⟨g, rfl, hb, hlt, fun k j hk hj => ?_⟩
   have : k * sz + j < (x :: l).length * sz := by
    have := Nat.mul_le_mul_right sz (show k + 1 ≤ (x :: l).length from hk)
    rw [Nat.succ_mul] at this
    omega
   rw [World.ownsRow.cellAt h _ this]
   exact flat_at hc _ k j hk hj
theorem own_more {N : Nat} {w : World} {g c n : Nat} {l : List α} {x : α} (h : w.ownsRow N T sz (.slice (some ⟨g, 0, none⟩) (n + 1) c) (n + 1) (l.flatMap cs ++ cs x)) (hn : l.length = n) : OwnL T sz cs N w (some ⟨g, 0, none⟩) c (l ++ [x]) := by
 unfold OwnL
 have e : (l ++ [x]).length = n + 1 := by simp [hn]
 rw [e, List.flatMap_append]
 simpa using h
end
def strC (s : ByteArray) : List Value := [.string s]
def intC (n : Int) : List Value := [.int .i64 n]
def insC (x : Ins × InsV) : List Value := (insR x.1 x.2).toList
def blkC (x : Blk × BlkV) : List Value := (blkR x.1 x.2).toList
theorem opC_len (x : Opn) : (Opn.cs x).length = 4 := rfl
theorem rgC_len (x : Rg) : (Rg.cs x).length = 2 := rfl
theorem strC_len (x : ByteArray) : (strC x).length = 1 := rfl
theorem intC_len (x : Int) : (intC x).length = 1 := rfl
theorem insC_len (x : Ins × InsV) : (insC x).length = 10 := rfl
theorem blkC_len (x : Blk × BlkV) : (blkC x).length = 4 := rfl
section
variable {T : TypeId} {N : Nat} {w : World} {A : Option Addr} {c : Nat}
theorem OwnL.ops {l : List Opn} (h : OwnL T 4 Opn.cs N w A c l) : IsOps w A l.length l := by
 obtain ⟨h1, h2⟩ := h.form opC_len
 refine ⟨rfl, h1, h2.imp id ?_⟩
 rintro ⟨g, rfl, _, h3, h4⟩
 exact ⟨g, 0, rfl, h3, fun k hk => ⟨by rw [Nat.zero_add]; exact h4 k 0 hk (by decide), by rw [Nat.zero_add]; exact h4 k 1 hk (by decide), by rw [Nat.zero_add]; exact h4 k 2 hk (by decide), by rw [Nat.zero_add]; exact h4 k 3 hk (by decide)⟩⟩
theorem OwnL.rgs {l : List Rg} (h : OwnL T 2 Rg.cs N w A c l) : IsRegs w A l.length l := by
 obtain ⟨h1, h2⟩ := h.form rgC_len
 refine ⟨rfl, h1, h2.imp id ?_⟩
 rintro ⟨g, rfl, _, h3, h4⟩
 exact ⟨g, 0, rfl, h3, fun k hk => ⟨by rw [Nat.zero_add]; exact h4 k 0 hk (by decide), by rw [Nat.zero_add]; exact h4 k 1 hk (by decide)⟩⟩
theorem OwnL.strs {l : List ByteArray} (h : OwnL T 1 strC N w A c l) : IsStrs w A l.length l := by
 obtain ⟨h1, h2⟩ := h.form strC_len
 refine ⟨rfl, h1, h2.imp id ?_⟩
 rintro ⟨g, rfl, _, h3, h4⟩
 exact ⟨g, 0, rfl, h3, fun k hk => by have := h4 k 0 hk (by decide); rw [Nat.mul_one] at this; rw [Nat.zero_add]; exact this⟩
theorem OwnL.ints {l : List Int} (h : OwnL T 1 intC N w A c l) : IsInts w A l.length l := by
 obtain ⟨h1, h2⟩ := h.form intC_len
 refine ⟨rfl, h1, h2.imp id ?_⟩
 rintro ⟨g, rfl, _, h3, h4⟩
 exact ⟨g, 0, rfl, h3, fun k hk => by have := h4 k 0 hk (by decide); rw [Nat.mul_one] at this; rw [Nat.zero_add]; exact this⟩
def insR0 : InsV := ⟨none, 0, 0, none, 0, 0, none, 0, 0⟩
def blkR0 : BlkV := ⟨none, 0, 0, none, 0, 0, fun _ => insR0⟩
def viewI (l : List (Ins × InsV)) (k : Nat) : InsV := match l[k]? with | some x => x.2 | none => insR0
def viewB (l : List (Blk × BlkV)) (k : Nat) : BlkV := match l[k]? with | some x => x.2 | none => blkR0
theorem viewI_at {l : List (Ins × InsV)} {k : Nat} (h : k < l.length) : viewI l k = l[k].2 := by unfold viewI; rw [List.getElem?_eq_getElem h]
theorem viewB_at {l : List (Blk × BlkV)} {k : Nat} (h : k < l.length) : viewB l k = l[k].2 := by unfold viewB; rw [List.getElem?_eq_getElem h]
theorem OwnL.code {l : List (Ins × InsV)} (h : OwnL T 10 insC N w A c l) (he : ∀ x ∈ l, IsIns w x.1 x.2) : IsCode w A l.length (viewI l) (l.map (·.1)) := by
 obtain ⟨h1, h2⟩ := h.form insC_len
 refine ⟨by simp, h1, h2.imp (by rintro rfl; rfl) ?_, fun k hk => ?_⟩
 ·rintro ⟨g, rfl, _, h3, h4⟩
  refine ⟨g, 0, rfl, h3, fun k hk => ?_⟩
  have hk' : k < l.length := by simpa using hk
  rw [viewI_at hk', Nat.zero_add, List.getElem_map]
  exact ⟨h4 k 0 hk' (by decide), h4 k 1 hk' (by decide), h4 k 2 hk' (by decide), h4 k 3 hk' (by decide), h4 k 4 hk' (by decide), h4 k 5 hk' (by decide), h4 k 6 hk' (by decide), h4 k 7 hk' (by decide), h4 k 8 hk' (by decide), h4 k 9 hk' (by decide)⟩
 ·have hk' : k < l.length := by simpa using hk
  rw [viewI_at hk', List.getElem_map]
  exact he _ (List.getElem_mem hk')
theorem OwnL.blks {l : List (Blk × BlkV)} (h : OwnL T 4 blkC N w A c l) (he : ∀ x ∈ l, IsBlk w x.1 x.2) : IsBlks w A l.length (viewB l) (l.map (·.1)) := by
 obtain ⟨h1, h2⟩ := h.form blkC_len
 refine ⟨by simp, h1, h2.imp (by rintro rfl; rfl) ?_, fun k hk => ?_⟩
 ·rintro ⟨g, rfl, _, h3, h4⟩
  refine ⟨g, 0, rfl, h3, fun k hk => ?_⟩
  have hk' : k < l.length := by simpa using hk
  rw [viewB_at hk', Nat.zero_add, List.getElem_map]
  exact ⟨h4 k 0 hk' (by decide), h4 k 1 hk' (by decide), h4 k 2 hk' (by decide), h4 k 3 hk' (by decide)⟩
 ·have hk' : k < l.length := by simpa using hk
  rw [viewB_at hk', List.getElem_map]
  exact he _ (List.getElem_mem hk')
end
end Go.Proofs.YtbpichjmkllfaaaGreatDoor
namespace Go.Proofs.YtbpichjmkllfaaaGreatDoor
open Go.RowKit
def fit (n : Int) : Prop := -9223372036854775808 ≤ n ∧ n ≤ 9223372036854775807
def addV (a b : Int) : Int := wrap64 (a + b)
def subV (a b : Int) : Int := wrap64 (a - b)
def mulV (a b : Int) : Int := wrap64 (a * b)
def andV (a b : Int) : Int := bits .and .i64 a b
def orV (a b : Int) : Int := bits .or .i64 a b
def xorV (a b : Int) : Int := bits .xor .i64 a b
def shV (b : Int) : Int := bits .and .i64 b 63
def shlV (a n : Int) : Int := wrap64 (a * 2 ^ n.toNat)
def shrV (a n : Int) : Int := wrap64 (IntKind.u64.wrap a / 2 ^ n.toNat)
def sarV (a n : Int) : Int := a / 2 ^ n.toNat
def divV (a b : Int) : Int := wrap64 (a.tdiv b)
def remV (a b : Int) : Int := a.tmod b
def flagV (c : Bool) : Int := if c then 1 else 0
def doV (op a b : Int) : Int × Bool :=
 if op = 1 then (addV a b, true) else if op = 2 then (subV a b, true) else if op = 3 then (mulV a b, true)
 else if op = 4 then (andV a b, true) else if op = 5 then (orV a b, true) else if op = 6 then (xorV a b, true)
 else if op = 7 then (shlV a (shV b), true) else if op = 8 then (shrV a (shV b), true) else if op = 9 then (sarV a (shV b), true)
 else if op = 10 then (if b = 0 then (0, false) else (divV a b, true)) else if op = 11 then (if b = 0 then (0, false) else (remV a b, true))
 else if op = 12 then (flagV (a == b), true) else if op = 13 then (flagV (a != b), true) else if op = 14 then (flagV (decide (a < b)), true)
 else if op = 15 then (flagV (decide (a ≤ b)), true) else (0, false)
abbrev B (a : Int) : BitVec 64 := BitVec.ofInt 64 a
theorem wrap_toInt (n : Int) : wrap64 n = (B n).toInt := by
 rw [BitVec.toInt_ofInt]
 unfold wrap64 Int.bmod
 simp only [Nat.reducePow]
 split <;> omega
theorem toInt_B {a : Int} (h : fit a) : (B a).toInt = a := by
 rw [← wrap_toInt]; exact IntWalk.wrap64_in a h
theorem B_toInt (x : BitVec 64) : B x.toInt = x := BitVec.ofInt_toInt
theorem add_B (a b : Int) : addV a b = (B a + B b).toInt := by unfold addV; rw [wrap_toInt, B, BitVec.ofInt_add]
theorem mul_B (a b : Int) : mulV a b = (B a * B b).toInt := by unfold mulV; rw [wrap_toInt, B, BitVec.ofInt_mul]
theorem sub_B (a b : Int) : subV a b = (B a - B b).toInt := by
 unfold subV; rw [wrap_toInt, B, Int.sub_eq_add_neg, BitVec.ofInt_add, BitVec.ofInt_neg, BitVec.sub_eq_add_neg]
theorem bits_wrap (n : Nat) : IntKind.i64.wrap (n : Int) = (BitVec.ofNat 64 n).toInt := by
 rw [IntWalk.i64_left, wrap_toInt, B, BitVec.ofInt_natCast]
theorem and_B (a b : Int) : andV a b = (B a &&& B b).toInt := by
 show IntKind.i64.wrap ((B a &&& B b).toNat : Int) = _
 rw [bits_wrap, BitVec.ofNat_toNat]; simp
theorem sh_nat (b : Int) : shV b = ((B b).toNat % 64 : Nat) := by
 have h : shV b = (B b &&& B 63).toInt := and_B b 63
 rw [h]
 have e : (B b &&& B 63).toNat = (B b).toNat % 64 := by
  rw [BitVec.toNat_and]
  show (B b).toNat &&& (2 ^ 6 - 1) = _
  rw [Nat.and_two_pow_sub_one_eq_mod]
 have l : (B b).toNat % 64 < 64 := Nat.mod_lt _ (by omega)
 rw [BitVec.toInt_eq_toNat_of_lt (by rw [e]; omega), e]
theorem sh_mod (b : Int) : shV b = b % 64 := by
 rw [sh_nat, B, BitVec.toNat_ofInt]
 omega
theorem sh_bd (b : Int) : 0 ≤ shV b ∧ shV b ≤ 63 := by rw [sh_mod]; omega
end Go.Proofs.YtbpichjmkllfaaaGreatDoor
