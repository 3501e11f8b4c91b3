
/- Functions as plain data; what it is that memory holds them. -/
import Derived.Test.YtojfbcfbnadboaaProg
import Derived.WalkKit
import Derived.Below
import Derived.Lib.Hide
import Derived.Deep.QuietTactic
import Derived.Deep.Slices
namespace Go.Proofs.Ytojfbcfbnadboaa
open Go.ChangeShapes Go.WideShapes Go.RowKit
set_option linter.unusedVariables false
set_option maxRecDepth 20000

theorem spot_lt {w : World} {a : Addr} {v : Value} (h : w.cell? a = some v) : a.block < w.heap.size := by
  unfold World.cell? at h
  cases hb : w.heap[a.block]? with
  | none => simp [hb] at h
  | some c => exact (Array.getElem?_eq_some_iff.1 hb).1
theorem add_at (b o j : Nat) : (⟨b, o, none⟩ : Addr).add j = ⟨b, o + j, none⟩ := by unfold Addr.add; split <;> simp_all
structure Opn where
  k : Int
  c : Int
  n : Int
  t : Int
deriving DecidableEq
instance : Inhabited Opn := ⟨⟨0, 0, 0, 0⟩⟩
def Opn.cs (x : Opn) : List Value := [.int .i64 x.k, .int .i64 x.c, .int .i64 x.n, .int .i64 x.t]
/-- Ops: what a slice holds. -/
def IsOps (w : World) (A : Option Addr) (n : Nat) (l : List Opn) : Prop :=
  l.length = n ∧ n ≤ 9223372036854775807 ∧ (l = [] ∨ ∃ b o, A = some ⟨b, o, none⟩ ∧ b < w.heap.size ∧ ∀ k (h : k < l.length), w.cell? ⟨b, o + k * 4, none⟩ = some (.int .i64 l[k].k) ∧ w.cell? ⟨b, o + k * 4 + 1, none⟩ = some (.int .i64 l[k].c) ∧ w.cell? ⟨b, o + k * 4 + 2, none⟩ = some (.int .i64 l[k].n) ∧ w.cell? ⟨b, o + k * 4 + 3, none⟩ = some (.int .i64 l[k].t))
theorem IsOps.below {w w' : World} {A : Option Addr} {n : Nat} {l : List Opn} (h : IsOps w A n l) (hb : Below w.heap.size w w') : IsOps w' A n l := by
  obtain ⟨h1, hm, h | ⟨b, o, rfl, hlt, hc⟩⟩ := h
  · exact ⟨h1, hm, .inl h⟩
  · refine ⟨h1, hm, .inr ⟨b, o, rfl, Nat.lt_of_lt_of_le hlt hb.size, fun k hk => ?_⟩⟩
    obtain ⟨c0, c1, c2, c3⟩ := hc k hk
    exact ⟨(hb.cell hlt).trans c0, (hb.cell hlt).trans c1, (hb.cell hlt).trans c2, (hb.cell hlt).trans c3⟩
theorem IsOps.at {w : World} {A : Option Addr} {n : Nat} {l : List Opn} (h : IsOps w A n l) {k : Nat} (hk : k < n) : ∃ b o, A = some ⟨b, o, none⟩ ∧ b < w.heap.size ∧ ∃ x, l[k]? = some x ∧ w.cell? ⟨b, o + k * 4, none⟩ = some (.int .i64 x.k) ∧ w.cell? ⟨b, o + k * 4 + 1, none⟩ = some (.int .i64 x.c) ∧ w.cell? ⟨b, o + k * 4 + 2, none⟩ = some (.int .i64 x.n) ∧ w.cell? ⟨b, o + k * 4 + 3, none⟩ = some (.int .i64 x.t) := by
  obtain ⟨h1, hm, h | ⟨b, o, rfl, hlt, hc⟩⟩ := h
  · rw [h] at h1; simp at h1; omega
  · exact ⟨b, o, rfl, hlt, l[k]'(by omega), List.getElem?_eq_getElem (by omega), hc k (by omega)⟩
theorem IsOps.nil (w : World) (A : Option Addr) : IsOps w A 0 [] := ⟨rfl, by omega, .inl rfl⟩
structure Rg where
  id : Int
  cl : Int
deriving DecidableEq
instance : Inhabited Rg := ⟨⟨0, 0⟩⟩
def Rg.cs (x : Rg) : List Value := [.int .i64 x.id, .int .i64 x.cl]
/-- Regs: what a slice holds. -/
def IsRegs (w : World) (A : Option Addr) (n : Nat) (l : List Rg) : Prop :=
  l.length = n ∧ n ≤ 9223372036854775807 ∧ (l = [] ∨ ∃ b o, A = some ⟨b, o, none⟩ ∧ b < w.heap.size ∧ ∀ k (h : k < l.length), w.cell? ⟨b, o + k * 2, none⟩ = some (.int .i64 l[k].id) ∧ w.cell? ⟨b, o + k * 2 + 1, none⟩ = some (.int .i64 l[k].cl))
theorem IsRegs.below {w w' : World} {A : Option Addr} {n : Nat} {l : List Rg} (h : IsRegs w A n l) (hb : Below w.heap.size w w') : IsRegs w' A n l := by
  obtain ⟨h1, hm, h | ⟨b, o, rfl, hlt, hc⟩⟩ := h
  · exact ⟨h1, hm, .inl h⟩
  · refine ⟨h1, hm, .inr ⟨b, o, rfl, Nat.lt_of_lt_of_le hlt hb.size, fun k hk => ?_⟩⟩
    obtain ⟨c0, c1⟩ := hc k hk
    exact ⟨(hb.cell hlt).trans c0, (hb.cell hlt).trans c1⟩
theorem IsRegs.at {w : World} {A : Option Addr} {n : Nat} {l : List Rg} (h : IsRegs w A n l) {k : Nat} (hk : k < n) : ∃ b o, A = some ⟨b, o, none⟩ ∧ b < w.heap.size ∧ ∃ x, l[k]? = some x ∧ w.cell? ⟨b, o + k * 2, none⟩ = some (.int .i64 x.id) ∧ w.cell? ⟨b, o + k * 2 + 1, none⟩ = some (.int .i64 x.cl) := by
  obtain ⟨h1, hm, h | ⟨b, o, rfl, hlt, hc⟩⟩ := h
  · rw [h] at h1; simp at h1; omega
  · exact ⟨b, o, rfl, hlt, l[k]'(by omega), List.getElem?_eq_getElem (by omega), hc k (by omega)⟩
theorem IsRegs.nil (w : World) (A : Option Addr) : IsRegs w A 0 [] := ⟨rfl, by omega, .inl rfl⟩
structure Sg where
  v : Int
  f : Int
  t : Int
  k : Int
  c : Int
  n : Int
deriving DecidableEq
instance : Inhabited Sg := ⟨⟨0, 0, 0, 0, 0, 0⟩⟩
def Sg.cs (x : Sg) : List Value := [.int .i64 x.v, .int .i64 x.f, .int .i64 x.t, .int .i64 x.k, .int .i64 x.c, .int .i64 x.n]
/-- Segs: what a slice holds. -/
def IsSegs (w : World) (A : Option Addr) (n : Nat) (l : List Sg) : Prop :=
  l.length = n ∧ n ≤ 9223372036854775807 ∧ (l = [] ∨ ∃ b o, A = some ⟨b, o, none⟩ ∧ b < w.heap.size ∧ ∀ k (h : k < l.length), w.cell? ⟨b, o + k * 6, none⟩ = some (.int .i64 l[k].v) ∧ w.cell? ⟨b, o + k * 6 + 1, none⟩ = some (.int .i64 l[k].f) ∧ w.cell? ⟨b, o + k * 6 + 2, none⟩ = some (.int .i64 l[k].t) ∧ w.cell? ⟨b, o + k * 6 + 3, none⟩ = some (.int .i64 l[k].k) ∧ w.cell? ⟨b, o + k * 6 + 4, none⟩ = some (.int .i64 l[k].c) ∧ w.cell? ⟨b, o + k * 6 + 5, none⟩ = some (.int .i64 l[k].n))
theorem IsSegs.below {w w' : World} {A : Option Addr} {n : Nat} {l : List Sg} (h : IsSegs w A n l) (hb : Below w.heap.size w w') : IsSegs w' A n l := by
  obtain ⟨h1, hm, h | ⟨b, o, rfl, hlt, hc⟩⟩ := h
  · exact ⟨h1, hm, .inl h⟩
  · refine ⟨h1, hm, .inr ⟨b, o, rfl, Nat.lt_of_lt_of_le hlt hb.size, fun k hk => ?_⟩⟩
    obtain ⟨c0, c1, c2, c3, c4, c5⟩ := hc k hk
    exact ⟨(hb.cell hlt).trans c0, (hb.cell hlt).trans c1, (hb.cell hlt).trans c2, (hb.cell hlt).trans c3, (hb.cell hlt).trans c4, (hb.cell hlt).trans c5⟩
theorem IsSegs.at {w : World} {A : Option Addr} {n : Nat} {l : List Sg} (h : IsSegs w A n l) {k : Nat} (hk : k < n) : ∃ b o, A = some ⟨b, o, none⟩ ∧ b < w.heap.size ∧ ∃ x, l[k]? = some x ∧ w.cell? ⟨b, o + k * 6, none⟩ = some (.int .i64 x.v) ∧ w.cell? ⟨b, o + k * 6 + 1, none⟩ = some (.int .i64 x.f) ∧ w.cell? ⟨b, o + k * 6 + 2, none⟩ = some (.int .i64 x.t) ∧ w.cell? ⟨b, o + k * 6 + 3, none⟩ = some (.int .i64 x.k) ∧ w.cell? ⟨b, o + k * 6 + 4, none⟩ = some (.int .i64 x.c) ∧ w.cell? ⟨b, o + k * 6 + 5, none⟩ = some (.int .i64 x.n) := by
  obtain ⟨h1, hm, h | ⟨b, o, rfl, hlt, hc⟩⟩ := h
  · rw [h] at h1; simp at h1; omega
  · exact ⟨b, o, rfl, hlt, l[k]'(by omega), List.getElem?_eq_getElem (by omega), hc k (by omega)⟩
theorem IsSegs.nil (w : World) (A : Option Addr) : IsSegs w A 0 [] := ⟨rfl, by omega, .inl rfl⟩
/-- Ints: what a slice holds. -/
def IsInts (w : World) (A : Option Addr) (n : Nat) (l : List Int) : Prop :=
  l.length = n ∧ n ≤ 9223372036854775807 ∧ (l = [] ∨ ∃ b o, A = some ⟨b, o, none⟩ ∧ b < w.heap.size ∧ ∀ k (h : k < l.length), w.cell? ⟨b, o + k, none⟩ = some (.int .i64 l[k]))
theorem IsInts.below {w w' : World} {A : Option Addr} {n : Nat} {l : List Int} (h : IsInts w A n l) (hb : Below w.heap.size w w') : IsInts w' A n l := by
  obtain ⟨h1, hm, h | ⟨b, o, rfl, hlt, hc⟩⟩ := h
  · exact ⟨h1, hm, .inl h⟩
  · refine ⟨h1, hm, .inr ⟨b, o, rfl, Nat.lt_of_lt_of_le hlt hb.size, fun k hk => ?_⟩⟩
    obtain c0 := hc k hk
    exact (hb.cell hlt).trans c0
theorem IsInts.at {w : World} {A : Option Addr} {n : Nat} {l : List Int} (h : IsInts w A n l) {k : Nat} (hk : k < n) : ∃ b o, A = some ⟨b, o, none⟩ ∧ b < w.heap.size ∧ ∃ x, l[k]? = some x ∧ w.cell? ⟨b, o + k, none⟩ = some (.int .i64 x) := by
  obtain ⟨h1, hm, h | ⟨b, o, rfl, hlt, hc⟩⟩ := h
  · rw [h] at h1; simp at h1; omega
  · exact ⟨b, o, rfl, hlt, l[k]'(by omega), List.getElem?_eq_getElem (by omega), hc k (by omega)⟩
theorem IsInts.nil (w : World) (A : Option Addr) : IsInts w A 0 [] := ⟨rfl, by omega, .inl rfl⟩
/-- Strs: what a slice holds. -/
def IsStrs (w : World) (A : Option Addr) (n : Nat) (l : List ByteArray) : Prop :=
  l.length = n ∧ n ≤ 9223372036854775807 ∧ (l = [] ∨ ∃ b o, A = some ⟨b, o, none⟩ ∧ b < w.heap.size ∧ ∀ k (h : k < l.length), w.cell? ⟨b, o + k, none⟩ = some (.string l[k]))
theorem IsStrs.below {w w' : World} {A : Option Addr} {n : Nat} {l : List ByteArray} (h : IsStrs w A n l) (hb : Below w.heap.size w w') : IsStrs w' A n l := by
  obtain ⟨h1, hm, h | ⟨b, o, rfl, hlt, hc⟩⟩ := h
  · exact ⟨h1, hm, .inl h⟩
  · refine ⟨h1, hm, .inr ⟨b, o, rfl, Nat.lt_of_lt_of_le hlt hb.size, fun k hk => ?_⟩⟩
    obtain c0 := hc k hk
    exact (hb.cell hlt).trans c0
theorem IsStrs.at {w : World} {A : Option Addr} {n : Nat} {l : List ByteArray} (h : IsStrs w A n l) {k : Nat} (hk : k < n) : ∃ b o, A = some ⟨b, o, none⟩ ∧ b < w.heap.size ∧ ∃ x, l[k]? = some x ∧ w.cell? ⟨b, o + k, none⟩ = some (.string x) := by
  obtain ⟨h1, hm, h | ⟨b, o, rfl, hlt, hc⟩⟩ := h
  · rw [h] at h1; simp at h1; omega
  · exact ⟨b, o, rfl, hlt, l[k]'(by omega), List.getElem?_eq_getElem (by omega), hc k (by omega)⟩
theorem IsStrs.nil (w : World) (A : Option Addr) : IsStrs w A 0 [] := ⟨rfl, by omega, .inl rfl⟩

structure Ins where
  op : Int
  dst : Opn
  args : List Opn
  name : ByteArray
  off : Int
  labels : List ByteArray
  cases : List Int
instance : Inhabited Ins := ⟨⟨0, default, [], ⟨#[]⟩, 0, [], []⟩⟩
/-- Where an instruction's lists are. -/
structure InsV where
  aa : Option Addr
  an : Nat
  ac : Nat
  la : Option Addr
  ln : Nat
  lc : Nat
  ca : Option Addr
  cn : Nat
  cc : Nat
def insR (i : Ins) (r : InsV) : Array Value := #[.int .i64 i.op, .int .i64 i.dst.k, .int .i64 i.dst.c, .int .i64 i.dst.n, .int .i64 i.dst.t, .slice r.aa r.an r.ac, .string i.name, .int .i64 i.off, .slice r.la r.ln r.lc, .slice r.ca r.cn r.cc]
structure IsIns (w : World) (i : Ins) (r : InsV) : Prop where
  args : IsOps w r.aa r.an i.args
  labels : IsStrs w r.la r.ln i.labels
  cases : IsInts w r.ca r.cn i.cases
theorem IsIns.below {w w' : World} {i : Ins} {r : InsV} (h : IsIns w i r) (hb : Below w.heap.size w w') : IsIns w' i r := ⟨h.args.below hb, h.labels.below hb, h.cases.below hb⟩
/-- Code: what a slice holds. -/
def IsCode (w : World) (A : Option Addr) (n : Nat) (R : Nat → InsV) (l : List Ins) : Prop :=
  l.length = n ∧ n ≤ 9223372036854775807 ∧ (l = [] ∨ ∃ b o, A = some ⟨b, o, none⟩ ∧ b < w.heap.size ∧ ∀ k (h : k < l.length), w.cell? ⟨b, o + k * 10, none⟩ = some (.int .i64 l[k].op) ∧ w.cell? ⟨b, o + k * 10 + 1, none⟩ = some (.int .i64 l[k].dst.k) ∧ w.cell? ⟨b, o + k * 10 + 2, none⟩ = some (.int .i64 l[k].dst.c) ∧ w.cell? ⟨b, o + k * 10 + 3, none⟩ = some (.int .i64 l[k].dst.n) ∧ w.cell? ⟨b, o + k * 10 + 4, none⟩ = some (.int .i64 l[k].dst.t) ∧ w.cell? ⟨b, o + k * 10 + 5, none⟩ = some (.slice (R k).aa (R k).an (R k).ac) ∧ w.cell? ⟨b, o + k * 10 + 6, none⟩ = some (.string l[k].name) ∧ w.cell? ⟨b, o + k * 10 + 7, none⟩ = some (.int .i64 l[k].off) ∧ w.cell? ⟨b, o + k * 10 + 8, none⟩ = some (.slice (R k).la (R k).ln (R k).lc) ∧ w.cell? ⟨b, o + k * 10 + 9, none⟩ = some (.slice (R k).ca (R k).cn (R k).cc)) ∧ ∀ k (h : k < l.length), IsIns w l[k] (R k)
theorem IsCode.below {w w' : World} {A : Option Addr} {n : Nat} {R : Nat → InsV} {l : List Ins} (h : IsCode w A n R l) (hb : Below w.heap.size w w') : IsCode w' A n R l := by
  obtain ⟨h1, hm, h | ⟨b, o, rfl, hlt, hc⟩, h3⟩ := h
  · exact ⟨h1, hm, .inl h, fun k hk => (h3 k hk).below hb⟩
  · refine ⟨h1, hm, .inr ⟨b, o, rfl, Nat.lt_of_lt_of_le hlt hb.size, fun k hk => ?_⟩, fun k hk => (h3 k hk).below hb⟩
    obtain ⟨c0, c1, c2, c3, c4, c5, c6, c7, c8, c9⟩ := hc k hk
    exact ⟨(hb.cell hlt).trans c0, (hb.cell hlt).trans c1, (hb.cell hlt).trans c2, (hb.cell hlt).trans c3, (hb.cell hlt).trans c4, (hb.cell hlt).trans c5, (hb.cell hlt).trans c6, (hb.cell hlt).trans c7, (hb.cell hlt).trans c8, (hb.cell hlt).trans c9⟩
theorem IsCode.at {w : World} {A : Option Addr} {n : Nat} {R : Nat → InsV} {l : List Ins} (h : IsCode w A n R l) {k : Nat} (hk : k < n) : ∃ b o, A = some ⟨b, o, none⟩ ∧ b < w.heap.size ∧ ∃ x, l[k]? = some x ∧ IsIns w x (R k) ∧ w.cell? ⟨b, o + k * 10, none⟩ = some (.int .i64 x.op) ∧ w.cell? ⟨b, o + k * 10 + 1, none⟩ = some (.int .i64 x.dst.k) ∧ w.cell? ⟨b, o + k * 10 + 2, none⟩ = some (.int .i64 x.dst.c) ∧ w.cell? ⟨b, o + k * 10 + 3, none⟩ = some (.int .i64 x.dst.n) ∧ w.cell? ⟨b, o + k * 10 + 4, none⟩ = some (.int .i64 x.dst.t) ∧ w.cell? ⟨b, o + k * 10 + 5, none⟩ = some (.slice (R k).aa (R k).an (R k).ac) ∧ w.cell? ⟨b, o + k * 10 + 6, none⟩ = some (.string x.name) ∧ w.cell? ⟨b, o + k * 10 + 7, none⟩ = some (.int .i64 x.off) ∧ w.cell? ⟨b, o + k * 10 + 8, none⟩ = some (.slice (R k).la (R k).ln (R k).lc) ∧ w.cell? ⟨b, o + k * 10 + 9, none⟩ = some (.slice (R k).ca (R k).cn (R k).cc) := by
  obtain ⟨h1, hm, h | ⟨b, o, rfl, hlt, hc⟩, h3⟩ := h
  · rw [h] at h1; simp at h1; omega
  · exact ⟨b, o, rfl, hlt, l[k]'(by omega), List.getElem?_eq_getElem (by omega), h3 k (by omega), hc k (by omega)⟩
theorem IsCode.nil (w : World) (A : Option Addr) (R : Nat → InsV) : IsCode w A 0 R [] := ⟨rfl, by omega, .inl rfl, fun k h => by cases h⟩

structure Blk where
  label : ByteArray
  edge : Bool
  ins : List Opn
  code : List Ins
instance : Inhabited Blk := ⟨⟨⟨#[]⟩, false, [], []⟩⟩
structure BlkV where
  ia : Option Addr
  il : Nat
  ic : Nat
  ka : Option Addr
  kn : Nat
  kc : Nat
  R : Nat → InsV
def blkR (i : Blk) (r : BlkV) : Array Value := #[.string i.label, .bool i.edge, .slice r.ia r.il r.ic, .slice r.ka r.kn r.kc]
structure IsBlk (w : World) (i : Blk) (r : BlkV) : Prop where
  ins : IsOps w r.ia r.il i.ins
  code : IsCode w r.ka r.kn r.R i.code
theorem IsBlk.below {w w' : World} {i : Blk} {r : BlkV} (h : IsBlk w i r) (hb : Below w.heap.size w w') : IsBlk w' i r := ⟨h.ins.below hb, h.code.below hb⟩
/-- Blks: what a slice holds. -/
def IsBlks (w : World) (A : Option Addr) (n : Nat) (R : Nat → BlkV) (l : List Blk) : Prop :=
  l.length = n ∧ n ≤ 9223372036854775807 ∧ (l = [] ∨ ∃ b o, A = some ⟨b, o, none⟩ ∧ b < w.heap.size ∧ ∀ k (h : k < l.length), w.cell? ⟨b, o + k * 4, none⟩ = some (.string l[k].label) ∧ w.cell? ⟨b, o + k * 4 + 1, none⟩ = some (.bool l[k].edge) ∧ w.cell? ⟨b, o + k * 4 + 2, none⟩ = some (.slice (R k).ia (R k).il (R k).ic) ∧ w.cell? ⟨b, o + k * 4 + 3, none⟩ = some (.slice (R k).ka (R k).kn (R k).kc)) ∧ ∀ k (h : k < l.length), IsBlk w l[k] (R k)
theorem IsBlks.below {w w' : World} {A : Option Addr} {n : Nat} {R : Nat → BlkV} {l : List Blk} (h : IsBlks w A n R l) (hb : Below w.heap.size w w') : IsBlks w' A n R l := by
  obtain ⟨h1, hm, h | ⟨b, o, rfl, hlt, hc⟩, h3⟩ := h
  · exact ⟨h1, hm, .inl h, fun k hk => (h3 k hk).below hb⟩
  · refine ⟨h1, hm, .inr ⟨b, o, rfl, Nat.lt_of_lt_of_le hlt hb.size, fun k hk => ?_⟩, fun k hk => (h3 k hk).below hb⟩
    obtain ⟨c0, c1, c2, c3⟩ := hc k hk
    exact ⟨(hb.cell hlt).trans c0, (hb.cell hlt).trans c1, (hb.cell hlt).trans c2, (hb.cell hlt).trans c3⟩
theorem IsBlks.at {w : World} {A : Option Addr} {n : Nat} {R : Nat → BlkV} {l : List Blk} (h : IsBlks w A n R l) {k : Nat} (hk : k < n) : ∃ b o, A = some ⟨b, o, none⟩ ∧ b < w.heap.size ∧ ∃ x, l[k]? = some x ∧ IsBlk w x (R k) ∧ w.cell? ⟨b, o + k * 4, none⟩ = some (.string x.label) ∧ w.cell? ⟨b, o + k * 4 + 1, none⟩ = some (.bool x.edge) ∧ w.cell? ⟨b, o + k * 4 + 2, none⟩ = some (.slice (R k).ia (R k).il (R k).ic) ∧ w.cell? ⟨b, o + k * 4 + 3, none⟩ = some (.slice (R k).ka (R k).kn (R k).kc) := by
  obtain ⟨h1, hm, h | ⟨b, o, rfl, hlt, hc⟩, h3⟩ := h
  · rw [h] at h1; simp at h1; omega
  · exact ⟨b, o, rfl, hlt, l[k]'(by omega), List.getElem?_eq_getElem (by omega), h3 k (by omega), hc k (by omega)⟩
theorem IsBlks.nil (w : World) (A : Option Addr) (R : Nat → BlkV) : IsBlks w A 0 R [] := ⟨rfl, by omega, .inl rfl, fun k h => by cases h⟩

structure Fun where
  machine : Bool
  name : ByteArray
  regs : List Rg
  params : List Opn
  blocks : List Blk
instance : Inhabited Fun := ⟨⟨false, ⟨#[]⟩, [], [], []⟩⟩
structure FunV where
  ra : Option Addr
  rn : Nat
  rc : Nat
  pa : Option Addr
  pn : Nat
  pc : Nat
  ba : Option Addr
  bn : Nat
  bc : Nat
  R : Nat → BlkV
def funR (f : Fun) (v : FunV) : Array Value := #[.bool f.machine, .string f.name, .slice v.ra v.rn v.rc, .slice v.pa v.pn v.pc, .slice v.ba v.bn v.bc]
structure IsFun (w : World) (f : Fun) (v : FunV) : Prop where
  regs : IsRegs w v.ra v.rn f.regs
  params : IsOps w v.pa v.pn f.params
  blocks : IsBlks w v.ba v.bn v.R f.blocks
theorem IsFun.below {w w' : World} {f : Fun} {v : FunV} (h : IsFun w f v) (hb : Below w.heap.size w w') : IsFun w' f v := ⟨h.regs.below hb, h.params.below hb, h.blocks.below hb⟩

/-- Two lists held against each other. -/
def sameL {α : Type} (f : α → α → Bool) : List α → List α → Bool
  | [], [] => true
  | a :: l, b :: m => f a b && sameL f l m
  | _, _ => false
theorem sameL_len {α : Type} (f : α → α → Bool) (l m : List α) (h : l.length ≠ m.length) : sameL f l m = false := by
  induction l generalizing m with
  | nil => cases m with
    | nil => exact absurd rfl h
    | cons b m => rfl
  | cons a l ih => cases m with
    | nil => rfl
    | cons b m =>
      show (f a b && sameL f l m) = false
      rw [ih m (fun e => h (by simp [e])), Bool.and_false]
theorem sameL_no {α : Type} (f : α → α → Bool) (l m : List α) (k : Nat) (x y : α) (hx : l[k]? = some x) (hy : m[k]? = some y) (h : f x y = false) : sameL f l m = false := by
  induction l generalizing m k with
  | nil => simp at hx
  | cons a l ih => cases m with
    | nil => rfl
    | cons b m =>
      show (f a b && sameL f l m) = false
      cases k with
      | zero =>
        simp only [List.getElem?_cons_zero, Option.some.injEq] at hx hy
        rw [hx, hy, h, Bool.false_and]
      | succ k => rw [ih m k (by simpa using hx) (by simpa using hy), Bool.and_false]
theorem sameL_yes {α : Type} (f : α → α → Bool) (l m : List α) (hl : l.length = m.length) (h : ∀ (k : Nat) (x y : α), l[k]? = some x → m[k]? = some y → f x y = true) : sameL f l m = true := by
  induction l generalizing m with
  | nil => cases m with
    | nil => rfl
    | cons b m => simp at hl
  | cons a l ih => cases m with
    | nil => simp at hl
    | cons b m =>
      show (f a b && sameL f l m) = true
      rw [h 0 a b rfl rfl, ih m (by simpa using hl) (fun k x y hx hy => h (k + 1) x y (by simpa using hx) (by simpa using hy))]
      rfl
theorem sameL_refl {α : Type} (f : α → α → Bool) (hf : ∀ x, f x x = true) (l : List α) : sameL f l l = true :=
  sameL_yes f l l rfl (fun k x y hx hy => by rw [hx] at hy; injection hy with hy; rw [hy]; exact hf y)
def intEq (a b : Int) : Bool := a == b
def strEq (a b : ByteArray) : Bool := a.toList == b.toList
def opEq (a b : Opn) : Bool := a.k == b.k && (a.c == b.c && (a.n == b.n && a.t == b.t))
def rgEq (a b : Rg) : Bool := a.id == b.id && a.cl == b.cl
def sgEq (a b : Sg) : Bool := a.v == b.v && (a.f == b.f && (a.t == b.t && (a.k == b.k && (a.c == b.c && a.n == b.n))))
def insEq (a b : Ins) : Bool := a.op == b.op && opEq a.dst b.dst && sameL opEq a.args b.args && (a.name.toList == b.name.toList) && a.off == b.off && sameL strEq a.labels b.labels && sameL intEq a.cases b.cases
def blkEq (a b : Blk) : Bool := (a.label.toList == b.label.toList) && a.edge == b.edge && sameL opEq a.ins b.ins && sameL insEq a.code b.code
def funEq (a b : Fun) : Bool := a.machine == b.machine && (a.name.toList == b.name.toList) && sameL rgEq a.regs b.regs && sameL opEq a.params b.params && sameL blkEq a.blocks b.blocks
theorem intEq_refl (a : Int) : intEq a a = true := by unfold intEq; simp
theorem strEq_refl (a : ByteArray) : strEq a a = true := by unfold strEq; simp
theorem opEq_refl (a : Opn) : opEq a a = true := by unfold opEq; simp
theorem rgEq_refl (a : Rg) : rgEq a a = true := by unfold rgEq; simp
theorem sgEq_refl (a : Sg) : sgEq a a = true := by unfold sgEq; simp
theorem insEq_refl (a : Ins) : insEq a a = true := by unfold insEq; simp [sameL_refl _ opEq_refl, sameL_refl _ strEq_refl, sameL_refl _ intEq_refl, opEq_refl]
theorem blkEq_refl (a : Blk) : blkEq a a = true := by unfold blkEq; simp [sameL_refl _ opEq_refl, sameL_refl _ insEq_refl]
theorem funEq_refl (a : Fun) : funEq a a = true := by unfold funEq; simp [sameL_refl _ opEq_refl, sameL_refl _ rgEq_refl, sameL_refl _ blkEq_refl]
theorem cell_in {w : World} {g : Nat} {cs : Array Value} {t : TypeId} (h : w.heap[g]? = some (.cells cs t (0, 0))) (j : Nat) : w.cell? ⟨g, j, none⟩ = cs[j]? := by
  simp only [World.cell?, h]
  simp
theorem kept_box {w w1 : World} {cs : Array Value} {t : TypeId} {g : Nat} {fr : Nat × Nat} (h : w.heap[g]? = some (.cells cs t fr)) (hb : Below w.heap.size w w1) : w1.heap[g]? = some (.cells cs t fr) := by
  rw [hb.block g (Array.getElem?_eq_some_iff.1 h).1]; exact h
theorem box_two (w : World) (a b : Obj) : ((w.alloc a).alloc b).heap[w.heap.size]? = some a ∧ ((w.alloc a).alloc b).heap[w.heap.size + 1]? = some b := by
  constructor
  · rw [Below.heap_alloc _ _ _ (by simp)]; exact heap_alloc_new w a
  · have := heap_alloc_new (w.alloc a) b
    simpa using this
theorem below_drewN (w : World) (n : Nat) : Below w.heap.size w (w.drewN n) := ⟨rfl, rfl, rfl, Nat.le_refl _, fun _ _ => rfl⟩
end Go.Proofs.Ytojfbcfbnadboaa
