/- A function in memory of its own: each list in a block of its own. -/
import Derived.Test.YtocelaebokikcaaCopyI
namespace Go.Proofs.Ytocelaebokikcaa
open Go.ChangeShapes Go.WideShapes Go.RowKit
set_option linter.unusedVariables false

/-- A list within a function. -/
inductive Pos where
  | regs | params | blocks
  | ins (b : Nat)
  | code (b : Nat)
  | args (b k : Nat)
  | labels (b k : Nat)
  | cases (b k : Nat)
deriving DecidableEq
def Pos.ty : Pos → TypeId
  | .regs => 71
  | .params => 44
  | .blocks => 48
  | .ins _ => 44
  | .code _ => 51
  | .args _ _ => 44
  | .labels _ _ => 9
  | .cases _ _ => 3
/-- A function, part by part. -/
structure FunD where
  machine : Bool
  name : ByteArray
  regs : List Rg
  nb : Nat
  nk : Nat → Nat
  label : Nat → ByteArray
  edge : Nat → Bool
  op : Nat → Nat → Int
  off : Nat → Nat → Int
  name2 : Nat → Nat → ByteArray
  dst : Nat → Nat → Opn
  ops : Pos → List Opn
  labels : Nat → Nat → List ByteArray
  cases : Nat → Nat → List Int
def FunD.insAt (d : FunD) (b k : Nat) : Ins := ⟨d.op b k, d.dst b k, d.ops (.args b k), d.name2 b k, d.off b k, d.labels b k, d.cases b k⟩
def FunD.blkAt (d : FunD) (b : Nat) : Blk := ⟨d.label b, d.edge b, d.ops (.ins b), (List.range (d.nk b)).map (d.insAt b)⟩
def FunD.toFun (d : FunD) : Fun := ⟨d.machine, d.name, d.regs, d.ops .params, (List.range d.nb).map d.blkAt⟩
def Fun.blk (f : Fun) (b : Nat) : Blk := f.blocks.getD b default
def Fun.inst (f : Fun) (b k : Nat) : Ins := (f.blk b).code.getD k default
def Fun.parts (f : Fun) : FunD where
  machine := f.machine
  name := f.name
  regs := f.regs
  nb := f.blocks.length
  nk b := (f.blk b).code.length
  label b := (f.blk b).label
  edge b := (f.blk b).edge
  op b k := (f.inst b k).op
  off b k := (f.inst b k).off
  name2 b k := (f.inst b k).name
  dst b k := (f.inst b k).dst
  ops := fun
    | .params => f.params
    | .ins b => (f.blk b).ins
    | .args b k => (f.inst b k).args
    | _ => []
  labels b k := (f.inst b k).labels
  cases b k := (f.inst b k).cases
theorem list_range {α : Type} [Inhabited α] (l : List α) : (List.range l.length).map (fun k => l.getD k default) = l := by
  apply List.ext_getElem?
  intro k
  by_cases hk : k < l.length
  · rw [List.getElem?_map, List.getElem?_range hk, List.getElem?_eq_getElem hk]
    simp [List.getD_eq_getElem?_getD, List.getElem?_eq_getElem hk]
  · rw [List.getElem?_eq_none (by simp; omega), List.getElem?_eq_none (by omega)]
theorem parts_ins (f : Fun) (b k : Nat) : f.parts.insAt b k = f.inst b k := rfl
theorem parts_blk (f : Fun) (b : Nat) : f.parts.blkAt b = f.blk b := by
  show (⟨(f.blk b).label, (f.blk b).edge, (f.blk b).ins, (List.range (f.blk b).code.length).map (fun k => (f.blk b).code.getD k default)⟩ : Blk) = f.blk b
  rw [list_range]
theorem parts_fun (f : Fun) : f.parts.toFun = f := by
  show (⟨f.machine, f.name, f.regs, f.params, (List.range f.blocks.length).map f.parts.blkAt⟩ : Fun) = f
  have : f.parts.blkAt = fun b => f.blocks.getD b default := by funext b; exact parts_blk f b
  rw [this, list_range]
/-- How long a list is. -/
def FunD.len (d : FunD) : Pos → Nat
  | .regs => d.regs.length
  | .blocks => d.nb
  | .code b => d.nk b
  | .labels b k => (d.labels b k).length
  | .cases b k => (d.cases b k).length
  | p => (d.ops p).length
/-- Which lists there are. -/
def FunD.valid (d : FunD) : Pos → Prop
  | .ins b => b < d.nb
  | .code b => b < d.nb
  | .args b k => b < d.nb ∧ k < d.nk b
  | .labels b k => b < d.nb ∧ k < d.nk b
  | .cases b k => b < d.nb ∧ k < d.nk b
  | _ => True
abbrev Spots := Pos → Option Addr × Nat
def FunD.insV (d : FunD) (S : Spots) (b k : Nat) : InsV := ⟨(S (.args b k)).1, d.len (.args b k), (S (.args b k)).2, (S (.labels b k)).1, d.len (.labels b k), (S (.labels b k)).2, (S (.cases b k)).1, d.len (.cases b k), (S (.cases b k)).2⟩
def FunD.blkV (d : FunD) (S : Spots) (b : Nat) : BlkV := ⟨(S (.ins b)).1, d.len (.ins b), (S (.ins b)).2, (S (.code b)).1, d.nk b, (S (.code b)).2, d.insV S b⟩
def FunD.funV (d : FunD) (S : Spots) : FunV := ⟨(S .regs).1, d.len .regs, (S .regs).2, (S .params).1, d.len .params, (S .params).2, (S .blocks).1, d.nb, (S .blocks).2, d.blkV S⟩
/-- A list's cells. -/
def FunD.rows (d : FunD) (S : Spots) : Pos → List Value
  | .regs => d.regs.flatMap Rg.cs
  | .blocks => (List.range d.nb).flatMap fun b => (blkR (d.blkAt b) (d.blkV S b)).toList
  | .code b => (List.range (d.nk b)).flatMap fun k => (insR (d.insAt b k) (d.insV S b k)).toList
  | .labels b k => (d.labels b k).flatMap strC
  | .cases b k => (d.cases b k).flatMap intC
  | p => (d.ops p).flatMap Opn.cs
/-- Lists in blocks of their own. -/
structure Lay (W : World) (base : Nat) (V : Pos → Prop) (G : Pos → Nat) (R : Pos → List Value) : Prop where
  mem : ∀ p, V p → base ≤ G p ∧ W.heap[G p]? = some (.cells (R p).toArray p.ty (0, 0))
  inj : ∀ p q, V p → V q → G p = G q → p = q
theorem Lay.lt {W : World} {base : Nat} {V : Pos → Prop} {G : Pos → Nat} {R : Pos → List Value} (h : Lay W base V G R) {p : Pos} (hp : V p) : G p < W.heap.size := (Array.getElem?_eq_some_iff.1 (h.mem p hp).2).1
theorem Lay.keep {W W' : World} {base : Nat} {V : Pos → Prop} {G : Pos → Nat} {R : Pos → List Value} (h : Lay W base V G R) (hb : ∀ g, base ≤ g → g < W.heap.size → W'.heap[g]? = W.heap[g]?) : Lay W' base V G R :=
  ⟨fun p hp => ⟨(h.mem p hp).1, by rw [hb _ (h.mem p hp).1 (h.lt hp)]; exact (h.mem p hp).2⟩, h.inj⟩
theorem Lay.below {W W' : World} {base : Nat} {V : Pos → Prop} {G : Pos → Nat} {R : Pos → List Value} (h : Lay W base V G R) (hb : Below W.heap.size W W') : Lay W' base V G R := h.keep fun g _ hg => hb.block g hg
theorem Lay.congr {W : World} {base : Nat} {V V' : Pos → Prop} {G G' : Pos → Nat} {R R' : Pos → List Value} (h : Lay W base V G R) (hV : ∀ p, V' p → V p) (hG : ∀ p, V' p → G' p = G p) (hR : ∀ p, V' p → R' p = R p) : Lay W base V' G' R' :=
  ⟨fun p hp => by rw [hG p hp, hR p hp]; exact h.mem p (hV p hp), fun p q hp hq e => h.inj p q (hV p hp) (hV q hq) (by rw [← hG p hp, ← hG q hq]; exact e)⟩
theorem Lay.add {W W' : World} {base : Nat} {V : Pos → Prop} {G : Pos → Nat} {R : Pos → List Value} (h : Lay W base V G R) (p : Pos) (g : Nat) (cs : List Value) (hg : W.heap.size ≤ g) (hbase : base ≤ g)
    (hW : ∀ x, base ≤ x → x < W.heap.size → W'.heap[x]? = W.heap[x]?) (hc : W'.heap[g]? = some (.cells cs.toArray p.ty (0, 0))) :
    Lay W' base (fun q => V q ∨ q = p) (fun q => if q = p then g else G q) (fun q => if q = p then cs else R q) := by
  refine ⟨fun q hq => ?_, fun q r hq hr e => ?_⟩
  · by_cases hqp : q = p
    · subst hqp; simp only [if_true]; exact ⟨hbase, hc⟩
    · simp only [if_neg hqp]
      have hV : V q := hq.resolve_right hqp
      exact ⟨(h.mem q hV).1, by rw [hW _ (h.mem q hV).1 (h.lt hV)]; exact (h.mem q hV).2⟩
  · by_cases hqp : q = p <;> by_cases hrp : r = p
    · rw [hqp, hrp]
    · simp only [if_pos hqp, if_neg hrp] at e
      have := h.lt (hr.resolve_right hrp)
      omega
    · simp only [if_neg hqp, if_pos hrp] at e
      have := h.lt (hq.resolve_right hqp)
      omega
    · simp only [if_neg hqp, if_neg hrp] at e
      exact h.inj q r (hq.resolve_right hqp) (hr.resolve_right hrp) e
theorem Lay.put {W W' : World} {base : Nat} {V : Pos → Prop} {G : Pos → Nat} {R : Pos → List Value} (h : Lay W base V G R) (p : Pos) (hp : V p) (cs : List Value)
    (hc : W'.heap[G p]? = some (.cells cs.toArray p.ty (0, 0))) (hW : ∀ x, base ≤ x → x < W.heap.size → x ≠ G p → W'.heap[x]? = W.heap[x]?) :
    Lay W' base V G (fun q => if q = p then cs else R q) := by
  refine ⟨fun q hq => ?_, h.inj⟩
  by_cases hqp : q = p
  · subst hqp; simp only [if_true]; exact ⟨(h.mem q hq).1, hc⟩
  · simp only [if_neg hqp]
    exact ⟨(h.mem q hq).1, by rw [hW _ (h.mem q hq).1 (h.lt hq) (fun e => hqp (h.inj q p hq hp e))]; exact (h.mem q hq).2⟩
/-- All lists are there, and where. -/
structure Own (W : World) (base : Nat) (G : Pos → Nat) (d : FunD) (S : Spots) : Prop where
  lay : Lay W base d.valid G (d.rows S)
  spots : ∀ p, d.valid p → S p = (some ⟨G p, 0, none⟩, d.len p)
  small : ∀ p, d.valid p → d.len p ≤ 1048576
theorem flat_cell {α : Type} {W : World} {g : Nat} {t : TypeId} (f : α → List Value) (s : Nat) (hs : ∀ x, (f x).length = s) (l : List α) (h : W.heap[g]? = some (.cells (l.flatMap f).toArray t (0, 0))) (k j : Nat) (hk : k < l.length) (hj : j < s) (u : Value) (hu : (f l[k])[j]? = some u) :
    W.cell? ⟨g, 0 + k * s + j, none⟩ = some u := by
  rw [cell_in h, Nat.zero_add, List.getElem?_toArray, flat_at f s hs l k j l[k] (List.getElem?_eq_getElem hk) hj]
  exact hu
theorem ops_own {W : World} {g : Nat} {l : List Opn} (h : W.heap[g]? = some (.cells (l.flatMap Opn.cs).toArray 44 (0, 0))) (hn : l.length ≤ 1048576) : IsOps W (some ⟨g, 0, none⟩) l.length l :=
  ⟨rfl, by omega, .inr ⟨g, 0, rfl, (Array.getElem?_eq_some_iff.1 h).1, fun k hk => ⟨flat_cell Opn.cs 4 (fun _ => rfl) l h k 0 hk (by omega) _ rfl, flat_cell Opn.cs 4 (fun _ => rfl) l h k 1 hk (by omega) _ rfl, flat_cell Opn.cs 4 (fun _ => rfl) l h k 2 hk (by omega) _ rfl, flat_cell Opn.cs 4 (fun _ => rfl) l h k 3 hk (by omega) _ rfl⟩⟩⟩
theorem regs_own {W : World} {g : Nat} {l : List Rg} (h : W.heap[g]? = some (.cells (l.flatMap Rg.cs).toArray 71 (0, 0))) (hn : l.length ≤ 1048576) : IsRegs W (some ⟨g, 0, none⟩) l.length l :=
  ⟨rfl, by omega, .inr ⟨g, 0, rfl, (Array.getElem?_eq_some_iff.1 h).1, fun k hk => ⟨flat_cell Rg.cs 2 (fun _ => rfl) l h k 0 hk (by omega) _ rfl, flat_cell Rg.cs 2 (fun _ => rfl) l h k 1 hk (by omega) _ rfl⟩⟩⟩
theorem strs_own {W : World} {g : Nat} {l : List ByteArray} (h : W.heap[g]? = some (.cells (l.flatMap strC).toArray 9 (0, 0))) (hn : l.length ≤ 1048576) : IsStrs W (some ⟨g, 0, none⟩) l.length l :=
  ⟨rfl, by omega, .inr ⟨g, 0, rfl, (Array.getElem?_eq_some_iff.1 h).1, fun k hk => by
    have := flat_cell strC 1 (fun _ => rfl) l h k 0 hk (by omega) _ rfl
    rw [Nat.mul_one, Nat.add_zero] at this; exact this⟩⟩
theorem ints_own {W : World} {g : Nat} {l : List Int} (h : W.heap[g]? = some (.cells (l.flatMap intC).toArray 3 (0, 0))) (hn : l.length ≤ 1048576) : IsInts W (some ⟨g, 0, none⟩) l.length l :=
  ⟨rfl, by omega, .inr ⟨g, 0, rfl, (Array.getElem?_eq_some_iff.1 h).1, fun k hk => by
    have := flat_cell intC 1 (fun _ => rfl) l h k 0 hk (by omega) _ rfl
    rw [Nat.mul_one, Nat.add_zero] at this; exact this⟩⟩
theorem Own.insAt {W : World} {base : Nat} {G : Pos → Nat} {d : FunD} {S : Spots} (h : Own W base G d S) {b k : Nat} (hb : b < d.nb) (hk : k < d.nk b) : IsIns W (d.insAt b k) (d.insV S b k) := by
  have e1 := h.spots (.args b k) ⟨hb, hk⟩
  have e2 := h.spots (.labels b k) ⟨hb, hk⟩
  have e3 := h.spots (.cases b k) ⟨hb, hk⟩
  refine ⟨?_, ?_, ?_⟩
  · show IsOps W (S (.args b k)).1 _ _
    rw [e1]
    exact ops_own (h.lay.mem (.args b k) ⟨hb, hk⟩).2 (h.small (.args b k) ⟨hb, hk⟩)
  · show IsStrs W (S (.labels b k)).1 _ _
    rw [e2]
    exact strs_own (h.lay.mem (.labels b k) ⟨hb, hk⟩).2 (h.small (.labels b k) ⟨hb, hk⟩)
  · show IsInts W (S (.cases b k)).1 _ _
    rw [e3]
    exact ints_own (h.lay.mem (.cases b k) ⟨hb, hk⟩).2 (h.small (.cases b k) ⟨hb, hk⟩)
theorem Own.code {W : World} {base : Nat} {G : Pos → Nat} {d : FunD} {S : Spots} (h : Own W base G d S) {b : Nat} (hb : b < d.nb) : IsCode W (S (.code b)).1 (d.nk b) (d.insV S b) ((List.range (d.nk b)).map (d.insAt b)) := by
  have hs : d.nk b ≤ 1048576 := h.small (.code b) hb
  have hm := (h.lay.mem (.code b) hb).2
  rw [h.spots (.code b) hb]
  have hc : ∀ k j (hk : k < d.nk b) (hj : j < 10) u, ((insR (d.insAt b k) (d.insV S b k)).toList)[j]? = some u → W.cell? ⟨G (.code b), 0 + k * 10 + j, none⟩ = some u := fun k j hk hj u hu =>
    flat_cell (fun k => (insR (d.insAt b k) (d.insV S b k)).toList) 10 (fun _ => rfl) (List.range (d.nk b)) hm k j (by simpa using hk) hj u (by rw [List.getElem_range]; exact hu)
  refine ⟨by simp, by omega, .inr ⟨_, 0, rfl, (Array.getElem?_eq_some_iff.1 hm).1, fun k hk => ?_⟩, fun k hk => ?_⟩
  · have hk2 : k < d.nk b := by simpa using hk
    rw [List.getElem_map, List.getElem_range]
    exact ⟨hc k 0 hk2 (by omega) _ rfl, hc k 1 hk2 (by omega) _ rfl, hc k 2 hk2 (by omega) _ rfl, hc k 3 hk2 (by omega) _ rfl, hc k 4 hk2 (by omega) _ rfl, hc k 5 hk2 (by omega) _ rfl, hc k 6 hk2 (by omega) _ rfl, hc k 7 hk2 (by omega) _ rfl, hc k 8 hk2 (by omega) _ rfl, hc k 9 hk2 (by omega) _ rfl⟩
  · have hk2 : k < d.nk b := by simpa using hk
    rw [List.getElem_map, List.getElem_range]
    exact h.insAt hb hk2
theorem Own.blkAt {W : World} {base : Nat} {G : Pos → Nat} {d : FunD} {S : Spots} (h : Own W base G d S) {b : Nat} (hb : b < d.nb) : IsBlk W (d.blkAt b) (d.blkV S b) := by
  refine ⟨?_, h.code hb⟩
  show IsOps W (S (.ins b)).1 _ _
  rw [h.spots (.ins b) hb]
  exact ops_own (h.lay.mem (.ins b) hb).2 (h.small (.ins b) hb)
theorem Own.isFun {W : World} {base : Nat} {G : Pos → Nat} {d : FunD} {S : Spots} (h : Own W base G d S) : IsFun W d.toFun (d.funV S) := by
  have hs : d.nb ≤ 1048576 := h.small .blocks trivial
  have hm := (h.lay.mem .blocks trivial).2
  have hc : ∀ k j (hk : k < d.nb) (hj : j < 4) u, ((blkR (d.blkAt k) (d.blkV S k)).toList)[j]? = some u → W.cell? ⟨G .blocks, 0 + k * 4 + j, none⟩ = some u := fun k j hk hj u hu =>
    flat_cell (fun k => (blkR (d.blkAt k) (d.blkV S k)).toList) 4 (fun _ => rfl) (List.range d.nb) hm k j (by simpa using hk) hj u (by rw [List.getElem_range]; exact hu)
  refine ⟨?_, ?_, ?_⟩
  · show IsRegs W (S .regs).1 _ _
    rw [h.spots .regs trivial]
    exact regs_own (h.lay.mem .regs trivial).2 (h.small .regs trivial)
  · show IsOps W (S .params).1 _ _
    rw [h.spots .params trivial]
    exact ops_own (h.lay.mem .params trivial).2 (h.small .params trivial)
  · show IsBlks W (S .blocks).1 _ _ _
    rw [h.spots .blocks trivial]
    refine ⟨by simp [FunD.toFun, FunD.funV], by show d.nb ≤ _; omega, .inr ⟨_, 0, rfl, (Array.getElem?_eq_some_iff.1 hm).1, fun k hk => ?_⟩, fun k hk => ?_⟩
    · have hk2 : k < d.nb := by simpa [FunD.toFun] using hk
      simp only [FunD.toFun, List.getElem_map, List.getElem_range]
      exact ⟨hc k 0 hk2 (by omega) _ rfl, hc k 1 hk2 (by omega) _ rfl, hc k 2 hk2 (by omega) _ rfl, hc k 3 hk2 (by omega) _ rfl⟩
    · have hk2 : k < d.nb := by simpa [FunD.toFun] using hk
      simp only [FunD.toFun, List.getElem_map, List.getElem_range]
      exact h.blkAt hk2
theorem Own.below {W W' : World} {base : Nat} {G : Pos → Nat} {d : FunD} {S : Spots} (h : Own W base G d S) (hb : Below W.heap.size W W') : Own W' base G d S := ⟨h.lay.below hb, h.spots, h.small⟩
end Go.Proofs.Ytocelaebokikcaa
