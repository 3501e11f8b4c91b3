/- What an own function's cells may hold while it is written: numbers where numbers are, texts where texts are, its lists where they were. -/
import Derived.Test.YtocelaebokikcaaCopy
import Derived.Test.YtocelaebokikcaaBound
namespace Go.Proofs.Ytocelaebokikcaa
open Go.ChangeShapes Go.WideShapes Go.RowKit
set_option linter.unusedVariables false
set_option maxRecDepth 20000

/-- A cell of a function. -/
inductive Cel where
  | blk (b c : Nat)
  | cod (b k c : Nat)
  | arg (b k i : Nat)
  | lab (b k j : Nat)
  | cas (b k j : Nat)
  | par (i : Nat)
  | inn (b i : Nat)
deriving DecidableEq
def Cel.pos : Cel → Pos
  | .blk _ _ => .blocks
  | .cod b _ _ => .code b
  | .arg b k _ => .args b k
  | .lab b k _ => .labels b k
  | .cas b k _ => .cases b k
  | .par _ => .params
  | .inn b _ => .ins b
def Cel.off : Cel → Nat
  | .blk b c => b * 4 + c
  | .cod _ k c => k * 10 + c
  | .arg _ _ i => i
  | .lab _ _ j => j
  | .cas _ _ j => j
  | .par i => i
  | .inn _ i => i
def Cel.ok (d : FunD) : Cel → Prop
  | .blk b c => b < d.nb ∧ c < 4
  | .cod b k c => b < d.nb ∧ k < d.nk b ∧ c < 10
  | .arg b k i => b < d.nb ∧ k < d.nk b ∧ i < d.len (.args b k) * 4
  | .lab b k j => b < d.nb ∧ k < d.nk b ∧ j < d.len (.labels b k)
  | .cas b k j => b < d.nb ∧ k < d.nk b ∧ j < d.len (.cases b k)
  | .par i => i < d.len .params * 4
  | .inn b i => b < d.nb ∧ i < d.len (.ins b) * 4
def Cel.spot (G : Pos → Nat) (x : Cel) : Addr := ⟨G x.pos, x.off, none⟩
theorem Cel.valid {d : FunD} {x : Cel} (h : x.ok d) : d.valid x.pos := by
  cases x with
  | blk b c => exact trivial
  | cod b k c => exact h.1
  | arg b k i => exact ⟨h.1, h.2.1⟩
  | lab b k j => exact ⟨h.1, h.2.1⟩
  | cas b k j => exact ⟨h.1, h.2.1⟩
  | par i => exact trivial
  | inn b i => exact h.1
theorem Cel.inj {d : FunD} {G : Pos → Nat} (hG : ∀ p q, d.valid p → d.valid q → G p = G q → p = q) {x y : Cel} (hx : x.ok d) (hy : y.ok d) (h : x.spot G = y.spot G) : x = y := by
  unfold Cel.spot at h
  injection h with h1 h2
  have hp := hG _ _ (Cel.valid hx) (Cel.valid hy) h1
  cases x <;> cases y <;> simp only [Cel.pos, Pos.ins.injEq, Pos.code.injEq, Pos.args.injEq, Pos.labels.injEq, Pos.cases.injEq, reduceCtorEq] at hp <;> simp only [Cel.off] at h2 <;> simp only [Cel.ok] at hx hy <;> simp <;> omega
/-- What a cell's value may be. -/
def Kind (d : FunD) (S : Spots) (F : Nat → Nat → Nat → Prop) : Cel → Value → Prop
  | .blk b c, v => c = 3 → v = .slice (S (.code b)).1 (d.nk b) (S (.code b)).2
  | .cod b k c, v => (c = 5 → v = .slice (S (.args b k)).1 (d.len (.args b k)) (S (.args b k)).2) ∧ (c = 8 → v = .slice (S (.labels b k)).1 (d.len (.labels b k)) (S (.labels b k)).2) ∧ (c = 9 → v = .slice (S (.cases b k)).1 (d.len (.cases b k)) (S (.cases b k)).2) ∧ (c = 6 → ∃ s, v = .string s) ∧ (c < 5 ∨ c = 7 → ∃ z, v = .int .i64 z)
  | .lab b k j, v => ∃ s, v = .string s ∧ s.size ≤ 1048577 ∧ (F b k j → s.size ≤ 1048576)
  | _, v => ∃ z, v = .int .i64 z
/-- The function's cells hold what they may. -/
structure Typed (d : FunD) (S : Spots) (G : Pos → Nat) (F : Nat → Nat → Nat → Prop) (W : World) : Prop where
  cell : ∀ x : Cel, x.ok d → ∃ v, W.cell? (x.spot G) = some v ∧ Kind d S F x v
  froz : ∀ x : Cel, x.ok d → W.frozen? (x.spot G) = false
theorem Typed.put {d : FunD} {S : Spots} {G : Pos → Nat} {F : Nat → Nat → Nat → Prop} {W : World} (h : Typed d S G F W) (hG : ∀ p q, d.valid p → d.valid q → G p = G q → p = q) (x : Cel) (hx : x.ok d) (v : Value) (hv : Kind d S F x v) :
    Typed d S G F (W.setCell (x.spot G) v) := by
  refine ⟨fun y hy => ?_, fun y hy => by rw [World.frozen?_setCell]; exact h.froz y hy⟩
  by_cases e : x = y
  · subst e
    obtain ⟨u, hu, _⟩ := h.cell x hx
    exact ⟨v, World.cell?_setCell_same _ _ _ hu, hv⟩
  · rw [World.cell?_setCell_other _ _ _ _ (fun e2 => e (Cel.inj hG hx hy e2))]
    exact h.cell y hy
theorem Typed.keep {d : FunD} {S : Spots} {G : Pos → Nat} {F : Nat → Nat → Nat → Prop} {W W' : World} (h : Typed d S G F W) (hk : ∀ g, g < W.heap.size → W'.heap[g]? = W.heap[g]?) : Typed d S G F W' :=
  ⟨fun x hx => by
    obtain ⟨u, hu, hv⟩ := h.cell x hx
    exact ⟨u, (World.cell?_of_block (w := W) (hk _ (spot_lt hu))).trans hu, hv⟩,
   fun x hx => by
    obtain ⟨u, hu, hv⟩ := h.cell x hx
    exact (World.frozen?_of_block (w := W) (hk _ (spot_lt hu))).trans (h.froz x hx)⟩
theorem Typed.weak {d : FunD} {S : Spots} {G : Pos → Nat} {F F' : Nat → Nat → Nat → Prop} {W : World} (h : Typed d S G F W) (hF : ∀ b k j, F' b k j → F b k j) : Typed d S G F' W :=
  ⟨fun x hx => by
    obtain ⟨u, hu, hv⟩ := h.cell x hx
    refine ⟨u, hu, ?_⟩
    cases x with
    | lab b k j => obtain ⟨s, h1, h2, h3⟩ := hv; exact ⟨s, h1, h2, fun e => h3 (hF _ _ _ e)⟩
    | _ => exact hv, h.froz⟩
theorem int_cell (l : List Opn) (i : Nat) (v : Value) (h : (l.flatMap Opn.cs)[i]? = some v) : ∃ z, v = .int .i64 z := by
  have hm := List.mem_of_getElem? h
  obtain ⟨x, _, hx⟩ := List.mem_flatMap.1 hm
  unfold Opn.cs at hx
  simp only [List.mem_cons, List.not_mem_nil, or_false] at hx
  rcases hx with rfl | rfl | rfl | rfl <;> exact ⟨_, rfl⟩
theorem Own.typed {W : World} {base : Nat} {G : Pos → Nat} {d : FunD} {S : Spots} (h : Own W base G d S) (hs : ∀ b k, b < d.nb → k < d.nk b → ∀ s ∈ d.labels b k, s.size ≤ 1048576) : Typed d S G (fun _ _ _ => True) W := by
  have get : ∀ p i v, d.valid p → (d.rows S p)[i]? = some v → W.cell? ⟨G p, i, none⟩ = some v := fun p i v hp hv => by
    rw [cell_in (h.lay.mem p hp).2, List.getElem?_toArray]; exact hv
  have some_of : ∀ (l : List Value) i, i < l.length → ∃ v, l[i]? = some v := fun l i hi => ⟨_, List.getElem?_eq_getElem hi⟩
  refine ⟨fun x hx => ?_, fun x hx => froz_in (h.lay.mem x.pos (Cel.valid hx)).2 _⟩
  cases x with
  | blk b c =>
    have hr : (d.rows S .blocks)[b * 4 + c]? = (blkR (d.blkAt b) (d.blkV S b)).toList[c]? := flat_at (fun b => (blkR (d.blkAt b) (d.blkV S b)).toList) 4 (fun _ => rfl) (List.range d.nb) b c b (by rw [List.getElem?_range hx.1]) hx.2
    obtain ⟨v, hv⟩ := some_of (blkR (d.blkAt b) (d.blkV S b)).toList c hx.2
    refine ⟨v, get .blocks _ v trivial (hr.trans hv), fun e => ?_⟩
    subst e
    exact (Option.some.inj hv).symm
  | cod b k c =>
    have hr : (d.rows S (.code b))[k * 10 + c]? = (insR (d.insAt b k) (d.insV S b k)).toList[c]? := flat_at (fun k => (insR (d.insAt b k) (d.insV S b k)).toList) 10 (fun _ => rfl) (List.range (d.nk b)) k c k (by rw [List.getElem?_range hx.2.1]) hx.2.2
    obtain ⟨v, hv⟩ := some_of (insR (d.insAt b k) (d.insV S b k)).toList c hx.2.2
    refine ⟨v, get (.code b) _ v hx.1 (hr.trans hv), fun e => ?_, fun e => ?_, fun e => ?_, fun e => ?_, fun e => ?_⟩
    · subst e; exact (Option.some.inj hv).symm
    · subst e; exact (Option.some.inj hv).symm
    · subst e; exact (Option.some.inj hv).symm
    · subst e; exact ⟨_, (Option.some.inj hv).symm⟩
    · have : c = 0 ∨ c = 1 ∨ c = 2 ∨ c = 3 ∨ c = 4 ∨ c = 7 := by omega
      rcases this with rfl | rfl | rfl | rfl | rfl | rfl <;> exact ⟨_, (Option.some.inj hv).symm⟩
  | arg b k i =>
    obtain ⟨v, hv⟩ := some_of (d.rows S (.args b k)) i (by show i < ((d.ops (.args b k)).flatMap Opn.cs).length; rw [flat_len Opn.cs 4 (fun _ => rfl)]; exact hx.2.2)
    exact ⟨v, get (.args b k) i v ⟨hx.1, hx.2.1⟩ hv, int_cell _ i v hv⟩
  | par i =>
    obtain ⟨v, hv⟩ := some_of (d.rows S .params) i (by show i < ((d.ops .params).flatMap Opn.cs).length; rw [flat_len Opn.cs 4 (fun _ => rfl)]; exact hx)
    exact ⟨v, get .params i v trivial hv, int_cell _ i v hv⟩
  | inn b i =>
    obtain ⟨v, hv⟩ := some_of (d.rows S (.ins b)) i (by show i < ((d.ops (.ins b)).flatMap Opn.cs).length; rw [flat_len Opn.cs 4 (fun _ => rfl)]; exact hx.2)
    exact ⟨v, get (.ins b) i v hx.1 hv, int_cell _ i v hv⟩
  | lab b k j =>
    have hr : (d.rows S (.labels b k))[j * 1 + 0]? = _ := flat_at strC 1 (fun _ => rfl) (d.labels b k) j 0 (d.labels b k)[j]! (by rw [List.getElem!_eq_getElem?_getD, List.getElem?_eq_getElem hx.2.2]; rfl) (by omega)
    rw [Nat.mul_one, Nat.add_zero] at hr
    refine ⟨_, get (.labels b k) j _ ⟨hx.1, hx.2.1⟩ (hr.trans rfl), (d.labels b k)[j]!, rfl, ?_⟩
    have hm : (d.labels b k)[j]! ∈ d.labels b k := by
      rw [List.getElem!_eq_getElem?_getD, List.getElem?_eq_getElem hx.2.2]; exact List.getElem_mem hx.2.2
    have := hs b k hx.1 hx.2.1 _ hm
    exact ⟨by omega, fun _ => this⟩
  | cas b k j =>
    have hr : (d.rows S (.cases b k))[j * 1 + 0]? = _ := flat_at intC 1 (fun _ => rfl) (d.cases b k) j 0 (d.cases b k)[j]! (by rw [List.getElem!_eq_getElem?_getD, List.getElem?_eq_getElem hx.2.2]; rfl) (by omega)
    rw [Nat.mul_one, Nat.add_zero] at hr
    exact ⟨_, get (.cases b k) j _ ⟨hx.1, hx.2.1⟩ (hr.trans rfl), _, rfl⟩
/-- All is as it was but what lies from c0 to below c1, and what is new. -/
structure Mid (c0 c1 : Nat) (w w' : World) : Prop where
  os : w'.os = w.os
  tape : w'.tape = w.tape
  output : w'.output = w.output
  size : w.heap.size ≤ w'.heap.size
  block : ∀ k, k < w.heap.size → k < c0 ∨ c1 ≤ k → w'.heap[k]? = w.heap[k]?
theorem Mid.refl (c0 c1 : Nat) (w : World) : Mid c0 c1 w w := ⟨rfl, rfl, rfl, Nat.le_refl _, fun _ _ _ => rfl⟩
theorem Mid.trans {c0 c1 : Nat} {a b c : World} (h : Mid c0 c1 a b) (k : Mid c0 c1 b c) : Mid c0 c1 a c :=
  ⟨k.os.trans h.os, k.tape.trans h.tape, k.output.trans h.output, Nat.le_trans h.size k.size, fun g hg hc => (k.block g (Nat.lt_of_lt_of_le hg h.size) hc).trans (h.block g hg hc)⟩
theorem Mid.of {c0 c1 : Nat} {a b : World} (h : Below a.heap.size a b) : Mid c0 c1 a b := ⟨h.os, h.tape, h.output, h.size, fun g hg _ => h.block g hg⟩
theorem Mid.setCell {c0 c1 : Nat} {a w : World} (h : Mid c0 c1 a w) {p : Addr} (h0 : c0 ≤ p.block) (h1 : p.block < c1) (u : Value) : Mid c0 c1 a (w.setCell p u) :=
  ⟨h.os, h.tape, h.output, by simp [World.setCell]; exact h.size, fun g hg hc => (Below.heap_setCell w p u g (by omega)).trans (h.block g hg hc)⟩
theorem Mid.drewN {c0 c1 : Nat} {a w : World} (h : Mid c0 c1 a w) (n : Nat) : Mid c0 c1 a (w.drewN n) := ⟨h.os, h.tape, h.output, h.size, h.block⟩
theorem Mid.drew {c0 c1 : Nat} {a w : World} (h : Mid c0 c1 a w) : Mid c0 c1 a w.drew := ⟨h.os, h.tape, h.output, h.size, h.block⟩
theorem Mid.below {c0 c1 : Nat} {a w : World} (h : Mid c0 c1 a w) (hc : c0 ≤ a.heap.size) : Below c0 a w := ⟨h.os, h.tape, h.output, h.size, fun g hg => h.block g (Nat.lt_of_lt_of_le hg hc) (.inl hg)⟩
theorem Mid.cell {c0 c1 : Nat} {a w : World} (h : Mid c0 c1 a w) {p : Addr} (hp : p.block < a.heap.size) (hc : p.block < c0 ∨ c1 ≤ p.block) : w.cell? p = a.cell? p := World.cell?_of_block (w := a) (h.block p.block hp hc)
end Go.Proofs.Ytocelaebokikcaa
