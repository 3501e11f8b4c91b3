/- Two copies of a function made, in whatever order: where they lie. -/
import Derived.Test.YtocelaebokikcaaTyped
import Derived.Test.YtocelaebokikcaaWorksR
namespace Go.Proofs.Ytocelaebokikcaa
open Go.ChangeShapes Go.WideShapes Go.RowKit
set_option linter.unusedVariables false
set_option linter.unusedSimpArgs false
set_option maxRecDepth 100000

structure XX where
  v17 : Value
  v18 : Value
  v19 : Value
  v20 : Value
  v5 : Value
  v6 : Value
  G1 : Pos → Nat
  S1 : Spots
  b1 : Nat
  c1 : Nat
  G2 : Pos → Nat
  S2 : Spots
  b2 : Nat
  c2 : Nat
  g5 : Nat
  g6 : Nat
/-- How far the two copies are. -/
structure J (fl : Nat → Bool) (w1 : World) (f : Fun) (F : Value) (X : XX) (w : World) : Prop where
  bel : Below w1.heap.size w1 w
  a17 : fl 0 = true → X.v17 = F
  a19 : fl 2 = true → X.v19 = F
  a18 : fl 1 = true → X.v18 = .agg (funR f (f.parts.funV X.S1)) ∧ Own w X.b1 X.G1 f.parts X.S1 ∧ w1.heap.size ≤ X.b1 ∧ (∀ p, f.parts.valid p → X.G1 p < X.c1) ∧ X.c1 ≤ w.heap.size
  a20 : fl 3 = true → fl 1 = true ∧ X.v20 = .agg (funR f (f.parts.funV X.S2)) ∧ Own w X.b2 X.G2 f.parts X.S2 ∧ X.c1 ≤ X.b2 ∧ (∀ p, f.parts.valid p → X.G2 p < X.c2) ∧ X.c2 ≤ w.heap.size
  a5 : fl 4 = true → X.v5 = .pointer (some ⟨X.g5, 0, none⟩) ∧ w1.heap.size ≤ X.g5 ∧ w.heap[X.g5]? = some (.cells #[.bool false, .string ⟨#[]⟩, .slice none 0 0, .slice none 0 0, .slice none 0 0] 31 (0, 0)) ∧ (fl 1 = true → X.g5 < X.b1 ∨ X.c1 ≤ X.g5) ∧ (fl 3 = true → X.g5 < X.b2 ∨ X.c2 ≤ X.g5)
  a6 : fl 5 = true → X.v6 = .pointer (some ⟨X.g6, 0, none⟩) ∧ w1.heap.size ≤ X.g6 ∧ w.heap[X.g6]? = some (.cells #[.bool false, .string ⟨#[]⟩, .slice none 0 0, .slice none 0 0, .slice none 0 0] 31 (0, 0)) ∧ (fl 1 = true → X.g6 < X.b1 ∨ X.c1 ≤ X.g6) ∧ (fl 3 = true → X.g6 < X.b2 ∨ X.c2 ≤ X.g6)
  ne : fl 4 = true → fl 5 = true → X.g5 ≠ X.g6
/-- Both are made; of the second one's own cells: Z. -/
structure Fin2 (w1 : World) (f : Fun) (X : XX) (Z : Array Value) (w : World) : Prop where
  bel : Below w1.heap.size w1 w
  o1 : Own w X.b1 X.G1 f.parts X.S1 ∧ w1.heap.size ≤ X.b1 ∧ (∀ p, f.parts.valid p → X.G1 p < X.c1) ∧ X.c1 ≤ w.heap.size
  o2 : Own w X.b2 X.G2 f.parts X.S2 ∧ X.c1 ≤ X.b2 ∧ (∀ p, f.parts.valid p → X.G2 p < X.c2)
  e5 : X.v5 = .pointer (some ⟨X.g5, 0, none⟩) ∧ w1.heap.size ≤ X.g5 ∧ w.heap[X.g5]? = some (.cells (funR f (f.parts.funV X.S1)) 31 (0, 0)) ∧ (X.g5 < X.b1 ∨ X.c1 ≤ X.g5) ∧ (X.g5 < X.b2 ∨ X.c2 ≤ X.g5)
  e6 : X.v6 = .pointer (some ⟨X.g6, 0, none⟩) ∧ w1.heap.size ≤ X.g6 ∧ w.heap[X.g6]? = some (.cells Z 31 (0, 0)) ∧ (X.g6 < X.b1 ∨ X.c1 ≤ X.g6) ∧ (X.g6 < X.b2 ∨ X.c2 ≤ X.g6)
  e20 : X.v20 = .agg (funR f (f.parts.funV X.S2))
  ne : X.g5 ≠ X.g6
theorem Own.keep {W W' : World} {base : Nat} {G : Pos → Nat} {d : FunD} {S : Spots} (h : Own W base G d S) (hk : ∀ g, base ≤ g → g < W.heap.size → (∃ p, d.valid p ∧ G p = g) → W'.heap[g]? = W.heap[g]?) : Own W' base G d S :=
  ⟨⟨fun p hp => ⟨(h.lay.mem p hp).1, by rw [hk _ (h.lay.mem p hp).1 (h.lay.lt hp) ⟨p, hp, rfl⟩]; exact (h.lay.mem p hp).2⟩, h.lay.inj⟩, h.spots, h.small⟩
theorem J.keep {fl : Nat → Bool} {w1 : World} {f : Fun} {F : Value} {X : XX} {w w' : World} (h : J fl w1 f F X w) (hb : Below w.heap.size w w') : J fl w1 f F X w' := by
  refine ⟨h.bel.trans (hb.mono h.bel.size), h.a17, h.a19, fun e => ?_, fun e => ?_, fun e => ?_, fun e => ?_, h.ne⟩
  · obtain ⟨a, b, c, d, k⟩ := h.a18 e; exact ⟨a, b.below hb, c, d, Nat.le_trans k hb.size⟩
  · obtain ⟨z, a, b, c, d, k⟩ := h.a20 e; exact ⟨z, a, b.below hb, c, d, Nat.le_trans k hb.size⟩
  · obtain ⟨a, b, c, d⟩ := h.a5 e; exact ⟨a, b, kept_box c hb, d⟩
  · obtain ⟨a, b, c, d⟩ := h.a6 e; exact ⟨a, b, kept_box c hb, d⟩
def upF (fl : Nat → Bool) (i : Nat) : Nat → Bool := fun j => if i = j then true else fl j
theorem J.s0 {fl : Nat → Bool} {w1 : World} {f : Fun} {F : Value} {X : XX} {w : World} (h : J fl w1 f F X w) : J (upF fl 0) w1 f F { X with v17 := F } w :=
  ⟨h.bel, fun _ => rfl, h.a19, h.a18, h.a20, h.a5, h.a6, h.ne⟩
theorem J.s2 {fl : Nat → Bool} {w1 : World} {f : Fun} {F : Value} {X : XX} {w : World} (h : J fl w1 f F X w) : J (upF fl 2) w1 f F { X with v19 := F } w :=
  ⟨h.bel, h.a17, fun _ => rfl, h.a18, h.a20, h.a5, h.a6, h.ne⟩
theorem J.s1 {fl : Nat → Bool} {w1 : World} {f : Fun} {F : Value} {X : XX} {w w' : World} (h : J fl w1 f F X w) (h1 : fl 1 = false) (G : Pos → Nat) (S : Spots) (hb : Below w.heap.size w w') (ho : Own w' (w.heap.size + 2) G f.parts S) :
    J (upF fl 1) w1 f F { X with v18 := .agg (funR f (f.parts.funV S)), G1 := G, S1 := S, b1 := w.heap.size + 2, c1 := w'.heap.size } w' := by
  have hk := h.keep hb
  have h3 : fl 3 = true → False := fun e => by have := (h.a20 e).1; rw [h1] at this; cases this
  refine ⟨hk.bel, hk.a17, hk.a19, fun _ => ⟨rfl, ho, by have := h.bel.size; show _ ≤ w.heap.size + 2; omega, fun p hp => ho.lay.lt hp, Nat.le_refl _⟩, fun e => (h3 e).elim, fun e => ?_, fun e => ?_, h.ne⟩
  · obtain ⟨a, b, c, d⟩ := hk.a5 e
    have := (Array.getElem?_eq_some_iff.1 (h.a5 e).2.2.1).1
    exact ⟨a, b, c, fun _ => .inl (by show X.g5 < w.heap.size + 2; omega), fun e => (h3 e).elim⟩
  · obtain ⟨a, b, c, d⟩ := hk.a6 e
    have := (Array.getElem?_eq_some_iff.1 (h.a6 e).2.2.1).1
    exact ⟨a, b, c, fun _ => .inl (by show X.g6 < w.heap.size + 2; omega), fun e => (h3 e).elim⟩
theorem J.s3 {fl : Nat → Bool} {w1 : World} {f : Fun} {F : Value} {X : XX} {w w' : World} (h : J fl w1 f F X w) (h1 : fl 1 = true) (h3 : fl 3 = false) (G : Pos → Nat) (S : Spots) (hb : Below w.heap.size w w') (ho : Own w' (w.heap.size + 2) G f.parts S) :
    J (upF fl 3) w1 f F { X with v20 := .agg (funR f (f.parts.funV S)), G2 := G, S2 := S, b2 := w.heap.size + 2, c2 := w'.heap.size } w' := by
  have hk := h.keep hb
  refine ⟨hk.bel, hk.a17, hk.a19, hk.a18, fun _ => ⟨h1, rfl, ho, by have := (h.a18 h1).2.2.2.2; show X.c1 ≤ w.heap.size + 2; omega, fun p hp => ho.lay.lt hp, Nat.le_refl _⟩, fun e => ?_, fun e => ?_, h.ne⟩
  · obtain ⟨a, b, c, d⟩ := hk.a5 e
    have := (Array.getElem?_eq_some_iff.1 (h.a5 e).2.2.1).1
    exact ⟨a, b, c, d.1, fun _ => .inl (by show X.g5 < w.heap.size + 2; omega)⟩
  · obtain ⟨a, b, c, d⟩ := hk.a6 e
    have := (Array.getElem?_eq_some_iff.1 (h.a6 e).2.2.1).1
    exact ⟨a, b, c, d.1, fun _ => .inl (by show X.g6 < w.heap.size + 2; omega)⟩
theorem J.s4 {fl : Nat → Bool} {w1 : World} {f : Fun} {F : Value} {X : XX} {w : World} (h : J fl w1 f F X w) :
    J (upF fl 4) w1 f F { X with v5 := .pointer (some ⟨w.heap.size, 0, none⟩), g5 := w.heap.size } (w.alloc (.cells #[.bool false, .string ⟨#[]⟩, .slice none 0 0, .slice none 0 0, .slice none 0 0] 31)) := by
  have hb : Below w.heap.size w (w.alloc (.cells #[.bool false, .string ⟨#[]⟩, .slice none 0 0, .slice none 0 0, .slice none 0 0] 31)) := (Below.refl _ w).alloc (Nat.le_refl _) _
  have hk := h.keep hb
  refine ⟨hk.bel, hk.a17, hk.a19, hk.a18, hk.a20, fun _ => ⟨rfl, h.bel.size, heap_alloc_new w _, fun e => .inr (h.a18 e).2.2.2.2, fun e => .inr (h.a20 e).2.2.2.2.2⟩, hk.a6, fun _ e => ?_⟩
  have := (Array.getElem?_eq_some_iff.1 (h.a6 e).2.2.1).1
  show w.heap.size ≠ X.g6
  omega
theorem J.s5 {fl : Nat → Bool} {w1 : World} {f : Fun} {F : Value} {X : XX} {w : World} (h : J fl w1 f F X w) :
    J (upF fl 5) w1 f F { X with v6 := .pointer (some ⟨w.heap.size, 0, none⟩), g6 := w.heap.size } (w.alloc (.cells #[.bool false, .string ⟨#[]⟩, .slice none 0 0, .slice none 0 0, .slice none 0 0] 31)) := by
  have hb : Below w.heap.size w (w.alloc (.cells #[.bool false, .string ⟨#[]⟩, .slice none 0 0, .slice none 0 0, .slice none 0 0] 31)) := (Below.refl _ w).alloc (Nat.le_refl _) _
  have hk := h.keep hb
  refine ⟨hk.bel, hk.a17, hk.a19, hk.a18, hk.a20, hk.a5, fun _ => ⟨rfl, h.bel.size, heap_alloc_new w _, fun e => .inr (h.a18 e).2.2.2.2, fun e => .inr (h.a20 e).2.2.2.2.2⟩, fun e _ => ?_⟩
  have := (Array.getElem?_eq_some_iff.1 (h.a5 e).2.2.1).1
  show X.g5 ≠ w.heap.size
  omega
theorem J.s6 {fl : Nat → Bool} {w1 : World} {f : Fun} {F : Value} {X : XX} {w : World} (h : J fl w1 f F X w) (hd : ∀ j, j < 6 → fl j = true) {y0 y1 y2 y3 y4 : Value} (he : funR f (f.parts.funV X.S1) = #[y0, y1, y2, y3, y4]) :
    Fin2 w1 f X #[.bool false, .string ⟨#[]⟩, .slice none 0 0, .slice none 0 0, .slice none 0 0] (lay5 w X.g5 y0 y1 y2 y3 y4) := by
  obtain ⟨a, b, c, d, k⟩ := h.a18 (hd 1 (by omega))
  obtain ⟨z, a2, b2, c2, d2, k2⟩ := h.a20 (hd 3 (by omega))
  obtain ⟨e1, e2, e3, e4, e5⟩ := h.a5 (hd 4 (by omega))
  obtain ⟨q1, q2, q3, q4, q5⟩ := h.a6 (hd 5 (by omega))
  have hne := h.ne (hd 4 (by omega)) (hd 5 (by omega))
  have e4 := e4 (hd 1 (by omega))
  have e5 := e5 (hd 3 (by omega))
  have far : ∀ g, g ≠ X.g5 → (lay5 w X.g5 y0 y1 y2 y3 y4).heap[g]? = w.heap[g]? := fun g hg => lay5_far hg _ _ _ _ _
  refine ⟨lay5_below _ _ _ _ _ h.bel e2, ⟨b.keep fun g h1 _ hp => far g (fun e => ?_), c, d, by rw [lay5_size]; exact k⟩, ⟨b2.keep fun g h1 _ hp => far g (fun e => ?_), c2, d2⟩, ⟨e1, e2, by rw [he]; exact lay5_at e3, e4, e5⟩, ⟨q1, q2, (far _ (fun e => hne e.symm)).trans q3, q4 (hd 1 (by omega)), q5 (hd 3 (by omega))⟩, a2, hne⟩
  · obtain ⟨p, hp, hp2⟩ := hp; have := d p hp; omega
  · obtain ⟨p, hp, hp2⟩ := hp; have := d2 p hp; omega
theorem Fin2.s7 {w1 : World} {f : Fun} {X : XX} {w : World} (h : Fin2 w1 f X #[.bool false, .string ⟨#[]⟩, .slice none 0 0, .slice none 0 0, .slice none 0 0] w) {y0 y1 y2 y3 y4 : Value} (he : funR f (f.parts.funV X.S2) = #[y0, y1, y2, y3, y4]) :
    Fin2 w1 f X (funR f (f.parts.funV X.S2)) (lay5 w X.g6 y0 y1 y2 y3 y4) := by
  obtain ⟨b, c, d, k⟩ := h.o1
  obtain ⟨b2, c2, d2⟩ := h.o2
  obtain ⟨e1, e2, e3, e4, e5⟩ := h.e5
  obtain ⟨q1, q2, q3, q4, q5⟩ := h.e6
  have far : ∀ g, g ≠ X.g6 → (lay5 w X.g6 y0 y1 y2 y3 y4).heap[g]? = w.heap[g]? := fun g hg => lay5_far hg _ _ _ _ _
  refine ⟨lay5_below _ _ _ _ _ h.bel q2, ⟨b.keep fun g h1 _ hp => far g (fun e => ?_), c, d, by rw [lay5_size]; exact k⟩, ⟨b2.keep fun g h1 _ hp => far g (fun e => ?_), c2, d2⟩, ⟨e1, e2, (far _ h.ne).trans e3, e4, e5⟩, ⟨q1, q2, by rw [he]; exact lay5_at q3, q4, q5⟩, h.e20, h.ne⟩
  · obtain ⟨p, hp, hp2⟩ := hp; have := d p hp; omega
  · obtain ⟨p, hp, hp2⟩ := hp; have := d2 p hp; omega
def act41 (fm : Bool) (fname : ByteArray) (ra : Option Addr) (rn rc : Nat) (pa : Option Addr) (pn pc : Nat) (ba : Option Addr) (bn bc : Nat) (xk xc xn xt : Int) (P : Nat) (X : XX) : Act := { tmps := #[.agg #[.bool fm, .string fname, .slice ra rn rc, .slice pa pn pc, .slice ba bn bc], .agg #[.int .i64 xk, .int .i64 xc, .int .i64 xn, .int .i64 xt], .pointer (some ⟨P, 0, none⟩), .pointer (some ⟨P + 1, 0, none⟩), .bool false, X.v5, X.v6, undef, undef, undef, undef, undef, undef, undef, .agg #[.bool fm, .string fname, .slice ra rn rc, .slice pa pn pc, .slice ba bn bc], .bool false, undef, X.v17, X.v18, X.v19, X.v20, undef, undef, undef, undef, undef, undef, undef, undef, undef, undef, undef, undef, undef, undef, undef, undef, undef, undef, undef, undef, undef, undef, undef, undef, undef, undef, undef, undef, undef, undef, undef, undef, undef, undef, undef, undef, undef, undef, undef, undef, undef, undef, undef, undef, undef, undef, undef, undef, undef, undef, undef, undef, undef, undef, undef, undef, undef, undef, undef, undef, undef, undef, undef, undef, undef, undef, undef, undef, undef, undef, undef, undef, undef, undef, undef, undef, undef, undef, undef, undef, undef, undef, undef, undef, undef, undef, undef, undef, undef, undef, undef, undef, undef, undef, undef, undef, undef, undef, undef, undef, undef, undef, undef, undef, undef, undef], defers := [] }
def ops41 : Array Oper := #[{ dst := some 17, op := Op.load 31 (Operand.tmp 2), type := 31, pos := "law.go:41", after := #[], guard := none }, { dst := some 18, op := Op.call { callee := Callee.value (Operand.func 17), args := #[Operand.tmp 17], argTypes := #[31] }, type := 31, pos := "law.go:41", after := #[{ on := 0, ground := Ground.data }], guard := none }, { dst := some 19, op := Op.load 31 (Operand.tmp 2), type := 31, pos := "law.go:41", after := #[], guard := none }, { dst := some 20, op := Op.call { callee := Callee.value (Operand.func 17), args := #[Operand.tmp 19], argTypes := #[31] }, type := 31, pos := "law.go:41", after := #[{ on := 2, ground := Ground.data }, { on := 1, ground := Ground.chain }], guard := none }, { dst := some 5, op := Op.alloc 31, type := 0, pos := "law.go:41", after := #[], guard := none }, { dst := some 6, op := Op.alloc 31, type := 0, pos := "law.go:41", after := #[], guard := none }, { dst := none, op := Op.store 31 (Operand.tmp 5) (Operand.tmp 18), type := 0, pos := "law.go:41", after := #[{ on := 4, ground := Ground.data }, { on := 1, ground := Ground.data }, { on := 3, ground := Ground.chain }, { on := 0, ground := Ground.phase }, { on := 1, ground := Ground.phase }, { on := 2, ground := Ground.textOnly Departure.lateStores }, { on := 3, ground := Ground.textOnly Departure.lateStoresUnsure }, { on := 4, ground := Ground.phase }, { on := 5, ground := Ground.phase }], guard := none }, { dst := none, op := Op.store 31 (Operand.tmp 6) (Operand.tmp 20), type := 0, pos := "law.go:41", after := #[{ on := 5, ground := Ground.data }, { on := 3, ground := Ground.data }, { on := 6, ground := Ground.chain }, { on := 0, ground := Ground.phase }, { on := 1, ground := Ground.phase }, { on := 2, ground := Ground.phase }, { on := 3, ground := Ground.phase }, { on := 4, ground := Ground.phase }, { on := 5, ground := Ground.phase }, { on := 6, ground := Ground.phase }], guard := none }]
def Post41 (fm : Bool) (fname : ByteArray) (ra : Option Addr) (rn rc : Nat) (pa : Option Addr) (pn pc : Nat) (ba : Option Addr) (bn bc : Nat) (xk xc xn xt : Int) (P : Nat) (f : Fun) (w1 : World) : Exit → Act → World → Prop
  | .normal, a, w => ∃ X, a = act41 fm fname ra rn rc pa pn pc ba bn bc xk xc xn xt P X ∧ Fin2 w1 f X (funR f (f.parts.funV X.S2)) w
  | _, _, _ => False
structure Inv41 (fm : Bool) (fname : ByteArray) (ra : Option Addr) (rn rc : Nat) (pa : Option Addr) (pn pc : Nat) (ba : Option Addr) (bn bc : Nat) (xk xc xn xt : Int) (P : Nat) (f : Fun) (w1 : World) (L : Array Bool) (a : Act) (w : World) : Prop where
  size : L.size = 8
  all6 : L.getD 6 false = true → ∀ j, j < 6 → L.getD j false = true
  all7 : L.getD 7 false = true → L.getD 6 false = true
  all3 : L.getD 3 false = true → L.getD 2 false = true
  out : ∃ X, a = act41 fm fname ra rn rc pa pn pc ba bn bc xk xc xn xt P X ∧ (L.getD 6 false = false → J (fun j => L.getD j false) w1 f (.agg #[.bool fm, .string fname, .slice ra rn rc, .slice pa pn pc, .slice ba bn bc]) X w) ∧ (L.getD 6 false = true → L.getD 7 false = false → Fin2 w1 f X #[.bool false, .string ⟨#[]⟩, .slice none 0 0, .slice none 0 0, .slice none 0 0] w) ∧ (L.getD 7 false = true → Fin2 w1 f X (funR f (f.parts.funV X.S2)) w)
theorem getD_set8 (L : Array Bool) (i j : Nat) (hs : L.size = 8) (hi : i < 8) : (L.setIfInBounds i true).getD j false = if i = j then true else L.getD j false := by
  simp only [Array.getD_eq_getD_getElem?, Array.getElem?_setIfInBounds]
  by_cases h : i = j
  · subst h; simp [hs, hi]
  · simp [h]
theorem set_up (L : Array Bool) (i : Nat) (hs : L.size = 8) (hi : i < 8) : (fun j => (L.setIfInBounds i true).getD j false) = upF (fun j => L.getD j false) i := by
  funext j; exact getD_set8 L i j hs hi
theorem rdy_0 {L : Array Bool} (h : 0 ∈ Region.ready .any ops41 L) : L.getD 0 true = false := by
  unfold Region.ready at h
  have h2 := (List.mem_filter.1 h).2
  simpa [ops41, Region.binds] using h2
theorem rdy_1 {L : Array Bool} (h : 1 ∈ Region.ready .any ops41 L) : L.getD 1 true = false ∧ L.getD 0 false = true := by
  unfold Region.ready at h
  have h2 := (List.mem_filter.1 h).2
  simpa [ops41, Region.binds] using h2
theorem rdy_2 {L : Array Bool} (h : 2 ∈ Region.ready .any ops41 L) : L.getD 2 true = false := by
  unfold Region.ready at h
  have h2 := (List.mem_filter.1 h).2
  simpa [ops41, Region.binds] using h2
theorem rdy_3 {L : Array Bool} (h : 3 ∈ Region.ready .any ops41 L) : L.getD 3 true = false ∧ L.getD 2 false = true ∧ L.getD 1 false = true := by
  unfold Region.ready at h
  have h2 := (List.mem_filter.1 h).2
  simpa [ops41, Region.binds] using h2
theorem rdy_4 {L : Array Bool} (h : 4 ∈ Region.ready .any ops41 L) : L.getD 4 true = false := by
  unfold Region.ready at h
  have h2 := (List.mem_filter.1 h).2
  simpa [ops41, Region.binds] using h2
theorem rdy_5 {L : Array Bool} (h : 5 ∈ Region.ready .any ops41 L) : L.getD 5 true = false := by
  unfold Region.ready at h
  have h2 := (List.mem_filter.1 h).2
  simpa [ops41, Region.binds] using h2
theorem rdy_6 {L : Array Bool} (h : 6 ∈ Region.ready .any ops41 L) : L.getD 6 true = false ∧ L.getD 4 false = true ∧ L.getD 1 false = true ∧ L.getD 3 false = true ∧ L.getD 0 false = true ∧ L.getD 5 false = true := by
  unfold Region.ready at h
  have h2 := (List.mem_filter.1 h).2
  simp only [ops41, Region.binds, Array.getD_eq_getD_getElem?] at h2 ⊢
  simp at h2 ⊢
  simp_all
theorem rdy_7 {L : Array Bool} (h : 7 ∈ Region.ready .any ops41 L) : L.getD 7 true = false ∧ L.getD 6 false = true := by
  unfold Region.ready at h
  have h2 := (List.mem_filter.1 h).2
  simp only [ops41, Region.binds, Array.getD_eq_getD_getElem?] at h2 ⊢
  simp at h2 ⊢
  simp_all
set_option maxHeartbeats 0 in
theorem inv41_0 {fm : Bool} {fname : ByteArray} {ra : Option Addr} {rn rc : Nat} {pa : Option Addr} {pn pc : Nat} {ba : Option Addr} {bn bc : Nat} {xk xc xn xt : Int} {P : Nat} {f : Fun} {w1 : World} {L : Array Bool} {a : Act} {w : World} (hI : Inv41 fm fname ra rn rc pa pn pc ba bn bc xk xc xn xt P f w1 L a w) (hP : w1.heap[P]? = some (.cells #[.bool fm, .string fname, .slice ra rn rc, .slice pa pn pc, .slice ba bn bc] 31 (0, 0))) (hC : ∀ W, Below w1.heap.size w1 W → Calls Try.prog 17 #[.agg #[.bool fm, .string fname, .slice ra rn rc, .slice pa pn pc, .slice ba bn bc]] W (CopyP f W)) (hr : 0 ∈ Region.ready .any ops41 L) : wpOp Try.prog ops41 (Post41 fm fname ra rn rc pa pn pc ba bn bc xk xc xn xt P f w1) 0 (fun a' w' => Inv41 fm fname ra rn rc pa pn pc ba bn bc xk xc xn xt P f w1 (L.setIfInBounds 0 true) a' w') a w := by
  obtain ⟨hs, h6, h7, h3, X, rfl, hJ, hF, hG⟩ := hI
  have hd := rdy_0 hr
  have hd0 : L.getD 0 false = false := fals hd
  have e6 : L.getD 6 false = false := by
    cases hx : L.getD 6 false with
    | false => rfl
    | true => have := h6 hx 0 (by omega); rw [hd0] at this; cases this
  have e7 : L.getD 7 false = false := by
    cases hx : L.getD 7 false with
    | false => rfl
    | true => have := h7 hx; rw [e6] at this; cases this
  have hj := hJ e6
  clear hJ hF hG
  unfold act41
  have hPw : P < w1.heap.size := (Array.getElem?_eq_some_iff.1 hP).1
  have hbx : w.heap[P]? = some (.cells #[.bool fm, .string fname, .slice ra rn rc, .slice pa pn pc, .slice ba bn bc] 31 (0, 0)) := (hj.bel.block P hPw).trans hP
  have k0 : w.cell? ⟨P, 0, none⟩ = some (.bool fm) := cell_in hbx 0
  have k1 : w.cell? ⟨P, 1, none⟩ = some (.string fname) := cell_in hbx 1
  have k2 : w.cell? ⟨P, 2, none⟩ = some (.slice ra rn rc) := cell_in hbx 2
  have k3 : w.cell? ⟨P, 3, none⟩ = some (.slice pa pn pc) := cell_in hbx 3
  have k4 : w.cell? ⟨P, 4, none⟩ = some (.slice ba bn bc) := cell_in hbx 4
  have hj2 := hj.s0
  refine wpOp_step (o := { dst := some 17, op := Op.load 31 (Operand.tmp 2), type := 31, pos := "law.go:41", after := #[], guard := none }) rfl (fun K hK => ?_)
  go_simp
  refine hK _ _ ⟨by simpa using hs, fun h => ?_, fun h => ?_, fun h => ?_, { X with v17 := .agg #[.bool fm, .string fname, .slice ra rn rc, .slice pa pn pc, .slice ba bn bc] }, rfl, fun _ => ?_, fun h => ?_, fun h => ?_⟩
  · rw [getD_set8 L 0 6 hs (by omega), if_neg (by omega), e6] at h; cases h
  · rw [getD_set8 L 0 7 hs (by omega), if_neg (by omega), e7] at h; cases h
  · rw [getD_set8 L 0 3 hs (by omega), if_neg (by omega)] at h; rw [getD_set8 L 0 2 hs (by omega), if_neg (by omega)]; exact h3 h
  · rw [set_up L 0 hs (by omega)]; exact hj2
  · rw [getD_set8 L 0 6 hs (by omega), if_neg (by omega), e6] at h; cases h
  · rw [getD_set8 L 0 7 hs (by omega), if_neg (by omega), e7] at h; cases h
set_option maxHeartbeats 0 in
theorem inv41_2 {fm : Bool} {fname : ByteArray} {ra : Option Addr} {rn rc : Nat} {pa : Option Addr} {pn pc : Nat} {ba : Option Addr} {bn bc : Nat} {xk xc xn xt : Int} {P : Nat} {f : Fun} {w1 : World} {L : Array Bool} {a : Act} {w : World} (hI : Inv41 fm fname ra rn rc pa pn pc ba bn bc xk xc xn xt P f w1 L a w) (hP : w1.heap[P]? = some (.cells #[.bool fm, .string fname, .slice ra rn rc, .slice pa pn pc, .slice ba bn bc] 31 (0, 0))) (hC : ∀ W, Below w1.heap.size w1 W → Calls Try.prog 17 #[.agg #[.bool fm, .string fname, .slice ra rn rc, .slice pa pn pc, .slice ba bn bc]] W (CopyP f W)) (hr : 2 ∈ Region.ready .any ops41 L) : wpOp Try.prog ops41 (Post41 fm fname ra rn rc pa pn pc ba bn bc xk xc xn xt P f w1) 2 (fun a' w' => Inv41 fm fname ra rn rc pa pn pc ba bn bc xk xc xn xt P f w1 (L.setIfInBounds 2 true) a' w') a w := by
  obtain ⟨hs, h6, h7, h3, X, rfl, hJ, hF, hG⟩ := hI
  have hd := rdy_2 hr
  have hd0 : L.getD 2 false = false := fals hd
  have e6 : L.getD 6 false = false := by
    cases hx : L.getD 6 false with
    | false => rfl
    | true => have := h6 hx 2 (by omega); rw [hd0] at this; cases this
  have e7 : L.getD 7 false = false := by
    cases hx : L.getD 7 false with
    | false => rfl
    | true => have := h7 hx; rw [e6] at this; cases this
  have hj := hJ e6
  clear hJ hF hG
  unfold act41
  have hPw : P < w1.heap.size := (Array.getElem?_eq_some_iff.1 hP).1
  have hbx : w.heap[P]? = some (.cells #[.bool fm, .string fname, .slice ra rn rc, .slice pa pn pc, .slice ba bn bc] 31 (0, 0)) := (hj.bel.block P hPw).trans hP
  have k0 : w.cell? ⟨P, 0, none⟩ = some (.bool fm) := cell_in hbx 0
  have k1 : w.cell? ⟨P, 1, none⟩ = some (.string fname) := cell_in hbx 1
  have k2 : w.cell? ⟨P, 2, none⟩ = some (.slice ra rn rc) := cell_in hbx 2
  have k3 : w.cell? ⟨P, 3, none⟩ = some (.slice pa pn pc) := cell_in hbx 3
  have k4 : w.cell? ⟨P, 4, none⟩ = some (.slice ba bn bc) := cell_in hbx 4
  have hj2 := hj.s2
  refine wpOp_step (o := { dst := some 19, op := Op.load 31 (Operand.tmp 2), type := 31, pos := "law.go:41", after := #[], guard := none }) rfl (fun K hK => ?_)
  go_simp
  refine hK _ _ ⟨by simpa using hs, fun h => ?_, fun h => ?_, fun h => ?_, { X with v19 := .agg #[.bool fm, .string fname, .slice ra rn rc, .slice pa pn pc, .slice ba bn bc] }, rfl, fun _ => ?_, fun h => ?_, fun h => ?_⟩
  · rw [getD_set8 L 2 6 hs (by omega), if_neg (by omega), e6] at h; cases h
  · rw [getD_set8 L 2 7 hs (by omega), if_neg (by omega), e7] at h; cases h
  · rw [getD_set8 L 2 2 hs (by omega), if_pos rfl]
  · rw [set_up L 2 hs (by omega)]; exact hj2
  · rw [getD_set8 L 2 6 hs (by omega), if_neg (by omega), e6] at h; cases h
  · rw [getD_set8 L 2 7 hs (by omega), if_neg (by omega), e7] at h; cases h
set_option maxHeartbeats 0 in
theorem inv41_4 {fm : Bool} {fname : ByteArray} {ra : Option Addr} {rn rc : Nat} {pa : Option Addr} {pn pc : Nat} {ba : Option Addr} {bn bc : Nat} {xk xc xn xt : Int} {P : Nat} {f : Fun} {w1 : World} {L : Array Bool} {a : Act} {w : World} (hI : Inv41 fm fname ra rn rc pa pn pc ba bn bc xk xc xn xt P f w1 L a w) (hP : w1.heap[P]? = some (.cells #[.bool fm, .string fname, .slice ra rn rc, .slice pa pn pc, .slice ba bn bc] 31 (0, 0))) (hC : ∀ W, Below w1.heap.size w1 W → Calls Try.prog 17 #[.agg #[.bool fm, .string fname, .slice ra rn rc, .slice pa pn pc, .slice ba bn bc]] W (CopyP f W)) (hr : 4 ∈ Region.ready .any ops41 L) : wpOp Try.prog ops41 (Post41 fm fname ra rn rc pa pn pc ba bn bc xk xc xn xt P f w1) 4 (fun a' w' => Inv41 fm fname ra rn rc pa pn pc ba bn bc xk xc xn xt P f w1 (L.setIfInBounds 4 true) a' w') a w := by
  obtain ⟨hs, h6, h7, h3, X, rfl, hJ, hF, hG⟩ := hI
  have hd := rdy_4 hr
  have hd0 : L.getD 4 false = false := fals hd
  have e6 : L.getD 6 false = false := by
    cases hx : L.getD 6 false with
    | false => rfl
    | true => have := h6 hx 4 (by omega); rw [hd0] at this; cases this
  have e7 : L.getD 7 false = false := by
    cases hx : L.getD 7 false with
    | false => rfl
    | true => have := h7 hx; rw [e6] at this; cases this
  have hj := hJ e6
  clear hJ hF hG
  unfold act41
  have hj2 := hj.s4
  refine wpOp_step (o := { dst := some 5, op := Op.alloc 31, type := 0, pos := "law.go:41", after := #[], guard := none }) rfl (fun K hK => ?_)
  go_simp
  refine hK _ _ ⟨by simpa using hs, fun h => ?_, fun h => ?_, fun h => ?_, { X with v5 := .pointer (some ⟨w.heap.size, 0, none⟩), g5 := w.heap.size }, rfl, fun _ => ?_, fun h => ?_, fun h => ?_⟩
  · rw [getD_set8 L 4 6 hs (by omega), if_neg (by omega), e6] at h; cases h
  · rw [getD_set8 L 4 7 hs (by omega), if_neg (by omega), e7] at h; cases h
  · rw [getD_set8 L 4 3 hs (by omega), if_neg (by omega)] at h; rw [getD_set8 L 4 2 hs (by omega), if_neg (by omega)]; exact h3 h
  · rw [set_up L 4 hs (by omega)]; exact hj2
  · rw [getD_set8 L 4 6 hs (by omega), if_neg (by omega), e6] at h; cases h
  · rw [getD_set8 L 4 7 hs (by omega), if_neg (by omega), e7] at h; cases h
set_option maxHeartbeats 0 in
theorem inv41_5 {fm : Bool} {fname : ByteArray} {ra : Option Addr} {rn rc : Nat} {pa : Option Addr} {pn pc : Nat} {ba : Option Addr} {bn bc : Nat} {xk xc xn xt : Int} {P : Nat} {f : Fun} {w1 : World} {L : Array Bool} {a : Act} {w : World} (hI : Inv41 fm fname ra rn rc pa pn pc ba bn bc xk xc xn xt P f w1 L a w) (hP : w1.heap[P]? = some (.cells #[.bool fm, .string fname, .slice ra rn rc, .slice pa pn pc, .slice ba bn bc] 31 (0, 0))) (hC : ∀ W, Below w1.heap.size w1 W → Calls Try.prog 17 #[.agg #[.bool fm, .string fname, .slice ra rn rc, .slice pa pn pc, .slice ba bn bc]] W (CopyP f W)) (hr : 5 ∈ Region.ready .any ops41 L) : wpOp Try.prog ops41 (Post41 fm fname ra rn rc pa pn pc ba bn bc xk xc xn xt P f w1) 5 (fun a' w' => Inv41 fm fname ra rn rc pa pn pc ba bn bc xk xc xn xt P f w1 (L.setIfInBounds 5 true) a' w') a w := by
  obtain ⟨hs, h6, h7, h3, X, rfl, hJ, hF, hG⟩ := hI
  have hd := rdy_5 hr
  have hd0 : L.getD 5 false = false := fals hd
  have e6 : L.getD 6 false = false := by
    cases hx : L.getD 6 false with
    | false => rfl
    | true => have := h6 hx 5 (by omega); rw [hd0] at this; cases this
  have e7 : L.getD 7 false = false := by
    cases hx : L.getD 7 false with
    | false => rfl
    | true => have := h7 hx; rw [e6] at this; cases this
  have hj := hJ e6
  clear hJ hF hG
  unfold act41
  have hj2 := hj.s5
  refine wpOp_step (o := { dst := some 6, op := Op.alloc 31, type := 0, pos := "law.go:41", after := #[], guard := none }) rfl (fun K hK => ?_)
  go_simp
  refine hK _ _ ⟨by simpa using hs, fun h => ?_, fun h => ?_, fun h => ?_, { X with v6 := .pointer (some ⟨w.heap.size, 0, none⟩), g6 := w.heap.size }, rfl, fun _ => ?_, fun h => ?_, fun h => ?_⟩
  · rw [getD_set8 L 5 6 hs (by omega), if_neg (by omega), e6] at h; cases h
  · rw [getD_set8 L 5 7 hs (by omega), if_neg (by omega), e7] at h; cases h
  · rw [getD_set8 L 5 3 hs (by omega), if_neg (by omega)] at h; rw [getD_set8 L 5 2 hs (by omega), if_neg (by omega)]; exact h3 h
  · rw [set_up L 5 hs (by omega)]; exact hj2
  · rw [getD_set8 L 5 6 hs (by omega), if_neg (by omega), e6] at h; cases h
  · rw [getD_set8 L 5 7 hs (by omega), if_neg (by omega), e7] at h; cases h
set_option maxHeartbeats 0 in
theorem inv41_1 {fm : Bool} {fname : ByteArray} {ra : Option Addr} {rn rc : Nat} {pa : Option Addr} {pn pc : Nat} {ba : Option Addr} {bn bc : Nat} {xk xc xn xt : Int} {P : Nat} {f : Fun} {w1 : World} {L : Array Bool} {a : Act} {w : World} (hI : Inv41 fm fname ra rn rc pa pn pc ba bn bc xk xc xn xt P f w1 L a w) (hP : w1.heap[P]? = some (.cells #[.bool fm, .string fname, .slice ra rn rc, .slice pa pn pc, .slice ba bn bc] 31 (0, 0))) (hC : ∀ W, Below w1.heap.size w1 W → Calls Try.prog 17 #[.agg #[.bool fm, .string fname, .slice ra rn rc, .slice pa pn pc, .slice ba bn bc]] W (CopyP f W)) (hr : 1 ∈ Region.ready .any ops41 L) : wpOp Try.prog ops41 (Post41 fm fname ra rn rc pa pn pc ba bn bc xk xc xn xt P f w1) 1 (fun a' w' => Inv41 fm fname ra rn rc pa pn pc ba bn bc xk xc xn xt P f w1 (L.setIfInBounds 1 true) a' w') a w := by
  obtain ⟨hs, h6, h7, h3, X, rfl, hJ, hF, hG⟩ := hI
  have hd := rdy_1 hr
  have hd0 : L.getD 1 false = false := fals hd.1
  have e6 : L.getD 6 false = false := by
    cases hx : L.getD 6 false with
    | false => rfl
    | true => have := h6 hx 1 (by omega); rw [hd0] at this; cases this
  have e7 : L.getD 7 false = false := by
    cases hx : L.getD 7 false with
    | false => rfl
    | true => have := h7 hx; rw [e6] at this; cases this
  have hj := hJ e6
  clear hJ hF hG
  unfold act41
  have hv : X.v17 = .agg #[.bool fm, .string fname, .slice ra rn rc, .slice pa pn pc, .slice ba bn bc] := hj.a17 hd.2
  obtain ⟨v17, v18, v19, v20, v5, v6, G1, S1, b1, c1, G2, S2, b2, c2, g5, g6⟩ := X
  dsimp only at hv hj ⊢
  subst hv
  refine wpOp_step (o := { dst := some 18, op := Op.call { callee := Callee.value (Operand.func 17), args := #[Operand.tmp 17], argTypes := #[31] }, type := 31, pos := "law.go:41", after := #[{ on := 0, ground := Ground.data }], guard := none }) rfl (fun K hK => ?_)
  go_simp
  refine (hC _ hj.bel).mono ?_
  rintro e w4 ⟨⟨G, S, rfl, ho, hb⟩⟩
  have hj2 := hj.s1 hd0 G S hb ho
  go_simp
  refine hK _ _ ⟨by simpa using hs, fun h => ?_, fun h => ?_, fun h => ?_, { v17 := .agg #[.bool fm, .string fname, .slice ra rn rc, .slice pa pn pc, .slice ba bn bc], v18 := .agg (funR f (f.parts.funV S)), v19 := v19, v20 := v20, v5 := v5, v6 := v6, G1 := G, S1 := S, b1 := w.heap.size + 2, c1 := w4.heap.size, G2 := G2, S2 := S2, b2 := b2, c2 := c2, g5 := g5, g6 := g6 }, rfl, fun _ => ?_, fun h => ?_, fun h => ?_⟩
  · rw [getD_set8 L 1 6 hs (by omega), if_neg (by omega), e6] at h; cases h
  · rw [getD_set8 L 1 7 hs (by omega), if_neg (by omega), e7] at h; cases h
  · rw [getD_set8 L 1 3 hs (by omega), if_neg (by omega)] at h; rw [getD_set8 L 1 2 hs (by omega), if_neg (by omega)]; exact h3 h
  · rw [set_up L 1 hs (by omega)]; exact hj2
  · rw [getD_set8 L 1 6 hs (by omega), if_neg (by omega), e6] at h; cases h
  · rw [getD_set8 L 1 7 hs (by omega), if_neg (by omega), e7] at h; cases h
set_option maxHeartbeats 0 in
theorem inv41_3 {fm : Bool} {fname : ByteArray} {ra : Option Addr} {rn rc : Nat} {pa : Option Addr} {pn pc : Nat} {ba : Option Addr} {bn bc : Nat} {xk xc xn xt : Int} {P : Nat} {f : Fun} {w1 : World} {L : Array Bool} {a : Act} {w : World} (hI : Inv41 fm fname ra rn rc pa pn pc ba bn bc xk xc xn xt P f w1 L a w) (hP : w1.heap[P]? = some (.cells #[.bool fm, .string fname, .slice ra rn rc, .slice pa pn pc, .slice ba bn bc] 31 (0, 0))) (hC : ∀ W, Below w1.heap.size w1 W → Calls Try.prog 17 #[.agg #[.bool fm, .string fname, .slice ra rn rc, .slice pa pn pc, .slice ba bn bc]] W (CopyP f W)) (hr : 3 ∈ Region.ready .any ops41 L) : wpOp Try.prog ops41 (Post41 fm fname ra rn rc pa pn pc ba bn bc xk xc xn xt P f w1) 3 (fun a' w' => Inv41 fm fname ra rn rc pa pn pc ba bn bc xk xc xn xt P f w1 (L.setIfInBounds 3 true) a' w') a w := by
  obtain ⟨hs, h6, h7, h3, X, rfl, hJ, hF, hG⟩ := hI
  have hd := rdy_3 hr
  have hd0 : L.getD 3 false = false := fals hd.1
  have e6 : L.getD 6 false = false := by
    cases hx : L.getD 6 false with
    | false => rfl
    | true => have := h6 hx 3 (by omega); rw [hd0] at this; cases this
  have e7 : L.getD 7 false = false := by
    cases hx : L.getD 7 false with
    | false => rfl
    | true => have := h7 hx; rw [e6] at this; cases this
  have hj := hJ e6
  clear hJ hF hG
  unfold act41
  have hv : X.v19 = .agg #[.bool fm, .string fname, .slice ra rn rc, .slice pa pn pc, .slice ba bn bc] := hj.a19 hd.2.1
  obtain ⟨v17, v18, v19, v20, v5, v6, G1, S1, b1, c1, G2, S2, b2, c2, g5, g6⟩ := X
  dsimp only at hv hj ⊢
  subst hv
  refine wpOp_step (o := { dst := some 20, op := Op.call { callee := Callee.value (Operand.func 17), args := #[Operand.tmp 19], argTypes := #[31] }, type := 31, pos := "law.go:41", after := #[{ on := 2, ground := Ground.data }, { on := 1, ground := Ground.chain }], guard := none }) rfl (fun K hK => ?_)
  go_simp
  refine (hC _ hj.bel).mono ?_
  rintro e w4 ⟨⟨G, S, rfl, ho, hb⟩⟩
  have hj2 := hj.s3 hd.2.2 hd0 G S hb ho
  go_simp
  refine hK _ _ ⟨by simpa using hs, fun h => ?_, fun h => ?_, fun h => ?_, { v17 := v17, v18 := v18, v19 := .agg #[.bool fm, .string fname, .slice ra rn rc, .slice pa pn pc, .slice ba bn bc], v20 := .agg (funR f (f.parts.funV S)), v5 := v5, v6 := v6, G1 := G1, S1 := S1, b1 := b1, c1 := c1, G2 := G, S2 := S, b2 := w.heap.size + 2, c2 := w4.heap.size, g5 := g5, g6 := g6 }, rfl, fun _ => ?_, fun h => ?_, fun h => ?_⟩
  · rw [getD_set8 L 3 6 hs (by omega), if_neg (by omega), e6] at h; cases h
  · rw [getD_set8 L 3 7 hs (by omega), if_neg (by omega), e7] at h; cases h
  · rw [getD_set8 L 3 2 hs (by omega), if_neg (by omega)]; exact hd.2.1
  · rw [set_up L 3 hs (by omega)]; exact hj2
  · rw [getD_set8 L 3 6 hs (by omega), if_neg (by omega), e6] at h; cases h
  · rw [getD_set8 L 3 7 hs (by omega), if_neg (by omega), e7] at h; cases h
set_option maxHeartbeats 0 in
theorem inv41_6 {fm : Bool} {fname : ByteArray} {ra : Option Addr} {rn rc : Nat} {pa : Option Addr} {pn pc : Nat} {ba : Option Addr} {bn bc : Nat} {xk xc xn xt : Int} {P : Nat} {f : Fun} {w1 : World} {L : Array Bool} {a : Act} {w : World} (hI : Inv41 fm fname ra rn rc pa pn pc ba bn bc xk xc xn xt P f w1 L a w) (hP : w1.heap[P]? = some (.cells #[.bool fm, .string fname, .slice ra rn rc, .slice pa pn pc, .slice ba bn bc] 31 (0, 0))) (hC : ∀ W, Below w1.heap.size w1 W → Calls Try.prog 17 #[.agg #[.bool fm, .string fname, .slice ra rn rc, .slice pa pn pc, .slice ba bn bc]] W (CopyP f W)) (hr : 6 ∈ Region.ready .any ops41 L) : wpOp Try.prog ops41 (Post41 fm fname ra rn rc pa pn pc ba bn bc xk xc xn xt P f w1) 6 (fun a' w' => Inv41 fm fname ra rn rc pa pn pc ba bn bc xk xc xn xt P f w1 (L.setIfInBounds 6 true) a' w') a w := by
  obtain ⟨hs, h6, h7, h3, X, rfl, hJ, hF, hG⟩ := hI
  have hd := rdy_6 hr
  have hd0 : L.getD 6 false = false := fals hd.1
  have e7 : L.getD 7 false = false := by
    cases hx : L.getD 7 false with
    | false => rfl
    | true => have := h7 hx; rw [hd0] at this; cases this
  have hj := hJ hd0
  clear hJ hF hG
  obtain ⟨_, d4, d1, d3, d0, d5⟩ := hd
  have d2 : L.getD 2 false = true := h3 d3
  have hall : ∀ j, j < 6 → L.getD j false = true := fun j hj => by
    match j, hj with
    | 0, _ => exact d0
    | 1, _ => exact d1
    | 2, _ => exact d2
    | 3, _ => exact d3
    | 4, _ => exact d4
    | 5, _ => exact d5
  obtain ⟨e1, e2, e3, e4, e5⟩ := hj.a5 d4
  have v18e := (hj.a18 d1).1
  obtain ⟨q0, q1, s2, n2, c2', s3, n3, c3', s4, n4, c4', he⟩ : ∃ q0 q1 s2 n2 c2' s3 n3 c3' s4 n4 c4', funR f (f.parts.funV X.S1) = #[.bool q0, .string q1, .slice s2 n2 c2', .slice s3 n3 c3', .slice s4 n4 c4'] := ⟨_, _, _, _, _, _, _, _, _, _, _, rfl⟩
  have hj2 := hj.s6 hall he
  rw [he] at v18e
  have c0 : w.cell? ⟨X.g5, 0, none⟩ = some (.bool false) := cell_in e3 0
  have z0 : w.frozen? ⟨X.g5, 0, none⟩ = false := froz_in e3 0
  have c1 : w.cell? ⟨X.g5, 1, none⟩ = some (.string ⟨#[]⟩) := cell_in e3 1
  have z1 : w.frozen? ⟨X.g5, 1, none⟩ = false := froz_in e3 1
  have c2 : w.cell? ⟨X.g5, 2, none⟩ = some (.slice none 0 0) := cell_in e3 2
  have z2 : w.frozen? ⟨X.g5, 2, none⟩ = false := froz_in e3 2
  have c3 : w.cell? ⟨X.g5, 3, none⟩ = some (.slice none 0 0) := cell_in e3 3
  have z3 : w.frozen? ⟨X.g5, 3, none⟩ = false := froz_in e3 3
  have c4 : w.cell? ⟨X.g5, 4, none⟩ = some (.slice none 0 0) := cell_in e3 4
  have z4 : w.frozen? ⟨X.g5, 4, none⟩ = false := froz_in e3 4
  unfold act41
  rw [e1, v18e]
  refine wpOp_step (o := { dst := none, op := Op.store 31 (Operand.tmp 5) (Operand.tmp 18), type := 0, pos := "law.go:41", after := #[{ on := 4, ground := Ground.data }, { on := 1, ground := Ground.data }, { on := 3, ground := Ground.chain }, { on := 0, ground := Ground.phase }, { on := 1, ground := Ground.phase }, { on := 2, ground := Ground.textOnly Departure.lateStores }, { on := 3, ground := Ground.textOnly Departure.lateStoresUnsure }, { on := 4, ground := Ground.phase }, { on := 5, ground := Ground.phase }], guard := none }) rfl (fun K hK => ?_)
  go_simp
  rw [← e1, ← v18e]
  refine hK _ _ ⟨by simpa using hs, fun h j hj => ?_, fun h => ?_, fun h => ?_, X, rfl, fun h => ?_, fun h h2 => hj2, fun h => ?_⟩
  · rw [getD_set8 L 6 j hs (by omega), if_neg (by omega)]; exact hall j hj
  · rw [getD_set8 L 6 7 hs (by omega), if_neg (by omega), e7] at h; cases h
  · rw [getD_set8 L 6 2 hs (by omega), if_neg (by omega)]; exact d2
  · rw [getD_set8 L 6 6 hs (by omega), if_pos rfl] at h; cases h
  · rw [getD_set8 L 6 7 hs (by omega), if_neg (by omega), e7] at h; cases h
set_option maxHeartbeats 0 in
theorem inv41_7 {fm : Bool} {fname : ByteArray} {ra : Option Addr} {rn rc : Nat} {pa : Option Addr} {pn pc : Nat} {ba : Option Addr} {bn bc : Nat} {xk xc xn xt : Int} {P : Nat} {f : Fun} {w1 : World} {L : Array Bool} {a : Act} {w : World} (hI : Inv41 fm fname ra rn rc pa pn pc ba bn bc xk xc xn xt P f w1 L a w) (hP : w1.heap[P]? = some (.cells #[.bool fm, .string fname, .slice ra rn rc, .slice pa pn pc, .slice ba bn bc] 31 (0, 0))) (hC : ∀ W, Below w1.heap.size w1 W → Calls Try.prog 17 #[.agg #[.bool fm, .string fname, .slice ra rn rc, .slice pa pn pc, .slice ba bn bc]] W (CopyP f W)) (hr : 7 ∈ Region.ready .any ops41 L) : wpOp Try.prog ops41 (Post41 fm fname ra rn rc pa pn pc ba bn bc xk xc xn xt P f w1) 7 (fun a' w' => Inv41 fm fname ra rn rc pa pn pc ba bn bc xk xc xn xt P f w1 (L.setIfInBounds 7 true) a' w') a w := by
  obtain ⟨hs, h6, h7, h3, X, rfl, hJ, hF, hG⟩ := hI
  have hd := rdy_7 hr
  have hd0 : L.getD 7 false = false := fals hd.1
  have hf := hF hd.2 hd0
  clear hJ hF hG
  obtain ⟨e1, e2, e3, e4, e5⟩ := hf.e6
  have v20e := hf.e20
  obtain ⟨q0, q1, s2, n2, c2', s3, n3, c3', s4, n4, c4', he⟩ : ∃ q0 q1 s2 n2 c2' s3 n3 c3' s4 n4 c4', funR f (f.parts.funV X.S2) = #[.bool q0, .string q1, .slice s2 n2 c2', .slice s3 n3 c3', .slice s4 n4 c4'] := ⟨_, _, _, _, _, _, _, _, _, _, _, rfl⟩
  have hf2 := Fin2.s7 hf he
  rw [he] at v20e
  have c0 : w.cell? ⟨X.g6, 0, none⟩ = some (.bool false) := cell_in e3 0
  have z0 : w.frozen? ⟨X.g6, 0, none⟩ = false := froz_in e3 0
  have c1 : w.cell? ⟨X.g6, 1, none⟩ = some (.string ⟨#[]⟩) := cell_in e3 1
  have z1 : w.frozen? ⟨X.g6, 1, none⟩ = false := froz_in e3 1
  have c2 : w.cell? ⟨X.g6, 2, none⟩ = some (.slice none 0 0) := cell_in e3 2
  have z2 : w.frozen? ⟨X.g6, 2, none⟩ = false := froz_in e3 2
  have c3 : w.cell? ⟨X.g6, 3, none⟩ = some (.slice none 0 0) := cell_in e3 3
  have z3 : w.frozen? ⟨X.g6, 3, none⟩ = false := froz_in e3 3
  have c4 : w.cell? ⟨X.g6, 4, none⟩ = some (.slice none 0 0) := cell_in e3 4
  have z4 : w.frozen? ⟨X.g6, 4, none⟩ = false := froz_in e3 4
  unfold act41
  rw [e1, v20e]
  refine wpOp_step (o := { dst := none, op := Op.store 31 (Operand.tmp 6) (Operand.tmp 20), type := 0, pos := "law.go:41", after := #[{ on := 5, ground := Ground.data }, { on := 3, ground := Ground.data }, { on := 6, ground := Ground.chain }, { on := 0, ground := Ground.phase }, { on := 1, ground := Ground.phase }, { on := 2, ground := Ground.phase }, { on := 3, ground := Ground.phase }, { on := 4, ground := Ground.phase }, { on := 5, ground := Ground.phase }, { on := 6, ground := Ground.phase }], guard := none }) rfl (fun K hK => ?_)
  go_simp
  rw [← e1, ← v20e]
  refine hK _ _ ⟨by simpa using hs, fun h j hj => ?_, fun h => ?_, fun h => ?_, X, rfl, fun h => ?_, fun h h2 => ?_, fun h => hf2⟩
  · rw [getD_set8 L 7 j hs (by omega), if_neg (by omega)]; exact h6 hd.2 j hj
  · rw [getD_set8 L 7 6 hs (by omega), if_neg (by omega)]; exact hd.2
  · rw [getD_set8 L 7 2 hs (by omega), if_neg (by omega)]; exact h6 hd.2 2 (by omega)
  · rw [getD_set8 L 7 6 hs (by omega), if_neg (by omega), hd.2] at h; cases h
  · rw [getD_set8 L 7 7 hs (by omega), if_pos rfl] at h2; cases h2
theorem all_done8 {L : Array Bool} (hs : L.size = 8) (h : Region.ready .any ops41 L = []) : L.getD 7 false = true := by
  have key : ∀ i, i < 8 → ∃ b, L[i]? = some b := fun i hi => ⟨L[i]'(by omega), Array.getElem?_eq_getElem (by omega)⟩
  unfold Region.ready at h
  rw [List.filter_eq_nil_iff] at h
  obtain ⟨b0, e0⟩ := key 0 (by omega)
  obtain ⟨b1, e1⟩ := key 1 (by omega)
  obtain ⟨b2, e2⟩ := key 2 (by omega)
  obtain ⟨b3, e3⟩ := key 3 (by omega)
  obtain ⟨b4, e4⟩ := key 4 (by omega)
  obtain ⟨b5, e5⟩ := key 5 (by omega)
  obtain ⟨b6, e6⟩ := key 6 (by omega)
  obtain ⟨b7, e7⟩ := key 7 (by omega)
  have hk : ∀ i, i < 8 → _ := fun i hi => h i (by rw [List.mem_range]; exact hi)
  have d0 := hk 0 (by omega)
  have d1 := hk 1 (by omega)
  have d2 := hk 2 (by omega)
  have d3 := hk 3 (by omega)
  have d4 := hk 4 (by omega)
  have d5 := hk 5 (by omega)
  have d6 := hk 6 (by omega)
  have d7 := hk 7 (by omega)
  clear h hk key
  simp only [Array.getD_eq_getD_getElem?]
  simp [ops41, Region.binds, e0, e1, e2, e3, e4, e5, e6, e7] at d0
  have c0 : b0 = true := by simpa using d0
  simp [ops41, Region.binds, e0, e1, e2, e3, e4, e5, e6, e7, c0] at d1
  have c1 : b1 = true := by simpa using d1
  simp [ops41, Region.binds, e0, e1, e2, e3, e4, e5, e6, e7, c0, c1] at d2
  have c2 : b2 = true := by simpa using d2
  simp [ops41, Region.binds, e0, e1, e2, e3, e4, e5, e6, e7, c0, c1, c2] at d3
  have c3 : b3 = true := by simpa using d3
  simp [ops41, Region.binds, e0, e1, e2, e3, e4, e5, e6, e7, c0, c1, c2, c3] at d4
  have c4 : b4 = true := by simpa using d4
  simp [ops41, Region.binds, e0, e1, e2, e3, e4, e5, e6, e7, c0, c1, c2, c3, c4] at d5
  have c5 : b5 = true := by simpa using d5
  simp [ops41, Region.binds, e0, e1, e2, e3, e4, e5, e6, e7, c0, c1, c2, c3, c4, c5] at d6
  have c6 : b6 = true := by simpa using d6
  simp [ops41, Region.binds, e0, e1, e2, e3, e4, e5, e6, e7, c0, c1, c2, c3, c4, c5, c6] at d7
  rw [e7]; simpa using d7
theorem Inv41.start (fm : Bool) (fname : ByteArray) (ra : Option Addr) (rn rc : Nat) (pa : Option Addr) (pn pc : Nat) (ba : Option Addr) (bn bc : Nat) (xk xc xn xt : Int) (P : Nat) (f : Fun) (w1 : World) : Inv41 fm fname ra rn rc pa pn pc ba bn bc xk xc xn xt P f w1 (Array.replicate 8 false) (act41 fm fname ra rn rc pa pn pc ba bn bc xk xc xn xt P ⟨undef, undef, undef, undef, undef, undef, fun _ => 0, fun _ => (none, 0), 0, 0, fun _ => 0, fun _ => (none, 0), 0, 0, 0, 0⟩) w1.drew := by
  have z : ∀ j, (Array.replicate 8 false).getD j false = false := fun j => by
    simp only [Array.getD_eq_getD_getElem?, Array.getElem?_replicate]
    split <;> rfl
  refine ⟨by simp, fun h => ?_, fun h => ?_, fun h => ?_, _, rfl, fun _ => ⟨(Below.refl _ _).drew, fun h => ?_, fun h => ?_, fun h => ?_, fun h => ?_, fun h => ?_, fun h => ?_, fun h => ?_⟩, fun h => ?_, fun h => ?_⟩
  all_goals
    (try dsimp only at h)
    rw [z] at h; cases h
theorem Inv41.done {fm : Bool} {fname : ByteArray} {ra : Option Addr} {rn rc : Nat} {pa : Option Addr} {pn pc : Nat} {ba : Option Addr} {bn bc : Nat} {xk xc xn xt : Int} {P : Nat} {f : Fun} {w1 : World} {L : Array Bool} {a : Act} {w : World} (h : Inv41 fm fname ra rn rc pa pn pc ba bn bc xk xc xn xt P f w1 L a w) (hr : Region.ready .any ops41 L = []) : Post41 fm fname ra rn rc pa pn pc ba bn bc xk xc xn xt P f w1 .normal a w := by
  obtain ⟨hs, h6, h7, h3, X, e, hJ, hF, hG⟩ := h
  exact ⟨X, e, hG (all_done8 hs hr)⟩
theorem region41 (fm : Bool) (fname : ByteArray) (ra : Option Addr) (rn rc : Nat) (pa : Option Addr) (pn pc : Nat) (ba : Option Addr) (bn bc : Nat) (xk xc xn xt : Int) (P : Nat) (f : Fun) (w1 : World) (hP : w1.heap[P]? = some (.cells #[.bool fm, .string fname, .slice ra rn rc, .slice pa pn pc, .slice ba bn bc] 31 (0, 0))) (hC : ∀ W, Below w1.heap.size w1 W → Calls Try.prog 17 #[.agg #[.bool fm, .string fname, .slice ra rn rc, .slice pa pn pc, .slice ba bn bc]] W (CopyP f W)) :
    (Code.region 3 #[{ dst := some 17, op := Op.load 31 (Operand.tmp 2), type := 31, pos := "law.go:41", after := #[], guard := none }, { dst := some 18, op := Op.call { callee := Callee.value (Operand.func 17), args := #[Operand.tmp 17], argTypes := #[31] }, type := 31, pos := "law.go:41", after := #[{ on := 0, ground := Ground.data }], guard := none }, { dst := some 19, op := Op.load 31 (Operand.tmp 2), type := 31, pos := "law.go:41", after := #[], guard := none }, { dst := some 20, op := Op.call { callee := Callee.value (Operand.func 17), args := #[Operand.tmp 19], argTypes := #[31] }, type := 31, pos := "law.go:41", after := #[{ on := 2, ground := Ground.data }, { on := 1, ground := Ground.chain }], guard := none }, { dst := some 5, op := Op.alloc 31, type := 0, pos := "law.go:41", after := #[], guard := none }, { dst := some 6, op := Op.alloc 31, type := 0, pos := "law.go:41", after := #[], guard := none }, { dst := none, op := Op.store 31 (Operand.tmp 5) (Operand.tmp 18), type := 0, pos := "law.go:41", after := #[{ on := 4, ground := Ground.data }, { on := 1, ground := Ground.data }, { on := 3, ground := Ground.chain }, { on := 0, ground := Ground.phase }, { on := 1, ground := Ground.phase }, { on := 2, ground := Ground.textOnly Departure.lateStores }, { on := 3, ground := Ground.textOnly Departure.lateStoresUnsure }, { on := 4, ground := Ground.phase }, { on := 5, ground := Ground.phase }], guard := none }, { dst := none, op := Op.store 31 (Operand.tmp 6) (Operand.tmp 20), type := 0, pos := "law.go:41", after := #[{ on := 5, ground := Ground.data }, { on := 3, ground := Ground.data }, { on := 6, ground := Ground.chain }, { on := 0, ground := Ground.phase }, { on := 1, ground := Ground.phase }, { on := 2, ground := Ground.phase }, { on := 3, ground := Ground.phase }, { on := 4, ground := Ground.phase }, { on := 5, ground := Ground.phase }, { on := 6, ground := Ground.phase }], guard := none }] true).wp Try.prog (Post41 fm fname ra rn rc pa pn pc ba bn bc xk xc xn xt P f w1) { tmps := #[.agg #[.bool fm, .string fname, .slice ra rn rc, .slice pa pn pc, .slice ba bn bc], .agg #[.int .i64 xk, .int .i64 xc, .int .i64 xn, .int .i64 xt], .pointer (some ⟨P, 0, none⟩), .pointer (some ⟨P + 1, 0, none⟩), .bool false, undef, undef, undef, undef, undef, undef, undef, undef, undef, .agg #[.bool fm, .string fname, .slice ra rn rc, .slice pa pn pc, .slice ba bn bc], .bool false, undef, undef, undef, undef, undef, undef, undef, undef, undef, undef, undef, undef, undef, undef, undef, undef, undef, undef, undef, undef, undef, undef, undef, undef, undef, undef, undef, undef, undef, undef, undef, undef, undef, undef, undef, undef, undef, undef, undef, undef, undef, undef, undef, undef, undef, undef, undef, undef, undef, undef, undef, undef, undef, undef, undef, undef, undef, undef, undef, undef, undef, undef, undef, undef, undef, undef, undef, undef, undef, undef, undef, undef, undef, undef, undef, undef, undef, undef, undef, undef, undef, undef, undef, undef, undef, undef, undef, undef, undef, undef, undef, undef, undef, undef, undef, undef, undef, undef, undef, undef, undef, undef, undef, undef, undef, undef, undef, undef, undef, undef, undef], defers := [] } w1 := by
  show (Code.region 3 ops41 true).wp Try.prog (Post41 fm fname ra rn rc pa pn pc ba bn bc xk xc xn xt P f w1) _ w1
  refine wp_region_any (by kernel_rfl) ?_
  refine wpAny_inv (Inv41 fm fname ra rn rc pa pn pc ba bn bc xk xc xn xt P f w1) (fun L a w i hI hr => ?_) (fun L a w hI hr => hI.done hr) 8 _ _ _ (by decide) (Inv41.start fm fname ra rn rc pa pn pc ba bn bc xk xc xn xt P f w1)
  have hi : i < 8 := by
    unfold Region.ready at hr
    exact List.mem_range.1 (List.mem_filter.1 hr).1
  match i, hi with
  | 0, _ => exact inv41_0 hI hP hC hr
  | 1, _ => exact inv41_1 hI hP hC hr
  | 2, _ => exact inv41_2 hI hP hC hr
  | 3, _ => exact inv41_3 hI hP hC hr
  | 4, _ => exact inv41_4 hI hP hC hr
  | 5, _ => exact inv41_5 hI hP hC hr
  | 6, _ => exact inv41_6 hI hP hC hr
  | 7, _ => exact inv41_7 hI hP hC hr
end Go.Proofs.Ytocelaebokikcaa
