/- All operands of a function in memory of its own turned, one after another: what lies where meanwhile. -/
import Derived.Test.YtocelaebokikcaaMapI
import Derived.Test.YtocelaebokikcaaOpd
import Derived.Test.YtocelaebokikcaaCopy
import Derived.Test.YtocelaebokikcaaBound
namespace Go.Proofs.Ytocelaebokikcaa
open Go.ChangeShapes Go.WideShapes Go.RowKit
set_option linter.unusedVariables false
set_option maxRecDepth 20000

theorem turnTo_same (l : List Opn) (m m' : Nat) (h : m = m' ∨ (l.length ≤ m ∧ l.length ≤ m')) : turnTo m l = turnTo m' l := by
  rcases h with rfl | ⟨h1, h2⟩
  · rfl
  · rw [turnTo_all m l h1, turnTo_all m' l h2]
theorem off_step (v : FunV) (b : Nat) : v.off (b + 1) = v.off b + v.blkN b := by
  show v.pn + (sumTo v.blkN b + v.blkN b) = v.pn + sumTo v.blkN b + v.blkN b
  omega
theorem off_le (v : FunV) {b c : Nat} (h : b ≤ c) : v.off b ≤ v.off c := by
  induction c with
  | zero => rw [show b = 0 by omega]; exact Nat.le_refl _
  | succ c ih =>
    rcases Nat.lt_or_ge c b with hc | hc
    · rw [show b = c + 1 by omega]; exact Nat.le_refl _
    · have := ih hc; rw [off_step]; omega
theorem offI_le (v : FunV) (b : Nat) {k c : Nat} (h : k ≤ c) : v.offI b k ≤ v.offI b c := by
  induction c with
  | zero => rw [show k = 0 by omega]; exact Nat.le_refl _
  | succ c ih =>
    rcases Nat.lt_or_ge c k with hc | hc
    · rw [show k = c + 1 by omega]; exact Nat.le_refl _
    · have := ih hc; rw [offI_succ]; omega
theorem offI_lt (v : FunV) (b : Nat) {k c : Nat} (h : k < c) : v.offI b k + 1 + ((v.R b).R k).an ≤ v.offI b c := by
  have := offI_le v b (k := k + 1) (c := c) h
  rw [offI_succ] at this
  exact this
theorem offI_lo (v : FunV) (b k : Nat) : v.off b + (v.R b).il ≤ v.offI b k := by
  have := offI_le v b (k := 0) (c := k) (Nat.zero_le _)
  rw [offI_zero] at this
  exact this
theorem offI_hi (v : FunV) (b : Nat) {k : Nat} (h : k < (v.R b).kn) : v.offI b k + 1 + ((v.R b).R k).an ≤ v.off (b + 1) := by
  rw [off_succ]; exact offI_lt v b h
theorem off_hi (v : FunV) (b : Nat) : v.off b + (v.R b).il ≤ v.off (b + 1) := by
  rw [off_succ]; exact offI_lo v b _
theorem off_lo (v : FunV) (b : Nat) : v.pn ≤ v.off b := by
  have := off_le v (b := 0) (c := b) (Nat.zero_le _)
  rw [off_zero] at this; exact this

/-- What an instruction gives to, turned or not yet. -/
def dstN (d : FunD) (v : FunV) (n b k : Nat) : Opn := if v.offI b k < n then (d.dst b k).T else d.dst b k
def insT (d : FunD) (S : Spots) (v : FunV) (n b k : Nat) : List Value :=
  (insR ⟨d.op b k, dstN d v n b k, d.ops (.args b k), d.name2 b k, d.off b k, d.labels b k, d.cases b k⟩ (d.insV S b k)).toList
theorem insT_len (d : FunD) (S : Spots) (v : FunV) (n b : Nat) : ∀ k, (insT d S v n b k).length = 10 := fun k => rfl
/-- A list's cells, the first so many operands turned. -/
def turnR (d : FunD) (S : Spots) (v : FunV) (n : Nat) : Pos → List Value
  | .params => (turnTo n (d.ops .params)).flatMap Opn.cs
  | .ins b => (turnTo (n - v.off b) (d.ops (.ins b))).flatMap Opn.cs
  | .args b k => (turnTo (n - (v.offI b k + 1)) (d.ops (.args b k))).flatMap Opn.cs
  | .code b => (List.range (d.nk b)).flatMap (insT d S v n b)
  | p => d.rows S p
theorem turnR_zero (d : FunD) (S : Spots) (v : FunV) (p : Pos) : turnR d S v 0 p = d.rows S p := by
  cases p with
  | params => rfl
  | ins b => show (turnTo (0 - v.off b) (d.ops (.ins b))).flatMap Opn.cs = _; rw [Nat.zero_sub, turnTo_zero]; rfl
  | args b k => show (turnTo (0 - (v.offI b k + 1)) (d.ops (.args b k))).flatMap Opn.cs = _; rw [Nat.zero_sub, turnTo_zero]; rfl
  | code b => rfl
  | regs => rfl
  | blocks => rfl
  | labels b k => rfl
  | cases b k => rfl
/-- Nothing turns in a list none of whose operands is the next. -/
theorem turnR_same (d : FunD) (S : Spots) (v : FunV) (n : Nat) (p : Pos) (h1 : p = .params → (d.ops .params).length ≤ n)
    (h2 : ∀ b, p = .ins b → n < v.off b ∨ v.off b + (d.ops (.ins b)).length ≤ n)
    (h3 : ∀ b k, p = .args b k → n ≤ v.offI b k ∨ v.offI b k + 1 + (d.ops (.args b k)).length ≤ n)
    (h4 : ∀ b, p = .code b → ∀ k, k < d.nk b → v.offI b k ≠ n) : turnR d S v (n + 1) p = turnR d S v n p := by
  cases p with
  | params =>
    have := h1 rfl
    show (turnTo (n + 1) (d.ops .params)).flatMap Opn.cs = (turnTo n (d.ops .params)).flatMap Opn.cs
    rw [turnTo_same _ (n + 1) n (.inr ⟨by omega, by omega⟩)]
  | ins b =>
    have := h2 b rfl
    show (turnTo (n + 1 - v.off b) (d.ops (.ins b))).flatMap Opn.cs = (turnTo (n - v.off b) (d.ops (.ins b))).flatMap Opn.cs
    rw [turnTo_same _ (n + 1 - v.off b) (n - v.off b) (by omega)]
  | args b k =>
    have := h3 b k rfl
    show (turnTo (n + 1 - (v.offI b k + 1)) (d.ops (.args b k))).flatMap Opn.cs = (turnTo (n - (v.offI b k + 1)) (d.ops (.args b k))).flatMap Opn.cs
    rw [turnTo_same _ (n + 1 - (v.offI b k + 1)) (n - (v.offI b k + 1)) (by omega)]
  | code b =>
    refine flat_congr _ _ _ (fun k hk => ?_)
    have := h4 b rfl k (by simpa using hk)
    unfold insT dstN
    by_cases hl : v.offI b k < n
    · rw [if_pos hl, if_pos (by omega)]
    · rw [if_neg hl, if_neg (by omega)]
  | regs => rfl
  | blocks => rfl
  | labels b k => rfl
  | cases b k => rfl
theorem cons4 (x0 x1 x2 x3 : Value) (r : List Value) (i : Nat) (u : Value) : (x0 :: x1 :: x2 :: x3 :: r).set (i + 4) u = x0 :: x1 :: x2 :: x3 :: r.set i u := rfl
theorem flat_put (l : List Opn) (k : Nat) (y : Opn) (hk : k < l.length) :
    ((((l.flatMap Opn.cs).set (k * 4) (.int .i64 y.k)).set (k * 4 + 1) (.int .i64 y.c)).set (k * 4 + 2) (.int .i64 y.n)).set (k * 4 + 3) (.int .i64 y.t) = (l.set k y).flatMap Opn.cs := by
  induction l generalizing k with
  | nil => simp at hk
  | cons a l ih =>
    cases k with
    | zero => rfl
    | succ k =>
      have e0 : (k + 1) * 4 = k * 4 + 4 := by omega
      have e1 : (k + 1) * 4 + 1 = k * 4 + 1 + 4 := by omega
      have e2 : (k + 1) * 4 + 2 = k * 4 + 2 + 4 := by omega
      have e3 : (k + 1) * 4 + 3 = k * 4 + 3 + 4 := by omega
      rw [e1, e2, e3, e0, List.flatMap_cons, List.set_cons_succ, List.flatMap_cons, ← ih k (by simpa using hk)]
      show (((((_ :: _ :: _ :: _ :: l.flatMap Opn.cs : List Value).set (k * 4 + 4) _).set (k * 4 + 1 + 4) _).set (k * 4 + 2 + 4) _).set (k * 4 + 3 + 4) _) = _
      rw [cons4, cons4, cons4, cons4]
      rfl
theorem put4_flat {w : World} {g : Nat} {l : List Opn} {t : TypeId} (h : w.heap[g]? = some (.cells (l.flatMap Opn.cs).toArray t (0, 0))) (k : Nat) (hk : k < l.length) (y : Opn) :
    (put4 w g (k * 4) y).heap[g]? = some (.cells ((l.set k y).flatMap Opn.cs).toArray t (0, 0)) := by
  rw [← flat_put l k y hk]
  have := set_at (set_at (set_at (set_at h (k * 4) (.int .i64 y.k)) (k * 4 + 1) (.int .i64 y.c)) (k * 4 + 2) (.int .i64 y.n)) (k * 4 + 3) (.int .i64 y.t)
  simp only [List.setIfInBounds_toArray] at this
  exact this
theorem put4_row {w : World} {g n k : Nat} {f f' : Nat → List Value} {t : TypeId} (hs : ∀ x, (f x).length = 10) (hk : k < n) (y : Opn) (h : w.heap[g]? = some (.cells ((List.range n).flatMap f).toArray t (0, 0)))
    (h1 : f' k = ((((f k).set 1 (.int .i64 y.k)).set 2 (.int .i64 y.c)).set 3 (.int .i64 y.n)).set 4 (.int .i64 y.t)) (h2 : ∀ x, x < n → x ≠ k → f' x = f x) : (put4 w g (k * 10 + 1) y).heap[g]? = some (.cells ((List.range n).flatMap f').toArray t (0, 0)) := by
  have a0 := row_set (j := 1) hs hk (by omega) (.int .i64 y.k) h
  have s0 := rowSet_len f 10 k 1 (.int .i64 y.k) hs
  have a1 := row_set (j := 2) s0 hk (by omega) (.int .i64 y.c) a0
  have s1 := rowSet_len _ 10 k 2 (.int .i64 y.c) s0
  have a2 := row_set (j := 3) s1 hk (by omega) (.int .i64 y.n) a1
  have s2 := rowSet_len _ 10 k 3 (.int .i64 y.n) s1
  have a3 := row_set (j := 4) s2 hk (by omega) (.int .i64 y.t) a2
  have e : (List.range n).flatMap (rowSet (rowSet (rowSet (rowSet f k 1 (.int .i64 y.k)) k 2 (.int .i64 y.c)) k 3 (.int .i64 y.n)) k 4 (.int .i64 y.t)) = (List.range n).flatMap f' := by
    refine flat_congr _ _ _ (fun x hx => ?_)
    by_cases hxk : x = k
    · subst hxk
      rw [h1]
      simp only [rowSet, if_true]
    · rw [h2 x (by simpa using hx) hxk]
      simp only [rowSet, if_neg hxk]
  rw [← e]
  exact a3

/-- All turned. -/
def FunD.T (d : FunD) : FunD := { d with dst := fun b k => (d.dst b k).T, ops := fun p => (d.ops p).map Opn.T }
theorem FunD.T_len (d : FunD) (p : Pos) : d.T.len p = d.len p := by
  cases p with
  | params => exact List.length_map ..
  | ins b => exact List.length_map ..
  | args b k => exact List.length_map ..
  | regs => rfl
  | blocks => rfl
  | code b => rfl
  | labels b k => rfl
  | cases b k => rfl
theorem FunD.T_insV (d : FunD) (S : Spots) (b k : Nat) : d.T.insV S b k = d.insV S b k := by
  unfold FunD.insV
  rw [d.T_len, d.T_len, d.T_len]
theorem FunD.T_blkV (d : FunD) (S : Spots) (b : Nat) : d.T.blkV S b = d.blkV S b := by
  unfold FunD.blkV
  rw [d.T_len, funext (d.T_insV S b)]
  rfl
theorem FunD.T_funV (d : FunD) (S : Spots) : d.T.funV S = d.funV S := by
  unfold FunD.funV
  rw [d.T_len, d.T_len, funext (d.T_blkV S)]
  rfl
theorem turnR_all (d : FunD) (S : Spots) (p : Pos) (hp : d.valid p) : d.T.rows S p = turnR d S (d.funV S) ((d.funV S).off d.nb) p := by
  have hi := fun b (hb : b < d.nb) => off_le (d.funV S) (b := b + 1) (c := d.nb) hb
  cases p with
  | params =>
    show ((d.ops .params).map Opn.T).flatMap Opn.cs = (turnTo _ (d.ops .params)).flatMap Opn.cs
    rw [turnTo_all]
    exact off_lo (d.funV S) d.nb
  | ins b =>
    show ((d.ops (.ins b)).map Opn.T).flatMap Opn.cs = (turnTo _ (d.ops (.ins b))).flatMap Opn.cs
    rw [turnTo_all]
    have h1 := hi b hp
    have h2 := off_hi (d.funV S) b
    have h3 : ((d.funV S).R b).il = (d.ops (.ins b)).length := rfl
    omega
  | args b k =>
    show ((d.ops (.args b k)).map Opn.T).flatMap Opn.cs = (turnTo _ (d.ops (.args b k))).flatMap Opn.cs
    rw [turnTo_all]
    have h1 := hi b hp.1
    have h2 := offI_hi (d.funV S) b (k := k) hp.2
    have h3 : (((d.funV S).R b).R k).an = (d.ops (.args b k)).length := rfl
    omega
  | code b =>
    refine flat_congr _ _ _ (fun k hk => ?_)
    have h1 := hi b hp
    have h2 := offI_hi (d.funV S) b (k := k) (List.mem_range.1 hk)
    rw [FunD.T_insV]
    unfold insT dstN
    rw [if_pos (by omega)]
    rfl
  | blocks =>
    refine flat_congr _ _ _ (fun b hb => ?_)
    rw [FunD.T_blkV]
    rfl
  | regs => rfl
  | labels b k => rfl
  | cases b k => rfl

/-- A function, each operand of which is turned. -/
def Blk.turned (b : Blk) : Blk := { b with ins := b.ins.map Opn.T, code := b.code.map Ins.turned }
def Fun.turned (f : Fun) : Fun := { f with params := f.params.map Opn.T, blocks := f.blocks.map Blk.turned }
theorem map_T_T (l : List Opn) : (l.map Opn.T).map Opn.T = l := by
  rw [List.map_map, List.map_congr_left (g := id)]
  · simp
  · intro x _; rfl
theorem Blk.turned_turned (b : Blk) : b.turned.turned = b := by
  unfold Blk.turned
  cases b
  simp only [map_T_T, Blk.mk.injEq, true_and]
  rw [List.map_map, List.map_congr_left (g := id)]
  · simp
  · intro x _; exact Ins.turned_turned x
theorem Fun.turned_turned (f : Fun) : f.turned.turned = f := by
  unfold Fun.turned
  cases f
  simp only [map_T_T, Fun.mk.injEq, true_and]
  rw [List.map_map, List.map_congr_left (g := id)]
  · simp
  · intro x _; exact Blk.turned_turned x
theorem map_range {α β : Type} [Inhabited α] (g : α → β) (l : List α) : (List.range l.length).map (fun k => g (l.getD k default)) = l.map g := by
  have := congrArg (List.map g) (list_range l)
  rw [List.map_map] at this
  exact this
theorem T_toFun (f : Fun) : f.parts.T.toFun = f.turned := by
  have hb : ∀ b, f.parts.T.blkAt b = (f.blk b).turned := fun b => by
    show (⟨(f.blk b).label, (f.blk b).edge, (f.blk b).ins.map Opn.T, (List.range (f.blk b).code.length).map (fun k => ((f.blk b).code.getD k default).turned)⟩ : Blk) = (f.blk b).turned
    rw [map_range Ins.turned]
    rfl
  show (⟨f.machine, f.name, f.regs, f.params.map Opn.T, (List.range f.blocks.length).map f.parts.T.blkAt⟩ : Fun) = f.turned
  rw [funext hb]
  show (⟨f.machine, f.name, f.regs, f.params.map Opn.T, (List.range f.blocks.length).map (fun b => (f.blocks.getD b default).turned)⟩ : Fun) = f.turned
  rw [map_range Blk.turned]
  rfl
theorem insOps_turned (i : Ins) : insOps i.turned = (insOps i).map Opn.T := rfl
theorem blkOps_turned (b : Blk) : blkOps b.turned = (blkOps b).map Opn.T := by
  show b.ins.map Opn.T ++ (b.code.map Ins.turned).flatMap insOps = (b.ins ++ b.code.flatMap insOps).map Opn.T
  rw [List.map_append, List.flatMap_map, List.map_flatMap]
  rfl
theorem funOps_turned (f : Fun) : funOps f.turned = (funOps f).map Opn.T := by
  show f.params.map Opn.T ++ (f.blocks.map Blk.turned).flatMap blkOps = (f.params ++ f.blocks.flatMap blkOps).map Opn.T
  rw [List.map_append, List.flatMap_map, List.map_flatMap]
  congr 1
  rw [show (fun a => blkOps a.turned) = fun a => (blkOps a).map Opn.T from funext blkOps_turned]
theorem blk_turned (f : Fun) (b : Nat) : f.turned.blk b = (f.blk b).turned := by
  unfold Fun.blk
  show (f.blocks.map Blk.turned).getD b default = _
  rw [List.getD_eq_getElem?_getD, List.getD_eq_getElem?_getD, List.getElem?_map]
  cases f.blocks[b]? <;> rfl
theorem inst_turned (f : Fun) (b k : Nat) : f.turned.inst b k = (f.inst b k).turned := by
  unfold Fun.inst
  rw [blk_turned]
  show ((f.blk b).code.map Ins.turned).getD k default = _
  rw [List.getD_eq_getElem?_getD, List.getD_eq_getElem?_getD, List.getElem?_map]
  cases (f.blk b).code[k]? <;> rfl
theorem small_turned (f : Fun) (h : ∀ p, f.parts.valid p → f.parts.len p ≤ 1048576) : ∀ p, f.turned.parts.valid p → f.turned.parts.len p ≤ 1048576 := by
  have nb : f.turned.parts.nb = f.parts.nb := List.length_map ..
  have nk : ∀ b, f.turned.parts.nk b = f.parts.nk b := fun b => by
    show (f.turned.blk b).code.length = (f.blk b).code.length
    rw [blk_turned]; exact List.length_map ..
  have lab : ∀ b k, f.turned.parts.labels b k = f.parts.labels b k := fun b k => by
    show (f.turned.inst b k).labels = (f.inst b k).labels
    rw [inst_turned]; rfl
  have cas : ∀ b k, f.turned.parts.cases b k = f.parts.cases b k := fun b k => by
    show (f.turned.inst b k).cases = (f.inst b k).cases
    rw [inst_turned]; rfl
  intro p hp
  cases p with
  | regs => exact h .regs trivial
  | blocks => have := h .blocks trivial; show f.turned.parts.nb ≤ _; rw [nb]; exact this
  | params =>
    have := h .params trivial
    show (f.params.map Opn.T).length ≤ _
    rw [List.length_map]; exact this
  | ins b =>
    have hb : b < f.parts.nb := by rw [← nb]; exact hp
    have := h (.ins b) hb
    show (f.turned.blk b).ins.length ≤ _
    rw [blk_turned]
    show ((f.blk b).ins.map Opn.T).length ≤ _
    rw [List.length_map]; exact this
  | code b =>
    have hb : b < f.parts.nb := by rw [← nb]; exact hp
    have := h (.code b) hb
    show f.turned.parts.nk b ≤ _
    rw [nk]; exact this
  | args b k =>
    have hb : b < f.parts.nb := by rw [← nb]; exact hp.1
    have hk : k < f.parts.nk b := by rw [← nk]; exact hp.2
    have := h (.args b k) ⟨hb, hk⟩
    show (f.turned.inst b k).args.length ≤ _
    rw [inst_turned]
    show ((f.inst b k).args.map Opn.T).length ≤ _
    rw [List.length_map]; exact this
  | labels b k =>
    have hb : b < f.parts.nb := by rw [← nb]; exact hp.1
    have hk : k < f.parts.nk b := by rw [← nk]; exact hp.2
    have := h (.labels b k) ⟨hb, hk⟩
    show (f.turned.parts.labels b k).length ≤ _
    rw [lab]; exact this
  | cases b k =>
    have hb : b < f.parts.nb := by rw [← nb]; exact hp.1
    have hk : k < f.parts.nk b := by rw [← nk]; exact hp.2
    have := h (.cases b k) ⟨hb, hk⟩
    show (f.turned.parts.cases b k).length ≤ _
    rw [cas]; exact this
end Go.Proofs.Ytocelaebokikcaa
