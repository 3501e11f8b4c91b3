
/- The document's lists of where blocks go on. -/
import Derived.Test.YtojfbcfbnadboaaGraLab
import Derived.Deep.CutRange
namespace Go.Proofs.Ytojfbcfbnadboaa.Gra
open Go.ChangeShapes Go.WideShapes Go.RowKit
set_option linter.unusedVariables false
set_option maxRecDepth 20000

def Apt (x y : Value) : Prop := ∀ k, Value.ownBlock x = some k → Value.ownBlock y ≠ some k
theorem Apt.nil (a b : Nat) (y : Value) : Apt (.slice none a b) y := fun k h => by cases h
theorem Apt.symm {x y : Value} (h : Apt x y) : Apt y x := fun k h1 h2 => h k h2 h1
theorem Apt.grow {x : Value} {α : Type} {T : TypeId} {sz : Nat} {cs : α → List Value} {N n c n' c' g : Nat} {W : World} {A : Option Addr} {l : List α} (h : Apt x (.slice A n c)) (ho : OwnL T sz cs N W A c l) (hl : l.length = n) (hat : Value.ownBlock x = some g ∨ g = W.heap.size) : Apt (.slice (some ⟨g, 0, none⟩) n' c') (.slice A n c) := by
  intro k hk h2
  have e : g = k := by injection hk
  subst e
  rcases hat with h1 | h1
  · exact h g h1 h2
  · have := (ho.lo g (by rw [hl]; exact h2)).2
    omega
def mv2 (x y : Value) : Nat → Prop := fun k => Value.ownBlock x = some k ∨ Value.ownBlock y = some k
/-- Rows that are done, and one that is made. -/
structure Sc (w W : World) (A : Option Addr) (n c : Nat) (rows : List Il) (B : Option Addr) (m d : Nat) (l : List Nat) : Prop where
  bel : Below w.heap.size w W
  row : OwnL 37 1 ilC w.heap.size W A c rows
  rl : rows.length = n
  cur : OwnL 3 1 intC w.heap.size W B d (nn l)
  cl : l.length = m
  ap : Apt (.slice A n c) (.slice B m d)
  fz : Frz (mv2 (.slice A n c) (.slice B m d)) W fun W => ∀ x ∈ rows, IsIl W x
section
variable {w W W' : World} {A : Option Addr} {n c : Nat} {rows : List Il} {B : Option Addr} {m d : Nat} {l : List Nat}
theorem Sc.start {w W : World} (h : Below w.heap.size w W) : Sc w W none 0 0 [] none 0 0 [] :=
  ⟨h, OwnL.nil, rfl, OwnL.nil, rfl, Apt.nil _ _ _, (frz_const (P := True) trivial).map fun W _ => by simp⟩
theorem Sc.below (h : Sc w W A n c rows B m d l) (hb : Below W.heap.size W W') : Sc w W' A n c rows B m d l :=
  ⟨h.bel.trans (hb.mono h.bel.size), h.row.below hb, h.rl, h.cur.below hb, h.cl, h.ap, h.fz.keep (Mv.of hb)⟩
theorem Sc.grow (h : Sc w W A n c rows B m d l) {g c' j : Nat} (ho : OwnL 3 1 intC w.heap.size W' (some ⟨g, 0, none⟩) c' (nn l ++ [(j : Int)])) (hg : W.grownBy W' (Value.ownBlock (.slice B m d))) (hat : Value.ownBlock (.slice B m d) = some g ∨ g = W.heap.size) :
    Sc w W' A n c rows (some ⟨g, 0, none⟩) (m + 1) c' (l ++ [j]) := by
  have hlo : ∀ k, Value.ownBlock (.slice B m d) = some k → w.heap.size ≤ k := fun k hk => (h.cur.lo k (by rw [nn_len, h.cl]; exact hk)).1
  have hG : Grow W (mv2 (.slice A n c) (.slice B m d)) (mv2 (.slice A n c) (.slice (some ⟨g, 0, none⟩) (m + 1) c')) := by
    intro k hk
    rcases hk with e | e
    · exact .inl (.inl e)
    · have e : g = k := by injection e
      subst e
      exact hat.elim (fun e => .inl (.inr e)) (fun e => .inr (by omega))
  refine ⟨⟨hg.os.trans h.bel.os, hg.tape.trans h.bel.tape, hg.output.trans h.bel.output, Nat.le_trans h.bel.size hg.size, fun k hk => (hg.block k (Nat.lt_of_lt_of_le hk h.bel.size) (fun e => by have := hlo k e.symm; omega)).trans (h.bel.block k hk)⟩, mother h.row hg (fun k hk e => h.ap k (by rw [← h.rl]; exact hk) e.symm), h.rl, by rw [nn_app]; exact ho, by rw [List.length_append, h.cl]; rfl, ?_, h.fz.go (grown_mv hg (fun k e => .inr e)) hG⟩
  exact (h.ap.symm.grow h.row h.rl hat).symm
theorem Sc.done (h : Sc w W A n c rows B m d l) {g c' : Nat} (ho : OwnL 37 1 ilC w.heap.size W' (some ⟨g, 0, none⟩) c' (rows ++ [⟨B, m, d, l⟩])) (hg : W.grownBy W' (Value.ownBlock (.slice A n c))) (hat : Value.ownBlock (.slice A n c) = some g ∨ g = W.heap.size) :
    Sc w W' (some ⟨g, 0, none⟩) (n + 1) c' (rows ++ [⟨B, m, d, l⟩]) none 0 0 [] := by
  have hlo : ∀ k, Value.ownBlock (.slice A n c) = some k → w.heap.size ≤ k := fun k hk => (h.row.lo k (by rw [h.rl]; exact hk)).1
  have hG : Grow W (mv2 (.slice A n c) (.slice B m d)) (mv2 (.slice A n c) (.slice none 0 0)) := by
    intro k hk
    rcases hk with e | e
    · exact .inl (.inl e)
    · cases e
  have hG2 : Grow W (mv2 (.slice A n c) (.slice none 0 0)) (mv2 (.slice (some ⟨g, 0, none⟩) (n + 1) c') (.slice none 0 0)) := by
    intro k hk
    rcases hk with e | e
    · have e : g = k := by injection e
      subst e
      exact hat.elim (fun e => .inl (.inl e)) (fun e => .inr (by omega))
    · cases e
  have f1 := h.fz.grow hG
  have f2 := (frz_own h.cur (M := mv2 (.slice A n c) (.slice none 0 0)) (fun k hk e => by
    rcases e with e | e
    · exact h.ap k e (by rw [← h.cl, ← nn_len]; exact hk)
    · cases e)).map fun W hW => hW.ints
  refine ⟨⟨hg.os.trans h.bel.os, hg.tape.trans h.bel.tape, hg.output.trans h.bel.output, Nat.le_trans h.bel.size hg.size, fun k hk => (hg.block k (Nat.lt_of_lt_of_le hk h.bel.size) (fun e => by have := hlo k e.symm; omega)).trans (h.bel.block k hk)⟩, ho, by rw [List.length_append, h.rl]; rfl, OwnL.nil, rfl, (Apt.nil _ _ _).symm, ?_⟩
  refine ((f1.and f2).map fun W hW => List.forall_mem_append.2 ⟨hW.1, fun x hx => ?_⟩).go (grown_mv hg (fun k e => .inl e)) hG2
  rw [List.mem_singleton] at hx
  rw [hx]
  have h1 := hW.2
  rw [nn_len, h.cl] at h1
  exact h1
end
theorem addN_none (l : List Nat) : addN l none = l := rfl
theorem addN_in {l : List Nat} {j : Nat} (h : j ∈ l) : addN l (some j) = l := by unfold addN; simp [h]
theorem addN_new {l : List Nat} {j : Nat} (h : j ∉ l) : addN l (some j) = l ++ [j] := by unfold addN; simp [h]
theorem addN_len (l : List Nat) (o : Option Nat) : (addN l o).length ≤ l.length + 1 := by
  unfold addN
  split
  · omega
  · split
    · omega
    · simp
theorem sucN_take {bs : List Blk} {us : List ByteArray} {k : Nat} {u : ByteArray} (h : us[k]? = some u) : sucN bs (us.take (k + 1)) = addN (sucN bs (us.take k)) (fnd bs u) := by
  unfold sucN
  rw [List.take_add_one, h, List.foldl_append]
  rfl
theorem sucN_len (bs : List Blk) (us : List ByteArray) : (sucN bs us).length ≤ us.length := by
  unfold sucN
  have : ∀ (us : List ByteArray) (l : List Nat), (us.foldl (fun l u => addN l (fnd bs u)) l).length ≤ l.length + us.length := by
    intro us
    induction us with
    | nil => intro l; simp
    | cons u us ih =>
      intro l
      rw [List.foldl_cons, List.length_cons]
      have h1 := ih (addN l (fnd bs u))
      have h2 := addN_len l (fnd bs u)
      omega
  have := this us []
  simpa using this
end Go.Proofs.Ytojfbcfbnadboaa.Gra
