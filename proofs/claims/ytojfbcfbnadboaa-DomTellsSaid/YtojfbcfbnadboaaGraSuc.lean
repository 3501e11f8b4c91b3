
/- Where blocks go on: lists (plain); what it is that memory holds such lists. -/
import Derived.Test.YtojfbcfbnadboaaGraMem
import Derived.Test.YtojfbcfbnadboaaGraOrd
namespace Go.Proofs.Ytojfbcfbnadboaa.Gra
open Go.ChangeShapes Go.WideShapes Go.RowKit
set_option linter.unusedVariables false
set_option maxRecDepth 20000

def fnd (bs : List Blk) (u : ByteArray) : Option Nat := bs.findIdx? fun b => b.label.toList == u.toList
def fndI (bs : List Blk) (u : ByteArray) : Int := match fnd bs u with | some j => (j : Int) | none => -1
def addN (l : List Nat) (o : Option Nat) : List Nat := match o with | none => l | some j => if j ∈ l then l else l ++ [j]
def sucN (bs : List Blk) (us : List ByteArray) : List Nat := us.foldl (fun l u => addN l (fnd bs u)) []
def labs (b : Blk) : List ByteArray := match b.code.getLast? with | none => [] | some x => if 20 ≤ x.op ∧ x.op ≤ 23 then x.labels else []
def sucs (bs : List Blk) : Gr := bs.map fun b => sucN bs (labs b)
def preds (s : Gr) (i : Nat) : List Nat := (List.range s.length).filter fun k => decide (i ∈ nx s k)
theorem fnd_lt {bs : List Blk} {u : ByteArray} {j : Nat} (h : fnd bs u = some j) : j < bs.length := by
  unfold fnd at h
  rw [List.findIdx?_eq_some_iff_getElem] at h
  exact h.1
theorem addN_mem {l : List Nat} {o : Option Nat} {x : Nat} (h : x ∈ addN l o) : x ∈ l ∨ o = some x := by
  unfold addN at h
  split at h
  · exact .inl h
  · split at h
    · exact .inl h
    · rcases List.mem_append.1 h with h | h
      · exact .inl h
      · rw [List.mem_singleton] at h
        rw [h]
        exact .inr rfl
theorem sucN_mem {bs : List Blk} {x : Nat} : ∀ (us : List ByteArray) (l : List Nat), x ∈ us.foldl (fun l u => addN l (fnd bs u)) l → x ∈ l ∨ x < bs.length
  | [], l, h => .inl h
  | u :: us, l, h => by
    rcases sucN_mem us _ h with h | h
    · rcases addN_mem h with h | h
      · exact .inl h
      · exact .inr (fnd_lt h)
    · exact .inr h
theorem sucs_len (bs : List Blk) : (sucs bs).length = bs.length := by unfold sucs; rw [List.length_map]
theorem sucs_at {bs : List Blk} {i : Nat} {b : Blk} (h : bs[i]? = some b) : nx (sucs bs) i = sucN bs (labs b) := by
  unfold nx sucs
  rw [List.getD_eq_getElem?_getD, List.getElem?_map, h]
  rfl
theorem sucs_ok (bs : List Blk) : Ok (sucs bs) := by
  intro i j hj
  have hi := nx_lt hj
  rw [sucs_len] at hi ⊢
  rw [sucs_at (List.getElem?_eq_getElem hi)] at hj
  rcases sucN_mem _ _ hj with h | h
  · cases h
  · exact h
theorem fndI_eq (bs : List Blk) (u : ByteArray) : (fndI bs u = -1 ∧ fnd bs u = none) ∨ ∃ j : Nat, fndI bs u = (j : Int) ∧ fnd bs u = some j := by
  unfold fndI
  cases h : fnd bs u with
  | none => exact .inl ⟨rfl, rfl⟩
  | some j => exact .inr ⟨j, rfl, rfl⟩
/-- A list of numbers in memory, as a row's element. -/
structure Il where
  A : Option Addr
  n : Nat
  c : Nat
  l : List Nat
instance : Inhabited Il := ⟨⟨none, 0, 0, []⟩⟩
def ilC (x : Il) : List Value := [.slice x.A x.n x.c]
def nn (l : List Nat) : List Int := l.map Int.ofNat
def IsIl (w : World) (x : Il) : Prop := IsInts w x.A x.n (nn x.l)
theorem nn_len (l : List Nat) : (nn l).length = l.length := by unfold nn; rw [List.length_map]
theorem nn_app (l : List Nat) (j : Nat) : nn (l ++ [j]) = nn l ++ [(j : Int)] := by unfold nn; rw [List.map_append]; rfl
theorem nn_mem (l : List Nat) (j : Nat) : (j : Int) ∈ nn l ↔ j ∈ l := by
  unfold nn
  rw [List.mem_map]
  constructor
  · rintro ⟨a, h, e⟩
    have : a = j := by have e : (a : Int) = (j : Int) := e; omega
    subst this
    exact h
  · intro h; exact ⟨j, h, rfl⟩
/-- A list of lists of numbers in memory. -/
def IsGr (w : World) (A : Option Addr) (n : Nat) (s : Gr) : Prop :=
  s.length = n ∧ n ≤ 9223372036854775807 ∧ (s = [] ∨ ∃ b o, A = some ⟨b, o, none⟩ ∧ b < w.heap.size ∧ ∀ k, k < s.length → ∃ B m c, w.cell? ⟨b, o + k, none⟩ = some (.slice B m c) ∧ IsInts w B m (nn (nx s k)))
theorem IsGr.at {w : World} {A : Option Addr} {n : Nat} {s : Gr} (h : IsGr w A n s) {k : Nat} (hk : k < n) : ∃ b o, A = some ⟨b, o, none⟩ ∧ b < w.heap.size ∧ ∃ B m c, w.cell? ⟨b, o + k, none⟩ = some (.slice B m c) ∧ IsInts w B m (nn (nx s k)) := by
  obtain ⟨h1, _, h2 | ⟨b, o, e, hb, hc⟩⟩ := h
  · subst h2; simp at h1; omega
  · exact ⟨b, o, e, hb, hc k (by omega)⟩
theorem IsGr.below {w w' : World} {A : Option Addr} {n : Nat} {s : Gr} (h : IsGr w A n s) (hb : Below w.heap.size w w') : IsGr w' A n s := by
  obtain ⟨h1, hm, h | ⟨b, o, e, hlt, hc⟩⟩ := h
  · exact ⟨h1, hm, .inl h⟩
  · refine ⟨h1, hm, .inr ⟨b, o, e, Nat.lt_of_lt_of_le hlt hb.size, fun k hk => ?_⟩⟩
    obtain ⟨B, m, c, c0, c1⟩ := hc k hk
    exact ⟨B, m, c, (hb.cell hlt).trans c0, c1.below hb⟩
theorem OwnL.gr {T : TypeId} {N : Nat} {w : World} {A : Option Addr} {c : Nat} {l : List Il} (h : OwnL T 1 ilC N w A c l) (he : ∀ x ∈ l, IsIl w x) : IsGr w A l.length (l.map (·.l)) := by
  obtain ⟨h1, h2⟩ := h.form (fun x => rfl)
  refine ⟨by simp, h1, h2.imp (by rintro rfl; rfl) ?_⟩
  rintro ⟨g, rfl, _, h3, h4⟩
  refine ⟨g, 0, rfl, h3, fun k hk => ?_⟩
  have hk2 : k < l.length := by simpa using hk
  have c0 := h4 k 0 hk2 (by decide)
  rw [Nat.mul_one, Nat.add_zero] at c0
  refine ⟨l[k].A, l[k].n, l[k].c, by rw [Nat.zero_add, c0]; rfl, ?_⟩
  have e : nx (l.map (·.l)) k = l[k].l := by
    unfold nx
    rw [List.getD_eq_getElem?_getD, List.getElem?_map, List.getElem?_eq_getElem hk2]
    rfl
  rw [e]
  exact he _ (List.getElem_mem hk2)
theorem gIl : MRow 37 31 1 ilC := ⟨Try.underlying31, minfo (z := .slice none 0 0) (by kernel_rfl) rfl, by decide, fun x => rfl, fun x u hu => by simp [ilC] at hu; rw [hu]; rfl⟩
end Go.Proofs.Ytojfbcfbnadboaa.Gra
