/- Heaps as lists: the library's up and down by their invariants, what comes first, and what is left. Plain: no program is read. -/
namespace Go.Proofs.Ythnpjaklcebgfaa
set_option linter.unusedVariables false

/-- An item: key and value. -/
abbrev It := Int × Int
/-- The one comes ahead of the other. -/
def bef (a b : It) : Prop := b.1 < a.1 ∨ (a.1 = b.1 ∧ a.2 < b.2)
instance (a b : It) : Decidable (bef a b) := by unfold bef; infer_instance
theorem bef_self (a : It) : ¬bef a a := by unfold bef; omega
theorem bef_not {a b : It} (h : bef a b) : ¬bef b a := by unfold bef at *; omega
theorem nbef_trans {a b c : It} (h : ¬bef b a) (k : ¬bef c b) : ¬bef c a := by unfold bef at *; omega
theorem nbef_eq {a b : It} (h : ¬bef b a) (k : ¬bef a b) : a = b := by
  unfold bef at *
  exact Prod.ext (by omega) (by omega)

/-- What stands at a place. -/
def ia (l : List It) (k : Nat) : It := l.getD k (0, 0)
theorem ia_eq {l : List It} {k : Nat} (h : k < l.length) : ia l k = l[k] := by simp [ia, List.getD, h]
theorem ia_mem {l : List It} {k : Nat} (h : k < l.length) : ia l k ∈ l := by rw [ia_eq h]; exact List.getElem_mem h
theorem ia_set {l : List It} {i : Nat} (x : It) (h : i < l.length) (k : Nat) : ia (l.set i x) k = if k = i then x else ia l k := by
  unfold ia
  simp only [List.getD, List.getElem?_set]
  by_cases hk : k = i
  · subst hk; simp [h]
  · rw [if_neg (fun e => hk e.symm), if_neg hk]
theorem ia_append {l m : List It} {k : Nat} (h : k < l.length) : ia (l ++ m) k = ia l k := by
  simp [ia, List.getD, List.getElem?_append_left h]
theorem ia_last (l : List It) (x : It) : ia (l ++ [x]) l.length = x := by simp [ia, List.getD]
theorem ia_take {l : List It} {n k : Nat} (h : k < n) : ia (l.take n) k = ia l k := by
  simp [ia, List.getD, h]

/-- Two change places. -/
def swp (l : List It) (i j : Nat) : List It := (l.set i (ia l j)).set j (ia l i)
theorem swp_length (l : List It) (i j : Nat) : (swp l i j).length = l.length := by simp [swp]
theorem ia_swp {l : List It} {i j : Nat} (hi : i < l.length) (hj : j < l.length) (k : Nat) : ia (swp l i j) k = if k = j then ia l i else if k = i then ia l j else ia l k := by
  unfold swp
  rw [ia_set _ (by simpa using hj), ia_set _ hi]
theorem swp_perm {l : List It} {i j : Nat} (hi : i < l.length) (hj : j < l.length) : (swp l i j).Perm l := by
  unfold swp
  rw [ia_eq hi, ia_eq hj]
  exact List.set_set_perm hi hj

/-- The place above. -/
def par (k : Nat) : Nat := (k - 1) / 2
theorem par_iff {k i : Nat} (h : 0 < k) : par k = i ↔ k = 2 * i + 1 ∨ k = 2 * i + 2 := by unfold par; omega
theorem par_lt {k : Nat} (h : 0 < k) : par k < k := by unfold par; omega

/-- From lo on none stands ahead of the one above it. -/
def Hp (l : List It) (n lo : Nat) : Prop := ∀ k, 0 < k → k < n → lo ≤ par k → ¬bef (ia l k) (ia l (par k))
/-- .. but for what hangs on i (going down); and, where m is so, for i itself. -/
def DnI (m : Prop) (l : List It) (n lo i : Nat) : Prop :=
  (∀ k, 0 < k → k < n → lo ≤ par k → (m → k ≠ i) → par k ≠ i → ¬bef (ia l k) (ia l (par k))) ∧
  (∀ k, 0 < k → k < n → par k = i → 0 < i → lo ≤ par i → ¬bef (ia l k) (ia l (par i)))
/-- .. but for i (going up). -/
def UpI (l : List It) (n i : Nat) : Prop :=
  (∀ k, 0 < k → k < n → k ≠ i → ¬bef (ia l k) (ia l (par k))) ∧
  (∀ k, 0 < k → k < n → par k = i → 0 < i → ¬bef (ia l k) (ia l (par i)))

theorem DnI.step {m : Prop} {l : List It} {n lo i j : Nat} (h : DnI m l n lo i) (hn : n ≤ l.length) (hj : j < n) (hj0 : 0 < j) (hp : par j = i) (hb : bef (ia l j) (ia l i))
    (ho : ∀ k, 0 < k → k < n → par k = i → ¬bef (ia l k) (ia l j)) : DnI False (swp l i j) n lo j := by
  have hij : i < j := hp ▸ par_lt hj0
  have hi : i < l.length := by omega
  have hj' : j < l.length := by omega
  obtain ⟨h1, h2⟩ := h
  refine ⟨fun k k0 kn klo _ kj => ?_, fun k k0 kn kp _ _ => ?_⟩
  · have hpk := par_lt k0
    rw [ia_swp hi hj', ia_swp hi hj']
    by_cases e : k = j
    · subst e
      rw [if_pos rfl, hp, if_neg (by omega), if_pos rfl]
      exact bef_not hb
    · rw [if_neg e, if_neg kj]
      by_cases e2 : k = i
      · subst e2
        rw [if_pos rfl, if_neg (by omega)]
        exact h2 j hj0 hj hp k0 klo
      · rw [if_neg e2]
        by_cases e3 : par k = i
        · rw [if_pos e3]
          exact ho k k0 kn e3
        · rw [if_neg e3]
          exact h1 k k0 kn klo (fun _ => e2) e3
  · have hpk := par_lt k0
    rw [ia_swp hi hj', ia_swp hi hj', if_neg (by omega), if_neg (by omega), if_neg (by omega), hp, if_pos rfl]
    have := h1 k k0 kn (by omega) (fun _ => by omega) (by omega)
    rwa [kp] at this

theorem DnI.done {m : Prop} {l : List It} {n lo i : Nat} (h : DnI m l n lo i) (hc : ∀ k, 0 < k → k < n → par k = i → ¬bef (ia l k) (ia l i)) (hm : m → i = 0 ∨ par i < lo) : Hp l n lo := by
  intro k k0 kn klo
  by_cases e : par k = i
  · rw [e]; exact hc k k0 kn e
  · refine h.1 k k0 kn klo (fun hm' ek => ?_) e
    subst ek
    rcases hm hm' with h0 | h0 <;> omega

theorem DnI.up {m : Prop} {l : List It} {n i : Nat} (h : DnI m l n 0 i) (hc : ∀ k, 0 < k → k < n → par k = i → ¬bef (ia l k) (ia l i)) : UpI l n i := by
  refine ⟨fun k k0 kn ki => ?_, fun k k0 kn kp i0 => h.2 k k0 kn kp i0 (Nat.zero_le _)⟩
  by_cases e : par k = i
  · rw [e]; exact hc k k0 kn e
  · exact h.1 k k0 kn (Nat.zero_le _) (fun _ => ki) e

theorem UpI.step {l : List It} {n i : Nat} (h : UpI l n i) (hn : n ≤ l.length) (hi : i < n) (i0 : 0 < i) (hb : bef (ia l i) (ia l (par i))) : UpI (swp l (par i) i) n (par i) := by
  obtain ⟨h1, h2⟩ := h
  have hp := par_lt i0
  have hi' : i < l.length := by omega
  have hp' : par i < l.length := by omega
  refine ⟨fun k k0 kn kp => ?_, fun k k0 kn kp p0 => ?_⟩
  · have hpk := par_lt k0
    rw [ia_swp hp' hi', ia_swp hp' hi']
    by_cases e : k = i
    · subst e
      rw [if_pos rfl, if_neg (by omega), if_pos rfl]
      exact bef_not hb
    · rw [if_neg e, if_neg kp]
      by_cases e2 : par k = i
      · rw [if_pos e2]
        exact h2 k k0 kn e2 i0
      · rw [if_neg e2]
        by_cases e3 : par k = par i
        · rw [if_pos e3]
          have := h1 k k0 kn e
          rw [e3] at this
          exact nbef_trans (bef_not hb) this
        · rw [if_neg e3]
          exact h1 k k0 kn e
  · have hpp := par_lt p0
    have hpk := par_lt k0
    rw [ia_swp hp' hi', ia_swp hp' hi', if_neg (show par (par i) ≠ i by omega), if_neg (show par (par i) ≠ par i by omega)]
    have hpar := h1 (par i) p0 (by omega) (by omega)
    by_cases e : k = i
    · rw [if_pos e]; exact hpar
    · rw [if_neg e, if_neg (by omega)]
      have := h1 k k0 kn e
      rw [kp] at this
      exact nbef_trans hpar this

theorem UpI.done {l : List It} {n i : Nat} (h : UpI l n i) (hc : i = 0 ∨ ¬bef (ia l i) (ia l (par i))) : Hp l n 0 := by
  intro k k0 kn _
  by_cases e : k = i
  · subst e
    rcases hc with h0 | h0
    · omega
    · exact h0
  · exact h.1 k k0 kn e

theorem Hp.root {l : List It} {n : Nat} (h : Hp l n 0) : ∀ k, k < n → ¬bef (ia l k) (ia l 0) := by
  intro k
  induction k using Nat.strongRecOn with
  | ind k ih =>
    intro kn
    by_cases k0 : k = 0
    · subst k0; exact bef_self _
    · have hp := par_lt (Nat.pos_of_ne_zero k0)
      exact nbef_trans (ih (par k) hp (by omega)) (h k (Nat.pos_of_ne_zero k0) kn (Nat.zero_le _))
theorem Hp.mem {l : List It} (h : Hp l l.length 0) {x : It} (hx : x ∈ l) : ¬bef x (ia l 0) := by
  obtain ⟨k, hk, rfl⟩ := List.getElem_of_mem hx
  rw [← ia_eq hk]
  exact h.root k hk

theorem Hp.same {l m : List It} {n lo : Nat} (h : Hp l n lo) (e : ∀ k, k < n → ia m k = ia l k) : Hp m n lo := by
  intro k k0 kn klo
  rw [e k kn, e _ (Nat.lt_trans (par_lt k0) kn)]
  exact h k k0 kn klo
/-- Push, ahead of up. -/
theorem Hp.push {l : List It} (h : Hp l l.length 0) (x : It) : UpI (l ++ [x]) (l.length + 1) l.length := by
  refine ⟨fun k k0 kn kl => ?_, fun k k0 kn kp _ => ?_⟩
  · have hp := par_lt k0
    rw [ia_append (by omega), ia_append (by omega)]
    exact h k k0 (by omega) (Nat.zero_le _)
  · have hp := par_lt k0
    omega
/-- Init's beginning. -/
theorem Hp.none (l : List It) (n lo : Nat) (h : n / 2 ≤ lo) : Hp l n lo := by
  intro k k0 kn klo
  unfold par at klo
  omega
/-- Init's next. -/
theorem Hp.start {l : List It} {n i : Nat} (h : Hp l n (i + 1)) : DnI True l n i i :=
  ⟨fun k k0 kn klo _ kp => h k k0 kn (by omega), fun k k0 kn kp i0 hl => by have := par_lt i0; omega⟩
/-- Pop, behind its change of places. -/
theorem Hp.pop {l : List It} {n : Nat} (h : Hp l (n + 1) 0) (hl : l.length = n + 1) : DnI True (swp l 0 n) n 0 0 := by
  refine ⟨fun k k0 kn _ _ kp => ?_, fun k _ _ _ h0 _ => by omega⟩
  have hp := par_lt k0
  rw [ia_swp (by omega) (by omega), ia_swp (by omega) (by omega), if_neg (by omega), if_neg (by omega), if_neg (by omega), if_neg kp]
  exact h k k0 (by omega) (Nat.zero_le _)
/-- One is changed: what Fix finds. -/
theorem Hp.fix {l : List It} {n i : Nat} (h : Hp l n 0) (hn : n ≤ l.length) (hi : i < n) (x : It) : DnI True (l.set i x) n 0 i := by
  have hi' : i < l.length := by omega
  refine ⟨fun k k0 kn _ ki kp => ?_, fun k k0 kn kp i0 _ => ?_⟩
  · rw [ia_set _ hi', ia_set _ hi', if_neg (ki trivial), if_neg kp]
    exact h k k0 kn (Nat.zero_le _)
  · have hp := par_lt i0
    have hk := par_lt k0
    rw [ia_set _ hi', ia_set _ hi', if_neg (by omega), if_neg (by omega)]
    have a := h k k0 kn (Nat.zero_le _)
    rw [kp] at a
    exact nbef_trans (h i i0 hi (Nat.zero_le _)) a

/-- The one at k comes first of all (as the document finds it). -/
def Fst (x : List It) (k : Nat) : Prop := k < x.length ∧ ∀ j, j < x.length → ¬bef (ia x j) (ia x k)
theorem Fst.eq {l x : List It} {k : Nat} (h : Fst x k) (hp : Hp l l.length 0) (hq : l.Perm x) : ia l 0 = ia x k := by
  have hl : 0 < l.length := by rw [hq.length_eq]; exact Nat.lt_of_le_of_lt (Nat.zero_le _) h.1
  refine nbef_eq (hp.mem (hq.mem_iff.2 (ia_mem h.1))) ?_
  obtain ⟨j, hj, e⟩ := List.getElem_of_mem (hq.mem_iff.1 (ia_mem hl))
  have := h.2 j hj
  rwa [ia_eq hj, e] at this
theorem perm_erase {x : List It} {k : Nat} (h : k < x.length) : x.Perm (ia x k :: x.eraseIdx k) := by
  rw [ia_eq h]
  induction x generalizing k with
  | nil => exact absurd h (Nat.not_lt_zero _)
  | cons a x ih =>
    cases k with
    | zero => exact List.Perm.refl _
    | succ k =>
      simp only [List.length_cons, Nat.add_lt_add_iff_right] at h
      simpa using ((ih h).cons a).trans (List.Perm.swap _ _ _)
/-- What is left behind a Pop: l' the list behind down, its last the first one of l. -/
theorem pop_left {l l' x : List It} {k n : Nat} (h : Fst x k) (hp : Hp l l.length 0) (hq : l.Perm x) (hl : l.length = n + 1) (hq' : l'.Perm l) (hlast : ia l' n = ia l 0) :
    (l'.take n).Perm (x.eraseIdx k) := by
  have hn : l'.length = n + 1 := by rw [hq'.length_eq, hl]
  have e : l'.Perm (ia l' n :: l'.take n) := by
    have e1 : l' = l'.take n ++ [ia l' n] := by
      rw [ia_eq (by omega)]
      conv => lhs; rw [← List.take_append_drop n l']
      rw [List.drop_eq_getElem_cons (by omega), List.drop_eq_nil_of_le (by omega)]
    conv => lhs; rw [e1]
    exact List.perm_append_comm
  have e2 : (ia l' n :: l'.take n).Perm (ia x k :: x.eraseIdx k) := e.symm.trans (hq'.trans (hq.trans (perm_erase h.1)))
  rw [hlast, h.eq hp hq] at e2
  exact e2.cons_inv
/-- Of a value, another key. -/
def chg (v key : Int) (a : It) : It := if a.2 = v then (key, a.2) else a
theorem chg_perm {l x : List It} (h : l.Perm x) (v key : Int) : (l.map (chg v key)).Perm (x.map (chg v key)) := h.map _
theorem cnt_perm {l x : List It} (h : l.Perm x) (v : Int) : l.countP (fun a => decide (a.2 = v)) = x.countP (fun a => decide (a.2 = v)) := h.countP_eq _

/-- In order. -/
def Srt (l : List It) : Prop := ∀ i j, i < j → j < l.length → ¬bef (ia l j) (ia l i)
/-- What is drained so far, and what still waits. -/
def Drn (l out rest : List It) : Prop := (out ++ rest).Perm l ∧ Srt out ∧ ∀ a ∈ out, ∀ b ∈ rest, ¬bef b a
theorem Drn.start (l rest : List It) (h : rest.Perm l) : Drn l [] rest := ⟨h, fun i j _ hj => absurd hj (Nat.not_lt_zero _), fun a ha => by cases ha⟩
theorem Drn.next {l out rest rest' : List It} {y : It} (h : Drn l out rest) (hp : rest.Perm (y :: rest')) (hy : ∀ b ∈ rest, ¬bef b y) : Drn l (out ++ [y]) rest' := by
  obtain ⟨h1, h2, h3⟩ := h
  have ym : y ∈ rest := hp.mem_iff.2 (List.mem_cons_self ..)
  refine ⟨?_, fun i j hij hj => ?_, fun a ha b hb => ?_⟩
  · rw [List.append_assoc]
    exact (List.Perm.append_left out hp.symm).trans h1
  · rw [List.length_append, List.length_singleton] at hj
    by_cases e : j = out.length
    · subst e
      rw [ia_last, ia_append hij]
      exact h3 _ (ia_mem hij) _ ym
    · rw [ia_append (by omega), ia_append (by omega)]
      exact h2 i j hij (by omega)
  · have hb' : b ∈ rest := hp.mem_iff.2 (List.mem_cons_of_mem _ hb)
    rcases List.mem_append.1 ha with ha | ha
    · exact h3 a ha b hb'
    · rw [List.mem_singleton] at ha
      subst ha
      exact hy b hb'

/-- How the document looks for the first one: i places are gone through, best is the place of the first one of them. -/
def FstI (x : List It) (i : Nat) (best : Int) : Prop := (i = 0 ∧ best = -1) ∨ ∃ k : Nat, k < i ∧ best = k ∧ ∀ j, j < i → ¬bef (ia x j) (ia x k)
theorem FstI.take {x : List It} {i : Nat} {best : Int} (h : FstI x i best) (hb : best < 0 ∨ ∃ k : Nat, best = k ∧ bef (ia x i) (ia x k)) : FstI x (i + 1) i := by
  refine .inr ⟨i, Nat.lt_succ_self i, rfl, fun j hj => ?_⟩
  by_cases e : j = i
  · subst e; exact bef_self _
  · rcases h with ⟨rfl, rfl⟩ | ⟨k, hk, rfl, ho⟩
    · omega
    · rcases hb with hb | ⟨k', ek, hb⟩
      · omega
      · obtain rfl : k = k' := by omega
        exact nbef_trans (bef_not hb) (ho j (by omega))
theorem FstI.leave {x : List It} {i k : Nat} (h : FstI x i k) (hb : ¬bef (ia x i) (ia x k)) : FstI x (i + 1) k := by
  rcases h with ⟨_, h⟩ | ⟨k', hk, e, ho⟩
  · omega
  · obtain rfl : k = k' := by omega
    refine .inr ⟨k, by omega, rfl, fun j hj => ?_⟩
    by_cases e : j = i
    · subst e; exact hb
    · exact ho j (by omega)
theorem FstI.done {x : List It} {best : Int} (h : FstI x x.length best) : (x = [] ∧ best = -1) ∨ ∃ k : Nat, best = k ∧ Fst x k := by
  rcases h with ⟨h, e⟩ | ⟨k, hk, e, ho⟩
  · exact .inl ⟨List.eq_nil_of_length_eq_zero h, e⟩
  · exact .inr ⟨k, e, hk, ho⟩

/-- How often, so far. -/
theorem cnt_take {l : List It} {k : Nat} (x : It) (h : k < l.length) : (l.take (k + 1)).count x = (l.take k).count x + if ia l k = x then 1 else 0 := by
  rw [List.take_succ_eq_append_getElem h, List.count_append, ia_eq h]
  congr 1
  by_cases e : l[k] = x
  · simp [e]
  · simp [e]
theorem cnt_all {l m : List It} (h : l.Perm m) (x : It) : l.count x = m.count x := h.count_eq x
end Go.Proofs.Ythnpjaklcebgfaa
