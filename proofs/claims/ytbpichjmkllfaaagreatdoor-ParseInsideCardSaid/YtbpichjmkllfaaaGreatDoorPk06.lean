/- What is wrong, if what stands behind is cut off: it is wrong at its end, or right. -/
import Derived.Test.YtbpichjmkllfaaaGreatDoorPk05
namespace Go.Proofs.YtbpichjmkllfaaaGreatDoor.Par
open Lex (Tok)
set_option linter.unusedVariables false
set_option maxRecDepth 20000

theorem isT_end {e : Tok} (h : e.kind = 0) (s : List UInt8) : Fol.isT e s = false := by
  unfold Fol.isT; simp [h]
/-- How a reading behaves at a list, and where that is cut off. -/
structure TrAt {α : Type} (f : List Tok → Res α) (l : List Tok) : Prop where
  bad : ∀ p, f l = .bad 20 p → ∃ u t v, l = u ++ t :: v ∧ p = t.at_ ∧ ∀ e : Tok, e.kind = 0 → f (u ++ [e]) = .bad 20 e.at_
  ok : ∀ a r, f l = .ok a r → ∃ w, l = w ++ r ∧ ∀ u t v, r = u ++ t :: v → ∀ e : Tok, e.kind = 0 → f (w ++ (u ++ [e])) = .ok a (u ++ [e]) ∨ f (w ++ (u ++ [e])) = .bad 20 e.at_
theorem TrAt.congr {α : Type} {f g : List Tok → Res α} {l : List Tok} (h : TrAt f l) (e : ∀ l, g l = f l) : TrAt g l := by
  have : g = f := funext e
  rw [this]; exact h
theorem TrAt.bind {α β : Type} {x : List Tok → Res α} {f : α → List Tok → Res β} {l : List Tok} (h : TrAt x l) (k : ∀ a r, x l = .ok a r → TrAt (f a) r) : TrAt (fun l => (x l).bind f) l := by
  constructor
  · intro p hp
    cases hx : x l with
    | bad c q =>
      simp only [hx, Res.bind] at hp
      injection hp with h1 h2
      subst h1; subst h2
      obtain ⟨u, t, v, e1, e2, e3⟩ := h.bad _ hx
      exact ⟨u, t, v, e1, e2, fun e he => by simp only [e3 e he, Res.bind]⟩
    | ok a r =>
      simp only [hx, Res.bind] at hp
      obtain ⟨u, t, v, e1, e2, e3⟩ := (k a r hx).bad _ hp
      obtain ⟨w, e4, e5⟩ := h.ok a r hx
      refine ⟨w ++ u, t, v, by rw [e4, e1]; simp, e2, fun e he => ?_⟩
      rw [List.append_assoc]
      rcases e5 u t v e1 e he with h6 | h6
      · simp only [h6, Res.bind]; exact e3 e he
      · simp only [h6, Res.bind]
  · intro b r hb
    cases hx : x l with
    | bad c q => simp only [hx, Res.bind] at hb; cases hb
    | ok a r1 =>
      simp only [hx, Res.bind] at hb
      obtain ⟨w2, e1, e2⟩ := (k a r1 hx).ok b r hb
      obtain ⟨w1, e3, e4⟩ := h.ok a r1 hx
      refine ⟨w1 ++ w2, by rw [e3, e1]; simp, fun u t v hr e he => ?_⟩
      have e5 := e4 (w2 ++ u) t v (by rw [e1, hr]; simp) e he
      have e6 : w1 ++ w2 ++ (u ++ [e]) = w1 ++ ((w2 ++ u) ++ [e]) := by simp
      rw [e6]
      rcases e5 with h6 | h6
      · simp only [h6, Res.bind]
        rw [List.append_assoc]
        exact e2 u t v hr e he
      · right; simp only [h6, Res.bind]
theorem TrAt.pure {α : Type} (a : α) (l : List Tok) : TrAt (fun l => .ok a l) l := by
  constructor
  · intro p h
    cases h
  · intro b r h
    injection h with h1 h2
    subst h1
    subst h2
    exact ⟨[], rfl, fun u t v hr e he => .inl rfl⟩
theorem TrAt.err {α : Type} {l : List Tok} (h : Ends l) : TrAt (α := α) err l := by
  constructor
  · intro p hp
    cases l with
    | nil => exact absurd rfl h.ne
    | cons t v =>
      injection hp with _ hp
      exact ⟨[], t, v, rfl, hp.symm, fun e he => rfl⟩
  · intro a r h; cases h
/-- By the next one. -/
def headIte {α : Type} (c : Tok → Bool) (A : Tok → List Tok → Res α) (B : List Tok → Res α) (l : List Tok) : Res α :=
  match l with
  | [] => B []
  | t :: r => if c t = true then A t r else B (t :: r)
theorem TrAt.head {α : Type} {c : Tok → Bool} {A : Tok → List Tok → Res α} {B : List Tok → Res α} {l : List Tok} (hc : ∀ e : Tok, e.kind = 0 → c e = false)
    (hA : ∀ t r, l = t :: r → c t = true → TrAt (A t) r) (hB : TrAt B l) : TrAt (headIte c A B) l := by
  have hend : ∀ e : Tok, e.kind = 0 → headIte c A B [e] = B [e] := fun e he => by unfold headIte; simp [hc e he]
  cases l with
  | nil =>
    constructor
    · intro p hp
      obtain ⟨u, t, v, e1, _⟩ := hB.bad p hp
      simp at e1
    · intro a r h
      obtain ⟨w, e1, e2⟩ := hB.ok a r h
      have hw : w = [] ∧ r = [] := by simpa using e1.symm
      obtain ⟨rfl, rfl⟩ := hw
      exact ⟨[], rfl, fun u t v hr => by simp at hr⟩
  | cons t r0 =>
    cases hct : c t with
    | true =>
      have heq : ∀ r, headIte c A B (t :: r) = A t r := fun r => by unfold headIte; simp [hct]
      have g := hA t r0 rfl hct
      constructor
      · intro p hp
        rw [heq] at hp
        obtain ⟨u, t', v, e1, e2, e3⟩ := g.bad p hp
        exact ⟨t :: u, t', v, by rw [e1]; rfl, e2, fun e he => by rw [List.cons_append, heq]; exact e3 e he⟩
      · intro a r h
        rw [heq] at h
        obtain ⟨w, e1, e2⟩ := g.ok a r h
        exact ⟨t :: w, by rw [e1]; rfl, fun u t' v hr e he => by rw [List.cons_append, heq]; exact e2 u t' v hr e he⟩
    | false =>
      have heq : ∀ r, headIte c A B (t :: r) = B (t :: r) := fun r => by unfold headIte; simp [hct]
      constructor
      · intro p hp
        rw [heq] at hp
        obtain ⟨u, t', v, e1, e2, e3⟩ := hB.bad p hp
        refine ⟨u, t', v, e1, e2, fun e he => ?_⟩
        cases u with
        | nil => exact (hend e he).trans (e3 e he)
        | cons x u =>
          injection e1 with h1 h2
          subst h1
          rw [List.cons_append, heq]; exact e3 e he
      · intro a r h
        rw [heq] at h
        obtain ⟨w, e1, e2⟩ := hB.ok a r h
        refine ⟨w, e1, fun u t' v hr e he => ?_⟩
        have e3 := e2 u t' v hr e he
        have : headIte c A B (w ++ (u ++ [e])) = B (w ++ (u ++ [e])) := by
          cases w with
          | nil =>
            cases u with
            | nil => exact hend e he
            | cons x u =>
              rw [hr] at e1
              injection e1 with h1 h2
              subst h1
              exact heq _
          | cons x w =>
            injection e1 with h1 h2
            subst h1
            exact heq _
        rw [this]; exact e3
/-- By the next two, both of which are read. -/
def twoIte {α : Type} (c : Tok → Tok → Bool) (A : Tok → Tok → List Tok → Res α) (B : List Tok → Res α) (l : List Tok) : Res α :=
  match l with
  | t :: s :: r => if c t s = true then A t s r else B (t :: s :: r)
  | l => B l
theorem twoIte_short {α : Type} {c : Tok → Tok → Bool} {A : Tok → Tok → List Tok → Res α} {B : List Tok → Res α} {l : List Tok} (h : l.length < 2) : twoIte c A B l = B l := by
  match l, h with
  | [], _ => rfl
  | [t], _ => rfl
theorem TrAt.two {α : Type} {c : Tok → Tok → Bool} {A : Tok → Tok → List Tok → Res α} {B : List Tok → Res α} {l : List Tok} (hc : ∀ t e : Tok, e.kind = 0 → c t e = false)
    (hA : ∀ t s r, l = t :: s :: r → c t s = true → TrAt (A t s) r) (hB : TrAt B l) : TrAt (twoIte c A B) l := by
  have cutB : (∀ t s r, l = t :: s :: r → c t s = false) → ∀ u t v, l = u ++ t :: v → ∀ e : Tok, e.kind = 0 → twoIte c A B (u ++ [e]) = B (u ++ [e]) := by
    intro hn u t v hl e he
    match u, hl with
    | [], _ => exact twoIte_short (by simp)
    | [x], _ =>
      show (if c x e = true then A x e [] else B [x, e]) = _
      rw [hc x e he, if_neg (by decide)]; rfl
    | x :: y :: u, hl =>
      show (if c x y = true then A x y (u ++ [e]) else B (x :: y :: (u ++ [e]))) = _
      rw [hn x y (u ++ t :: v) hl, if_neg (by decide)]; rfl
  by_cases hT : ∃ t s r, l = t :: s :: r ∧ c t s = true
  · obtain ⟨t, s, r0, rfl, hct⟩ := hT
    have heq : ∀ r, twoIte c A B (t :: s :: r) = A t s r := fun r => by unfold twoIte; simp [hct]
    have g := hA t s r0 rfl hct
    constructor
    · intro p hp
      rw [heq] at hp
      obtain ⟨u, t', v, e1, e2, e3⟩ := g.bad p hp
      exact ⟨t :: s :: u, t', v, by rw [e1]; rfl, e2, fun e he => by rw [List.cons_append, List.cons_append, heq]; exact e3 e he⟩
    · intro a r h
      rw [heq] at h
      obtain ⟨w, e1, e2⟩ := g.ok a r h
      exact ⟨t :: s :: w, by rw [e1]; rfl, fun u t' v hr e he => by rw [List.cons_append, List.cons_append, heq]; exact e2 u t' v hr e he⟩
  · have hn : ∀ t s r, l = t :: s :: r → c t s = false := fun t s r e => by
      cases h : c t s with
      | false => rfl
      | true => exact absurd ⟨t, s, r, e, h⟩ hT
    have hl : twoIte c A B l = B l := by
      match l, hn with
      | [], _ => rfl
      | [t], _ => rfl
      | t :: s :: r, hn =>
        show (if c t s = true then A t s r else B (t :: s :: r)) = _
        rw [hn t s r rfl, if_neg (by decide)]
    constructor
    · intro p hp
      rw [hl] at hp
      obtain ⟨u, t', v, e1, e2, e3⟩ := hB.bad p hp
      exact ⟨u, t', v, e1, e2, fun e he => (cutB hn u t' v e1 e he).trans (e3 e he)⟩
    · intro a r h
      rw [hl] at h
      obtain ⟨w, e1, e2⟩ := hB.ok a r h
      refine ⟨w, e1, fun u t' v hr e he => ?_⟩
      have e4 := cutB hn (w ++ u) t' v (by rw [e1, hr]; simp) e he
      rw [List.append_assoc] at e4
      rw [e4]
      exact e2 u t' v hr e he
/-! The readings, one by one. -/
theorem tr_must (s : List UInt8) {l : List Tok} (hl : Ends l) : TrAt (must s) l :=
  (TrAt.head (c := fun t => Fol.isT t s) (A := fun _ r => .ok () r) (B := err) (fun e he => isT_end he s) (fun t r _ _ => TrAt.pure () r) (TrAt.err hl)).congr fun l => by
    cases l with
    | nil => rfl
    | cons t r => rfl
theorem tr_ofk (k : Nat) (hk : k ≠ 0) {l : List Tok} (hl : Ends l) : TrAt (ofk k) l :=
  (TrAt.head (c := fun t => decide (t.kind = k)) (A := fun t r => .ok t r) (B := err) (fun e he => by simp [he]; omega) (fun t r _ _ => TrAt.pure t r) (TrAt.err hl)).congr fun l => by
    cases l with
    | nil => rfl
    | cons t r => simp [ofk, headIte]
/-- A list cut off. -/
theorem cut_get {l : List Tok} {b a : Nat} {t e : Tok} (h : l[a]? = some t) (hab : a < b) (hb : b ≤ l.length) : (l.take b ++ [e])[a]? = some t := by
  rw [List.getElem?_append_left (by rw [List.length_take]; omega), List.getElem?_take, if_pos hab, h]
theorem cut_at {l : List Tok} {b : Nat} {e : Tok} (hb : b ≤ l.length) : (l.take b ++ [e])[b]? = some e := by
  rw [List.getElem?_append_right (by rw [List.length_take]; omega), List.length_take]
  have : b - min b l.length = 0 := by omega
  rw [this]; rfl
theorem numT_end {e : Tok} (h : e.kind = 0) (m : Bool) : Fol.numT e m = (0, 20) := by unfold Fol.numT; simp [h]
theorem mach_fac_eq (l : List Tok) (k a : Nat) (stk : List Fol.Opn) (t0 : Tok) (h0 : l[a]? = some t0) (p : Nat) (hp : (if Fol.isT t0 [45] = true then a + 1 else a) = p) (t : Tok) (ht : l[p]? = some t) :
    Fol.mach l (k + 1) .fac a stk = (if Fol.isT t [40] = true then (if Fol.mayT stk.length (Fol.isT t0 [45]) = 0 then Fol.mach l k .fac (p + 1) (Fol.opened (Fol.isT t0 [45]) :: stk) else some (.bad (Fol.mayT stk.length (Fol.isT t0 [45])) t.at_))
      else if (Fol.numT t (Fol.isT t0 [45])).2 = 0 then Fol.mach l k (.beh (Fol.numT t (Fol.isT t0 [45])).1) (p + 1) stk else some (.bad (Fol.numT t (Fol.isT t0 [45])).2 t.at_)) := by
  rw [Fol.mach, h0]
  simp only
  rw [hp, ht]
theorem mach_cut (l : List Tok) : ∀ (k : Nat) (md : Fol.Mode) (a : Nat) (stk : List Fol.Opn) (R : Fol.Res), Fol.mach l k md a stk = some R → a ≤ l.length →
    (∀ n b, R = .val n b → ∀ c, b ≤ c → c ≤ l.length → ∀ e : Tok, Fol.mach (l.take c ++ [e]) k md a stk = some (.val n b)) ∧
    (∀ q, R = .bad 20 q → ∃ b t, a ≤ b ∧ l[b]? = some t ∧ q = t.at_ ∧ ∀ e : Tok, e.kind = 0 → Fol.mach (l.take b ++ [e]) k md a stk = some (.bad 20 e.at_)) := by
  intro k
  induction k with
  | zero => intro md a stk R h; cases md <;> cases h
  | succ k ih =>
    intro md a stk R h ha
    cases md with
    | fac =>
      obtain ⟨t0, t, h0, hc⟩ := Fol.mach_fac h
      have hal := (List.getElem?_eq_some_iff.1 h0).1
      obtain ⟨m, p, hm, hp, ht, hf⟩ : ∃ m p, Fol.isT t0 [45] = m ∧ (if m = true then a + 1 else a) = p ∧ l[p]? = some t ∧ Fol.FacP l k a stk R m p t := by
        rcases hc with ⟨h1, h2, h3⟩ | ⟨h1, h2, h3⟩
        · exact ⟨true, a + 1, h1, rfl, h2, h3⟩
        · exact ⟨false, a, h1, rfl, h2, h3⟩
      have hap : a ≤ p := by rw [← hp]; split <;> omega
      have hpl := (List.getElem?_eq_some_iff.1 ht).1
      have same : ∀ (b : Nat), p < b → b ≤ l.length → ∀ e, Fol.mach (l.take b ++ [e]) (k + 1) .fac a stk = (if Fol.isT t [40] = true then (if Fol.mayT stk.length m = 0 then Fol.mach (l.take b ++ [e]) k .fac (p + 1) (Fol.opened m :: stk) else some (.bad (Fol.mayT stk.length m) t.at_))
          else if (Fol.numT t m).2 = 0 then Fol.mach (l.take b ++ [e]) k (.beh (Fol.numT t m).1) (p + 1) stk else some (.bad (Fol.numT t m).2 t.at_)) := by
        intro b hb1 hb2 e
        have := mach_fac_eq (l.take b ++ [e]) k a stk t0 (cut_get h0 (by omega) hb2) p (by rw [hm]; exact hp) t (cut_get ht hb1 hb2)
        rw [hm] at this
        exact this
      have cutoff : ∀ e : Tok, e.kind = 0 → Fol.mach (l.take p ++ [e]) (k + 1) .fac a stk = some (.bad 20 e.at_) := by
        intro e he
        cases m with
        | true =>
          have e1 : p = a + 1 := hp.symm
          have := mach_fac_eq (l.take p ++ [e]) k a stk t0 (cut_get h0 (by omega) (by omega)) p (by rw [hm]; exact hp) e (cut_at (by omega))
          rw [this, isT_end he, numT_end he]
          simp
        | false =>
          have e1 : p = a := hp.symm
          have := mach_fac_eq (l.take p ++ [e]) k a stk e (by rw [← e1]; exact cut_at (by omega)) p (by rw [isT_end he, e1]; simp) e (cut_at (by omega))
          rw [this, isT_end he, numT_end he]
          simp
      rcases hf with ⟨h1, h2, h3⟩ | ⟨h1, h2, h3⟩ | ⟨h1, x, h2, h3⟩ | ⟨h1, x, c, h2, h3, h4⟩
      · obtain ⟨i1, i2⟩ := ih _ _ _ _ h3 (by omega)
        constructor
        · intro n b hR c hbc hcl e
          subst hR
          have f := (mach_far l _ _ _ _ _ _ h3).1 (by omega)
          rw [same c (by have := f.1; omega) hcl, if_pos h1, if_pos h2]
          exact i1 n b rfl c hbc hcl e
        · intro q hR
          obtain ⟨b, t', e1, e2, e3, e4⟩ := i2 q hR
          have hbl := (List.getElem?_eq_some_iff.1 e2).1
          refine ⟨b, t', by omega, e2, e3, fun e he => ?_⟩
          rw [same b (by omega) (by omega), if_pos h1, if_pos h2]
          exact e4 e he
      · subst h3
        constructor
        · intro n b hR; cases hR
        · intro q hR
          injection hR with h5 h6
          exact ⟨p, t, hap, ht, h6.symm, cutoff⟩
      · obtain ⟨i1, i2⟩ := ih _ _ _ _ h3 (by omega)
        constructor
        · intro n b hR c hbc hcl e
          subst hR
          have f := (mach_far l _ _ _ _ _ _ h3).1 (by omega)
          rw [same c (by have := f.1; omega) hcl, if_neg (by rw [h1]; decide), h2, if_pos rfl]
          exact i1 n b rfl c hbc hcl e
        · intro q hR
          obtain ⟨b, t', e1, e2, e3, e4⟩ := i2 q hR
          have hbl := (List.getElem?_eq_some_iff.1 e2).1
          refine ⟨b, t', by omega, e2, e3, fun e he => ?_⟩
          rw [same b (by omega) (by omega), if_neg (by rw [h1]; decide), h2, if_pos rfl]
          exact e4 e he
      · subst h4
        constructor
        · intro n b hR; cases hR
        · intro q hR
          injection hR with h5 h6
          exact ⟨p, t, hap, ht, h6.symm, cutoff⟩
    | beh x =>
      cases stk with
      | nil =>
        have hR := Fol.mach_top h
        subst hR
        constructor
        · intro n b hR c hbc hcl e
          injection hR with h1 h2
          subst h1; subst h2
          rfl
        · intro q hR; cases hR
      | cons o r =>
        obtain ⟨t, ht, hc⟩ := Fol.mach_beh h
        have hal := (List.getElem?_eq_some_iff.1 ht).1
        have same : ∀ (b : Nat), a < b → b ≤ l.length → ∀ e, Fol.mach (l.take b ++ [e]) (k + 1) (.beh x) a (o :: r) =
            (if Fol.isT t [41] = true then Fol.mach (l.take b ++ [e]) k (.beh (o.times x).closed) (a + 1) r
            else if Fol.isT t [42] = true then Fol.mach (l.take b ++ [e]) k .fac (a + 1) (o.times x :: r)
            else if Fol.isT t [43] = true then Fol.mach (l.take b ++ [e]) k .fac (a + 1) ((o.times x).join 1 :: r)
            else if Fol.isT t [45] = true then Fol.mach (l.take b ++ [e]) k .fac (a + 1) ((o.times x).join 2 :: r)
            else some (.bad 20 t.at_)) := by
          intro b h1 h2 e
          rw [Fol.mach, cut_get ht h1 h2]
        have go : ∀ {md stk}, Fol.mach l k md (a + 1) stk = some R → (∀ b, a < b → b ≤ l.length → ∀ e, Fol.mach (l.take b ++ [e]) (k + 1) (.beh x) a (o :: r) = Fol.mach (l.take b ++ [e]) k md (a + 1) stk) →
            (∀ n b, R = .val n b → ∀ c, b ≤ c → c ≤ l.length → ∀ e : Tok, Fol.mach (l.take c ++ [e]) (k + 1) (.beh x) a (o :: r) = some (.val n b)) ∧
            (∀ q, R = .bad 20 q → ∃ b t, a ≤ b ∧ l[b]? = some t ∧ q = t.at_ ∧ ∀ e : Tok, e.kind = 0 → Fol.mach (l.take b ++ [e]) (k + 1) (.beh x) a (o :: r) = some (.bad 20 e.at_)) := by
          intro md stk h3 hs
          obtain ⟨i1, i2⟩ := ih _ _ _ _ h3 (by omega)
          constructor
          · intro n b hR c hbc hcl e
            subst hR
            have f := (mach_far l _ _ _ _ _ _ h3).1 (by omega)
            rw [hs c (by have := f.1; omega) hcl]
            exact i1 n b rfl c hbc hcl e
          · intro q hR
            obtain ⟨b, t', e1, e2, e3, e4⟩ := i2 q hR
            have hbl := (List.getElem?_eq_some_iff.1 e2).1
            refine ⟨b, t', by omega, e2, e3, fun e he => ?_⟩
            rw [hs b (by omega) (by omega)]
            exact e4 e he
        rcases hc with ⟨h1, h3⟩ | ⟨h0, h1, h3⟩ | ⟨h0, h0', h1, h3⟩ | ⟨h0, h0', h0'', h1, h3⟩ | ⟨h0, h0', h0'', h1, h3⟩
        · exact go h3 fun b hb1 hb2 e => by rw [same b hb1 hb2, if_pos h1]
        · exact go h3 fun b hb1 hb2 e => by rw [same b hb1 hb2, h0, if_neg (by decide), if_pos h1]
        · exact go h3 fun b hb1 hb2 e => by rw [same b hb1 hb2, h0, if_neg (by decide), h0', if_neg (by decide), if_pos h1]
        · exact go h3 fun b hb1 hb2 e => by rw [same b hb1 hb2, h0, if_neg (by decide), h0', if_neg (by decide), h0'', if_neg (by decide), if_pos h1]
        · subst h3
          constructor
          · intro n b hR; cases hR
          · intro q hR
            injection hR with h5 h6
            refine ⟨a, t, Nat.le_refl _, ht, h6.symm, fun e he => ?_⟩
            rw [Fol.mach, cut_at (by omega)]
            simp only [isT_end he]
            rfl
/-- More passes, the same answer. -/
theorem mach_more (l : List Tok) : ∀ (k : Nat) (md : Fol.Mode) (a : Nat) (stk : List Fol.Opn) (R : Fol.Res), Fol.mach l k md a stk = some R → Fol.mach l (k + 1) md a stk = some R := by
  intro k
  induction k with
  | zero => intro md a stk R h; cases md <;> cases h
  | succ k ih =>
    intro md a stk R h
    cases md with
    | fac =>
      obtain ⟨t0, t, h0, hc⟩ := Fol.mach_fac h
      obtain ⟨m, p, hm, hp, ht, hf⟩ : ∃ m p, Fol.isT t0 [45] = m ∧ (if m = true then a + 1 else a) = p ∧ l[p]? = some t ∧ Fol.FacP l k a stk R m p t := by
        rcases hc with ⟨h1, h2, h3⟩ | ⟨h1, h2, h3⟩
        · exact ⟨true, a + 1, h1, rfl, h2, h3⟩
        · exact ⟨false, a, h1, rfl, h2, h3⟩
      have := mach_fac_eq l (k + 1) a stk t0 h0 p (by rw [hm]; exact hp) t ht
      rw [hm] at this
      rw [this]
      rcases hf with ⟨h1, h2, h3⟩ | ⟨h1, h2, h3⟩ | ⟨h1, x, h2, h3⟩ | ⟨h1, x, c, h2, h3, h4⟩
      · rw [if_pos h1, if_pos h2]; exact ih _ _ _ _ h3
      · rw [if_pos h1, if_neg h2, h3]
      · rw [if_neg (by rw [h1]; decide), h2, if_pos rfl]; exact ih _ _ _ _ h3
      · rw [if_neg (by rw [h1]; decide), h2, if_neg h3, h4]
    | beh x =>
      cases stk with
      | nil => rw [Fol.mach_top h]; rfl
      | cons o r =>
        obtain ⟨t, ht, hc⟩ := Fol.mach_beh h
        rw [Fol.mach, ht]
        simp only
        rcases hc with ⟨h1, h3⟩ | ⟨h0, h1, h3⟩ | ⟨h0, h0', h1, h3⟩ | ⟨h0, h0', h0'', h1, h3⟩ | ⟨h0, h0', h0'', h1, h3⟩
        · rw [if_pos h1]; exact ih _ _ _ _ h3
        · rw [h0, if_neg (by decide), if_pos h1]; exact ih _ _ _ _ h3
        · rw [h0, if_neg (by decide), h0', if_neg (by decide), if_pos h1]; exact ih _ _ _ _ h3
        · rw [h0, if_neg (by decide), h0', if_neg (by decide), h0'', if_neg (by decide), if_pos h1]; exact ih _ _ _ _ h3
        · rw [h0, if_neg (by decide), h0', if_neg (by decide), h0'', if_neg (by decide), h1, if_neg (by decide), h3]
theorem mach_most (l : List Tok) (k k' : Nat) (hk : k ≤ k') (md : Fol.Mode) (a : Nat) (stk : List Fol.Opn) (R : Fol.Res) (h : Fol.mach l k md a stk = some R) : Fol.mach l k' md a stk = some R := by
  obtain ⟨d, rfl⟩ : ∃ d, k' = k + d := ⟨k' - k, by omega⟩
  induction d with
  | zero => exact h
  | succ d ih => exact mach_more l _ _ _ _ _ (ih (by omega))
/-- There is an answer, if the last one is an end. -/
theorem ends_step {l : List Tok} (h : Ends l) {p : Nat} {t : Tok} (ht : l[p]? = some t) (hk : t.kind ≠ 0) : p + 1 < l.length := by
  obtain ⟨u, e, rfl, he⟩ := h
  have hp := (List.getElem?_eq_some_iff.1 ht).1
  rw [List.length_append, List.length_singleton] at hp ⊢
  rcases Nat.lt_or_ge p u.length with h1 | h1
  · omega
  · obtain rfl : p = u.length := by omega
    rw [List.getElem?_append_right (Nat.le_refl _), Nat.sub_self] at ht
    injection ht with ht
    subst ht
    exact absurd he hk
theorem mach_some (l : List Tok) (hE : Ends l) : ∀ (k : Nat) (md : Fol.Mode) (a : Nat) (stk : List Fol.Opn), a < l.length → l.length - a < k → ∃ R, Fol.mach l k md a stk = some R := by
  intro k
  induction k with
  | zero => intro md a stk h1 h2; omega
  | succ k ih =>
    intro md a stk h1 h2
    obtain ⟨t0, h0⟩ : ∃ t, l[a]? = some t := ⟨l[a], List.getElem?_eq_getElem h1⟩
    cases md with
    | fac =>
      obtain ⟨m, hm⟩ : ∃ m, Fol.isT t0 [45] = m := ⟨_, rfl⟩
      obtain ⟨p, hp⟩ : ∃ p, (if m = true then a + 1 else a) = p := ⟨_, rfl⟩
      have hpl : p < l.length ∧ a ≤ p := by
        rw [← hp]
        cases m with
        | true => exact ⟨ends_step hE h0 (by have := isT_kind hm; omega), by simp⟩
        | false => exact ⟨h1, by simp⟩
      obtain ⟨t, ht⟩ : ∃ t, l[p]? = some t := ⟨l[p], List.getElem?_eq_getElem hpl.1⟩
      have := mach_fac_eq l k a stk t0 h0 p (by rw [hm]; exact hp) t ht
      rw [this, hm]
      split
      · rename_i h3
        split
        · have := ends_step hE ht (by have := isT_kind h3; omega)
          exact ih _ _ _ this (by omega)
        · exact ⟨_, rfl⟩
      · split
        · rename_i h4
          have hk : t.kind = 2 := numT_kind (m := m) (n := (Fol.numT t m).1) (by rw [← h4])
          have := ends_step hE ht (by omega)
          exact ih _ _ _ this (by omega)
        · exact ⟨_, rfl⟩
    | beh x =>
      cases stk with
      | nil => exact ⟨_, rfl⟩
      | cons o r =>
        rw [Fol.mach, h0]
        simp only
        split
        · rename_i h3
          have := ends_step hE h0 (by have := isT_kind h3; omega)
          exact ih _ _ _ this (by omega)
        · split
          · rename_i h3
            have := ends_step hE h0 (by have := isT_kind h3; omega)
            exact ih _ _ _ this (by omega)
          · split
            · rename_i h3
              have := ends_step hE h0 (by have := isT_kind h3; omega)
              exact ih _ _ _ this (by omega)
            · split
              · rename_i h3
                have := ends_step hE h0 (by have := isT_kind h3; omega)
                exact ih _ _ _ this (by omega)
              · exact ⟨_, rfl⟩
theorem ends_cut (u : List Tok) {e : Tok} (h : e.kind = 0) : Ends (u ++ [e]) := ⟨u, e, rfl, h⟩
/-- What value makes of whatever the machine says. -/
theorem value_of {l : List Tok} {k : Nat} {R : Fol.Res} (hE : Ends l) (h : Fol.mach l k .fac 0 [] = some R) : value l = (match R with | .val n a => .ok n (l.drop a) | .bad c p => .bad c p) := by
  have hpos : 0 < l.length := List.length_pos_iff.2 hE.ne
  obtain ⟨R', h'⟩ := mach_some l hE (2 * l.length + 2) .fac 0 [] hpos (by omega)
  have h1 := mach_most l _ (k + (2 * l.length + 2)) (by omega) _ _ _ _ h
  have h2 := mach_most l _ (k + (2 * l.length + 2)) (by omega) _ _ _ _ h'
  rw [h1] at h2
  injection h2 with h2
  unfold value
  rw [h', ← h2]
  cases R <;> rfl
theorem tr_value {l : List Tok} (hl : Ends l) : TrAt value l := by
  have hpos : 0 < l.length := List.length_pos_iff.2 hl.ne
  obtain ⟨R, hR⟩ := mach_some l hl (2 * l.length + 2) .fac 0 [] hpos (by omega)
  have hv := value_of hl hR
  obtain ⟨i1, i2⟩ := mach_cut l _ _ _ _ _ hR (by omega)
  constructor
  · intro p hp
    rw [hv] at hp
    cases R with
    | val n a => cases hp
    | bad c q =>
      injection hp with h1 h2
      subst h1; subst h2
      obtain ⟨b, t, _, h3, h4, h5⟩ := i2 _ rfl
      obtain ⟨hb, rfl⟩ := List.getElem?_eq_some_iff.1 h3
      refine ⟨l.take b, l[b], l.drop (b + 1), ?_, h4, fun e he => ?_⟩
      · rw [← List.drop_eq_getElem_cons hb, List.take_append_drop]
      · exact value_of (ends_cut _ he) (h5 e he)
  · intro n r h
    rw [hv] at h
    cases R with
    | bad c q => cases h
    | val m a =>
      injection h with h1 h2
      subst h1; subst h2
      have f := ((mach_far l _ _ _ _ _ _ hR).1 (by omega)).2.1
      refine ⟨l.take a, (List.take_append_drop a l).symm, fun u t v hr e he => .inl ?_⟩
      have hd : l = l.take a ++ (u ++ t :: v) := by rw [← hr, List.take_append_drop]
      have hlen : (l.take a).length = a := by rw [List.length_take]; omega
      have hc : l.take (a + u.length) = l.take a ++ u := by
        conv => lhs; rw [hd]
        rw [List.take_append, hlen, List.take_of_length_le (by omega), Nat.add_sub_cancel_left, List.take_append, List.take_of_length_le (Nat.le_refl _), Nat.sub_self, List.take_zero, List.append_nil]
      have hle : a + u.length ≤ l.length := by
        have := congrArg List.length hd
        simp only [List.length_append, List.length_cons] at this
        omega
      have h5 := i1 m a rfl (a + u.length) (by omega) hle e
      rw [hc] at h5
      have h6 := value_of (ends_cut (l.take a ++ u) he) h5
      rw [← List.append_assoc, h6]
      simp only
      rw [List.append_assoc, List.drop_append, hlen, List.drop_eq_nil_of_le (by omega), Nat.sub_self, List.drop_zero, List.nil_append]
end Go.Proofs.YtbpichjmkllfaaaGreatDoor.Par

/- Values as the document reads them, step by step; they are what the machine says. -/
namespace Go.Proofs.YtbpichjmkllfaaaGreatDoor.Par
open Lex (Tok)
open Go.RowKit
set_option linter.unusedVariables false
set_option maxRecDepth 20000

/-- What is read: a factor; a product, and what goes on with one; a sum, and what goes on with one. -/
inductive Md where
  | fac
  | pro
  | proL (x : Int)
  | sum
  | sumL (x : Int)
def negIf (m : Bool) (n : Int) : Int := if m = true then subV 0 n else n
def negR (m : Bool) : Fol.Res → Fol.Res
  | .val n a => .val (negIf m n) a
  | .bad c p => .bad c p
inductive Ev (ts : List Tok) : Md → Nat → Nat → Fol.Res → Prop where
  | deep {d a p : Nat} {t0 t : Tok} (h0 : ts[a]? = some t0) (hp : (if Fol.isT t0 [45] = true then a + 1 else a) = p) (ht : ts[p]? = some t) (h1 : Fol.isT t [40] = true) (h2 : d = 32) : Ev ts .fac d a (.bad 21 t.at_)
  | paren {d a p : Nat} {t0 t : Tok} {R : Fol.Res} (h0 : ts[a]? = some t0) (hp : (if Fol.isT t0 [45] = true then a + 1 else a) = p) (ht : ts[p]? = some t) (h1 : Fol.isT t [40] = true) (h2 : 0 < d) (h3 : d < 32) (h4 : Ev ts .sum (d + 1) (p + 1) R) : Ev ts .fac d a (negR (Fol.isT t0 [45]) R)
  | none {d a p : Nat} {t0 t : Tok} (h0 : ts[a]? = some t0) (hp : (if Fol.isT t0 [45] = true then a + 1 else a) = p) (ht : ts[p]? = some t) (h1 : Fol.isT t [40] = false ∨ (d = 0 ∧ Fol.isT t0 [45] = true)) (h2 : t.kind ≠ 2) : Ev ts .fac d a (.bad 20 t.at_)
  | range {d a : Nat} {t : Tok} (h0 : ts[a]? = some t) (h1 : Fol.isT t [45] = false) (h2 : t.kind = 2) (h3 : t.n = -9223372036854775808) : Ev ts .fac d a (.bad 2 t.at_)
  | num {d a p : Nat} {t0 t : Tok} (h0 : ts[a]? = some t0) (hp : (if Fol.isT t0 [45] = true then a + 1 else a) = p) (ht : ts[p]? = some t) (h1 : t.kind = 2) (h2 : Fol.isT t0 [45] = true ∨ t.n ≠ -9223372036854775808) : Ev ts .fac d a (.val (negIf (Fol.isT t0 [45]) t.n) (p + 1))
  | proBad {d a p : Nat} {c : Int} (h : Ev ts .fac d a (.bad c p)) : Ev ts .pro d a (.bad c p)
  | proGo {d a b : Nat} {x : Int} {R : Fol.Res} (h : Ev ts .fac d a (.val x b)) (k : Ev ts (.proL x) d b R) : Ev ts .pro d a R
  | proStop {d a : Nat} {x : Int} {t : Tok} (ht : ts[a]? = some t) (h : Fol.isT t [42] = false) : Ev ts (.proL x) d a (.val x a)
  | proLBad {d a p : Nat} {x c : Int} {t : Tok} (ht : ts[a]? = some t) (h : Fol.isT t [42] = true) (k : Ev ts .fac d (a + 1) (.bad c p)) : Ev ts (.proL x) d a (.bad c p)
  | proLGo {d a b : Nat} {x y : Int} {t : Tok} {R : Fol.Res} (ht : ts[a]? = some t) (h : Fol.isT t [42] = true) (k : Ev ts .fac d (a + 1) (.val y b)) (k2 : Ev ts (.proL (mulV x y)) d b R) : Ev ts (.proL x) d a R
  | sumBad {d a p : Nat} {c : Int} (h : Ev ts .pro d a (.bad c p)) : Ev ts .sum d a (.bad c p)
  | sumGo {d a b : Nat} {x : Int} {R : Fol.Res} (h : Ev ts .pro d a (.val x b)) (k : Ev ts (.sumL x) d b R) : Ev ts .sum d a R
  | sumEnd {d a : Nat} {x : Int} {t : Tok} (ht : ts[a]? = some t) (h1 : Fol.isT t [43] = false) (h2 : Fol.isT t [45] = false) (h3 : Fol.isT t [41] = true) : Ev ts (.sumL x) d a (.val x (a + 1))
  | sumNo {d a : Nat} {x : Int} {t : Tok} (ht : ts[a]? = some t) (h1 : Fol.isT t [43] = false) (h2 : Fol.isT t [45] = false) (h3 : Fol.isT t [41] = false) (h4 : Fol.isT t [42] = false) : Ev ts (.sumL x) d a (.bad 20 t.at_)
  | sumLBad {d a p : Nat} {x c : Int} {t : Tok} (ht : ts[a]? = some t) (h : Fol.isT t [43] = true ∨ Fol.isT t [45] = true) (k : Ev ts .pro d (a + 1) (.bad c p)) : Ev ts (.sumL x) d a (.bad c p)
  | sumLGo {d a b : Nat} {x y : Int} {t : Tok} {R : Fol.Res} (ht : ts[a]? = some t) (h : Fol.isT t [43] = true ∨ Fol.isT t [45] = true) (k : Ev ts .pro d (a + 1) (.val y b)) (k2 : Ev ts (.sumL (addV x (negIf (Fol.isT t [45]) y))) d b R) : Ev ts (.sumL x) d a R
theorem Ev.as {ts : List Tok} {md : Md} {d a : Nat} {R R' : Fol.Res} (h : Ev ts md d a R) (e : R = R') : Ev ts md d a R' := e ▸ h
/-- What a value is of, from a place on. -/
def EvV (ts : List Tok) (a : Nat) (R : Fol.Res) : Prop := (∃ t, ts[a]? = some t ∧ Fol.isT t [40] = true ∧ Ev ts .sum 1 (a + 1) R) ∨ (∃ t, ts[a]? = some t ∧ Fol.isT t [40] = false ∧ Ev ts .fac 0 a R)
/-! Numbers of 64 bits. -/
def Fit64 (n : Int) : Prop := -9223372036854775808 ≤ n ∧ n ≤ 9223372036854775807
theorem reck1 (a b : Int) : Fol.reck 1 a b = addV a b := rfl
theorem reck2 (a b : Int) : Fol.reck 2 a b = subV a b := rfl
theorem reck3 (a b : Int) : Fol.reck 3 a b = mulV a b := rfl
theorem wrap_fit {n : Int} (h : Fit64 n) : wrap64 n = n := by unfold wrap64; unfold Fit64 at h; omega
theorem wrap_in (n : Int) : Fit64 (wrap64 n) := by unfold wrap64 Fit64; omega
theorem add_neg (x y : Int) : addV x (subV 0 y) = subV x y := by unfold addV subV wrap64; omega
theorem mul_one {n : Int} (h : Fit64 n) : mulV 1 n = n := by unfold mulV; rw [Int.one_mul, wrap_fit h]
theorem add_zero {n : Int} (h : Fit64 n) : addV 0 n = n := by unfold addV; rw [Int.zero_add, wrap_fit h]
theorem negIf_fit {m : Bool} {n : Int} (h : Fit64 n) : Fit64 (negIf m n) := by
  unfold negIf
  split
  · exact wrap_in _
  · exact h
def FitR : Fol.Res → Prop
  | .val n _ => Fit64 n
  | .bad _ _ => True
theorem negR_fit {m : Bool} {R : Fol.Res} (h : FitR R) : FitR (negR m R) := by
  cases R with
  | val n a => exact negIf_fit h
  | bad c p => trivial
def FitM : Md → Prop
  | .proL x => Fit64 x
  | .sumL x => Fit64 x
  | _ => True
theorem Ev.fit {ts : List Tok} (ht : ∀ t ∈ ts, Fit64 t.n) {md : Md} {d a : Nat} {R : Fol.Res} (h : Ev ts md d a R) : FitM md → FitR R := by
  induction h with
  | deep => intro _; trivial
  | paren h0 hp h1 h2 h3 h4 h5 ih => intro _; exact negR_fit (ih trivial)
  | none => intro _; trivial
  | range => intro _; trivial
  | num h0 hp h1 h2 h3 => intro _; exact negIf_fit (ht _ (List.mem_of_getElem? h1))
  | proBad h ih => intro _; trivial
  | proGo h k ih1 ih2 => intro _; exact ih2 (ih1 trivial)
  | proStop => intro h; exact h
  | proLBad => intro _; trivial
  | proLGo h1 h2 h3 h4 ih1 ih2 => intro _; exact ih2 (wrap_in _)
  | sumBad h ih => intro _; trivial
  | sumGo h k ih1 ih2 => intro _; exact ih2 (ih1 trivial)
  | sumEnd => intro h; exact h
  | sumNo => intro _; trivial
  | sumLBad => intro _; trivial
  | sumLGo h1 h2 h3 h4 ih1 ih2 => intro _; exact ih2 (wrap_in _)
/-- What the machine says from here it says from there. -/
def Leads (ts : List Tok) (md : Fol.Mode) (a : Nat) (stk : List Fol.Opn) (md' : Fol.Mode) (b : Nat) (stk' : List Fol.Opn) : Prop := ∀ k R, Fol.mach ts k md' b stk' = some R → ∃ j, Fol.mach ts j md a stk = some R
theorem Leads.refl (ts : List Tok) (md : Fol.Mode) (a : Nat) (stk : List Fol.Opn) : Leads ts md a stk md a stk := fun k R h => ⟨k, h⟩
theorem Leads.trans {ts : List Tok} {m1 m2 m3 : Fol.Mode} {a b c : Nat} {s1 s2 s3 : List Fol.Opn} (h : Leads ts m1 a s1 m2 b s2) (k : Leads ts m2 b s2 m3 c s3) : Leads ts m1 a s1 m3 c s3 := fun j R e => by
  obtain ⟨j1, e1⟩ := k j R e
  exact h j1 R e1
def Ends_ (ts : List Tok) (md : Fol.Mode) (a : Nat) (stk : List Fol.Opn) (R : Fol.Res) : Prop := ∃ j, Fol.mach ts j md a stk = some R
theorem Leads.ends {ts : List Tok} {m1 m2 : Fol.Mode} {a b : Nat} {s1 s2 : List Fol.Opn} {R : Fol.Res} (h : Leads ts m1 a s1 m2 b s2) (k : Ends_ ts m2 b s2 R) : Ends_ ts m1 a s1 R := by
  obtain ⟨j, e⟩ := k
  exact h j R e
def SameO (o o' : Fol.Opn) : Prop := o'.minus = o.minus ∧ o'.sum = o.sum ∧ o'.joins = o.joins
def SumOut (ts : List Tok) (md : Fol.Mode) (a : Nat) (stk : List Fol.Opn) (m : Bool) (r : List Fol.Opn) (R : Fol.Res) : Prop :=
  match R with
  | .val n b => Leads ts md a stk (.beh (negIf m n)) b r
  | .bad c p => Ends_ ts md a stk (.bad c p)
/-- What each reading comes to, as the machine goes. -/
def Means (ts : List Tok) (md : Md) (d a : Nat) (R : Fol.Res) : Prop :=
  match md with
  | .fac => ∀ stk : List Fol.Opn, stk.length = d → (match R with | .val n b => Leads ts .fac a stk (.beh n) b stk | .bad c p => Ends_ ts .fac a stk (.bad c p))
  | .pro => ∀ (o : Fol.Opn) (r : List Fol.Opn), (o :: r).length = d → o.product = 1 → (match R with | .val n b => ∃ o' n', SameO o o' ∧ mulV o'.product n' = n ∧ Leads ts .fac a (o :: r) (.beh n') b (o' :: r) | .bad c p => Ends_ ts .fac a (o :: r) (.bad c p))
  | .proL x => ∀ (o : Fol.Opn) (r : List Fol.Opn) (n0 : Int), (o :: r).length = d → mulV o.product n0 = x → (match R with | .val n b => ∃ o' n', SameO o o' ∧ mulV o'.product n' = n ∧ Leads ts (.beh n0) a (o :: r) (.beh n') b (o' :: r) | .bad c p => Ends_ ts (.beh n0) a (o :: r) (.bad c p))
  | .sum => ∀ (m : Bool) (r : List Fol.Opn), r.length + 1 = d → SumOut ts .fac a (Fol.opened m :: r) m r R
  | .sumL x => ∀ (o : Fol.Opn) (r : List Fol.Opn) (n0 : Int), r.length + 1 = d → (Fol.reck o.joins o.sum (mulV o.product n0)) = x → SumOut ts (.beh n0) a (o :: r) o.minus r R
theorem beh_step (l : List Tok) (k a : Nat) (x : Int) (o : Fol.Opn) (r : List Fol.Opn) (t : Tok) (ht : l[a]? = some t) : Fol.mach l (k + 1) (.beh x) a (o :: r) =
    (if Fol.isT t [41] = true then Fol.mach l k (.beh (o.times x).closed) (a + 1) r
    else if Fol.isT t [42] = true then Fol.mach l k .fac (a + 1) (o.times x :: r)
    else if Fol.isT t [43] = true then Fol.mach l k .fac (a + 1) ((o.times x).join 1 :: r)
    else if Fol.isT t [45] = true then Fol.mach l k .fac (a + 1) ((o.times x).join 2 :: r)
    else some (.bad 20 t.at_)) := by rw [Fol.mach, ht]
theorem isT_one {t : Tok} {a b : List UInt8} (h : Fol.isT t a = true) (hab : a ≠ b) : Fol.isT t b = false := by
  unfold Fol.isT at h ⊢
  simp at h ⊢
  intro _ e
  exact hab (h.2.symm.trans e)
theorem Ev.means {ts : List Tok} (hf : ∀ t ∈ ts, Fit64 t.n) {md : Md} {d a : Nat} {R : Fol.Res} (h : Ev ts md d a R) : Means ts md d a R := by
  induction h with
  | @deep d a p t0 t h0 hp ht h1 h2 =>
    intro stk hd
    have hm : Fol.mayT stk.length (Fol.isT t0 [45]) = 21 := by unfold Fol.mayT; rw [if_neg (by omega), if_pos (by omega)]
    exact ⟨1, by rw [mach_fac_eq ts 0 a stk t0 h0 p hp t ht, if_pos h1, hm, if_neg (by decide)]⟩
  | @paren d a p t0 t R h0 hp ht h1 h2 h3 h4 ih =>
    intro stk hd
    have step : ∀ j, Fol.mach ts (j + 1) .fac a stk = Fol.mach ts j .fac (p + 1) (Fol.opened (Fol.isT t0 [45]) :: stk) := fun j => by
      rw [mach_fac_eq ts j a stk t0 h0 p hp t ht, if_pos h1, if_pos (by unfold Fol.mayT; rw [if_neg (by omega), if_neg (by omega)])]
    have g := ih (Fol.isT t0 [45]) stk (by rw [hd])
    cases R with
    | val n b =>
      intro j R e
      obtain ⟨j1, e1⟩ := g j R e
      exact ⟨j1 + 1, by rw [step]; exact e1⟩
    | bad c q =>
      obtain ⟨j1, e1⟩ := g
      exact ⟨j1 + 1, by rw [step]; exact e1⟩
  | @none d a p t0 t h0 hp ht h1 h2 =>
    intro stk hd
    refine ⟨1, ?_⟩
    rw [mach_fac_eq ts 0 a stk t0 h0 p hp t ht]
    have hn : (Fol.numT t (Fol.isT t0 [45])) = (0, 20) := by unfold Fol.numT; rw [if_pos h2]
    by_cases h3 : Fol.isT t [40] = true
    · rcases h1 with h4 | ⟨h4, h5⟩
      · rw [h4] at h3; cases h3
      · have hm : Fol.mayT stk.length (Fol.isT t0 [45]) = 20 := by unfold Fol.mayT; rw [if_pos ⟨by omega, h5⟩]
        rw [if_pos h3, hm, if_neg (by decide)]
    · rw [if_neg h3, hn]; rfl
  | @range d a t h0 h1 h2 h3 =>
    intro stk hd
    refine ⟨1, ?_⟩
    rw [mach_fac_eq ts 0 a stk t h0 a (by rw [h1]; rfl) t h0]
    have h4 : Fol.isT t [40] = false := by unfold Fol.isT; simp [h2]
    have hn : (Fol.numT t (Fol.isT t [45])) = (0, 2) := by unfold Fol.numT; rw [if_neg (by rw [h2]; decide), h1, if_neg (by decide), if_pos h3]
    rw [if_neg (by rw [h4]; decide), hn]; rfl
  | @num d a p t0 t h0 hp ht h1 h2 =>
    intro stk hd
    intro j R e
    refine ⟨j + 1, ?_⟩
    rw [mach_fac_eq ts j a stk t0 h0 p hp t ht]
    have h4 : Fol.isT t [40] = false := by unfold Fol.isT; simp [h1]
    have hn : (Fol.numT t (Fol.isT t0 [45])) = (negIf (Fol.isT t0 [45]) t.n, 0) := by
      unfold Fol.numT negIf
      rw [if_neg (by rw [h1]; decide)]
      cases hm : Fol.isT t0 [45] with
      | true => rfl
      | false =>
        rcases h2 with h2 | h2
        · rw [hm] at h2; cases h2
        · simp [h2]
    rw [if_neg (by rw [h4]; decide), hn]
    exact e
  | @proBad d a p c h ih =>
    intro o r hd ho
    exact ih (o :: r) hd
  | @proGo d a b x R h k ih1 ih2 =>
    intro o r hd ho
    have g1 := ih1 (o :: r) hd
    have hx : Fit64 x := h.fit hf trivial
    have g2 := ih2 o r x hd (by rw [ho, mul_one hx])
    cases R with
    | val n b' =>
      obtain ⟨o', n', s1, s2, s3⟩ := g2
      exact ⟨o', n', s1, s2, Leads.trans g1 s3⟩
    | bad c q => exact Leads.ends g1 g2
  | @proStop d a x t ht h =>
    intro o r n0 hd hx
    exact ⟨o, n0, ⟨rfl, rfl, rfl⟩, hx, Leads.refl _ _ _ _⟩
  | @proLBad d a p x c t ht h k ih =>
    intro o r n0 hd hx
    have g := ih (o.times n0 :: r) hd
    refine Leads.ends (fun j R e => ⟨j + 1, ?_⟩) g
    rw [beh_step ts j a n0 o r t ht, if_neg (by rw [isT_one h (by decide)]; decide), if_pos h]; exact e
  | @proLGo d a b x y t R ht h k k2 ih1 ih2 =>
    intro o r n0 hd hx
    have g1 := ih1 (o.times n0 :: r) hd
    have step : Leads ts (.beh n0) a (o :: r) .fac (a + 1) (o.times n0 :: r) := fun j R e => ⟨j + 1, by rw [beh_step ts j a n0 o r t ht, if_neg (by rw [isT_one h (by decide)]; decide), if_pos h]; exact e⟩
    have g2 := ih2 (o.times n0) r y hd (by show mulV (Fol.reck 3 o.product n0) y = _; rw [reck3, hx])
    cases R with
    | val n b' =>
      obtain ⟨o', n', s1, s2, s3⟩ := g2
      exact ⟨o', n', s1, s2, Leads.trans step (Leads.trans g1 s3)⟩
    | bad c q => exact Leads.ends step (Leads.ends g1 g2)
  | @sumBad d a p c h ih =>
    intro m r hd
    exact ih (Fol.opened m) r hd rfl
  | @sumGo d a b x R h k ih1 ih2 =>
    intro m r hd
    obtain ⟨o', n', s1, s2, s3⟩ := ih1 (Fol.opened m) r hd rfl
    have hx : Fit64 x := h.fit hf trivial
    have g2 := ih2 o' r n' hd (by
      rw [s1.2.2, s1.2.1, s2]
      exact add_zero hx)
    have hm : o'.minus = m := s1.1
    cases R with
    | val n b' => 
      have g3 : Leads ts (.beh n') b (o' :: r) (.beh (negIf o'.minus n)) b' r := g2
      rw [hm] at g3
      exact Leads.trans s3 g3
    | bad c q => exact Leads.ends s3 g2
  | @sumEnd d a x t ht h1 h2 h3 =>
    intro o r n0 hd hx
    intro j R e
    refine ⟨j + 1, ?_⟩
    rw [beh_step ts j a n0 o r t ht, if_pos h3]
    have : (o.times n0).closed = negIf o.minus x := by
      unfold Fol.Opn.closed Fol.Opn.all negIf
      have e1 : Fol.reck (o.times n0).joins (o.times n0).sum (o.times n0).product = x := hx
      rw [e1]
      have e2 : (o.times n0).minus = o.minus := rfl
      rw [e2, reck2]
    rw [this]
    exact e
  | @sumNo d a x t ht h1 h2 h3 h4 =>
    intro o r n0 hd hx
    exact ⟨1, by rw [beh_step ts 0 a n0 o r t ht, if_neg (by rw [h3]; decide), if_neg (by rw [h4]; decide), if_neg (by rw [h1]; decide), if_neg (by rw [h2]; decide)]⟩
  | @sumLBad d a p x c t ht h k ih =>
    intro o r n0 hd hx
    rcases h with h | h
    · have g := ih ((o.times n0).join 1) r hd rfl
      refine Leads.ends (fun j R e => ⟨j + 1, ?_⟩) g
      rw [beh_step ts j a n0 o r t ht, if_neg (by rw [isT_one h (by decide)]; decide), if_neg (by rw [isT_one h (by decide)]; decide), if_pos h]; exact e
    · have g := ih ((o.times n0).join 2) r hd rfl
      refine Leads.ends (fun j R e => ⟨j + 1, ?_⟩) g
      rw [beh_step ts j a n0 o r t ht, if_neg (by rw [isT_one h (by decide)]; decide), if_neg (by rw [isT_one h (by decide)]; decide), if_neg (by rw [isT_one h (by decide)]; decide), if_pos h]; exact e
  | @sumLGo d a b x y t R ht h k k2 ih1 ih2 =>
    intro o r n0 hd hx
    have main : ∀ op : Int, Leads ts (.beh n0) a (o :: r) .fac (a + 1) ((o.times n0).join op :: r) → Fol.reck op x y = addV x (negIf (Fol.isT t [45]) y) →
        SumOut ts (.beh n0) a (o :: r) o.minus r R := by
      intro op step hop
      obtain ⟨o', n', s1, s2, s3⟩ := ih1 ((o.times n0).join op) r hd rfl
      have e1 : o'.joins = op := s1.2.2
      have e2 : o'.sum = x := s1.2.1.trans (by show Fol.reck (o.times n0).joins (o.times n0).sum (o.times n0).product = x; exact hx)
      have hm : o'.minus = o.minus := s1.1
      have g2 := ih2 o' r n' hd (by rw [e1, e2, s2, hop])
      cases R with
      | val n b' =>
        have g3 : Leads ts (.beh n') b (o' :: r) (.beh (negIf o'.minus n)) b' r := g2
        rw [hm] at g3
        exact Leads.trans step (Leads.trans s3 g3)
      | bad c q => exact Leads.ends step (Leads.ends s3 g2)
    rcases h with h | h
    · refine main 1 (fun j R e => ⟨j + 1, ?_⟩) (by rw [isT_one h (by decide), reck1]; rfl)
      rw [beh_step ts j a n0 o r t ht, if_neg (by rw [isT_one h (by decide)]; decide), if_neg (by rw [isT_one h (by decide)]; decide), if_pos h]; exact e
    · refine main 2 (fun j R e => ⟨j + 1, ?_⟩) (by rw [h, reck2]; exact (add_neg x y).symm)
      rw [beh_step ts j a n0 o r t ht, if_neg (by rw [isT_one h (by decide)]; decide), if_neg (by rw [isT_one h (by decide)]; decide), if_neg (by rw [isT_one h (by decide)]; decide), if_pos h]; exact e
/-- The document's value is the machine's. -/
theorem EvV.mach {ts : List Tok} (hf : ∀ t ∈ ts, Fit64 t.n) {a : Nat} {R : Fol.Res} (h : EvV ts a R) : ∃ k, Fol.mach ts k .fac a [] = some R := by
  rcases h with ⟨t, ht, h1, h2⟩ | ⟨t, ht, h1, h2⟩
  · have h45 : Fol.isT t [45] = false := isT_one h1 (by decide)
    have step : ∀ j, Fol.mach ts (j + 1) .fac a [] = Fol.mach ts j .fac (a + 1) [Fol.opened false] := fun j => by
      rw [mach_fac_eq ts j a [] t ht a (by rw [h45]; rfl) t ht, if_pos h1, h45]; rfl
    have g := h2.means hf false [] rfl
    cases R with
    | val n b =>
      obtain ⟨j, e⟩ := g 1 (.val n b) rfl
      exact ⟨j + 1, by rw [step]; exact e⟩
    | bad c q =>
      obtain ⟨j, e⟩ := g
      exact ⟨j + 1, by rw [step]; exact e⟩
  · have g := h2.means hf [] rfl
    cases R with
    | val n b => exact g 1 (.val n b) rfl
    | bad c q => exact g
theorem Ev.stop {ts : List Tok} {md : Md} {d a : Nat} {R : Fol.Res} (h : Ev ts md d a R) : (md = .pro ∨ ∃ x, md = .proL x) → ∀ n b, R = .val n b → ∃ t, ts[b]? = some t ∧ Fol.isT t [42] = false := by
  induction h with
  | proGo h k ih1 ih2 => intro _; exact ih2 (.inr ⟨_, rfl⟩)
  | proStop ht h =>
    intro _ n b e
    injection e with _ e
    subst e
    exact ⟨_, ht, h⟩
  | proLGo h1 h2 h3 h4 ih1 ih2 => intro _; exact ih2 (.inr ⟨_, rfl⟩)
  | proBad => intro _ n b e; cases e
  | proLBad => intro _ n b e; cases e
  | _ => intro h; rcases h with h | ⟨x, h⟩ <;> cases h
/-! From a place on, and of what stands there. -/
def shiftR (a : Nat) : Fol.Res → Fol.Res
  | .val n c => .val n (a + c)
  | .bad c p => .bad c p
theorem mach_drop (l : List Tok) (a : Nat) : ∀ (k : Nat) (md : Fol.Mode) (b : Nat) (stk : List Fol.Opn), Fol.mach l k md (a + b) stk = (Fol.mach (l.drop a) k md b stk).map (shiftR a) := by
  intro k
  induction k with
  | zero => intro md b stk; cases md <;> rfl
  | succ k ih =>
    intro md b stk
    have hget : ∀ j, (l.drop a)[j]? = l[a + j]? := fun j => List.getElem?_drop
    cases md with
    | fac =>
      rw [Fol.mach, Fol.mach, hget]
      cases h0 : l[a + b]? with
      | none => rfl
      | some t0 =>
        simp only
        have e1 : (if Fol.isT t0 [45] = true then a + b + 1 else a + b) = a + (if Fol.isT t0 [45] = true then b + 1 else b) := by split <;> omega
        rw [e1, hget]
        cases h1 : l[a + (if Fol.isT t0 [45] = true then b + 1 else b)]? with
        | none => rfl
        | some t =>
          simp only
          split
          · split
            · rw [Nat.add_assoc]; exact ih _ _ _
            · rfl
          · split
            · rw [Nat.add_assoc]; exact ih _ _ _
            · rfl
    | beh x =>
      cases stk with
      | nil => rfl
      | cons o r =>
        rw [Fol.mach, Fol.mach, hget]
        cases h0 : l[a + b]? with
        | none => rfl
        | some t =>
          simp only
          split
          · rw [Nat.add_assoc]; exact ih _ _ _
          · split
            · rw [Nat.add_assoc]; exact ih _ _ _
            · split
              · rw [Nat.add_assoc]; exact ih _ _ _
              · split
                · rw [Nat.add_assoc]; exact ih _ _ _
                · rfl
/-- What value answers, by the document's value. -/
def valueR (ts : List Tok) : Fol.Res → Res Int
  | .val n b => .ok n (ts.drop b)
  | .bad c p => .bad c p
theorem value_mach {ts : List Tok} {a k : Nat} {R : Fol.Res} (hE : Ends (ts.drop a)) (h : Fol.mach ts k .fac a [] = some R) : value (ts.drop a) = valueR ts R := by
  have h1 := mach_drop ts a k .fac 0 []
  rw [Nat.add_zero, h] at h1
  cases h2 : Fol.mach (ts.drop a) k .fac 0 [] with
  | none => rw [h2] at h1; cases h1
  | some R0 =>
    rw [h2] at h1
    injection h1 with h1
    rw [h1, value_of hE h2]
    cases R0 with
    | val n c =>
      show Res.ok n ((ts.drop a).drop c) = Res.ok n (ts.drop (a + c))
      rw [List.drop_drop]
    | bad c p => rfl
theorem value_at {ts : List Tok} (hf : ∀ t ∈ ts, Fit64 t.n) {a : Nat} {R : Fol.Res} (hE : Ends (ts.drop a)) (h : EvV ts a R) : value (ts.drop a) = valueR ts R := by
  obtain ⟨k, e⟩ := h.mach hf
  exact value_mach hE e
end Go.Proofs.YtbpichjmkllfaaaGreatDoor.Par
