/- Packed texts of one proof. Conditions: none. -/
import Derived.Test.YtbpichjmkllfaaaGreatDoorPq03
namespace Go.Proofs.YtbpichjmkllfaaaGreatDoor.Par
open Lex (Tok)
set_option linter.unusedVariables false
set_option maxRecDepth 20000
theorem bind_ok {α β : Type} {x : Res α} {f : α → List Tok → Res β} {b : β} {r : List Tok} (h : x.bind f = .ok b r) : ∃ a r', x = .ok a r' ∧ f a r' = .ok b r := by
 cases x with
 | ok a r' => exact ⟨a, r', rfl, h⟩
 | bad c p => cases h
def Sub (l r : List Tok) : Prop := ∃ u, l = u ++ r ∧ ∀ t ∈ u, t.kind ≠ 0
def Sub1 (l r : List Tok) : Prop := Sub l r ∧ r.length < l.length
theorem Sub.refl (l : List Tok) : Sub l l := ⟨[], rfl, fun t h => by cases h⟩
theorem Sub.trans {l r s : List Tok} (h : Sub l r) (k : Sub r s) : Sub l s := by
 obtain ⟨u, rfl, hu⟩ := h
 obtain ⟨v, rfl, hv⟩ := k
 exact ⟨u ++ v, by simp, fun t ht => by rcases List.mem_append.1 ht with h | h; exact hu t h; exact hv t h⟩
theorem Sub.len {l r : List Tok} (h : Sub l r) : r.length ≤ l.length := by obtain ⟨u, rfl, _⟩ := h; simp
theorem Sub1.sub {l r : List Tok} (h : Sub1 l r) : Sub l r := h.1
theorem Sub1.trans {l r s : List Tok} (h : Sub1 l r) (k : Sub r s) : Sub1 l s := ⟨h.1.trans k, by have := k.len; have := h.2; omega⟩
theorem Sub.trans1 {l r s : List Tok} (h : Sub l r) (k : Sub1 r s) : Sub1 l s := ⟨h.trans k.1, by have := h.len; have := k.2; omega⟩
theorem sub_one {t : Tok} {r : List Tok} (h : t.kind ≠ 0) : Sub1 (t :: r) r := ⟨⟨[t], rfl, fun x hx => by rw [List.mem_singleton] at hx; rw [hx]; exact h⟩, by simp⟩
theorem isT_kind {t : Tok} {s : List UInt8} (h : Fol.isT t s = true) : t.kind = 1 ∨ t.kind = 7 := by
 unfold Fol.isT at h
 simp at h
 exact h.1
theorem isB_sub {l : List Tok} {s : List UInt8} (h : isB l s = true) : Sub1 l l.tail := by
 cases l with
 | nil => cases h
 | cons t r => exact sub_one (by have := isT_kind h; omega)
theorem must_ok {l r : List Tok} {s : List UInt8} {a : Unit} (h : must s l = .ok a r) : isB l s = true ∧ r = l.tail := by
 unfold must at h
 split at h
 ·injection h with _ h; exact ⟨by assumption, h.symm⟩
 ·cases h
theorem must_sub {l r : List Tok} {s : List UInt8} {a : Unit} (h : must s l = .ok a r) : Sub1 l r := by
 obtain ⟨h1, rfl⟩ := must_ok h
 exact isB_sub h1
theorem ofk_ok {k : Nat} {l r : List Tok} {t : Tok} (h : ofk k l = .ok t r) : l = t :: r ∧ t.kind = k := by
 cases l with
 | nil => cases h
 | cons x l =>
  unfold ofk at h
  simp only at h
  split at h
  ·injection h with h1 h2
   subst h1; subst h2
   exact ⟨rfl, by assumption⟩
  ·cases h
theorem ofk_sub {k : Nat} {l r : List Tok} {t : Tok} (h : ofk k l = .ok t r) (hk : k ≠ 0) : Sub1 l r := by
 obtain ⟨rfl, e⟩ := ofk_ok h
 exact sub_one (by omega)
def Far (l : List Tok) (a b : Nat) : Prop := a ≤ b ∧ b ≤ l.length ∧ ∀ j t, a ≤ j → j < b → l[j]? = some t → t.kind ≠ 0
theorem Far.one {l : List Tok} {a : Nat} {t : Tok} (h : l[a]? = some t) (hk : t.kind ≠ 0) : Far l a (a + 1) := by
 refine ⟨by omega, (List.getElem?_eq_some_iff.1 h).1, fun j x h1 h2 hx => ?_⟩
 obtain rfl : j = a := by omega
 rw [h] at hx
 injection hx with hx
 rw [← hx]
 exact hk
theorem Far.trans {l : List Tok} {a b c : Nat} (h : Far l a b) (k : Far l b c) : Far l a c :=
 ⟨by have := h.1; have := k.1; omega, k.2.1, fun j t h1 h2 ht => by
  rcases Nat.lt_or_ge j b with h4 | h4
  ·exact h.2.2 j t h1 h4 ht
  ·exact k.2.2 j t h4 h2 ht⟩
theorem numT_kind {t : Tok} {m : Bool} {n : Int} (h : Fol.numT t m = (n, 0)) : t.kind = 2 := by
 unfold Fol.numT at h
 split at h
 ·cases h
 ·rename_i h1; simpa using h1
theorem mach_far (l : List Tok) : ∀ (k : Nat) (md : Fol.Mode) (a : Nat) (stk : List Fol.Opn) (n : Int) (b : Nat), Fol.mach l k md a stk = some (.val n b) → (a ≤ l.length → Far l a b) ∧ (md = .fac → a < b) := by
 intro k
 induction k with
 | zero => intro md a stk n b h; cases md <;> cases h
 | succ k ih =>
  intro md a stk n b h
  cases md with
  | fac =>
   obtain ⟨t0, t, h0, hc⟩ := Fol.mach_fac h
   have body : ∀ m p, l[p]? = some t → Fol.FacP l k a stk (.val n b) m p t → Far l p b ∧ p < b := by
    intro m p ht hf
    have hp := (List.getElem?_eq_some_iff.1 ht).1
    rcases hf with ⟨h1, _, h2⟩ | ⟨_, _, h2⟩ | ⟨_, x, h1, h2⟩ | ⟨_, _, _, _, _, h2⟩
    ·have f1 := Far.one ht (by have := isT_kind h1; omega)
     have f2 := (ih _ _ _ _ _ h2).1 f1.2.1
     exact ⟨f1.trans f2, by have := f2.1; omega⟩
    ·cases h2
    ·have f1 := Far.one ht (by rw [numT_kind h1]; decide)
     have f2 := (ih _ _ _ _ _ h2).1 f1.2.1
     exact ⟨f1.trans f2, by have := f2.1; omega⟩
    ·cases h2
   rcases hc with ⟨h1, h2, h3⟩ | ⟨h1, h2, h3⟩
   ·obtain ⟨f, g⟩ := body true (a + 1) h2 h3
    exact ⟨fun _ => (Far.one h0 (by have := isT_kind h1; omega)).trans f, fun _ => by omega⟩
   ·obtain ⟨f, g⟩ := body false a h2 h3
    exact ⟨fun _ => f, fun _ => g⟩
  | beh x =>
   refine ⟨fun ha => ?_, fun e => by cases e⟩
   cases stk with
   | nil =>
    have := Fol.mach_top h
    injection this with e1 e2
    subst e2
    exact ⟨Nat.le_refl _, ha, fun j t h1 h2 => by omega⟩
   | cons o r =>
    obtain ⟨t, ht, hc⟩ := Fol.mach_beh h
    have step : ∀ {md stk}, t.kind ≠ 0 → Fol.mach l k md (a + 1) stk = some (.val n b) → Far l a b := by
     intro md stk hk h2
     have f1 := Far.one ht hk
     exact f1.trans ((ih _ _ _ _ _ h2).1 f1.2.1)
    rcases hc with ⟨h1, h2⟩ | ⟨_, h1, h2⟩ | ⟨_, _, h1, h2⟩ | ⟨_, _, _, h1, h2⟩ | ⟨_, _, _, _, h2⟩
    ·exact step (by have := isT_kind h1; omega) h2
    ·exact step (by have := isT_kind h1; omega) h2
    ·exact step (by have := isT_kind h1; omega) h2
    ·exact step (by have := isT_kind h1; omega) h2
    ·cases h2
theorem value_sub {l r : List Tok} {n : Int} (h : value l = .ok n r) : Sub1 l r := by
 unfold value at h
 split at h
 ·rename_i m a hm
  injection h with h1 h2
  subst h2
  obtain ⟨f, g⟩ := mach_far l _ _ _ _ _ _ hm
  obtain ⟨_, f2, f3⟩ := f (Nat.zero_le _)
  have hpos := g rfl
  refine ⟨⟨l.take a, (List.take_append_drop a l).symm, fun t ht => ?_⟩, by rw [List.length_drop]; omega⟩
  obtain ⟨j, hj, e⟩ := List.getElem_of_mem ht
  rw [List.length_take] at hj
  refine f3 j t (Nat.zero_le _) (by omega) ?_
  rw [← e, List.getElem_take]
  exact List.getElem?_eq_getElem (by omega)
 ·cases h
 ·cases h
theorem tag_sub {l r : List Tok} {n : Int} (h : tag l = .ok n r) : Sub1 l r := by
 obtain ⟨_, r1, h1, h⟩ := bind_ok h
 obtain ⟨t, r2, h2, h⟩ := bind_ok h
 injection h with _ h; subst h
 exact (must_sub h1).trans (ofk_sub h2 (by decide)).1
theorem operand_sub {l r : List Tok} {x : Opn} (h : operand l = .ok x r) : Sub1 l r := by
 unfold operand at h
 split at h
 ·obtain ⟨t, r1, h1, h⟩ := bind_ok h
  injection h with _ h; subst h
  exact ofk_sub h1 (by decide)
 ·split at h
  ·obtain ⟨t, r1, h1, h⟩ := bind_ok h
   obtain ⟨v, r2, h2, h⟩ := bind_ok h
   injection h with _ h; subst h
   exact (ofk_sub h1 (by decide)).trans (tag_sub h2).1
  ·split at h
   ·obtain ⟨t, r1, h1, h⟩ := bind_ok h
    obtain ⟨v, r2, h2, h⟩ := bind_ok h
    injection h with _ h; subst h
    exact (ofk_sub h1 (by decide)).trans (tag_sub h2).1
   ·split at h
    ·rename_i hb
     injection h with _ h; subst h
     exact isB_sub hb
    ·obtain ⟨n, r1, h1, h⟩ := bind_ok h
     injection h with _ h; subst h
     exact value_sub h1
theorem opsF_more (e : List UInt8) : ∀ (k m : Nat) (acc : List Opn) (l : List Tok), l.length < k → l.length < m → opsF k e acc l = opsF m e acc l := by
 intro k
 induction k with
 | zero => intro m acc l h; omega
 | succ k ih =>
  intro m acc l h1 h2
  cases m with
  | zero => omega
  | succ m =>
   unfold opsF
   cases h : operand l with
   | bad c p => rfl
   | ok a r =>
    have := (operand_sub h).2
    simp only [Res.bind]
    rw [ih m (acc ++ [a]) r.tail (by rw [List.length_tail]; omega) (by rw [List.length_tail]; omega)]
theorem ops_eq (e : List UInt8) (acc : List Opn) (l : List Tok) : ops e acc l = (operand l).bind fun a r => if isB r [44] = true then ops e (acc ++ [a]) r.tail else (must e r).bind fun _ r => .ok (acc ++ [a]) r := by
 unfold ops
 rw [opsF]
 cases h : operand l with
 | bad c p => rfl
 | ok a r =>
  have := (operand_sub h).2
  simp only [Res.bind]
  rw [opsF_more e l.length (r.tail.length + 1) (acc ++ [a]) r.tail (by rw [List.length_tail]; omega) (by omega)]
theorem ops_sub (e : List UInt8) : ∀ (n : Nat) (acc : List Opn) (l r : List Tok) (x : List Opn), l.length ≤ n → ops e acc l = .ok x r → Sub1 l r := by
 intro n
 induction n with
 | zero =>
  intro acc l r x hl h
  rw [ops_eq] at h
  obtain ⟨a, r1, h1, h⟩ := bind_ok h
  have := (operand_sub h1).2
  omega
 | succ n ih =>
  intro acc l r x hl h
  rw [ops_eq] at h
  obtain ⟨a, r1, h1, h⟩ := bind_ok h
  have g1 := operand_sub h1
  split at h
  ·rename_i hb
   have g2 := isB_sub hb
   have := g1.2
   have := g2.2
   exact g1.trans (g2.sub.trans (ih _ _ _ _ (by omega) h).1)
  ·obtain ⟨_, r2, h2, h⟩ := bind_ok h
   injection h with _ h; subst h
   exact g1.trans (must_sub h2).1
theorem ops0_sub {e : List UInt8} {l r : List Tok} {x : List Opn} (h : ops0 e l = .ok x r) : Sub1 l r := by
 unfold ops0 at h
 split at h
 ·rename_i hb
  injection h with _ h; subst h
  exact isB_sub hb
 ·exact ops_sub e _ _ _ _ _ (Nat.le_refl _) h
theorem label_sub {l r : List Tok} {s : List UInt8} (h : label l = .ok s r) : Sub1 l r := by
 obtain ⟨t, r1, h1, h⟩ := bind_ok h
 have g1 := ofk_sub h1 (by decide)
 split at h
 ·rename_i hb
  obtain ⟨u, r2, h2, h⟩ := bind_ok h
  injection h with _ h; subst h
  exact g1.trans ((isB_sub hb).sub.trans (ofk_sub h2 (by decide)).1)
 ·injection h with _ h; subst h
  exact g1
theorem argsN_sub : ∀ (k : Nat) (acc : List Opn) (l r : List Tok) (x : List Opn), argsN k acc l = .ok x r → Sub l r := by
 intro k
 induction k with
 | zero => intro acc l r x h; injection h with _ h; subst h; exact Sub.refl _
 | succ k ih =>
  intro acc l r x h
  obtain ⟨_, r1, h1, h⟩ := bind_ok h
  obtain ⟨a, r2, h2, h⟩ := bind_ok h
  have g2 := (operand_sub h2).1.trans (ih _ _ _ _ h)
  split at h1
  ·injection h1 with _ h1; subst h1; exact g2
  ·exact (must_sub h1).1.trans g2
theorem case1_sub {l r : List Tok} {x : Int × List UInt8} (h : case1 l = .ok x r) : Sub1 l r := by
 obtain ⟨n, r1, h1, h⟩ := bind_ok h
 obtain ⟨_, r2, h2, h⟩ := bind_ok h
 obtain ⟨s, r3, h3, h⟩ := bind_ok h
 obtain ⟨_, r4, h4, h⟩ := bind_ok h
 injection h with _ h; subst h
 exact (value_sub h1).trans ((must_sub h2).1.trans ((label_sub h3).1.trans (must_sub h4).1))
theorem casesF_more : ∀ (k m : Nat) (cs : List Int) (ls : List ByteArray) (l : List Tok), l.length < k → l.length < m → casesF k cs ls l = casesF m cs ls l := by
 intro k
 induction k with
 | zero => intro m cs ls l h; omega
 | succ k ih =>
  intro m cs ls l h1 h2
  cases m with
  | zero => omega
  | succ m =>
   unfold casesF
   split
   ·rfl
   ·cases h : case1 l with
    | bad c p => rfl
    | ok x r =>
     have := (case1_sub h).2
     simp only [Res.bind]
     exact ih m _ _ r (by omega) (by omega)
theorem cases_eq (cs : List Int) (ls : List ByteArray) (l : List Tok) : cases cs ls l =
  if isB l elseL = true then (must [58] l.tail).bind fun _ l => (label l).bind fun s l => (must [93] l).bind fun _ l => .ok (cs, ls ++ [⟨s.toArray⟩]) l
  else (case1 l).bind fun x r => cases (cs ++ [x.1]) (ls ++ [⟨x.2.toArray⟩]) r := by
 unfold cases
 rw [casesF]
 split
 ·rfl
 ·cases h : case1 l with
  | bad c p => rfl
  | ok x r =>
   have := (case1_sub h).2
   simp only [Res.bind]
   exact casesF_more _ _ _ _ r (by omega) (by omega)
theorem cases_sub : ∀ (n : Nat) (cs : List Int) (ls : List ByteArray) (l r : List Tok) (x : List Int × List ByteArray), l.length ≤ n → cases cs ls l = .ok x r → Sub1 l r := by
 intro n
 induction n with
 | zero =>
  intro cs ls l r x hl h
  rw [cases_eq] at h
  split at h
  ·rename_i hb
   have := (isB_sub hb).2
   omega
  ·obtain ⟨a, r1, h1, h⟩ := bind_ok h
   have := (case1_sub h1).2
   omega
 | succ n ih =>
  intro cs ls l r x hl h
  rw [cases_eq] at h
  split at h
  ·rename_i hb
   obtain ⟨_, r1, h1, h⟩ := bind_ok h
   obtain ⟨s, r2, h2, h⟩ := bind_ok h
   obtain ⟨_, r3, h3, h⟩ := bind_ok h
   injection h with _ h; subst h
   exact (isB_sub hb).trans ((must_sub h1).1.trans ((label_sub h2).1.trans (must_sub h3).1))
  ·obtain ⟨a, r1, h1, h⟩ := bind_ok h
   have g := case1_sub h1
   exact g.trans (ih _ _ _ _ _ (by have := g.2; omega) h).1
theorem rest_sub {op : Nat} {l r : List Tok} {x : Has} (h : rest op l = .ok x r) : Sub l r := by
 unfold rest at h
 split at h
 ·obtain ⟨t, r1, h1, h⟩ := bind_ok h
  obtain ⟨_, r2, h2, h⟩ := bind_ok h
  obtain ⟨a, r3, h3, h⟩ := bind_ok h
  injection h with _ h; subst h
  exact (ofk_sub h1 (by decide)).1.trans ((must_sub h2).1.trans (ops0_sub h3).1)
 ·obtain ⟨a, r1, h1, h⟩ := bind_ok h
  have g := argsN_sub _ _ _ _ _ h1
  refine g.trans ?_
  split at h
  ·split at h
   ·rename_i hb
    obtain ⟨n, r2, h2, h⟩ := bind_ok h
    injection h with _ h; subst h
    exact (isB_sub hb).1.trans (value_sub h2).1
   ·injection h with _ h; subst h; exact Sub.refl _
  ·split at h
   ·obtain ⟨s, r2, h2, h⟩ := bind_ok h
    injection h with _ h; subst h
    exact (label_sub h2).1
   ·split at h
    ·obtain ⟨_, r2, h2, h⟩ := bind_ok h
     obtain ⟨s, r3, h3, h⟩ := bind_ok h
     obtain ⟨_, r4, h4, h⟩ := bind_ok h
     obtain ⟨u, r5, h5, h⟩ := bind_ok h
     injection h with _ h; subst h
     exact (must_sub h2).1.trans ((label_sub h3).1.trans ((must_sub h4).1.trans (label_sub h5).1))
    ·split at h
     ·obtain ⟨_, r2, h2, h⟩ := bind_ok h
      obtain ⟨x2, r3, h3, h⟩ := bind_ok h
      injection h with _ h; subst h
      exact (must_sub h2).1.trans (cases_sub _ _ _ _ _ _ (Nat.le_refl _) h3).1
     ·injection h with _ h; subst h; exact Sub.refl _
theorem kind_sub {l : List Tok} (h : kindOf l ≠ 0) : Sub1 l l.tail := by
 cases l with
 | nil => exact absurd rfl h
 | cons t r => exact sub_one h
theorem instr2_sub {d : Opn} {l r : List Tok} {x : Ins} (h : instr2 d l = .ok x r) : Sub1 l r := by
 unfold instr2 at h
 split at h
 ·rename_i hk
  obtain ⟨a, r1, h1, h⟩ := bind_ok h
  obtain ⟨_, r2, h2, h⟩ := bind_ok h
  injection h with _ h; subst h
  exact (kind_sub (by rw [hk.1]; decide)).trans ((rest_sub h1).trans (must_sub h2).1)
 ·cases h
theorem instr_sub {l r : List Tok} {x : Ins} (h : instr l = .ok x r) : Sub1 l r := by
 unfold instr at h
 split at h
 ·obtain ⟨d, r1, h1, h⟩ := bind_ok h
  obtain ⟨_, r2, h2, h⟩ := bind_ok h
  exact (operand_sub h1).trans ((must_sub h2).1.trans (instr2_sub h).1)
 ·split at h
  ·cases h
  ·exact instr2_sub h
theorem codeF_more : ∀ (k m : Nat) (acc : List Ins) (l : List Tok), l.length < k → l.length < m → codeF k acc l = codeF m acc l := by
 intro k
 induction k with
 | zero => intro m acc l h; omega
 | succ k ih =>
  intro m acc l h1 h2
  cases m with
  | zero => omega
  | succ m =>
   unfold codeF
   split
   ·rfl
   ·cases h : instr l with
    | bad c p => rfl
    | ok x r =>
     have := (instr_sub h).2
     simp only [Res.bind]
     exact ih m _ r (by omega) (by omega)
theorem code_eq (acc : List Ins) (l : List Tok) : code acc l = if (isB l [125] || begins l) = true then .ok acc l else (instr l).bind fun x r => code (acc ++ [x]) r := by
 unfold code
 rw [codeF]
 split
 ·rfl
 ·cases h : instr l with
  | bad c p => rfl
  | ok x r =>
   have := (instr_sub h).2
   simp only [Res.bind]
   exact codeF_more _ _ _ r (by omega) (by omega)
theorem code_sub : ∀ (n : Nat) (acc : List Ins) (l r : List Tok) (x : List Ins), l.length ≤ n → code acc l = .ok x r → Sub l r := by
 intro n
 induction n with
 | zero =>
  intro acc l r x hl h
  rw [code_eq] at h
  split at h
  ·injection h with _ h; subst h; exact Sub.refl _
  ·obtain ⟨a, r1, h1, h⟩ := bind_ok h
   have := (instr_sub h1).2
   omega
 | succ n ih =>
  intro acc l r x hl h
  rw [code_eq] at h
  split at h
  ·injection h with _ h; subst h; exact Sub.refl _
  ·obtain ⟨a, r1, h1, h⟩ := bind_ok h
   have g := instr_sub h1
   exact g.1.trans (ih _ _ _ _ (by have := g.2; omega) h)
theorem block_sub {l r : List Tok} {x : Blk} (h : block l = .ok x r) : Sub1 l r := by
 unfold block at h
 obtain ⟨t, r1, h1, h⟩ := bind_ok h
 obtain ⟨s, r2, h2, h⟩ := bind_ok h
 obtain ⟨i, r3, h3, h⟩ := bind_ok h
 obtain ⟨_, r4, h4, h⟩ := bind_ok h
 obtain ⟨c, r5, h5, h⟩ := bind_ok h
 injection h with _ h; subst h
 have g0 : Sub l (if edgeB l = true then l.tail else l) := by
  split
  ·rename_i hb
   unfold edgeB at hb
   simp only [Bool.and_eq_true] at hb
   exact (isB_sub hb.2.1).1
  ·exact Sub.refl _
 have g2 : Sub r1 r2 := by
  split at h2
  ·obtain ⟨_, q1, e1, h2⟩ := bind_ok h2
   obtain ⟨u, q2, e2, h2⟩ := bind_ok h2
   injection h2 with _ h2; subst h2
   exact (must_sub e1).1.trans (ofk_sub e2 (by decide)).1
  ·injection h2 with _ h2; subst h2; exact Sub.refl _
 have g3 : Sub r2 r3 := by
  split at h3
  ·rename_i hb
   exact (isB_sub hb).1.trans (ops_sub _ _ _ _ _ _ (Nat.le_refl _) h3).1
  ·injection h3 with _ h3; subst h3; exact Sub.refl _
 exact (g0.trans1 (ofk_sub h1 (by decide))).trans (g2.trans (g3.trans ((must_sub h4).1.trans (code_sub _ _ _ _ _ (Nat.le_refl _) h5))))
theorem reg1_sub {l r : List Tok} {x : Rg} (h : reg1 l = .ok x r) : Sub1 l r := by
 obtain ⟨t, r1, h1, h⟩ := bind_ok h
 obtain ⟨_, r2, h2, h⟩ := bind_ok h
 have g := (ofk_sub h1 (by decide)).trans (must_sub h2).1
 split at h
 ·rename_i hb
  injection h with _ h; subst h
  exact g.trans (isB_sub hb).1
 ·obtain ⟨_, r3, h3, h⟩ := bind_ok h
  injection h with _ h; subst h
  exact g.trans (must_sub h3).1
theorem regsF_more : ∀ (k m : Nat) (acc : List Rg) (l : List Tok), l.length < k → l.length < m → regsF k acc l = regsF m acc l := by
 intro k
 induction k with
 | zero => intro m acc l h; omega
 | succ k ih =>
  intro m acc l h1 h2
  cases m with
  | zero => omega
  | succ m =>
   unfold regsF
   split
   ·rfl
   ·cases h : reg1 l with
    | bad c p => rfl
    | ok x r =>
     have := (reg1_sub h).2
     simp only [Res.bind]
     exact ih m _ r (by omega) (by omega)
theorem regs_eq (acc : List Rg) (l : List Tok) : regs acc l = if isB l [59] = true then .ok acc l.tail else (reg1 l).bind fun x r => regs (acc ++ [x]) r := by
 unfold regs
 rw [regsF]
 split
 ·rfl
 ·cases h : reg1 l with
  | bad c p => rfl
  | ok x r =>
   have := (reg1_sub h).2
   simp only [Res.bind]
   exact regsF_more _ _ _ r (by omega) (by omega)
theorem blocksF_more : ∀ (k m : Nat) (acc : List Blk) (l : List Tok), l.length < k → l.length < m → blocksF k acc l = blocksF m acc l := by
 intro k
 induction k with
 | zero => intro m acc l h; omega
 | succ k ih =>
  intro m acc l h1 h2
  cases m with
  | zero => omega
  | succ m =>
   unfold blocksF
   split
   ·rfl
   ·cases h : block l with
    | bad c p => rfl
    | ok x r =>
     have := (block_sub h).2
     simp only [Res.bind]
     exact ih m _ r (by omega) (by omega)
theorem blocks_eq (acc : List Blk) (l : List Tok) : blocks acc l = if isB l [125] = true then .ok acc l.tail else (block l).bind fun x r => blocks (acc ++ [x]) r := by
 unfold blocks
 rw [blocksF]
 split
 ·rfl
 ·cases h : block l with
  | bad c p => rfl
  | ok x r =>
   have := (block_sub h).2
   simp only [Res.bind]
   exact blocksF_more _ _ _ r (by omega) (by omega)
def Ends (l : List Tok) : Prop := ∃ u e, l = u ++ [e] ∧ e.kind = 0
theorem Ends.ne {l : List Tok} (h : Ends l) : l ≠ [] := by obtain ⟨u, e, rfl, _⟩ := h; simp
theorem Ends.sub {l r : List Tok} (h : Ends l) (k : Sub l r) : Ends r := by
 obtain ⟨u, e, rfl, he⟩ := h
 obtain ⟨v, hv, hk⟩ := k
 cases r with
 | nil =>
  rw [List.append_nil] at hv
  exact absurd he (hk e (by rw [← hv]; simp))
 | cons t r =>
  have h1 := congrArg List.getLast? hv
  rw [List.getLast?_append, List.getLast?_append] at h1
  simp at h1
  obtain ⟨w, hw⟩ : ∃ w, t :: r = w ++ [e] := by
   refine ⟨(t :: r).dropLast, ?_⟩
   rw [List.getLast?_eq_some_getLast (by simp)] at h1
   simp at h1
   rw [h1]
   exact (List.dropLast_concat_getLast (by simp)).symm
  exact ⟨w, e, hw, he⟩
structure St where
 at_ : Nat
 code : Int
 pos : Nat
def Via (ts : List Tok) {α : Type} (m k : List Tok → Res α) (s s' : St) : Prop :=
 (s.code ≠ 0 ∧ s' = s) ∨ (s.code = 0 ∧ s'.code = 0 ∧ m (ts.drop s.at_) = k (ts.drop s'.at_)) ∨ (s.code = 0 ∧ s'.code ≠ 0 ∧ m (ts.drop s.at_) = .bad s'.code s'.pos)
def Tr (ts : List Tok) {α : Type} (m : List Tok → Res α) (s s' : St) (v : α) : Prop := Via ts m (fun l => .ok v l) s s'
section
variable {ts : List Tok} {α β : Type} {m k k' : List Tok → Res α} {s s1 s2 : St}
theorem Via.refl : Via ts m m s s := by
 by_cases h : s.code = 0
 ·exact .inr (.inl ⟨h, h, rfl⟩)
 ·exact .inl ⟨h, rfl⟩
theorem Via.trans (h : Via ts m k s s1) (g : Via ts k k' s1 s2) : Via ts m k' s s2 := by
 rcases h with ⟨h1, rfl⟩ | ⟨h1, h2, h3⟩ | ⟨h1, h2, h3⟩
 ·rcases g with ⟨g1, rfl⟩ | ⟨g1, _⟩ | ⟨g1, _⟩
  ·exact .inl ⟨h1, rfl⟩
  ·exact absurd g1 h1
  ·exact absurd g1 h1
 ·rcases g with ⟨g1, _⟩ | ⟨g1, g2, g3⟩ | ⟨g1, g2, g3⟩
  ·exact absurd h2 g1
  ·exact .inr (.inl ⟨h1, g2, h3.trans g3⟩)
  ·exact .inr (.inr ⟨h1, g2, h3.trans g3⟩)
 ·rcases g with ⟨g1, rfl⟩ | ⟨g1, _⟩ | ⟨g1, _⟩
  ·exact .inr (.inr ⟨h1, h2, h3⟩)
  ·exact absurd g1 h2
  ·exact absurd g1 h2
theorem via_eq (h : s.code = 0 → m (ts.drop s.at_) = k (ts.drop s.at_)) : Via ts m k s s := by
 by_cases hc : s.code = 0
 ·exact .inr (.inl ⟨hc, hc, h hc⟩)
 ·exact .inl ⟨hc, rfl⟩
theorem Tr.next {f : α → List Tok → Res β} {v : α} (h : Tr ts m s s1 v) : Via ts (fun l => (m l).bind f) (f v) s s1 := by
 rcases h with ⟨h1, rfl⟩ | ⟨h1, h2, h3⟩ | ⟨h1, h2, h3⟩
 ·exact .inl ⟨h1, rfl⟩
 ·exact .inr (.inl ⟨h1, h2, by simp only [h3]; rfl⟩)
 ·exact .inr (.inr ⟨h1, h2, by simp only [h3]; rfl⟩)
theorem Via.tr {v : α} (h : Via ts m k s s1) (g : Tr ts k s1 s2 v) : Tr ts m s s2 v := Via.trans h g
theorem Via.stuck (h : Via ts m k s s1) (hc : s1.code ≠ 0) : Via ts m k' s s1 := by
 rcases h with ⟨h1, rfl⟩ | ⟨h1, h2, h3⟩ | ⟨h1, h2, h3⟩
 ·exact .inl ⟨h1, rfl⟩
 ·exact absurd h2 hc
 ·exact .inr (.inr ⟨h1, h2, h3⟩)
theorem tr_idle {v : α} (hc : s.code ≠ 0) : Tr ts m s s v := .inl ⟨hc, rfl⟩
theorem Tr.good {v : α} (h : Tr ts m s s1 v) (hc : s1.code = 0) : s.code = 0 ∧ m (ts.drop s.at_) = .ok v (ts.drop s1.at_) := by
 rcases h with ⟨h1, rfl⟩ | ⟨h1, h2, h3⟩ | ⟨h1, h2, h3⟩
 ·exact absurd hc h1
 ·exact ⟨h1, h3⟩
 ·exact absurd hc h2
theorem Tr.bad {v : α} (h : Tr ts m s s1 v) (h0 : s.code = 0) (hc : s1.code ≠ 0) : m (ts.drop s.at_) = .bad s1.code s1.pos := by
 rcases h with ⟨h1, rfl⟩ | ⟨h1, h2, h3⟩ | ⟨h1, h2, h3⟩
 ·exact absurd h0 h1
 ·exact absurd h2 hc
 ·exact h3
def togo (n : Nat) (s : St) : Nat := if s.code = 0 then n - s.at_ + 1 else 0
theorem Tr.less {v : α} (h : Tr ts m s s1 v) (h0 : s.code = 0) (ha : s.at_ < ts.length) (hb : s1.at_ < ts.length) (hs : ∀ l r a, m l = .ok a r → Sub1 l r) : togo ts.length s1 < togo ts.length s ∧ togo ts.length s ≠ 0 := by
 unfold togo
 rw [if_pos h0]
 split
 ·rename_i hc
  have := (hs _ _ _ (h.good hc).2).2
  rw [List.length_drop, List.length_drop] at this
  omega
 ·omega
theorem Tr.le {v : α} (h : Tr ts m s s1 v) (ha : s.at_ < ts.length) (hb : s1.at_ < ts.length) (hs : ∀ l r a, m l = .ok a r → Sub l r) : togo ts.length s1 ≤ togo ts.length s := by
 unfold togo
 split
 ·rename_i hc
  have g := h.good hc
  have := (hs _ _ _ g.2).len
  rw [List.length_drop, List.length_drop] at this
  rw [if_pos g.1]
  omega
 ·omega
end
theorem must_yes {l : List Tok} {x : List UInt8} (h : isB l x = true) : must x l = .ok () l.tail := by unfold must; rw [if_pos h]
theorem must_no {l : List Tok} {x : List UInt8} (h : isB l x = false) : must x l = err l := by unfold must; rw [h]; rfl
theorem drop_at {ts : List Tok} {a : Nat} {t : Tok} (h : ts[a]? = some t) : ts.drop a = t :: ts.drop (a + 1) := by
 obtain ⟨h1, h2⟩ := List.getElem?_eq_some_iff.1 h
 rw [List.drop_eq_getElem_cons h1, h2]
theorem isB_at {ts : List Tok} {a : Nat} {t : Tok} (x : List UInt8) (h : ts[a]? = some t) : isB (ts.drop a) x = Fol.isT t x := by rw [drop_at h]; rfl
theorem kind_at {ts : List Tok} {a : Nat} {t : Tok} (h : ts[a]? = some t) : kindOf (ts.drop a) = t.kind := by rw [drop_at h]; rfl
theorem head_at {ts : List Tok} {a : Nat} {t : Tok} (h : ts[a]? = some t) : headAt (ts.drop a) = t.at_ := by rw [drop_at h]; rfl
theorem tail_at {ts : List Tok} {a : Nat} : (ts.drop a).tail = ts.drop (a + 1) := by rw [List.tail_drop]
theorem mach_fac_eq (l : List Tok) (k a : Nat) (stk : List Fol.Opn) (t0 : Tok) (h0 : l[a]? = some t0) (p : Nat) (hp : (if Fol.isT t0 [45] = true then a + 1 else a) = p) (t : Tok) (ht : l[p]? = some t) :
  Fol.mach l (k + 1) .fac a stk = (if Fol.isT t [40] = true then (if Fol.mayT stk.length (Fol.isT t0 [45]) = 0 then Fol.mach l k .fac (p + 1) (Fol.opened (Fol.isT t0 [45]) :: stk) else some (.bad (Fol.mayT stk.length (Fol.isT t0 [45])) t.at_))
   else if (Fol.numT t (Fol.isT t0 [45])).2 = 0 then Fol.mach l k (.beh (Fol.numT t (Fol.isT t0 [45])).1) (p + 1) stk else some (.bad (Fol.numT t (Fol.isT t0 [45])).2 t.at_)) := by
 rw [Fol.mach, h0]
 simp only
 rw [hp, ht]
theorem mach_more (l : List Tok) : ∀ (k : Nat) (md : Fol.Mode) (a : Nat) (stk : List Fol.Opn) (R : Fol.Res), Fol.mach l k md a stk = some R → Fol.mach l (k + 1) md a stk = some R := by
 intro k
 induction k with
 | zero => intro md a stk R h; cases md <;> cases h
 | succ k ih =>
  intro md a stk R h
  cases md with
  | fac =>
   obtain ⟨t0, t, h0, hc⟩ := Fol.mach_fac h
   obtain ⟨m, p, hm, hp, ht, hf⟩ : ∃ m p, Fol.isT t0 [45] = m ∧ (if m = true then a + 1 else a) = p ∧ l[p]? = some t ∧ Fol.FacP l k a stk R m p t := by
    rcases hc with ⟨h1, h2, h3⟩ | ⟨h1, h2, h3⟩
    ·exact ⟨true, a + 1, h1, rfl, h2, h3⟩
    ·exact ⟨false, a, h1, rfl, h2, h3⟩
   have := mach_fac_eq l (k + 1) a stk t0 h0 p (by rw [hm]; exact hp) t ht
   rw [hm] at this
   rw [this]
   rcases hf with ⟨h1, h2, h3⟩ | ⟨h1, h2, h3⟩ | ⟨h1, x, h2, h3⟩ | ⟨h1, x, c, h2, h3, h4⟩
   ·rw [if_pos h1, if_pos h2]; exact ih _ _ _ _ h3
   ·rw [if_pos h1, if_neg h2, h3]
   ·rw [if_neg (by rw [h1]; decide), h2, if_pos rfl]; exact ih _ _ _ _ h3
   ·rw [if_neg (by rw [h1]; decide), h2, if_neg h3, h4]
  | beh x =>
   cases stk with
   | nil => rw [Fol.mach_top h]; rfl
   | cons o r =>
    obtain ⟨t, ht, hc⟩ := Fol.mach_beh h
    rw [Fol.mach, ht]
    simp only
    rcases hc with ⟨h1, h3⟩ | ⟨h0, h1, h3⟩ | ⟨h0, h0', h1, h3⟩ | ⟨h0, h0', h0'', h1, h3⟩ | ⟨h0, h0', h0'', h1, h3⟩
    ·rw [if_pos h1]; exact ih _ _ _ _ h3
    ·rw [h0, if_neg (by decide), if_pos h1]; exact ih _ _ _ _ h3
    ·rw [h0, if_neg (by decide), h0', if_neg (by decide), if_pos h1]; exact ih _ _ _ _ h3
    ·rw [h0, if_neg (by decide), h0', if_neg (by decide), h0'', if_neg (by decide), if_pos h1]; exact ih _ _ _ _ h3
    ·rw [h0, if_neg (by decide), h0', if_neg (by decide), h0'', if_neg (by decide), h1, if_neg (by decide), h3]
theorem mach_most (l : List Tok) (k k' : Nat) (hk : k ≤ k') (md : Fol.Mode) (a : Nat) (stk : List Fol.Opn) (R : Fol.Res) (h : Fol.mach l k md a stk = some R) : Fol.mach l k' md a stk = some R := by
 obtain ⟨d, rfl⟩ : ∃ d, k' = k + d := ⟨k' - k, by omega⟩
 induction d with
 | zero => exact h
 | succ d ih => exact mach_more l _ _ _ _ _ (ih (by omega))
theorem ends_step {l : List Tok} (h : Ends l) {p : Nat} {t : Tok} (ht : l[p]? = some t) (hk : t.kind ≠ 0) : p + 1 < l.length := by
 obtain ⟨u, e, rfl, he⟩ := h
 have hp := (List.getElem?_eq_some_iff.1 ht).1
 rw [List.length_append, List.length_singleton] at hp ⊢
 rcases Nat.lt_or_ge p u.length with h1 | h1
 ·omega
 ·obtain rfl : p = u.length := by omega
  rw [List.getElem?_append_right (Nat.le_refl _), Nat.sub_self] at ht
  injection ht with ht
  subst ht
  exact absurd he hk
theorem mach_some (l : List Tok) (hE : Ends l) : ∀ (k : Nat) (md : Fol.Mode) (a : Nat) (stk : List Fol.Opn), a < l.length → l.length - a < k → ∃ R, Fol.mach l k md a stk = some R := by
 intro k
 induction k with
 | zero => intro md a stk h1 h2; omega
 | succ k ih =>
  intro md a stk h1 h2
  obtain ⟨t0, h0⟩ : ∃ t, l[a]? = some t := ⟨l[a], List.getElem?_eq_getElem h1⟩
  cases md with
  | fac =>
   obtain ⟨m, hm⟩ : ∃ m, Fol.isT t0 [45] = m := ⟨_, rfl⟩
   obtain ⟨p, hp⟩ : ∃ p, (if m = true then a + 1 else a) = p := ⟨_, rfl⟩
   have hpl : p < l.length ∧ a ≤ p := by
    rw [← hp]
    cases m with
    | true => exact ⟨ends_step hE h0 (by have := isT_kind hm; omega), by simp⟩
    | false => exact ⟨h1, by simp⟩
   obtain ⟨t, ht⟩ : ∃ t, l[p]? = some t := ⟨l[p], List.getElem?_eq_getElem hpl.1⟩
   have := mach_fac_eq l k a stk t0 h0 p (by rw [hm]; exact hp) t ht
   rw [this, hm]
   split
   ·rename_i h3
    split
    ·have := ends_step hE ht (by have := isT_kind h3; omega)
     exact ih _ _ _ this (by omega)
    ·exact ⟨_, rfl⟩
   ·split
    ·rename_i h4
     have hk : t.kind = 2 := numT_kind (m := m) (n := (Fol.numT t m).1) (by rw [← h4])
     have := ends_step hE ht (by omega)
     exact ih _ _ _ this (by omega)
    ·exact ⟨_, rfl⟩
  | beh x =>
   cases stk with
   | nil => exact ⟨_, rfl⟩
   | cons o r =>
    rw [Fol.mach, h0]
    simp only
    split
    ·rename_i h3
     have := ends_step hE h0 (by have := isT_kind h3; omega)
     exact ih _ _ _ this (by omega)
    ·split
     ·rename_i h3
      have := ends_step hE h0 (by have := isT_kind h3; omega)
      exact ih _ _ _ this (by omega)
     ·split
      ·rename_i h3
       have := ends_step hE h0 (by have := isT_kind h3; omega)
       exact ih _ _ _ this (by omega)
      ·split
       ·rename_i h3
        have := ends_step hE h0 (by have := isT_kind h3; omega)
        exact ih _ _ _ this (by omega)
       ·exact ⟨_, rfl⟩
theorem value_of {l : List Tok} {k : Nat} {R : Fol.Res} (hE : Ends l) (h : Fol.mach l k .fac 0 [] = some R) : value l = (match R with | .val n a => .ok n (l.drop a) | .bad c p => .bad c p) := by
 have hpos : 0 < l.length := List.length_pos_iff.2 hE.ne
 obtain ⟨R', h'⟩ := mach_some l hE (2 * l.length + 2) .fac 0 [] hpos (by omega)
 have h1 := mach_most l _ (k + (2 * l.length + 2)) (by omega) _ _ _ _ h
 have h2 := mach_most l _ (k + (2 * l.length + 2)) (by omega) _ _ _ _ h'
 rw [h1] at h2
 injection h2 with h2
 unfold value
 rw [h', ← h2]
 cases R <;> rfl
end Go.Proofs.YtbpichjmkllfaaaGreatDoor.Par
