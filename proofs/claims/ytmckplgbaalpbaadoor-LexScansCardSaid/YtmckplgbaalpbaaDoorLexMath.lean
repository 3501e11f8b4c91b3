/- Tokens as plain lists: what stands at a text's beginning, all tokens of a text, and tokens that are told again. -/
import Derived.Test.YtmckplgbaalpbaaDoorQuoMath
import Derived.Test.YtmckplgbaalpbaaDoorNamMath
import Derived.Test.YtmckplgbaalpbaaDoorDeciMath
namespace Go.Proofs.YtmckplgbaalpbaaDoor.Lex
set_option linter.unusedVariables false

structure Tok where
  kind : Nat
  text : List UInt8
  n : Int
  cls : Nat
  at_ : Nat
  deriving DecidableEq
/-- A blank. -/
def blank (c : UInt8) : Bool := decide (c = 32) || decide (c = 9) || decide (c = 13) || decide (c = 10)
def dgt (c : UInt8) : Bool := decide (48 ≤ c.toNat) && decide (c.toNat ≤ 57)
/-- The digits at a text's beginning. -/
def dg (l : List UInt8) : List UInt8 := l.takeWhile dgt
/-- Of digits: what is wrong with them; 0: nothing. top: the greatest number. -/
def vcode (top : Nat) (l : List UInt8) : Int := if l = [] ∨ (l.head? = some 48 ∧ 1 < l.length) then 12 else if top < Deci.val l then 2 else 0
/-- A number as 64 bits with a sign hold it. -/
def wrapN (u : Nat) : Int := if u < 9223372036854775808 then u else (u : Int) - 18446744073709551616
/-- What stands at a place: so many bytes that are no token, a token of so many bytes, or what is wrong, and where. -/
inductive Nx where
  | skip (k : Nat)
  | tok (t : Tok) (k : Nat)
  | bad (c : Int) (at_ : Nat)
  deriving DecidableEq
def signs : List UInt8 := [123, 125, 40, 41, 91, 93, 44, 58, 59, 61, 43, 45, 42, 46]
/-- A token with digits: pre stands ahead of them. -/
def numb (kind cls top : Nat) (pre r : List UInt8) (at_ : Nat) : Nx :=
  if vcode top (dg r) = 0 then .tok ⟨kind, pre ++ dg r, wrapN (Deci.val (dg r)), cls, at_⟩ (pre.length + (dg r).length) else .bad (vcode top (dg r)) at_
/-- A token that is no text. -/
def plain (c : UInt8) (r : List UInt8) (at_ : Nat) : Nx :=
  if Nam.letter c then (if 24 < Nam.run (c :: r) then .bad 3 at_ else .tok ⟨1, (c :: r).takeWhile Nam.sign, 0, 0, at_⟩ (Nam.run (c :: r)))
  else if c = 37 then numb 4 0 2147483647 [c] r at_
  else if c = 35 then numb 6 0 2147483647 [c] r at_
  else if c = 36 then
    match r with
    | [] => .bad 12 at_
    | d :: r' => if d = 103 then numb 5 0 2147483647 [c, d] r' at_ else if d = 120 then numb 5 1 2147483647 [c, d] r' at_ else .bad 12 at_
  else if dgt c then numb 2 0 9223372036854775808 [] (c :: r) at_
  else if c ∈ signs then (if c = 46 ∧ r.head? = some 46 then .tok ⟨7, [46, 46], 0, 0, at_⟩ 2 else .tok ⟨7, [c], 0, 0, at_⟩ 1)
  else .bad 10 at_
/-- What stands at a place; l is not empty. -/
def nx (l : List UInt8) (at_ : Nat) : Nx :=
  match l with
  | [] => .bad 10 at_
  | c :: r =>
    if blank c then .skip 1
    else if c = 47 ∧ r.head? = some 47 then .skip ((c :: r).takeWhile (· != 10)).length
    else if c = 34 then
      (if (Quo.scan (r.length + 1) r (at_ + 1) []).2.2 = 0 then .tok ⟨3, (Quo.scan (r.length + 1) r (at_ + 1) []).1, 0, 0, at_⟩ ((Quo.scan (r.length + 1) r (at_ + 1) []).2.1 - at_)
       else .bad (Quo.scan (r.length + 1) r (at_ + 1) []).2.2 (Quo.scan (r.length + 1) r (at_ + 1) []).2.1)
    else plain c r at_
/-- All tokens from a place on, behind those of out: the tokens, a code, where. -/
def go : Nat → List UInt8 → Nat → List Tok → List Tok × Int × Nat
  | 0, _, _, _ => ([], 10, 0)
  | _ + 1, [], at_, out => (out ++ [⟨0, [], 0, 0, at_⟩], 0, 0)
  | f + 1, c :: r, at_, out =>
    match nx (c :: r) at_ with
    | .skip k => go f ((c :: r).drop k) (at_ + k) out
    | .tok t k => go f ((c :: r).drop k) (at_ + k) (out ++ [t])
    | .bad e p => ([], e, p)
def all (s : List UInt8) : List Tok × Int × Nat := if 65536 < s.length then ([], 3, 0) else go (s.length + 1) s 0 []

theorem dg_len (l : List UInt8) : (dg l).length ≤ l.length := List.Sublist.length_le (List.takeWhile_sublist _)
theorem dg_all (l : List UInt8) : ∀ c ∈ dg l, dgt c = true := by
  intro c hc
  unfold dg at hc
  induction l with
  | nil => cases hc
  | cons a l ih =>
    rw [List.takeWhile_cons] at hc
    split at hc
    · rcases List.mem_cons.1 hc with e | e
      · rw [e]; assumption
      · exact ih e
    · cases hc
/-- Digits, and then none, are just these digits. -/
theorem dg_cat (l r : List UInt8) (h : ∀ c ∈ l, dgt c = true) (hr : ∀ c, r.head? = some c → dgt c = false) : dg (l ++ r) = l := by
  induction l with
  | nil =>
    cases r with
    | nil => rfl
    | cons c r => unfold dg; rw [List.nil_append, List.takeWhile_cons, hr c rfl]; rfl
  | cons a l ih =>
    unfold dg at *
    rw [List.cons_append, List.takeWhile_cons, h a (List.mem_cons_self ..), if_pos rfl, ih (fun c hc => h c (List.mem_cons_of_mem _ hc))]
theorem run_cat (l r : List UInt8) (h : ∀ c ∈ l, Nam.sign c = true) (hr : ∀ c, r.head? = some c → Nam.sign c = false) : (l ++ r).takeWhile Nam.sign = l := by
  induction l with
  | nil =>
    cases r with
    | nil => rfl
    | cons c r => rw [List.nil_append, List.takeWhile_cons, hr c rfl]; rfl
  | cons a l ih =>
    rw [List.cons_append, List.takeWhile_cons, h a (List.mem_cons_self ..), if_pos rfl, ih (fun c hc => h c (List.mem_cons_of_mem _ hc))]
theorem tw_all {p : UInt8 → Bool} (l : List UInt8) : ∀ c ∈ l.takeWhile p, p c = true := by
  intro c hc
  induction l with
  | nil => cases hc
  | cons a l ih =>
    rw [List.takeWhile_cons] at hc
    split at hc
    · rcases List.mem_cons.1 hc with e | e
      · rw [e]; assumption
      · exact ih e
    · cases hc
/-- Each step goes on, and not beyond the end. -/
theorem numb_size {kind cls top : Nat} {pre r : List UInt8} {at_ : Nat} {t : Tok} {k : Nat} (h : numb kind cls top pre r at_ = .tok t k) : 0 < k ∧ k ≤ pre.length + r.length := by
  unfold numb at h
  split at h
  · rename_i hv
    injection h with _ h
    have h1 := dg_len r
    refine ⟨?_, by omega⟩
    have : dg r ≠ [] := by
      intro e
      rw [e] at hv
      simp [vcode] at hv
    have : 0 < (dg r).length := List.length_pos_iff.2 this
    omega
  · cases h
theorem numb_skip {kind cls top : Nat} {pre r : List UInt8} {at_ k : Nat} : numb kind cls top pre r at_ ≠ .skip k := by
  unfold numb; split <;> simp
theorem plain_skip {c : UInt8} {r : List UInt8} {at_ k : Nat} : plain c r at_ ≠ .skip k := by
  unfold plain
  repeat' split
  all_goals first | exact numb_skip | simp
theorem plain_size {c : UInt8} {r : List UInt8} {at_ : Nat} {t : Tok} {k : Nat} (h : plain c r at_ = .tok t k) : 0 < k ∧ k ≤ (c :: r).length := by
  unfold plain at h
  split at h
  · rename_i hl
    split at h
    · cases h
    · injection h with _ h
      have h1 := Nam.run_le (c :: r)
      have h2 := Nam.run_pos (r := r) (Nam.letter_sign hl)
      omega
  · split at h
    · have := numb_size h; simp at this ⊢; omega
    · split at h
      · have := numb_size h; simp at this ⊢; omega
      · split at h
        · split at h
          · cases h
          · split at h
            · have := numb_size h; simp at this ⊢; omega
            · split at h
              · have := numb_size h; simp at this ⊢; omega
              · cases h
        · split at h
          · have := numb_size h; simp at this ⊢; omega
          · split at h
            · split at h
              · rename_i hh
                injection h with _ h
                cases r with
                | nil => simp at hh
                | cons a r => simp; omega
              · injection h with _ h; simp; omega
            · cases h
end Go.Proofs.YtmckplgbaalpbaaDoor.Lex
