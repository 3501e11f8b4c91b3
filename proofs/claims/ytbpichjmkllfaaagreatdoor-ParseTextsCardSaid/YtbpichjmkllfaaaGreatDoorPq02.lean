/- Packed texts of one proof. Conditions: none. -/
import Derived.Test.YtbpichjmkllfaaaGreatDoorPq01
namespace Go.Proofs.YtbpichjmkllfaaaGreatDoor.Quo
set_option linter.unusedVariables false
set_option maxRecDepth 20000
def hexd (n : Nat) : UInt8 := if n < 10 then UInt8.ofNat (48 + n) else UInt8.ofNat (87 + n)
def one (c : UInt8) : List UInt8 :=
 if c = 34 ∨ c = 92 then [92, c] else if c = 10 then [92, 110] else if c = 9 then [92, 116]
 else if 32 ≤ c.toNat ∧ c.toNat ≤ 126 then [c] else [92, 120, hexd (c.toNat / 16), hexd (c.toNat % 16)]
def body (l : List UInt8) : List UInt8 := l.flatMap one
def put (l : List UInt8) : List UInt8 := 34 :: (body l ++ [34])
def dig (c : UInt8) : Nat :=
 if 48 ≤ c.toNat ∧ c.toNat ≤ 57 then c.toNat - 48 else if 97 ≤ c.toNat ∧ c.toNat ≤ 102 then c.toNat - 87
 else if 65 ≤ c.toNat ∧ c.toNat ≤ 70 then c.toNat - 55 else 99
def two : List UInt8 → UInt8 × Nat
 | h :: l :: _ => if dig h < 16 ∧ dig l < 16 then (UInt8.ofNat (16 * dig h + dig l), 4) else (0, 0)
 | _ => (0, 0)
def esc : List UInt8 → UInt8 × Nat
 | [] => (0, 0)
 | d :: r => if d = 34 ∨ d = 92 then (d, 2) else if d = 110 then (10, 2) else if d = 116 then (9, 2) else if d = 120 then two r else (0, 0)
def piece : List UInt8 → UInt8 × Nat
 | [] => (0, 0)
 | c :: r => if c = 92 then esc r else (c, 1)
def scan : Nat → List UInt8 → Nat → List UInt8 → List UInt8 × Nat × Int
 | 0, _, p, _ => ([], p, 11)
 | _ + 1, [], p, _ => ([], p, 11)
 | f + 1, c :: r, p, t =>
  if c = 34 then (t, p + 1, 0) else if c = 10 then ([], p, 11) else if t.length = 64 then ([], p, 3)
  else if (piece (c :: r)).2 = 0 then ([], p, 11) else scan f ((c :: r).drop (piece (c :: r)).2) (p + (piece (c :: r)).2) (t ++ [(piece (c :: r)).1])
theorem all_bytes (P : UInt8 → Prop) (h : ∀ n, n < 256 → P (UInt8.ofNat n)) (c : UInt8) : P c := by
 have := h c.toNat c.toNat_lt
 rwa [UInt8.ofNat_toNat] at this
theorem hex_back (c : UInt8) : dig (hexd (c.toNat / 16)) = c.toNat / 16 ∧ dig (hexd (c.toNat % 16)) = c.toNat % 16 := by
 refine all_bytes (fun c => dig (hexd (c.toNat / 16)) = c.toNat / 16 ∧ dig (hexd (c.toNat % 16)) = c.toNat % 16) ?_ c
 decide +kernel
theorem piece_one (c : UInt8) (r : List UInt8) : piece (one c ++ r) = (c, (one c).length) := by
 unfold one
 split
 ·rename_i h
  show (if c = 34 ∨ c = 92 then (c, 2) else _) = _
  rw [if_pos h]; rfl
 ·split
  ·subst_vars; rfl
  ·split
   ·subst_vars; rfl
   ·split
    ·rename_i h1 _ _ _
     have : c ≠ 92 := fun h => h1 (.inr h)
     show (if c = 92 then esc r else (c, 1)) = _
     rw [if_neg this]; rfl
    ·show (if dig (hexd (c.toNat / 16)) < 16 ∧ dig (hexd (c.toNat % 16)) < 16 then (UInt8.ofNat (16 * dig (hexd (c.toNat / 16)) + dig (hexd (c.toNat % 16))), 4) else (0, 0)) = _
     have hl := c.toNat_lt
     rw [(hex_back c).1, (hex_back c).2, if_pos (by omega)]
     have : 16 * (c.toNat / 16) + c.toNat % 16 = c.toNat := by omega
     rw [this, UInt8.ofNat_toNat]; rfl
theorem one_len (c : UInt8) : 0 < (one c).length ∧ (one c).length ≤ 4 := by
 unfold one; repeat' split
 all_goals simp
theorem one_head (c : UInt8) : ∃ d r, one c = d :: r ∧ d ≠ 34 ∧ d ≠ 10 := by
 unfold one
 split
 ·exact ⟨92, _, rfl, by decide, by decide⟩
 ·split
  ·exact ⟨92, _, rfl, by decide, by decide⟩
  ·split
   ·exact ⟨92, _, rfl, by decide, by decide⟩
   ·split
    ·rename_i h1 h2 _ _
     exact ⟨c, _, rfl, fun h => h1 (.inl h), h2⟩
    ·exact ⟨92, _, rfl, by decide, by decide⟩
theorem two_size (l : List UInt8) : (two l).2 ≤ l.length + 2 := by
 unfold two
 split
 ·split <;> simp
 ·simp
theorem esc_size (l : List UInt8) : (esc l).2 ≤ l.length + 1 := by
 unfold esc
 split
 ·simp
 ·rename_i d r
  repeat' split
  ·simp
  ·simp
  ·simp
  ·have := two_size r; simp; omega
  ·simp
theorem piece_size (l : List UInt8) : (piece l).2 ≤ l.length := by
 unfold piece
 split
 ·simp
 ·split
  ·have := esc_size (by assumption); simp; omega
  ·simp
theorem scan_quote (f : Nat) (r : List UInt8) (p : Nat) (t : List UInt8) : scan (f + 1) (34 :: r) p t = (t, p + 1, 0) := by simp [scan]
theorem scan_step (f : Nat) (c : UInt8) (r : List UInt8) (p : Nat) (t : List UInt8) (h1 : c ≠ 34) (h2 : c ≠ 10) (h3 : t.length ≠ 64) (b : UInt8) (n : Nat) (hp : piece (c :: r) = (b, n)) (hn : n ≠ 0) :
  scan (f + 1) (c :: r) p t = scan f ((c :: r).drop n) (p + n) (t ++ [b]) := by
 rw [scan, if_neg h1, if_neg h2, if_neg h3, hp, if_neg hn]
theorem scan_body : ∀ (l : List UInt8) (f : Nat) (r : List UInt8) (p : Nat) (t : List UInt8), l.length < f → t.length + l.length ≤ 64 →
  scan f (body l ++ 34 :: r) p t = (t ++ l, p + (body l).length + 1, 0) := by
 intro l
 induction l with
 | nil =>
  intro f r p t hf ht
  obtain ⟨f, rfl⟩ : ∃ g, f = g + 1 := ⟨f - 1, by omega⟩
  rw [show body [] ++ 34 :: r = 34 :: r from rfl, scan_quote]; simp [body]
 | cons c l ih =>
  intro f r p t hf ht
  obtain ⟨f, rfl⟩ : ∃ g, f = g + 1 := ⟨f - 1, by omega⟩
  obtain ⟨x, y, hx, h34, h10⟩ := one_head c
  have hb : body (c :: l) ++ 34 :: r = one c ++ (body l ++ 34 :: r) := by unfold body; rw [List.flatMap_cons, List.append_assoc]
  have hp := piece_one c (body l ++ 34 :: r)
  have hl := one_len c
  rw [hx] at hl
  rw [hx, List.cons_append] at hp
  rw [hb, hx, List.cons_append]
  simp only [List.length_cons] at hf ht
  rw [scan_step f x _ p t h34 h10 (by omega) c _ hp (by omega)]
  rw [← List.cons_append, List.drop_left, ih f r _ _ (by omega) (by simp; omega)]
  have : (body (c :: l)).length = (x :: y).length + (body l).length := by unfold body; rw [List.flatMap_cons, List.length_append, hx]
  rw [this]
  simp; omega
theorem scan_out : ∀ (f : Nat) (l : List UInt8) (p : Nat) (t x : List UInt8) (y : Nat) (c : Int), t.length ≤ 64 → scan f l p t = (x, y, c) → x.length ≤ 64 ∧ (c ≠ 0 → x = []) := by
 intro f
 induction f with
 | zero => intro l p t x y c ht h; simp [scan] at h; obtain ⟨rfl, _, _⟩ := h; simp
 | succ f ih =>
  intro l p t x y c ht h
  cases l with
  | nil => simp [scan] at h; obtain ⟨rfl, _, _⟩ := h; simp
  | cons a r =>
   rw [scan] at h
   split at h
   ·injection h with h1 h; injection h with h2 h3; subst h1 h3; exact ⟨ht, fun h => absurd rfl h⟩
   ·split at h
    ·injection h with h1 h; subst h1; simp
    ·split at h
     ·injection h with h1 h; subst h1; simp
     ·split at h
      ·injection h with h1 h; subst h1; simp
      ·exact ih _ _ _ _ _ _ (by simp; omega) h
end Go.Proofs.YtbpichjmkllfaaaGreatDoor.Quo
namespace Go.Proofs.YtbpichjmkllfaaaGreatDoor.Nam
set_option linter.unusedVariables false
def letter (c : UInt8) : Bool := decide (97 ≤ c.toNat ∧ c.toNat ≤ 122) || decide (c.toNat = 95)
def sign (c : UInt8) : Bool := letter c || decide (48 ≤ c.toNat ∧ c.toNat ≤ 57)
def run (l : List UInt8) : Nat := (l.takeWhile sign).length
def right : List UInt8 → Bool
 | [] => false
 | c :: r => letter c && r.all sign && decide (r.length < 24)
def scan (l : List UInt8) (a : Nat) : Nat :=
 match l.drop a with
 | [] => a
 | c :: r => if letter c then a + run (c :: r) else a
theorem letter_sign {c : UInt8} (h : letter c = true) : sign c = true := by unfold sign; rw [h]; rfl
theorem run_le (l : List UInt8) : run l ≤ l.length := List.Sublist.length_le (List.takeWhile_sublist _)
theorem run_pos {c : UInt8} {r : List UInt8} (h : sign c = true) : run (c :: r) = run r + 1 := by unfold run; rw [List.takeWhile_cons_of_pos h]; simp
theorem run_neg {c : UInt8} {r : List UInt8} (h : sign c = false) : run (c :: r) = 0 := by unfold run; rw [List.takeWhile_cons_of_neg (by simp [h])]; rfl
theorem scan_out (l : List UInt8) (a : Nat) (h : l.length ≤ a) : scan l a = a := by
 unfold scan; rw [List.drop_eq_nil_of_le h]
theorem scan_name (l : List UInt8) (a : Nat) (h : a < l.length) (hc : letter l[a] = true) : scan l a = a + run (l.drop a) := by
 unfold scan; rw [List.drop_eq_getElem_cons h]; exact if_pos hc
theorem scan_not (l : List UInt8) (a : Nat) (h : a < l.length) (hc : letter l[a] = false) : scan l a = a := by
 unfold scan; rw [List.drop_eq_getElem_cons h]; simp [hc]
theorem run_at (l : List UInt8) (a : Nat) (h : a < l.length) (hc : sign l[a] = true) : a + run (l.drop a) = (a + 1) + run (l.drop (a + 1)) := by
 rw [List.drop_eq_getElem_cons h, run_pos hc]; omega
theorem run_stop (l : List UInt8) (a : Nat) (h : a < l.length) (hc : sign l[a] = false) : a + run (l.drop a) = a := by
 rw [List.drop_eq_getElem_cons h, run_neg hc]; rfl
theorem run_end (l : List UInt8) (a : Nat) (h : l.length ≤ a) : a + run (l.drop a) = a := by
 rw [List.drop_eq_nil_of_le h]; rfl
end Go.Proofs.YtbpichjmkllfaaaGreatDoor.Nam
namespace Go.Proofs.YtbpichjmkllfaaaGreatDoor.Deci
set_option linter.unusedVariables false
set_option maxRecDepth 20000
def val (l : List UInt8) : Nat := l.foldl (fun a c => 10 * a + (c.toNat - 48)) 0
theorem val_snoc (l : List UInt8) (c : UInt8) : val (l ++ [c]) = 10 * val l + (c.toNat - 48) := by
 unfold val; rw [List.foldl_append]; rfl
theorem foldl_mono (l : List UInt8) : ∀ a, a ≤ l.foldl (fun a c => 10 * a + (c.toNat - 48)) a := by
 induction l with
 | nil => intro a; exact Nat.le_refl _
 | cons c l ih => intro a; have := ih (10 * a + (c.toNat - 48)); rw [List.foldl_cons]; omega
theorem val_take (l : List UInt8) (k : Nat) : val (l.take k) ≤ val l := by
 have h : val l = (l.drop k).foldl (fun a c => 10 * a + (c.toNat - 48)) (val (l.take k)) := by
  unfold val; rw [← List.foldl_append, List.take_append_drop]
 rw [h]; exact foldl_mono _ _
theorem val_step (l : List UInt8) (k : Nat) (h : k < l.length) : val (l.take (k + 1)) = 10 * val (l.take k) + ((l[k]).toNat - 48) := by
 rw [List.take_succ_eq_append_getElem h, val_snoc]
end Go.Proofs.YtbpichjmkllfaaaGreatDoor.Deci
namespace Go.Proofs.YtbpichjmkllfaaaGreatDoor.Lex
set_option linter.unusedVariables false
structure Tok where
 kind : Nat
 text : List UInt8
 n : Int
 cls : Nat
 at_ : Nat
 deriving DecidableEq
def blank (c : UInt8) : Bool := decide (c = 32) || decide (c = 9) || decide (c = 13) || decide (c = 10)
def dgt (c : UInt8) : Bool := decide (48 ≤ c.toNat) && decide (c.toNat ≤ 57)
def dg (l : List UInt8) : List UInt8 := l.takeWhile dgt
def vcode (top : Nat) (l : List UInt8) : Int := if l = [] ∨ (l.head? = some 48 ∧ 1 < l.length) then 12 else if top < Deci.val l then 2 else 0
def wrapN (u : Nat) : Int := if u < 9223372036854775808 then u else (u : Int) - 18446744073709551616
inductive Nx where
 | skip (k : Nat)
 | tok (t : Tok) (k : Nat)
 | bad (c : Int) (at_ : Nat)
 deriving DecidableEq
def signs : List UInt8 := [123, 125, 40, 41, 91, 93, 44, 58, 59, 61, 43, 45, 42, 46]
def numb (kind cls top : Nat) (pre r : List UInt8) (at_ : Nat) : Nx :=
 if vcode top (dg r) = 0 then .tok ⟨kind, pre ++ dg r, wrapN (Deci.val (dg r)), cls, at_⟩ (pre.length + (dg r).length) else .bad (vcode top (dg r)) at_
def plain (c : UInt8) (r : List UInt8) (at_ : Nat) : Nx :=
 if Nam.letter c then (if 24 < Nam.run (c :: r) then .bad 3 at_ else .tok ⟨1, (c :: r).takeWhile Nam.sign, 0, 0, at_⟩ (Nam.run (c :: r)))
 else if c = 37 then numb 4 0 2147483647 [c] r at_
 else if c = 35 then numb 6 0 2147483647 [c] r at_
 else if c = 36 then
  match r with
  | [] => .bad 12 at_
  | d :: r' => if d = 103 then numb 5 0 2147483647 [c, d] r' at_ else if d = 120 then numb 5 1 2147483647 [c, d] r' at_ else .bad 12 at_
 else if dgt c then numb 2 0 9223372036854775808 [] (c :: r) at_
 else if c ∈ signs then (if c = 46 ∧ r.head? = some 46 then .tok ⟨7, [46, 46], 0, 0, at_⟩ 2 else .tok ⟨7, [c], 0, 0, at_⟩ 1)
 else .bad 10 at_
def nx (l : List UInt8) (at_ : Nat) : Nx :=
 match l with
 | [] => .bad 10 at_
 | c :: r =>
  if blank c then .skip 1
  else if c = 47 ∧ r.head? = some 47 then .skip ((c :: r).takeWhile (· != 10)).length
  else if c = 34 then
   (if (Quo.scan (r.length + 1) r (at_ + 1) []).2.2 = 0 then .tok ⟨3, (Quo.scan (r.length + 1) r (at_ + 1) []).1, 0, 0, at_⟩ ((Quo.scan (r.length + 1) r (at_ + 1) []).2.1 - at_)
    else .bad (Quo.scan (r.length + 1) r (at_ + 1) []).2.2 (Quo.scan (r.length + 1) r (at_ + 1) []).2.1)
  else plain c r at_
def go : Nat → List UInt8 → Nat → List Tok → List Tok × Int × Nat
 | 0, _, _, _ => ([], 10, 0)
 | _ + 1, [], at_, out => (out ++ [⟨0, [], 0, 0, at_⟩], 0, 0)
 | f + 1, c :: r, at_, out =>
  match nx (c :: r) at_ with
  | .skip k => go f ((c :: r).drop k) (at_ + k) out
  | .tok t k => go f ((c :: r).drop k) (at_ + k) (out ++ [t])
  | .bad e p => ([], e, p)
def all (s : List UInt8) : List Tok × Int × Nat := if 65536 < s.length then ([], 3, 0) else go (s.length + 1) s 0 []
theorem dg_len (l : List UInt8) : (dg l).length ≤ l.length := List.Sublist.length_le (List.takeWhile_sublist _)
theorem dg_all (l : List UInt8) : ∀ c ∈ dg l, dgt c = true := by
 intro c hc
 unfold dg at hc
 induction l with
 | nil => cases hc
 | cons a l ih =>
  rw [List.takeWhile_cons] at hc
  split at hc
  ·rcases List.mem_cons.1 hc with e | e
   ·rw [e]; assumption
   ·exact ih e
  ·cases hc
theorem dg_cat (l r : List UInt8) (h : ∀ c ∈ l, dgt c = true) (hr : ∀ c, r.head? = some c → dgt c = false) : dg (l ++ r) = l := by
 induction l with
 | nil =>
  cases r with
  | nil => rfl
  | cons c r => unfold dg; rw [List.nil_append, List.takeWhile_cons, hr c rfl]; rfl
 | cons a l ih =>
  unfold dg at *
  rw [List.cons_append, List.takeWhile_cons, h a (List.mem_cons_self ..), if_pos rfl, ih (fun c hc => h c (List.mem_cons_of_mem _ hc))]
theorem run_cat (l r : List UInt8) (h : ∀ c ∈ l, Nam.sign c = true) (hr : ∀ c, r.head? = some c → Nam.sign c = false) : (l ++ r).takeWhile Nam.sign = l := by
 induction l with
 | nil =>
  cases r with
  | nil => rfl
  | cons c r => rw [List.nil_append, List.takeWhile_cons, hr c rfl]; rfl
 | cons a l ih =>
  rw [List.cons_append, List.takeWhile_cons, h a (List.mem_cons_self ..), if_pos rfl, ih (fun c hc => h c (List.mem_cons_of_mem _ hc))]
theorem tw_all {p : UInt8 → Bool} (l : List UInt8) : ∀ c ∈ l.takeWhile p, p c = true := by
 intro c hc
 induction l with
 | nil => cases hc
 | cons a l ih =>
  rw [List.takeWhile_cons] at hc
  split at hc
  ·rcases List.mem_cons.1 hc with e | e
   ·rw [e]; assumption
   ·exact ih e
  ·cases hc
theorem numb_size {kind cls top : Nat} {pre r : List UInt8} {at_ : Nat} {t : Tok} {k : Nat} (h : numb kind cls top pre r at_ = .tok t k) : 0 < k ∧ k ≤ pre.length + r.length := by
 unfold numb at h
 split at h
 ·rename_i hv
  injection h with _ h
  have h1 := dg_len r
  refine ⟨?_, by omega⟩
  have : dg r ≠ [] := by
   intro e
   rw [e] at hv
   simp [vcode] at hv
  have : 0 < (dg r).length := List.length_pos_iff.2 this
  omega
 ·cases h
theorem numb_skip {kind cls top : Nat} {pre r : List UInt8} {at_ k : Nat} : numb kind cls top pre r at_ ≠ .skip k := by
 unfold numb; split <;> simp
theorem plain_skip {c : UInt8} {r : List UInt8} {at_ k : Nat} : plain c r at_ ≠ .skip k := by
 unfold plain
 repeat' split
 all_goals first | exact numb_skip | simp
theorem plain_size {c : UInt8} {r : List UInt8} {at_ : Nat} {t : Tok} {k : Nat} (h : plain c r at_ = .tok t k) : 0 < k ∧ k ≤ (c :: r).length := by
 unfold plain at h
 split at h
 ·rename_i hl
  split at h
  ·cases h
  ·injection h with _ h
   have h1 := Nam.run_le (c :: r)
   have h2 := Nam.run_pos (r := r) (Nam.letter_sign hl)
   omega
 ·split at h
  ·have := numb_size h; simp at this ⊢; omega
  ·split at h
   ·have := numb_size h; simp at this ⊢; omega
   ·split at h
    ·split at h
     ·cases h
     ·split at h
      ·have := numb_size h; simp at this ⊢; omega
      ·split at h
       ·have := numb_size h; simp at this ⊢; omega
       ·cases h
    ·split at h
     ·have := numb_size h; simp at this ⊢; omega
     ·split at h
      ·split at h
       ·rename_i hh
        injection h with _ h
        cases r with
        | nil => simp at hh
        | cons a r => simp; omega
       ·injection h with _ h; simp; omega
      ·cases h
theorem scan_place : ∀ (f : Nat) (l : List UInt8) (p : Nat) (t x : List UInt8) (y : Nat), Quo.scan f l p t = (x, y, 0) → p < y ∧ y ≤ p + l.length := by
 intro f
 induction f with
 | zero => intro l p t x y h; simp [Quo.scan] at h
 | succ f ih =>
  intro l p t x y h
  cases l with
  | nil => simp [Quo.scan] at h
  | cons a r =>
   rw [Quo.scan] at h
   split at h
   ·injection h with h1 h; injection h with h2 h3; simp; omega
   ·split at h
    ·injection h with h1 h; injection h with h2 h3; omega
    ·split at h
     ·injection h with h1 h; injection h with h2 h3; omega
     ·split at h
      ·injection h with h1 h; injection h with h2 h3; omega
      ·have h1 := ih _ _ _ _ _ h
       have h2 := Quo.piece_size (a :: r)
       rw [List.length_drop] at h1
       omega
theorem nx_skip_size {l : List UInt8} {at_ k : Nat} (h : nx l at_ = .skip k) : 0 < k ∧ k ≤ l.length := by
 unfold nx at h
 split at h
 ·cases h
 ·rename_i c r
  split at h
  ·injection h with h; simp; omega
  ·split at h
   ·rename_i hc
    injection h with h
    have h1 : ((c :: r).takeWhile (· != 10)).length ≤ (c :: r).length := List.Sublist.length_le (List.takeWhile_sublist _)
    have h2 : 0 < ((c :: r).takeWhile (· != 10)).length := by
     rw [hc.1, List.takeWhile_cons_of_pos (by decide)]; simp
    omega
   ·split at h
    ·split at h <;> cases h
    ·exact absurd h plain_skip
theorem nx_tok_size {l : List UInt8} {at_ k : Nat} {t : Tok} (h : nx l at_ = .tok t k) : 0 < k ∧ k ≤ l.length := by
 unfold nx at h
 split at h
 ·cases h
 ·rename_i c r
  split at h
  ·cases h
  ·split at h
   ·cases h
   ·split at h
    ·split at h
     ·rename_i hs
      injection h with _ h
      obtain ⟨x, y, e⟩ : ∃ x y, Quo.scan (r.length + 1) r (at_ + 1) [] = (x, y, 0) := ⟨_, _, by rw [← hs]⟩
      rw [e] at h
      have := scan_place _ _ _ _ _ _ e
      simp at h ⊢
      omega
     ·cases h
    ·exact plain_size h
theorem go_end (f at_ : Nat) (out : List Tok) : go (f + 1) [] at_ out = (out ++ [⟨0, [], 0, 0, at_⟩], 0, 0) := rfl
theorem go_skip {f : Nat} {l : List UInt8} {at_ k : Nat} (out : List Tok) (h : nx l at_ = .skip k) : go (f + 1) l at_ out = go f (l.drop k) (at_ + k) out := by
 cases l with
 | nil => cases h
 | cons c r => rw [go, h]
theorem go_tok {f : Nat} {l : List UInt8} {at_ k : Nat} {t : Tok} (out : List Tok) (h : nx l at_ = .tok t k) : go (f + 1) l at_ out = go f (l.drop k) (at_ + k) (out ++ [t]) := by
 cases l with
 | nil => cases h
 | cons c r => rw [go, h]
theorem go_bad {f : Nat} {c : UInt8} {r : List UInt8} {at_ p : Nat} {e : Int} (out : List Tok) (h : nx (c :: r) at_ = .bad e p) : go (f + 1) (c :: r) at_ out = ([], e, p) := by
 rw [go, h]
theorem go_fuel : ∀ (n : Nat) (l : List UInt8) (f f' at_ : Nat) (out : List Tok), l.length ≤ n → l.length < f → l.length < f' → go f l at_ out = go f' l at_ out := by
 intro n
 induction n with
 | zero =>
  intro l f f' at_ out h1 h2 h3
  obtain rfl : l = [] := List.eq_nil_of_length_eq_zero (by omega)
  obtain ⟨f, rfl⟩ : ∃ g, f = g + 1 := ⟨f - 1, by omega⟩
  obtain ⟨f', rfl⟩ : ∃ g, f' = g + 1 := ⟨f' - 1, by omega⟩
  rfl
 | succ n ih =>
  intro l f f' at_ out h1 h2 h3
  obtain ⟨f, rfl⟩ : ∃ g, f = g + 1 := ⟨f - 1, by omega⟩
  obtain ⟨f', rfl⟩ : ∃ g, f' = g + 1 := ⟨f' - 1, by omega⟩
  cases l with
  | nil => rfl
  | cons c r =>
   cases hx : nx (c :: r) at_ with
   | skip k =>
    have := nx_skip_size hx
    rw [go_skip out hx, go_skip out hx]
    exact ih _ _ _ _ _ (by rw [List.length_drop]; omega) (by rw [List.length_drop]; omega) (by rw [List.length_drop]; omega)
   | tok t k =>
    have := nx_tok_size hx
    rw [go_tok out hx, go_tok out hx]
    exact ih _ _ _ _ _ (by rw [List.length_drop]; omega) (by rw [List.length_drop]; omega) (by rw [List.length_drop]; omega)
   | bad e p => rw [go_bad out hx, go_bad out hx]
def rest (s : List UInt8) (at_ : Nat) (out : List Tok) : List Tok × Int × Nat := go (s.length + 1) (s.drop at_) at_ out
theorem rest_start {s : List UInt8} (h : s.length ≤ 65536) : all s = rest s 0 [] := by
 unfold all rest; rw [if_neg (by omega), List.drop_zero]
theorem all_long {s : List UInt8} (h : 65536 < s.length) : all s = ([], 3, 0) := by unfold all; rw [if_pos h]
theorem rest_end (s : List UInt8) (out : List Tok) : rest s s.length out = (out ++ [⟨0, [], 0, 0, s.length⟩], 0, 0) := by
 unfold rest; rw [List.drop_length]; rfl
theorem rest_skip {s : List UInt8} {at_ k : Nat} (out : List Tok) (h : nx (s.drop at_) at_ = .skip k) : rest s at_ out = rest s (at_ + k) out ∧ 0 < k ∧ at_ + k ≤ s.length := by
 have hs := nx_skip_size h
 rw [List.length_drop] at hs
 refine ⟨?_, hs.1, by omega⟩
 unfold rest
 rw [go_skip out h, List.drop_drop]
 exact go_fuel _ _ _ _ _ _ (Nat.le_refl _) (by rw [List.length_drop]; omega) (by rw [List.length_drop]; omega)
theorem rest_tok {s : List UInt8} {at_ k : Nat} {t : Tok} (out : List Tok) (h : nx (s.drop at_) at_ = .tok t k) : rest s at_ out = rest s (at_ + k) (out ++ [t]) ∧ 0 < k ∧ at_ + k ≤ s.length := by
 have hs := nx_tok_size h
 rw [List.length_drop] at hs
 refine ⟨?_, hs.1, by omega⟩
 unfold rest
 rw [go_tok out h, List.drop_drop]
 exact go_fuel _ _ _ _ _ _ (Nat.le_refl _) (by rw [List.length_drop]; omega) (by rw [List.length_drop]; omega)
theorem rest_bad {s : List UInt8} {at_ p : Nat} {e : Int} (out : List Tok) (ha : at_ < s.length) (h : nx (s.drop at_) at_ = .bad e p) : rest s at_ out = ([], e, p) := by
 unfold rest
 rw [List.drop_eq_getElem_cons ha] at h ⊢
 exact go_bad out h
def again (t : Tok) : List UInt8 := if t.kind = 3 then Quo.put t.text else t.text
def Snd (t : Tok) : Prop := ∀ (r : List UInt8) (p : Nat), nx (again t ++ 32 :: r) p = .tok { t with at_ := p } (again t).length
theorem b32 (r : List UInt8) : ∀ c, ((32 : UInt8) :: r).head? = some c → dgt c = false ∧ Nam.sign c = false := by
 intro c h
 simp at h; subst h; decide
theorem nx_cons (c : UInt8) (r : List UInt8) (p : Nat) : nx (c :: r) p = if blank c = true then .skip 1
  else if c = 47 ∧ r.head? = some 47 then .skip ((c :: r).takeWhile (· != 10)).length
  else if c = 34 then
   (if (Quo.scan (r.length + 1) r (p + 1) []).2.2 = 0 then .tok ⟨3, (Quo.scan (r.length + 1) r (p + 1) []).1, 0, 0, p⟩ ((Quo.scan (r.length + 1) r (p + 1) []).2.1 - p)
    else .bad (Quo.scan (r.length + 1) r (p + 1) []).2.2 (Quo.scan (r.length + 1) r (p + 1) []).2.1)
  else plain c r p := rfl
theorem nx_plain {c : UInt8} {r : List UInt8} {p : Nat} (h1 : blank c = false) (h2 : c ≠ 47) (h3 : c ≠ 34) : nx (c :: r) p = plain c r p := by
 rw [nx_cons, if_neg (by rw [h1]; decide), if_neg (fun h => h2 h.1), if_neg h3]
theorem numb_again {kind cls top : Nat} {pre r : List UInt8} {at_ : Nat} {t : Tok} {k : Nat} (h : numb kind cls top pre r at_ = .tok t k) :
  t = ⟨kind, pre ++ dg r, wrapN (Deci.val (dg r)), cls, at_⟩ ∧ ∀ r' p, numb kind cls top pre (dg r ++ 32 :: r') p = .tok { t with at_ := p } (pre.length + (dg r).length) := by
 unfold numb at h
 split at h
 ·rename_i hv
  injection h with h _
  refine ⟨h.symm, fun r' p => ?_⟩
  unfold numb
  rw [dg_cat (dg r) (32 :: r') (dg_all r) (fun c hc => (b32 r' c hc).1), if_pos hv, ← h]
 ·cases h
theorem plain_again {c : UInt8} {r : List UInt8} {at_ : Nat} {t : Tok} {k : Nat} (h : plain c r at_ = .tok t k) : t.kind ≠ 3 ∧ t.kind ≠ 0 ∧ ∃ l, t.text = c :: l ∧ ∀ r' p, plain c (l ++ 32 :: r') p = .tok { t with at_ := p } (c :: l).length := by
 unfold plain at h
 split at h
 ·rename_i hl
  split at h
  ·cases h
  ·rename_i h24
   injection h with h _
   subst h
   have ht : (c :: r).takeWhile Nam.sign = c :: r.takeWhile Nam.sign := List.takeWhile_cons_of_pos (Nam.letter_sign hl)
   refine ⟨by simp, by simp, r.takeWhile Nam.sign, ht, fun r' p => ?_⟩
   have hc : (c :: (r.takeWhile Nam.sign ++ 32 :: r')).takeWhile Nam.sign = c :: r.takeWhile Nam.sign := by
    rw [← List.cons_append]
    exact run_cat _ _ (fun a ha => by rw [← ht] at ha; exact tw_all _ a ha) (fun a ha => (b32 r' a ha).2)
   have hr : Nam.run (c :: (r.takeWhile Nam.sign ++ 32 :: r')) = (c :: r.takeWhile Nam.sign).length := by unfold Nam.run; rw [hc]
   have hr2 : Nam.run (c :: r) = (c :: r.takeWhile Nam.sign).length := by unfold Nam.run; rw [ht]
   unfold plain
   rw [if_pos hl, hr, if_neg (by rw [← hr2]; exact h24), hc, ht]
 ·rename_i hl
  split at h
  ·rename_i e
   obtain ⟨e1, e2⟩ := numb_again h
   subst e1
   refine ⟨by simp, by simp, dg r, rfl, fun r' p => ?_⟩
   unfold plain
   rw [if_neg hl, if_pos e, e2]; simp [Nat.add_comm]
  ·rename_i h37
   split at h
   ·rename_i e
    obtain ⟨e1, e2⟩ := numb_again h
    subst e1
    refine ⟨by simp, by simp, dg r, rfl, fun r' p => ?_⟩
    unfold plain
    rw [if_neg hl, if_neg h37, if_pos e, e2]; simp [Nat.add_comm]
   ·rename_i h35
    split at h
    ·rename_i e
     split at h
     ·cases h
     ·rename_i d r1
      split at h
      ·rename_i ed
       obtain ⟨e1, e2⟩ := numb_again h
       subst e1
       refine ⟨by simp, by simp, d :: dg r1, rfl, fun r' p => ?_⟩
       unfold plain
       rw [if_neg hl, if_neg h37, if_neg h35, if_pos e, List.cons_append]
       simp only
       rw [if_pos ed, e2]; simp; omega
      ·rename_i nd
       split at h
       ·rename_i ed
        obtain ⟨e1, e2⟩ := numb_again h
        subst e1
        refine ⟨by simp, by simp, d :: dg r1, rfl, fun r' p => ?_⟩
        unfold plain
        rw [if_neg hl, if_neg h37, if_neg h35, if_pos e, List.cons_append]
        simp only
        rw [if_neg nd, if_pos ed, e2]; simp; omega
       ·cases h
    ·rename_i h36
     split at h
     ·rename_i e
      obtain ⟨e1, e2⟩ := numb_again h
      subst e1
      have hd : dg (c :: r) = c :: dg r := by unfold dg; exact List.takeWhile_cons_of_pos e
      refine ⟨by simp, by simp, dg r, by simp [hd], fun r' p => ?_⟩
      have := e2 r' p
      rw [hd] at this
      unfold plain
      rw [if_neg hl, if_neg h37, if_neg h35, if_neg h36, if_pos e, ← List.cons_append, this, hd]; simp
     ·rename_i hnd
      split at h
      ·rename_i hm
       split at h
       ·rename_i h46
        injection h with h _
        subst h
        refine ⟨by simp, by simp, [46], by rw [h46.1], fun r' p => ?_⟩
        unfold plain
        rw [if_neg hl, if_neg h37, if_neg h35, if_neg h36, if_neg hnd, if_pos hm, if_pos ⟨h46.1, by simp⟩]; simp
       ·injection h with h _
        subst h
        refine ⟨by simp, by simp, [], rfl, fun r' p => ?_⟩
        unfold plain
        rw [if_neg hl, if_neg h37, if_neg h35, if_neg h36, if_neg hnd, if_pos hm, if_neg (fun h => by simp at h)]; simp
      ·cases h
theorem nx_again {l : List UInt8} {at_ k : Nat} {t : Tok} (h : nx l at_ = .tok t k) : Snd t ∧ t.kind ≠ 0 := by
 unfold nx at h
 split at h
 ·cases h
 ·rename_i c r
  split at h
  ·cases h
  ·rename_i hb
   split at h
   ·cases h
   ·rename_i h47
    split at h
    ·split at h
     ·rename_i hs
      injection h with h _
      obtain ⟨x, y, e⟩ : ∃ x y, Quo.scan (r.length + 1) r (at_ + 1) [] = (x, y, 0) := ⟨_, _, by rw [← hs]⟩
      rw [e] at h
      subst h
      have hl := (Quo.scan_out _ _ _ _ _ _ _ (by simp) e).1
      refine ⟨fun r' p => ?_, by simp⟩
      have ha : again ⟨3, x, 0, 0, at_⟩ = Quo.put x := rfl
      rw [ha]
      unfold Quo.put
      rw [List.cons_append]
      rw [nx_cons, if_neg (by decide), if_neg (fun h => by exact absurd h.1 (by decide)), if_pos rfl]
      have hsc := Quo.scan_body x ((Quo.body x ++ [34] ++ 32 :: r').length + 1) (32 :: r') (p + 1) [] (by
       have : x.length ≤ (Quo.body x).length := by
        clear ha hl e hs
        induction x with
        | nil => simp
        | cons a x ih =>
         have := (Quo.one_len a).1
         unfold Quo.body at *
         rw [List.flatMap_cons, List.length_append, List.length_cons]; omega
       simp; omega) (by simpa using hl)
      have e3 : Quo.body x ++ [34] ++ 32 :: r' = Quo.body x ++ 34 :: 32 :: r' := by simp
      rw [e3] at hsc ⊢
      rw [hsc]
      simp
      omega
     ·cases h
    ·rename_i h34
     obtain ⟨h3, h0, l', ht, hp⟩ := plain_again h
     refine ⟨fun r' p => ?_, h0⟩
     have ha : again t = c :: l' := by unfold again; rw [if_neg h3, ht]
     have hnb : blank c = false := by simpa using hb
     have h47' : c ≠ 47 := by
      intro e
      subst e
      have : plain 47 r at_ = .bad 10 at_ := by
       unfold plain
       rw [if_neg (by decide), if_neg (by decide), if_neg (by decide), if_neg (by decide), if_neg (by decide), if_neg (by decide)]
      rw [this] at h; cases h
     rw [ha, List.cons_append, nx_plain hnb h47' h34, hp]
theorem numb_bad {kind cls top : Nat} {pre r : List UInt8} {at_ p : Nat} {e : Int} (h : numb kind cls top pre r at_ = .bad e p) : e ≠ 0 := by
 unfold numb at h
 split at h
 ·cases h
 ·rename_i hv
  injection h with h _
  rw [← h]; exact hv
theorem nx_bad_code {l : List UInt8} {at_ p : Nat} {e : Int} (h : nx l at_ = .bad e p) : e ≠ 0 := by
 unfold nx at h
 split at h
 ·injection h with h; omega
 ·rename_i c r
  split at h
  ·cases h
  ·split at h
   ·cases h
   ·split at h
    ·split at h
     ·cases h
     ·rename_i hs
      injection h with h _
      rw [← h]; exact hs
    ·unfold plain at h
     repeat' split at h
     all_goals first | exact numb_bad h | (cases h; done) | (injection h with h _; omega)
theorem go_sound : ∀ (n : Nat) (l : List UInt8) (f p : Nat) (out : List Tok) (m : List Tok) (q : Nat), l.length ≤ n → l.length < f → (∀ t ∈ out, Snd t) → go f l p out = (m, 0, q) → ∃ ts, m = ts ++ [⟨0, [], 0, 0, p + l.length⟩] ∧ ∀ t ∈ ts, Snd t := by
 intro n
 induction n with
 | zero =>
  intro l f p out m q h1 h2 ho h
  obtain rfl : l = [] := List.eq_nil_of_length_eq_zero (by omega)
  obtain ⟨f, rfl⟩ : ∃ g, f = g + 1 := ⟨f - 1, by omega⟩
  rw [go_end] at h
  injection h with h _
  exact ⟨out, by rw [← h]; rfl, ho⟩
 | succ n ih =>
  intro l f p out m q h1 h2 ho h
  obtain ⟨f, rfl⟩ : ∃ g, f = g + 1 := ⟨f - 1, by omega⟩
  cases l with
  | nil =>
   rw [go_end] at h
   injection h with h _
   exact ⟨out, by rw [← h]; rfl, ho⟩
  | cons c r =>
   cases hx : nx (c :: r) p with
   | skip k =>
    have hk := nx_skip_size hx
    rw [go_skip out hx] at h
    obtain ⟨ts, e1, e2⟩ := ih _ _ _ _ _ _ (by rw [List.length_drop]; omega) (by rw [List.length_drop]; omega) ho h
    refine ⟨ts, ?_, e2⟩
    rw [e1, List.length_drop, show p + k + ((c :: r).length - k) = p + (c :: r).length by omega]
   | tok t k =>
    have hk := nx_tok_size hx
    rw [go_tok out hx] at h
    obtain ⟨ts, e1, e2⟩ := ih _ _ _ _ _ _ (by rw [List.length_drop]; omega) (by rw [List.length_drop]; omega) (by
     intro u hu
     rcases List.mem_append.1 hu with hu | hu
     ·exact ho u hu
     ·rw [List.mem_singleton] at hu; rw [hu]; exact (nx_again hx).1) h
    refine ⟨ts, ?_, e2⟩
    rw [e1, List.length_drop, show p + k + ((c :: r).length - k) = p + (c :: r).length by omega]
   | bad e p' =>
    rw [go_bad out hx] at h
    injection h with h1 h2
    injection h2 with h2 h3
    exact absurd h2 (nx_bad_code hx)
theorem numb_text {kind cls top : Nat} {pre r : List UInt8} {at_ : Nat} {t : Tok} {k : Nat} (h : numb kind cls top pre r at_ = .tok t k) : t.text.length ≤ pre.length + r.length := by
 have := (numb_again h).1
 subst this
 have := dg_len r
 simp; omega
theorem plain_text {c : UInt8} {r : List UInt8} {at_ : Nat} {t : Tok} {k : Nat} (h : plain c r at_ = .tok t k) : t.text.length ≤ r.length + 1 := by
 unfold plain at h
 split at h
 ·split at h
  ·cases h
  ·injection h with h _
   subst h
   have := Nam.run_le (c :: r)
   unfold Nam.run at this
   simpa using this
 ·split at h
  ·have := numb_text h; simp at this; omega
  ·split at h
   ·have := numb_text h; simp at this; omega
   ·split at h
    ·split at h
     ·cases h
     ·split at h
      ·have := numb_text h; simp at this ⊢; omega
      ·split at h
       ·have := numb_text h; simp at this ⊢; omega
       ·cases h
    ·split at h
     ·have := numb_text h; simp at this; omega
     ·split at h
      ·split at h
       ·rename_i hh
        injection h with h _
        subst h
        cases r with
        | nil => simp at hh
        | cons a r => simp
       ·injection h with h _; subst h; simp
      ·cases h
theorem nx_text {l : List UInt8} {at_ k : Nat} {t : Tok} (h : nx l at_ = .tok t k) : t.text.length ≤ l.length + 64 := by
 unfold nx at h
 split at h
 ·cases h
 ·rename_i c r
  split at h
  ·cases h
  ·split at h
   ·cases h
   ·split at h
    ·split at h
     ·rename_i hs
      injection h with h _
      subst h
      obtain ⟨x, y, e⟩ : ∃ x y, Quo.scan (r.length + 1) r (at_ + 1) [] = (x, y, 0) := ⟨_, _, by rw [← hs]⟩
      have := (Quo.scan_out _ _ _ _ _ _ _ (by simp) e).1
      rw [e]; simp; omega
     ·cases h
    ·have := plain_text h; simp; omega
theorem go_text : ∀ (n : Nat) (l : List UInt8) (f p : Nat) (out : List Tok) (m : List Tok) (c : Int) (q B : Nat), l.length ≤ n → l.length + 64 ≤ B → (∀ t ∈ out, t.text.length ≤ B) → go f l p out = (m, c, q) → (∀ t ∈ m, t.text.length ≤ B) ∧ m.length ≤ out.length + l.length + 1 := by
 intro n
 induction n with
 | zero =>
  intro l f p out m c q B h1 hB ho h
  obtain rfl : l = [] := List.eq_nil_of_length_eq_zero (by omega)
  cases f with
  | zero => injection h with h _; subst h; exact ⟨(fun t ht => by cases ht), by simp⟩
  | succ f =>
   rw [go_end] at h
   injection h with h _
   subst h
   refine ⟨fun t ht => ?_, by simp⟩
   rcases List.mem_append.1 ht with ht | ht
   ·exact ho t ht
   ·rw [List.mem_singleton] at ht; subst ht; simp
 | succ n ih =>
  intro l f p out m c q B h1 hB ho h
  cases f with
  | zero => injection h with h _; subst h; exact ⟨(fun t ht => by cases ht), by simp⟩
  | succ f =>
   cases l with
   | nil =>
    rw [go_end] at h
    injection h with h _
    subst h
    refine ⟨fun t ht => ?_, by simp⟩
    rcases List.mem_append.1 ht with ht | ht
    ·exact ho t ht
    ·rw [List.mem_singleton] at ht; subst ht; simp
   | cons x r =>
    cases hx : nx (x :: r) p with
    | skip k =>
     have hk := nx_skip_size hx
     rw [go_skip out hx] at h
     obtain ⟨e1, e2⟩ := ih _ _ _ _ _ _ _ B (by rw [List.length_drop]; omega) (by rw [List.length_drop]; omega) ho h
     exact ⟨e1, by rw [List.length_drop] at e2; omega⟩
    | tok t k =>
     have hk := nx_tok_size hx
     have ht := nx_text hx
     rw [go_tok out hx] at h
     obtain ⟨e1, e2⟩ := ih _ _ _ _ _ _ _ B (by rw [List.length_drop]; omega) (by rw [List.length_drop]; omega) (by
      intro u hu
      rcases List.mem_append.1 hu with hu | hu
      ·exact ho u hu
      ·rw [List.mem_singleton] at hu; rw [hu]; omega) h
     exact ⟨e1, by rw [List.length_drop, List.length_append] at e2; simp at e2 ⊢; simp at hk; omega⟩
    | bad e p' =>
     rw [go_bad out hx] at h
     injection h with h _
     subst h
     exact ⟨(fun t ht => by cases ht), by simp⟩
theorem all_text {s : List UInt8} {m : List Tok} {c : Int} {q : Nat} (h : all s = (m, c, q)) : (∀ t ∈ m, t.text.length ≤ s.length + 64) ∧ m.length ≤ s.length + 1 := by
 unfold all at h
 split at h
 ·injection h with h _; subst h; exact ⟨(fun t ht => by cases ht), by simp⟩
 ·obtain ⟨e1, e2⟩ := go_text _ _ _ _ _ _ _ _ _ (Nat.le_refl _) (Nat.le_refl _) (by intro t ht; cases ht) h
  exact ⟨e1, by simpa using e2⟩
end Go.Proofs.YtbpichjmkllfaaaGreatDoor.Lex
