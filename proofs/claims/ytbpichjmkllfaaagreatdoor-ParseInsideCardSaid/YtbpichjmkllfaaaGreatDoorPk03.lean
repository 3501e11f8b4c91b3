/- All tokens of a text, step by step; and tokens that are told again, with blanks and remarks between. -/
import Derived.Test.YtbpichjmkllfaaaGreatDoorPk02
namespace Go.Proofs.YtbpichjmkllfaaaGreatDoor.Lex
set_option linter.unusedVariables false

/-- Where a text between quotes ends. -/
theorem scan_place : ∀ (f : Nat) (l : List UInt8) (p : Nat) (t x : List UInt8) (y : Nat), Quo.scan f l p t = (x, y, 0) → p < y ∧ y ≤ p + l.length := by
  intro f
  induction f with
  | zero => intro l p t x y h; simp [Quo.scan] at h
  | succ f ih =>
    intro l p t x y h
    cases l with
    | nil => simp [Quo.scan] at h
    | cons a r =>
      rw [Quo.scan] at h
      split at h
      · injection h with h1 h; injection h with h2 h3; simp; omega
      · split at h
        · injection h with h1 h; injection h with h2 h3; omega
        · split at h
          · injection h with h1 h; injection h with h2 h3; omega
          · split at h
            · injection h with h1 h; injection h with h2 h3; omega
            · have h1 := ih _ _ _ _ _ h
              have h2 := Quo.piece_size (a :: r)
              rw [List.length_drop] at h1
              omega
theorem nx_skip_size {l : List UInt8} {at_ k : Nat} (h : nx l at_ = .skip k) : 0 < k ∧ k ≤ l.length := by
  unfold nx at h
  split at h
  · cases h
  · rename_i c r
    split at h
    · injection h with h; simp; omega
    · split at h
      · rename_i hc
        injection h with h
        have h1 : ((c :: r).takeWhile (· != 10)).length ≤ (c :: r).length := List.Sublist.length_le (List.takeWhile_sublist _)
        have h2 : 0 < ((c :: r).takeWhile (· != 10)).length := by
          rw [hc.1, List.takeWhile_cons_of_pos (by decide)]; simp
        omega
      · split at h
        · split at h <;> cases h
        · exact absurd h plain_skip
theorem nx_tok_size {l : List UInt8} {at_ k : Nat} {t : Tok} (h : nx l at_ = .tok t k) : 0 < k ∧ k ≤ l.length := by
  unfold nx at h
  split at h
  · cases h
  · rename_i c r
    split at h
    · cases h
    · split at h
      · cases h
      · split at h
        · split at h
          · rename_i hs
            injection h with _ h
            obtain ⟨x, y, e⟩ : ∃ x y, Quo.scan (r.length + 1) r (at_ + 1) [] = (x, y, 0) := ⟨_, _, by rw [← hs]⟩
            rw [e] at h
            have := scan_place _ _ _ _ _ _ e
            simp at h ⊢
            omega
          · cases h
        · exact plain_size h
theorem go_end (f at_ : Nat) (out : List Tok) : go (f + 1) [] at_ out = (out ++ [⟨0, [], 0, 0, at_⟩], 0, 0) := rfl
theorem go_skip {f : Nat} {l : List UInt8} {at_ k : Nat} (out : List Tok) (h : nx l at_ = .skip k) : go (f + 1) l at_ out = go f (l.drop k) (at_ + k) out := by
  cases l with
  | nil => cases h
  | cons c r => rw [go, h]
theorem go_tok {f : Nat} {l : List UInt8} {at_ k : Nat} {t : Tok} (out : List Tok) (h : nx l at_ = .tok t k) : go (f + 1) l at_ out = go f (l.drop k) (at_ + k) (out ++ [t]) := by
  cases l with
  | nil => cases h
  | cons c r => rw [go, h]
theorem go_bad {f : Nat} {c : UInt8} {r : List UInt8} {at_ p : Nat} {e : Int} (out : List Tok) (h : nx (c :: r) at_ = .bad e p) : go (f + 1) (c :: r) at_ out = ([], e, p) := by
  rw [go, h]
/-- It does not hang on how far it may go. -/
theorem go_fuel : ∀ (n : Nat) (l : List UInt8) (f f' at_ : Nat) (out : List Tok), l.length ≤ n → l.length < f → l.length < f' → go f l at_ out = go f' l at_ out := by
  intro n
  induction n with
  | zero =>
    intro l f f' at_ out h1 h2 h3
    obtain rfl : l = [] := List.eq_nil_of_length_eq_zero (by omega)
    obtain ⟨f, rfl⟩ : ∃ g, f = g + 1 := ⟨f - 1, by omega⟩
    obtain ⟨f', rfl⟩ : ∃ g, f' = g + 1 := ⟨f' - 1, by omega⟩
    rfl
  | succ n ih =>
    intro l f f' at_ out h1 h2 h3
    obtain ⟨f, rfl⟩ : ∃ g, f = g + 1 := ⟨f - 1, by omega⟩
    obtain ⟨f', rfl⟩ : ∃ g, f' = g + 1 := ⟨f' - 1, by omega⟩
    cases l with
    | nil => rfl
    | cons c r =>
      cases hx : nx (c :: r) at_ with
      | skip k =>
        have := nx_skip_size hx
        rw [go_skip out hx, go_skip out hx]
        exact ih _ _ _ _ _ (by rw [List.length_drop]; omega) (by rw [List.length_drop]; omega) (by rw [List.length_drop]; omega)
      | tok t k =>
        have := nx_tok_size hx
        rw [go_tok out hx, go_tok out hx]
        exact ih _ _ _ _ _ (by rw [List.length_drop]; omega) (by rw [List.length_drop]; omega) (by rw [List.length_drop]; omega)
      | bad e p => rw [go_bad out hx, go_bad out hx]
/-- What still comes, from a place on. -/
def rest (s : List UInt8) (at_ : Nat) (out : List Tok) : List Tok × Int × Nat := go (s.length + 1) (s.drop at_) at_ out
theorem rest_start {s : List UInt8} (h : s.length ≤ 65536) : all s = rest s 0 [] := by
  unfold all rest; rw [if_neg (by omega), List.drop_zero]
theorem all_long {s : List UInt8} (h : 65536 < s.length) : all s = ([], 3, 0) := by unfold all; rw [if_pos h]
theorem rest_end (s : List UInt8) (out : List Tok) : rest s s.length out = (out ++ [⟨0, [], 0, 0, s.length⟩], 0, 0) := by
  unfold rest; rw [List.drop_length]; rfl
theorem rest_skip {s : List UInt8} {at_ k : Nat} (out : List Tok) (h : nx (s.drop at_) at_ = .skip k) : rest s at_ out = rest s (at_ + k) out ∧ 0 < k ∧ at_ + k ≤ s.length := by
  have hs := nx_skip_size h
  rw [List.length_drop] at hs
  refine ⟨?_, hs.1, by omega⟩
  unfold rest
  rw [go_skip out h, List.drop_drop]
  exact go_fuel _ _ _ _ _ _ (Nat.le_refl _) (by rw [List.length_drop]; omega) (by rw [List.length_drop]; omega)
theorem rest_tok {s : List UInt8} {at_ k : Nat} {t : Tok} (out : List Tok) (h : nx (s.drop at_) at_ = .tok t k) : rest s at_ out = rest s (at_ + k) (out ++ [t]) ∧ 0 < k ∧ at_ + k ≤ s.length := by
  have hs := nx_tok_size h
  rw [List.length_drop] at hs
  refine ⟨?_, hs.1, by omega⟩
  unfold rest
  rw [go_tok out h, List.drop_drop]
  exact go_fuel _ _ _ _ _ _ (Nat.le_refl _) (by rw [List.length_drop]; omega) (by rw [List.length_drop]; omega)
theorem rest_bad {s : List UInt8} {at_ p : Nat} {e : Int} (out : List Tok) (ha : at_ < s.length) (h : nx (s.drop at_) at_ = .bad e p) : rest s at_ out = ([], e, p) := by
  unfold rest
  rw [List.drop_eq_getElem_cons ha] at h ⊢
  exact go_bad out h

/-- A token's bytes, as they may be told. -/
def again (t : Tok) : List UInt8 := if t.kind = 3 then Quo.put t.text else t.text
/-- It is read again as it was, ahead of a blank. -/
def Snd (t : Tok) : Prop := ∀ (r : List UInt8) (p : Nat), nx (again t ++ 32 :: r) p = .tok { t with at_ := p } (again t).length
theorem b32 (r : List UInt8) : ∀ c, ((32 : UInt8) :: r).head? = some c → dgt c = false ∧ Nam.sign c = false := by
  intro c h
  simp at h; subst h; decide
theorem nx_cons (c : UInt8) (r : List UInt8) (p : Nat) : nx (c :: r) p = if blank c = true then .skip 1
    else if c = 47 ∧ r.head? = some 47 then .skip ((c :: r).takeWhile (· != 10)).length
    else if c = 34 then
      (if (Quo.scan (r.length + 1) r (p + 1) []).2.2 = 0 then .tok ⟨3, (Quo.scan (r.length + 1) r (p + 1) []).1, 0, 0, p⟩ ((Quo.scan (r.length + 1) r (p + 1) []).2.1 - p)
       else .bad (Quo.scan (r.length + 1) r (p + 1) []).2.2 (Quo.scan (r.length + 1) r (p + 1) []).2.1)
    else plain c r p := rfl
theorem nx_plain {c : UInt8} {r : List UInt8} {p : Nat} (h1 : blank c = false) (h2 : c ≠ 47) (h3 : c ≠ 34) : nx (c :: r) p = plain c r p := by
  rw [nx_cons, if_neg (by rw [h1]; decide), if_neg (fun h => h2 h.1), if_neg h3]
/-- A token with digits. -/
theorem numb_again {kind cls top : Nat} {pre r : List UInt8} {at_ : Nat} {t : Tok} {k : Nat} (h : numb kind cls top pre r at_ = .tok t k) :
    t = ⟨kind, pre ++ dg r, wrapN (Deci.val (dg r)), cls, at_⟩ ∧ ∀ r' p, numb kind cls top pre (dg r ++ 32 :: r') p = .tok { t with at_ := p } (pre.length + (dg r).length) := by
  unfold numb at h
  split at h
  · rename_i hv
    injection h with h _
    refine ⟨h.symm, fun r' p => ?_⟩
    unfold numb
    rw [dg_cat (dg r) (32 :: r') (dg_all r) (fun c hc => (b32 r' c hc).1), if_pos hv, ← h]
  · cases h
theorem plain_again {c : UInt8} {r : List UInt8} {at_ : Nat} {t : Tok} {k : Nat} (h : plain c r at_ = .tok t k) : t.kind ≠ 3 ∧ t.kind ≠ 0 ∧ ∃ l, t.text = c :: l ∧ ∀ r' p, plain c (l ++ 32 :: r') p = .tok { t with at_ := p } (c :: l).length := by
  unfold plain at h
  split at h
  · rename_i hl
    split at h
    · cases h
    · rename_i h24
      injection h with h _
      subst h
      have ht : (c :: r).takeWhile Nam.sign = c :: r.takeWhile Nam.sign := List.takeWhile_cons_of_pos (Nam.letter_sign hl)
      refine ⟨by simp, by simp, r.takeWhile Nam.sign, ht, fun r' p => ?_⟩
      have hc : (c :: (r.takeWhile Nam.sign ++ 32 :: r')).takeWhile Nam.sign = c :: r.takeWhile Nam.sign := by
        rw [← List.cons_append]
        exact run_cat _ _ (fun a ha => by rw [← ht] at ha; exact tw_all _ a ha) (fun a ha => (b32 r' a ha).2)
      have hr : Nam.run (c :: (r.takeWhile Nam.sign ++ 32 :: r')) = (c :: r.takeWhile Nam.sign).length := by unfold Nam.run; rw [hc]
      have hr2 : Nam.run (c :: r) = (c :: r.takeWhile Nam.sign).length := by unfold Nam.run; rw [ht]
      unfold plain
      rw [if_pos hl, hr, if_neg (by rw [← hr2]; exact h24), hc, ht]
  · rename_i hl
    split at h
    · rename_i e
      obtain ⟨e1, e2⟩ := numb_again h
      subst e1
      refine ⟨by simp, by simp, dg r, rfl, fun r' p => ?_⟩
      unfold plain
      rw [if_neg hl, if_pos e, e2]; simp [Nat.add_comm]
    · rename_i h37
      split at h
      · rename_i e
        obtain ⟨e1, e2⟩ := numb_again h
        subst e1
        refine ⟨by simp, by simp, dg r, rfl, fun r' p => ?_⟩
        unfold plain
        rw [if_neg hl, if_neg h37, if_pos e, e2]; simp [Nat.add_comm]
      · rename_i h35
        split at h
        · rename_i e
          split at h
          · cases h
          · rename_i d r1
            split at h
            · rename_i ed
              obtain ⟨e1, e2⟩ := numb_again h
              subst e1
              refine ⟨by simp, by simp, d :: dg r1, rfl, fun r' p => ?_⟩
              unfold plain
              rw [if_neg hl, if_neg h37, if_neg h35, if_pos e, List.cons_append]
              simp only
              rw [if_pos ed, e2]; simp; omega
            · rename_i nd
              split at h
              · rename_i ed
                obtain ⟨e1, e2⟩ := numb_again h
                subst e1
                refine ⟨by simp, by simp, d :: dg r1, rfl, fun r' p => ?_⟩
                unfold plain
                rw [if_neg hl, if_neg h37, if_neg h35, if_pos e, List.cons_append]
                simp only
                rw [if_neg nd, if_pos ed, e2]; simp; omega
              · cases h
        · rename_i h36
          split at h
          · rename_i e
            obtain ⟨e1, e2⟩ := numb_again h
            subst e1
            have hd : dg (c :: r) = c :: dg r := by unfold dg; exact List.takeWhile_cons_of_pos e
            refine ⟨by simp, by simp, dg r, by simp [hd], fun r' p => ?_⟩
            have := e2 r' p
            rw [hd] at this
            unfold plain
            rw [if_neg hl, if_neg h37, if_neg h35, if_neg h36, if_pos e, ← List.cons_append, this, hd]; simp
          · rename_i hnd
            split at h
            · rename_i hm
              split at h
              · rename_i h46
                injection h with h _
                subst h
                refine ⟨by simp, by simp, [46], by rw [h46.1], fun r' p => ?_⟩
                unfold plain
                rw [if_neg hl, if_neg h37, if_neg h35, if_neg h36, if_neg hnd, if_pos hm, if_pos ⟨h46.1, by simp⟩]; simp
              · injection h with h _
                subst h
                refine ⟨by simp, by simp, [], rfl, fun r' p => ?_⟩
                unfold plain
                rw [if_neg hl, if_neg h37, if_neg h35, if_neg h36, if_neg hnd, if_pos hm, if_neg (fun h => by simp at h)]; simp
            · cases h
/-- Every token that is read is read again. -/
theorem nx_again {l : List UInt8} {at_ k : Nat} {t : Tok} (h : nx l at_ = .tok t k) : Snd t ∧ t.kind ≠ 0 := by
  unfold nx at h
  split at h
  · cases h
  · rename_i c r
    split at h
    · cases h
    · rename_i hb
      split at h
      · cases h
      · rename_i h47
        split at h
        · split at h
          · rename_i hs
            injection h with h _
            obtain ⟨x, y, e⟩ : ∃ x y, Quo.scan (r.length + 1) r (at_ + 1) [] = (x, y, 0) := ⟨_, _, by rw [← hs]⟩
            rw [e] at h
            subst h
            have hl := (Quo.scan_out _ _ _ _ _ _ _ (by simp) e).1
            refine ⟨fun r' p => ?_, by simp⟩
            have ha : again ⟨3, x, 0, 0, at_⟩ = Quo.put x := rfl
            rw [ha]
            unfold Quo.put
            rw [List.cons_append]
            rw [nx_cons, if_neg (by decide), if_neg (fun h => by exact absurd h.1 (by decide)), if_pos rfl]
            have hsc := Quo.scan_body x ((Quo.body x ++ [34] ++ 32 :: r').length + 1) (32 :: r') (p + 1) [] (by
              have : x.length ≤ (Quo.body x).length := by
                clear ha hl e hs
                induction x with
                | nil => simp
                | cons a x ih =>
                  have := (Quo.one_len a).1
                  unfold Quo.body at *
                  rw [List.flatMap_cons, List.length_append, List.length_cons]; omega
              simp; omega) (by simpa using hl)
            have e3 : Quo.body x ++ [34] ++ 32 :: r' = Quo.body x ++ 34 :: 32 :: r' := by simp
            rw [e3] at hsc ⊢
            rw [hsc]
            simp
            omega
          · cases h
        · rename_i h34
          obtain ⟨h3, h0, l', ht, hp⟩ := plain_again h
          refine ⟨fun r' p => ?_, h0⟩
          have ha : again t = c :: l' := by unfold again; rw [if_neg h3, ht]
          have hnb : blank c = false := by simpa using hb
          have h47' : c ≠ 47 := by
            intro e
            subst e
            have : plain 47 r at_ = .bad 10 at_ := by
              unfold plain
              rw [if_neg (by decide), if_neg (by decide), if_neg (by decide), if_neg (by decide), if_neg (by decide), if_neg (by decide)]
            rw [this] at h; cases h
          rw [ha, List.cons_append, nx_plain hnb h47' h34, hp]
/-- Tokens one behind the other, a blank behind each, a remark behind some. -/
def glue (rem : List UInt8) : Nat → List Tok → List UInt8
  | _, [] => []
  | i, t :: l => again t ++ 32 :: ((if i % 3 = 1 then 47 :: 47 :: (rem ++ [10]) else []) ++ glue rem (i + 1) l)
def bare (t : Tok) : Tok := { t with at_ := 0 }
theorem go_blank {f : Nat} {r : List UInt8} {p : Nat} (out : List Tok) (c : UInt8) (h : blank c = true) : go (f + 1) (c :: r) p out = go f r (p + 1) out := by
  rw [go_skip out (k := 1) (by rw [nx_cons, if_pos h])]; rfl
theorem tw_rem (rem r : List UInt8) (h : (10 : UInt8) ∉ rem) : (rem ++ 10 :: r).takeWhile (· != 10) = rem := by
  induction rem with
  | nil => rfl
  | cons c rem ih =>
    have hc : (c != 10) = true := by rw [bne_iff_ne]; intro e; subst e; simp at h
    rw [List.cons_append, List.takeWhile_cons_of_pos (p := (· != 10)) hc, ih (fun h' => h (List.mem_cons_of_mem _ h'))]
/-- A remark, and the byte behind it, is passed. -/
theorem go_remark {f : Nat} {rem r : List UInt8} {p : Nat} (out : List Tok) (h : (10 : UInt8) ∉ rem) : go (f + 2) (47 :: 47 :: (rem ++ [10]) ++ r) p out = go f r (p + rem.length + 3) out := by
  have e : 47 :: 47 :: (rem ++ [10]) ++ r = (47 :: 47 :: rem) ++ 10 :: r := by simp
  have hk : nx ((47 :: 47 :: rem) ++ 10 :: r) p = .skip (rem.length + 2) := by
    rw [List.cons_append, nx_cons, if_neg (by decide), if_pos ⟨rfl, rfl⟩]
    have := tw_rem (47 :: 47 :: rem) r (by simpa using h)
    rw [List.cons_append] at this
    rw [this]; rfl
  rw [e, go_skip out hk, List.drop_left' (by simp), go_blank out 10 (by decide)]
  rfl
/-- What is told again, with blanks and remarks between, is read again. -/
theorem go_glue (rem : List UInt8) (hr : (10 : UInt8) ∉ rem) : ∀ (ts : List Tok) (i p f : Nat) (out : List Tok) (e : Tok), (∀ t ∈ ts, Snd t) → again e = [] → (glue rem i (ts ++ [e])).length < f →
    ∃ ms q, go f (glue rem i (ts ++ [e])) p out = (out ++ ms ++ [⟨0, [], 0, 0, q⟩], 0, 0) ∧ ms.map bare = ts.map bare := by
  intro ts
  induction ts with
  | nil =>
    intro i p f out e _ he hf
    have g : glue rem i ([] ++ [e]) = 32 :: ((if i % 3 = 1 then 47 :: 47 :: (rem ++ [10]) else []) ++ []) := by
      show again e ++ _ = _
      rw [he]; rfl
    rw [g] at hf ⊢
    obtain ⟨f, rfl⟩ : ∃ g, f = g + 1 := ⟨f - 1, by omega⟩
    rw [go_blank out 32 (by decide)]
    by_cases hi : i % 3 = 1
    · rw [if_pos hi] at hf ⊢
      obtain ⟨f, rfl⟩ : ∃ g, f = g + 3 := ⟨f - 3, by simp at hf; omega⟩
      rw [go_remark out hr]
      exact ⟨[], _, by rw [go_end, List.append_nil], rfl⟩
    · rw [if_neg hi] at hf ⊢
      obtain ⟨f, rfl⟩ : ∃ g, f = g + 1 := ⟨f - 1, by simp at hf; omega⟩
      exact ⟨[], _, by rw [List.append_nil, go_end, List.append_nil], rfl⟩
  | cons t ts ih =>
    intro i p f out e hs he hf
    have g : glue rem i (t :: ts ++ [e]) = again t ++ 32 :: ((if i % 3 = 1 then 47 :: 47 :: (rem ++ [10]) else []) ++ glue rem (i + 1) (ts ++ [e])) := rfl
    rw [g] at hf ⊢
    obtain ⟨f, rfl⟩ : ∃ g, f = g + 2 := ⟨f - 2, by
      have h1 := nx_tok_size (hs t (List.mem_cons_self ..) [] 0)
      rw [List.length_append] at hf
      simp at hf; omega⟩
    have h1 := nx_tok_size (hs t (List.mem_cons_self ..) [] 0)
    rw [go_tok out (hs t (List.mem_cons_self ..) _ p), List.drop_left, go_blank _ 32 (by decide)]
    have hs' : ∀ u ∈ ts, Snd u := fun u hu => hs u (List.mem_cons_of_mem _ hu)
    by_cases hi : i % 3 = 1
    · rw [if_pos hi] at hf ⊢
      obtain ⟨f, rfl⟩ : ∃ g, f = g + 2 := ⟨f - 2, by rw [List.length_append] at hf; simp at hf; omega⟩
      rw [go_remark _ hr]
      obtain ⟨ms, q, e1, e2⟩ := ih (i + 1) (p + (again t).length + 1 + rem.length + 3) f (out ++ [{ t with at_ := p }]) e hs' he (by rw [List.length_append] at hf; simp at hf; omega)
      exact ⟨{ t with at_ := p } :: ms, q, by rw [e1]; simp, by rw [List.map_cons, e2]; rfl⟩
    · rw [if_neg hi, List.nil_append] at hf ⊢
      obtain ⟨ms, q, e1, e2⟩ := ih (i + 1) (p + (again t).length + 1) f (out ++ [{ t with at_ := p }]) e hs' he (by rw [List.length_append] at hf; simp at hf; omega)
      exact ⟨{ t with at_ := p } :: ms, q, by rw [e1]; simp, by rw [List.map_cons, e2]; rfl⟩
theorem scan_bad : ∀ (f : Nat) (l : List UInt8) (p : Nat) (t x : List UInt8) (y : Nat) (c : Int), Quo.scan f l p t = (x, y, c) → c = 0 ∨ c = 3 ∨ c = 11 := by
  intro f
  induction f with
  | zero => intro l p t x y c h; simp [Quo.scan] at h; omega
  | succ f ih =>
    intro l p t x y c h
    cases l with
    | nil => simp [Quo.scan] at h; omega
    | cons a r =>
      rw [Quo.scan] at h
      split at h
      · injection h with h1 h; injection h with h2 h3; omega
      · split at h
        · injection h with h1 h; injection h with h2 h3; omega
        · split at h
          · injection h with h1 h; injection h with h2 h3; omega
          · split at h
            · injection h with h1 h; injection h with h2 h3; omega
            · exact ih _ _ _ _ _ _ h
theorem numb_bad {kind cls top : Nat} {pre r : List UInt8} {at_ p : Nat} {e : Int} (h : numb kind cls top pre r at_ = .bad e p) : e ≠ 0 := by
  unfold numb at h
  split at h
  · cases h
  · rename_i hv
    injection h with h _
    rw [← h]; exact hv
/-- Beside what is wrong there is a code. -/
theorem nx_bad_code {l : List UInt8} {at_ p : Nat} {e : Int} (h : nx l at_ = .bad e p) : e ≠ 0 := by
  unfold nx at h
  split at h
  · injection h with h; omega
  · rename_i c r
    split at h
    · cases h
    · split at h
      · cases h
      · split at h
        · split at h
          · cases h
          · rename_i hs
            injection h with h _
            rw [← h]; exact hs
        · unfold plain at h
          repeat' split at h
          all_goals first | exact numb_bad h | (cases h; done) | (injection h with h _; omega)
/-- What all tokens of a text are: sound ones, and the end. -/
theorem go_sound : ∀ (n : Nat) (l : List UInt8) (f p : Nat) (out : List Tok) (m : List Tok) (q : Nat), l.length ≤ n → l.length < f → (∀ t ∈ out, Snd t) → go f l p out = (m, 0, q) → ∃ ts, m = ts ++ [⟨0, [], 0, 0, p + l.length⟩] ∧ ∀ t ∈ ts, Snd t := by
  intro n
  induction n with
  | zero =>
    intro l f p out m q h1 h2 ho h
    obtain rfl : l = [] := List.eq_nil_of_length_eq_zero (by omega)
    obtain ⟨f, rfl⟩ : ∃ g, f = g + 1 := ⟨f - 1, by omega⟩
    rw [go_end] at h
    injection h with h _
    exact ⟨out, by rw [← h]; rfl, ho⟩
  | succ n ih =>
    intro l f p out m q h1 h2 ho h
    obtain ⟨f, rfl⟩ : ∃ g, f = g + 1 := ⟨f - 1, by omega⟩
    cases l with
    | nil =>
      rw [go_end] at h
      injection h with h _
      exact ⟨out, by rw [← h]; rfl, ho⟩
    | cons c r =>
      cases hx : nx (c :: r) p with
      | skip k =>
        have hk := nx_skip_size hx
        rw [go_skip out hx] at h
        obtain ⟨ts, e1, e2⟩ := ih _ _ _ _ _ _ (by rw [List.length_drop]; omega) (by rw [List.length_drop]; omega) ho h
        refine ⟨ts, ?_, e2⟩
        rw [e1, List.length_drop, show p + k + ((c :: r).length - k) = p + (c :: r).length by omega]
      | tok t k =>
        have hk := nx_tok_size hx
        rw [go_tok out hx] at h
        obtain ⟨ts, e1, e2⟩ := ih _ _ _ _ _ _ (by rw [List.length_drop]; omega) (by rw [List.length_drop]; omega) (by
          intro u hu
          rcases List.mem_append.1 hu with hu | hu
          · exact ho u hu
          · rw [List.mem_singleton] at hu; rw [hu]; exact (nx_again hx).1) h
        refine ⟨ts, ?_, e2⟩
        rw [e1, List.length_drop, show p + k + ((c :: r).length - k) = p + (c :: r).length by omega]
      | bad e p' =>
        rw [go_bad out hx] at h
        injection h with h1 h2
        injection h2 with h2 h3
        exact absurd h2 (nx_bad_code hx)
/-- All tokens of a text, told again, are read as they were, but for where they stand. -/
theorem all_again {s rem : List UInt8} {m : List Tok} {q : Nat} (h : all s = (m, 0, q)) (hr : (10 : UInt8) ∉ rem) (hl : (glue rem 0 m).length ≤ 65536) :
    ∃ m', all (glue rem 0 m) = (m', 0, 0) ∧ m'.map bare = m.map bare := by
  unfold all at h
  split at h
  · cases h
  · obtain ⟨ts, rfl, hs⟩ := go_sound _ _ _ _ _ _ _ (Nat.le_refl _) (Nat.lt_succ_self _) (by intro t ht; cases ht) h
    obtain ⟨ms, q', e1, e2⟩ := go_glue rem hr ts 0 0 ((glue rem 0 (ts ++ [⟨0, [], 0, 0, 0 + s.length⟩])).length + 1) [] ⟨0, [], 0, 0, 0 + s.length⟩ hs rfl (Nat.lt_succ_self _)
    refine ⟨ms ++ [⟨0, [], 0, 0, q'⟩], ?_, by rw [List.map_append, List.map_append, e2]; rfl⟩
    unfold all
    rw [if_neg (by omega), e1, List.nil_append]
end Go.Proofs.YtbpichjmkllfaaaGreatDoor.Lex

/- How long tokens' texts are; tokens told one behind the other. -/
namespace Go.Proofs.YtbpichjmkllfaaaGreatDoor.Lex
set_option linter.unusedVariables false

theorem numb_text {kind cls top : Nat} {pre r : List UInt8} {at_ : Nat} {t : Tok} {k : Nat} (h : numb kind cls top pre r at_ = .tok t k) : t.text.length ≤ pre.length + r.length := by
  have := (numb_again h).1
  subst this
  have := dg_len r
  simp; omega
theorem plain_text {c : UInt8} {r : List UInt8} {at_ : Nat} {t : Tok} {k : Nat} (h : plain c r at_ = .tok t k) : t.text.length ≤ r.length + 1 := by
  unfold plain at h
  split at h
  · split at h
    · cases h
    · injection h with h _
      subst h
      have := Nam.run_le (c :: r)
      unfold Nam.run at this
      simpa using this
  · split at h
    · have := numb_text h; simp at this; omega
    · split at h
      · have := numb_text h; simp at this; omega
      · split at h
        · split at h
          · cases h
          · split at h
            · have := numb_text h; simp at this ⊢; omega
            · split at h
              · have := numb_text h; simp at this ⊢; omega
              · cases h
        · split at h
          · have := numb_text h; simp at this; omega
          · split at h
            · split at h
              · rename_i hh
                injection h with h _
                subst h
                cases r with
                | nil => simp at hh
                | cons a r => simp
              · injection h with h _; subst h; simp
            · cases h
theorem nx_text {l : List UInt8} {at_ k : Nat} {t : Tok} (h : nx l at_ = .tok t k) : t.text.length ≤ l.length + 64 := by
  unfold nx at h
  split at h
  · cases h
  · rename_i c r
    split at h
    · cases h
    · split at h
      · cases h
      · split at h
        · split at h
          · rename_i hs
            injection h with h _
            subst h
            obtain ⟨x, y, e⟩ : ∃ x y, Quo.scan (r.length + 1) r (at_ + 1) [] = (x, y, 0) := ⟨_, _, by rw [← hs]⟩
            have := (Quo.scan_out _ _ _ _ _ _ _ (by simp) e).1
            rw [e]; simp; omega
          · cases h
        · have := plain_text h; simp; omega
theorem go_text : ∀ (n : Nat) (l : List UInt8) (f p : Nat) (out : List Tok) (m : List Tok) (c : Int) (q B : Nat), l.length ≤ n → l.length + 64 ≤ B → (∀ t ∈ out, t.text.length ≤ B) → go f l p out = (m, c, q) → (∀ t ∈ m, t.text.length ≤ B) ∧ m.length ≤ out.length + l.length + 1 := by
  intro n
  induction n with
  | zero =>
    intro l f p out m c q B h1 hB ho h
    obtain rfl : l = [] := List.eq_nil_of_length_eq_zero (by omega)
    cases f with
    | zero => injection h with h _; subst h; exact ⟨(fun t ht => by cases ht), by simp⟩
    | succ f =>
      rw [go_end] at h
      injection h with h _
      subst h
      refine ⟨fun t ht => ?_, by simp⟩
      rcases List.mem_append.1 ht with ht | ht
      · exact ho t ht
      · rw [List.mem_singleton] at ht; subst ht; simp
  | succ n ih =>
    intro l f p out m c q B h1 hB ho h
    cases f with
    | zero => injection h with h _; subst h; exact ⟨(fun t ht => by cases ht), by simp⟩
    | succ f =>
      cases l with
      | nil =>
        rw [go_end] at h
        injection h with h _
        subst h
        refine ⟨fun t ht => ?_, by simp⟩
        rcases List.mem_append.1 ht with ht | ht
        · exact ho t ht
        · rw [List.mem_singleton] at ht; subst ht; simp
      | cons x r =>
        cases hx : nx (x :: r) p with
        | skip k =>
          have hk := nx_skip_size hx
          rw [go_skip out hx] at h
          obtain ⟨e1, e2⟩ := ih _ _ _ _ _ _ _ B (by rw [List.length_drop]; omega) (by rw [List.length_drop]; omega) ho h
          exact ⟨e1, by rw [List.length_drop] at e2; omega⟩
        | tok t k =>
          have hk := nx_tok_size hx
          have ht := nx_text hx
          rw [go_tok out hx] at h
          obtain ⟨e1, e2⟩ := ih _ _ _ _ _ _ _ B (by rw [List.length_drop]; omega) (by rw [List.length_drop]; omega) (by
            intro u hu
            rcases List.mem_append.1 hu with hu | hu
            · exact ho u hu
            · rw [List.mem_singleton] at hu; rw [hu]; omega) h
          exact ⟨e1, by rw [List.length_drop, List.length_append] at e2; simp at e2 ⊢; simp at hk; omega⟩
        | bad e p' =>
          rw [go_bad out hx] at h
          injection h with h _
          subst h
          exact ⟨(fun t ht => by cases ht), by simp⟩
theorem all_text {s : List UInt8} {m : List Tok} {c : Int} {q : Nat} (h : all s = (m, c, q)) : (∀ t ∈ m, t.text.length ≤ s.length + 64) ∧ m.length ≤ s.length + 1 := by
  unfold all at h
  split at h
  · injection h with h _; subst h; exact ⟨(fun t ht => by cases ht), by simp⟩
  · obtain ⟨e1, e2⟩ := go_text _ _ _ _ _ _ _ _ _ (Nat.le_refl _) (Nat.le_refl _) (by intro t ht; cases ht) h
    exact ⟨e1, by simpa using e2⟩
theorem again_len (t : Tok) : (again t).length ≤ 4 * t.text.length + 2 := by
  unfold again
  split
  · exact Quo.put_len _
  · omega
theorem glue_at (rem : List UInt8) (i : Nat) (l : List Tok) (h : i < l.length) : glue rem i (l.drop i) = again l[i] ++ 32 :: ((if i % 3 = 1 then 47 :: 47 :: (rem ++ [10]) else []) ++ glue rem (i + 1) (l.drop (i + 1))) := by
  rw [List.drop_eq_getElem_cons h]; rfl
theorem glue_end (rem : List UInt8) (i : Nat) (l : List Tok) (h : l.length ≤ i) : glue rem i (l.drop i) = [] := by rw [List.drop_eq_nil_of_le h]; rfl
end Go.Proofs.YtbpichjmkllfaaaGreatDoor.Lex
