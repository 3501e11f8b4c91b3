/- Texts of signs and numbers as tokens, and what reading goes on to over them. -/
import Derived.Test.YtgjaajofhfhadaaDoorFoldMath
import Derived.Test.YtgjaajofhfhadaaDoorLexRest
namespace Go.Proofs.YtgjaajofhfhadaaDoor.Fol
open Go.RowKit Lex
set_option linter.unusedVariables false
set_option maxRecDepth 20000

/-- A piece of such a text: a sign, or a number's digits. -/
inductive Pc where
  | sg (c : UInt8)
  | nm (u : Nat)
def pby : Pc → List UInt8
  | .sg c => [c]
  | .nm u => Deci.digs u
def ptk : Pc → Nat → Tok
  | .sg c, p => ⟨7, [c], 0, 0, p⟩
  | .nm u, p => ⟨2, Deci.digs u, wrapN u, 0, p⟩
def ptext (l : List Pc) : List UInt8 := l.flatMap pby
def ptoks : List Pc → Nat → List Tok
  | [], p => [⟨0, [], 0, 0, p⟩]
  | x :: r, p => ptk x p :: ptoks r (p + (pby x).length)
/-- No two numbers side by side; signs that are read. -/
def pgood : List Pc → Prop
  | [] => True
  | .sg c :: r => c ∈ [40, 41, 42, 43, 45] ∧ pgood r
  | [.nm u] => u ≤ 9223372036854775808
  | .nm u :: .sg c :: r => u ≤ 9223372036854775808 ∧ pgood (.sg c :: r)
  | .nm _ :: .nm _ :: _ => False
theorem ptext_cons (x : Pc) (r : List Pc) : ptext (x :: r) = pby x ++ ptext r := rfl
theorem ptext_append (l m : List Pc) : ptext (l ++ m) = ptext l ++ ptext m := List.flatMap_append
theorem nx_sg (c : UInt8) (h : c ∈ [(40 : UInt8), 41, 42, 43, 45]) (r : List UInt8) (p : Nat) : nx (c :: r) p = .tok ⟨7, [c], 0, 0, p⟩ 1 := by
  simp only [List.mem_cons, List.not_mem_nil, or_false] at h
  rcases h with rfl | rfl | rfl | rfl | rfl
  all_goals
    rw [nx_plain (by decide) (by decide) (by decide)]
    unfold plain
    rw [if_neg (by decide), if_neg (by decide), if_neg (by decide), if_neg (by decide), if_neg (by decide), if_pos (by decide), if_neg (by rintro ⟨h, _⟩; revert h; decide)]
theorem nx_nm (u : Nat) (hu : u ≤ 9223372036854775808) (r : List UInt8) (hr : ∀ c, r.head? = some c → dgt c = false) (p : Nat) : nx (Deci.digs u ++ r) p = .tok ⟨2, Deci.digs u, wrapN u, 0, p⟩ (Deci.digs u).length := by
  have hn : dg (Deci.digs u ++ r) = Deci.digs u := dg_cat _ _ (dgt_digs u) hr
  obtain ⟨c, d, e⟩ : ∃ c d, Deci.digs u = c :: d := by
    cases hd : Deci.digs u with
    | nil => have := Deci.digs_pos u; rw [hd] at this; cases this
    | cons c r => exact ⟨c, r, rfl⟩
  have hc := Deci.digs_all u c (by rw [e]; exact List.mem_cons_self ..)
  have hd : dgt c = true := dgt_digs u c (by rw [e]; exact List.mem_cons_self ..)
  have nb : Lex.blank c = false := by
    unfold Lex.blank
    simp only [Bool.or_eq_false_iff, decide_eq_false_iff_not]
    refine ⟨⟨⟨?_, ?_⟩, ?_⟩, ?_⟩ <;> (intro e; subst e; revert hc; decide)
  have ne : ∀ k : UInt8, dgt k = false → c ≠ k := fun k hk e => by rw [e, hk] at hd; cases hd
  have nl : ¬ Nam.letter c = true := by
    unfold Nam.letter
    simp; omega
  have hv := vcode_digs 9223372036854775808 u
  rw [if_neg (by omega)] at hv
  rw [e] at hn hv ⊢
  rw [List.cons_append] at hn ⊢
  rw [nx_plain nb (ne 47 (by decide)) (ne 34 (by decide))]
  unfold plain
  rw [if_neg nl, if_neg (ne 37 (by decide)), if_neg (ne 35 (by decide)), if_neg (ne 36 (by decide)), if_pos hd]
  unfold numb
  rw [hn, if_pos hv, ← e, Deci.val_digs]
  simp
theorem head_good (x : Pc) (r : List Pc) (h : pgood (x :: r)) : pgood r := by
  cases x with
  | sg c => exact h.2
  | nm u =>
    cases r with
    | nil => trivial
    | cons y r =>
      cases y with
      | sg c => exact h.2
      | nm v => exact absurd h (by simp [pgood])
/-- All tokens of such a text. -/
theorem go_pieces : ∀ (l : List Pc) (f p : Nat) (out : List Tok), pgood l → (ptext l).length < f → go f (ptext l) p out = (out ++ ptoks l p, 0, 0) := by
  intro l
  induction l with
  | nil =>
    intro f p out _ hf
    obtain ⟨f, rfl⟩ : ∃ g, f = g + 1 := ⟨f - 1, by omega⟩
    exact go_end f p out
  | cons x r ih =>
    intro f p out hg hf
    obtain ⟨f, rfl⟩ : ∃ g, f = g + 1 := ⟨f - 1, by omega⟩
    have hx : nx (ptext (x :: r)) p = .tok (ptk x p) (pby x).length := by
      rw [ptext_cons]
      cases x with
      | sg c => exact nx_sg c hg.1 _ p
      | nm u =>
        cases r with
        | nil => exact nx_nm u hg _ (by intro c h; cases h) p
        | cons y r =>
          cases y with
          | sg c =>
            refine nx_nm u hg.1 _ ?_ p
            intro d hd
            rw [ptext_cons] at hd
            have : c = d := by simpa [pby] using hd
            subst this
            have hc := hg.2.1
            simp only [List.mem_cons, List.not_mem_nil, or_false] at hc
            rcases hc with rfl | rfl | rfl | rfl | rfl <;> decide
          | nm v => exact absurd hg (by simp [pgood])
    have hs := nx_tok_size hx
    rw [go_tok out hx, ptext_cons, List.drop_left]
    rw [ptext_cons, List.length_append] at hf hs
    rw [ih f (p + (pby x).length) (out ++ [ptk x p]) (head_good x r hg) (by omega), List.append_assoc]
    rfl
theorem all_pieces (l : List Pc) (h : pgood l) (hl : (ptext l).length ≤ 65536) : all (ptext l) = (ptoks l 0, 0, 0) := by
  unfold all
  rw [if_neg (by omega), go_pieces l _ 0 [] h (Nat.lt_succ_self _)]
  rfl

/-- The machine over what still comes. -/
def machs : Nat → Mode → List Tok → Nat → List Opn → Option Res
  | 0, _, _, _, _ => none
  | k + 1, .fac, s, a, stk =>
    match s with
    | [] => none
    | t0 :: s1 =>
      match (if isT t0 [45] then s1 else t0 :: s1) with
      | [] => none
      | t :: s2 =>
        if isT t [40] then
          (if mayT stk.length (isT t0 [45]) = 0 then machs k .fac s2 ((if isT t0 [45] then a + 1 else a) + 1) (opened (isT t0 [45]) :: stk)
           else some (.bad (mayT stk.length (isT t0 [45])) t.at_))
        else if (numT t (isT t0 [45])).2 = 0 then machs k (.beh (numT t (isT t0 [45])).1) s2 ((if isT t0 [45] then a + 1 else a) + 1) stk
        else some (.bad (numT t (isT t0 [45])).2 t.at_)
  | k + 1, .beh n, s, a, [] => some (.val n a)
  | k + 1, .beh n, s, a, o :: r =>
    match s with
    | [] => none
    | t :: s1 =>
      if isT t [41] then machs k (.beh (o.times n).closed) s1 (a + 1) r
      else if isT t [42] then machs k .fac s1 (a + 1) (o.times n :: r)
      else if isT t [43] then machs k .fac s1 (a + 1) ((o.times n).join 1 :: r)
      else if isT t [45] then machs k .fac s1 (a + 1) ((o.times n).join 2 :: r)
      else some (.bad 20 t.at_)
theorem drop_cons {α : Type} {l s : List α} {a : Nat} {t : α} (h : l.drop a = t :: s) : l[a]? = some t ∧ l.drop (a + 1) = s := by
  refine ⟨?_, ?_⟩
  · rw [← List.head?_drop, h]; rfl
  · rw [← List.drop_drop, h]; rfl
theorem drop_nil {α : Type} {l : List α} {a : Nat} (h : l.drop a = []) : l[a]? = none := by
  rw [← List.head?_drop, h]; rfl
theorem mach_s (l : List Tok) : ∀ (k : Nat) (md : Mode) (a : Nat) (stk : List Opn), mach l k md a stk = machs k md (l.drop a) a stk := by
  intro k
  induction k with
  | zero => intro md a stk; rfl
  | succ k ih =>
    intro md a stk
    cases md with
    | fac =>
      cases hd : l.drop a with
      | nil => rw [mach, machs, drop_nil hd]
      | cons t0 s1 =>
        obtain ⟨e1, e2⟩ := drop_cons hd
        rw [mach, machs, e1]
        simp only
        cases hm : isT t0 [45] with
        | false =>
          simp only [Bool.false_eq_true, if_false]
          rw [e1]
          simp only
          rw [ih, ih, e2]
        | true =>
          simp only [if_true]
          cases hd2 : s1 with
          | nil => rw [hd2] at e2; rw [drop_nil e2]
          | cons t s2 =>
            rw [hd2] at e2
            obtain ⟨e3, e4⟩ := drop_cons e2
            rw [e3]
            simp only
            rw [ih, ih, e4]
    | beh n =>
      cases stk with
      | nil => rfl
      | cons o r =>
        cases hd : l.drop a with
        | nil => rw [mach, machs, drop_nil hd]
        | cons t s1 =>
          obtain ⟨e1, e2⟩ := drop_cons hd
          rw [mach, machs, e1]
          simp only
          rw [ih, ih, ih, ih, e2]
theorem mach_start (l : List Tok) (k : Nat) : mach l k .fac 0 [] = machs k .fac l 0 [] := by rw [mach_s]; rfl
/-- A number's pieces. -/
def pnum (n : Int) : List Pc := if n < 0 then [.sg 45, .nm (-n).toNat] else [.nm n.toNat]
def plen (n : Int) : Nat := if n < 0 then 2 else 1
theorem isT_sg (c : UInt8) (p : Nat) (s : List UInt8) : isT (ptk (.sg c) p) s = decide ([c] = s) := by unfold isT ptk; simp
theorem isT_nm (u p : Nat) (s : List UInt8) : isT (ptk (.nm u) p) s = false := by unfold isT ptk; simp
theorem isT_end (p : Nat) (s : List UInt8) : isT ⟨0, [], 0, 0, p⟩ s = false := by unfold isT; simp
theorem wrapN_fit (u : Nat) (h : u < 9223372036854775808) : wrapN u = u := by unfold wrapN; rw [if_pos h]
theorem reck_sub (a b : Int) : reck 2 a b = wrap64 (a - b) := rfl
theorem reck_add (a b : Int) : reck 1 a b = wrap64 (a + b) := rfl
theorem reck_mul (a b : Int) : reck 3 a b = wrap64 (a * b) := rfl
theorem num_min (u : Nat) (h : u ≤ 9223372036854775808) : reck 2 0 (wrapN u) = -(u : Int) := by
  rw [reck_sub]
  unfold wrapN
  split
  · rw [IntWalk.wrap64_in _ (by omega)]; omega
  · obtain rfl : u = 9223372036854775808 := by omega
    unfold wrap64; omega
/-- A number where a factor begins. -/
theorem fac_num (n : Int) (hn : fit n) (k p a : Nat) (r : List Pc) (stk : List Opn) :
    machs (k + 1) .fac (ptoks (pnum n ++ r) p) a stk = machs k (.beh n) (ptoks r (p + (ptext (pnum n)).length)) (a + plen n) stk := by
  obtain ⟨h1, h2⟩ := hn
  unfold pnum plen
  by_cases h : n < 0
  · rw [if_pos h, if_pos h]
    have e1 : ptoks ([Pc.sg 45, .nm (-n).toNat] ++ r) p = ptk (.sg 45) p :: ptk (.nm (-n).toNat) (p + 1) :: ptoks r (p + 1 + (Deci.digs (-n).toNat).length) := rfl
    have e2 : p + (ptext [Pc.sg 45, .nm (-n).toNat]).length = p + 1 + (Deci.digs (-n).toNat).length := by
      unfold ptext; simp [pby]; omega
    rw [e1, e2, machs]
    simp only [isT_sg, decide_true, if_true, isT_nm, Bool.false_eq_true, if_false]
    have : numT (ptk (.nm (-n).toNat) (p + 1)) true = (n, 0) := by
      unfold numT ptk
      simp only [if_true]
      rw [if_neg (by decide), num_min _ (by omega)]
      rw [show -(((-n).toNat : Nat) : Int) = n by omega]
    rw [this]
    simp only [if_true]
  · rw [if_neg h, if_neg h]
    have e1 : ptoks ([Pc.nm n.toNat] ++ r) p = ptk (.nm n.toNat) p :: ptoks r (p + (Deci.digs n.toNat).length) := rfl
    have e2 : p + (ptext [Pc.nm n.toNat]).length = p + (Deci.digs n.toNat).length := by
      unfold ptext; simp [pby]
    rw [e1, e2, machs]
    simp only [isT_nm, Bool.false_eq_true, if_false]
    have : numT (ptk (.nm n.toNat) p) false = (n, 0) := by
      unfold numT ptk
      simp only [Bool.false_eq_true, if_false]
      rw [if_neg (by decide), wrapN_fit _ (by omega), if_neg (by omega)]
      rw [show ((n.toNat : Nat) : Int) = n by omega]
    rw [this]
    simp only [if_true]
theorem fac_open (k p a : Nat) (r : List Pc) (stk : List Opn) (h : stk.length < 32) :
    machs (k + 1) .fac (ptoks (.sg 40 :: r) p) a stk = machs k .fac (ptoks r (p + 1)) (a + 1) (opened false :: stk) := by
  have e1 : ptoks (.sg 40 :: r) p = ptk (.sg 40) p :: ptoks r (p + 1) := rfl
  rw [e1, machs]
  simp only [isT_sg, decide_true, if_true, show (([40] : List UInt8) = [45]) = False by simp, decide_false, Bool.false_eq_true, if_false]
  have : mayT stk.length false = 0 := by
    unfold mayT
    rw [if_neg (by simp), if_neg (by omega)]
  rw [this]
  simp only [if_true]
theorem fac_deep (k p a : Nat) (r : List Pc) (stk : List Opn) (h : stk.length = 32) :
    machs (k + 1) .fac (ptoks (.sg 40 :: r) p) a stk = some (.bad 21 p) := by
  have e1 : ptoks (.sg 40 :: r) p = ptk (.sg 40) p :: ptoks r (p + 1) := rfl
  rw [e1, machs]
  simp only [isT_sg, decide_true, if_true, show (([40] : List UInt8) = [45]) = False by simp, decide_false, Bool.false_eq_true, if_false]
  have : mayT stk.length false = 21 := by
    unfold mayT
    rw [if_neg (by simp), if_pos h]
  rw [this]
  rfl
theorem beh_close (n : Int) (k p a : Nat) (r : List Pc) (o : Opn) (stk : List Opn) :
    machs (k + 1) (.beh n) (ptoks (.sg 41 :: r) p) a (o :: stk) = machs k (.beh (o.times n).closed) (ptoks r (p + 1)) (a + 1) stk := by
  have e1 : ptoks (.sg 41 :: r) p = ptk (.sg 41) p :: ptoks r (p + 1) := rfl
  rw [e1, machs]
  simp only [isT_sg, decide_true, if_true]
theorem beh_times (n : Int) (k p a : Nat) (r : List Pc) (o : Opn) (stk : List Opn) :
    machs (k + 1) (.beh n) (ptoks (.sg 42 :: r) p) a (o :: stk) = machs k .fac (ptoks r (p + 1)) (a + 1) (o.times n :: stk) := by
  have e1 : ptoks (.sg 42 :: r) p = ptk (.sg 42) p :: ptoks r (p + 1) := rfl
  rw [e1, machs]
  simp only [isT_sg, decide_true, if_true, show (([42] : List UInt8) = [41]) = False by simp, decide_false, Bool.false_eq_true, if_false]
theorem beh_plus (n : Int) (k p a : Nat) (r : List Pc) (o : Opn) (stk : List Opn) :
    machs (k + 1) (.beh n) (ptoks (.sg 43 :: r) p) a (o :: stk) = machs k .fac (ptoks r (p + 1)) (a + 1) ((o.times n).join 1 :: stk) := by
  have e1 : ptoks (.sg 43 :: r) p = ptk (.sg 43) p :: ptoks r (p + 1) := rfl
  rw [e1, machs]
  simp only [isT_sg, decide_true, if_true, show (([43] : List UInt8) = [41]) = False by simp, show (([43] : List UInt8) = [42]) = False by simp, decide_false, Bool.false_eq_true, if_false]
theorem beh_minus (n : Int) (k p a : Nat) (r : List Pc) (o : Opn) (stk : List Opn) :
    machs (k + 1) (.beh n) (ptoks (.sg 45 :: r) p) a (o :: stk) = machs k .fac (ptoks r (p + 1)) (a + 1) ((o.times n).join 2 :: stk) := by
  have e1 : ptoks (.sg 45 :: r) p = ptk (.sg 45) p :: ptoks r (p + 1) := rfl
  rw [e1, machs]
  simp only [isT_sg, decide_true, if_true, show (([45] : List UInt8) = [41]) = False by simp, show (([45] : List UInt8) = [42]) = False by simp, show (([45] : List UInt8) = [43]) = False by simp, decide_false, Bool.false_eq_true, if_false]
theorem beh_end (n : Int) (k a : Nat) (s : List Tok) : machs (k + 1) (.beh n) s a [] = some (.val n a) := by rw [machs]

theorem ptext_num (n : Int) : ptext (pnum n) = Deci.txt n := by
  unfold pnum Deci.txt
  by_cases h : n < 0
  · rw [if_pos h, if_pos h, show (-n).toNat = n.natAbs by omega]
    unfold ptext; simp [pby]
  · rw [if_neg h, if_neg h, show n.toNat = n.natAbs by omega]
    unfold ptext; simp [pby]
theorem pnum_len (n : Int) (h : fit n) : (ptext (pnum n)).length ≤ 20 := by rw [ptext_num]; exact Deci.txt_len n h.1 h.2
/-- Behind a number a sign comes, or nothing. -/
def hsg (l : List Pc) : Prop := l = [] ∨ ∃ c r, l = .sg c :: r
theorem hsg_sg (c : UInt8) (r : List Pc) : hsg (.sg c :: r) := .inr ⟨c, r, rfl⟩
theorem good_num (n : Int) (h : fit n) (r : List Pc) (hr : pgood r) (hh : hsg r) : pgood (pnum n ++ r) := by
  obtain ⟨h1, h2⟩ := h
  have key : ∀ u, u ≤ 9223372036854775808 → pgood (.nm u :: r) := by
    intro u hu
    rcases hh with rfl | ⟨c, r', rfl⟩
    · exact hu
    · exact ⟨hu, hr⟩
  unfold pnum
  split
  · exact ⟨by decide, key _ (by omega)⟩
  · exact key _ (by omega)
theorem good_sg {c : UInt8} {r : List Pc} (hc : c ∈ [(40 : UInt8), 41, 42, 43, 45]) (hr : pgood r) : pgood (.sg c :: r) := ⟨hc, hr⟩
theorem good_rep {c : UInt8} (hc : c ∈ [(40 : UInt8), 41, 42, 43, 45]) {r : List Pc} (hr : pgood r) : ∀ d, pgood (List.replicate d (.sg c) ++ r) := by
  intro d
  induction d with
  | zero => exact hr
  | succ d ih => exact ⟨hc, ih⟩
theorem ptext_rep (c : UInt8) : ∀ d, ptext (List.replicate d (.sg c)) = List.replicate d c := by
  intro d
  induction d with
  | zero => rfl
  | succ d ih => rw [List.replicate_succ, List.replicate_succ, ptext_cons, ih]; rfl
/-- A number between so many parentheses. -/
def pnest (n : Int) (d : Nat) : List Pc := List.replicate d (.sg 40) ++ (pnum n ++ List.replicate d (.sg 41))
theorem pnest_text (n : Int) (d : Nat) : ptext (pnest n d) = List.replicate d 40 ++ (Deci.txt n ++ List.replicate d 41) := by
  unfold pnest; rw [ptext_append, ptext_append, ptext_rep, ptext_rep, ptext_num]
theorem pnest_good (n : Int) (h : fit n) (d : Nat) : pgood (pnest n d) := by
  refine good_rep (by decide) (good_num n h _ ?_ ?_) d
  · have := good_rep (c := 41) (by decide) (r := []) trivial d
    rwa [List.append_nil] at this
  · cases d with
    | zero => exact .inl rfl
    | succ d => exact hsg_sg _ _
theorem pnest_step (n : Int) (d : Nat) : ptext (pnest n (d + 1)) = [40] ++ ptext (pnest n d) ++ [41] := by
  rw [pnest_text, pnest_text, List.replicate_succ, List.replicate_succ']
  simp
theorem pnest_len (n : Int) (h : fit n) (d : Nat) : (ptext (pnest n d)).length ≤ 2 * d + 20 := by
  have := Deci.txt_len n h.1 h.2
  rw [pnest_text]; simp; omega
theorem opens (r : List Pc) : ∀ (d k p a : Nat) (stk : List Opn), stk.length + d ≤ 32 →
    machs (k + d) .fac (ptoks (List.replicate d (.sg 40) ++ r) p) a stk = machs k .fac (ptoks r (p + d)) (a + d) (List.replicate d (opened false) ++ stk) := by
  intro d
  induction d with
  | zero => intro k p a stk h; rfl
  | succ d ih =>
    intro k p a stk h
    rw [List.replicate_succ, List.cons_append, ← Nat.add_assoc, fac_open _ _ _ _ _ (by omega), ih _ _ _ _ (by simp; omega), List.replicate_succ']
    rw [List.append_assoc, show p + 1 + d = p + (d + 1) by omega, show a + 1 + d = a + (d + 1) by omega]
    rfl
theorem wrap_fit (n : Int) (h : fit n) : wrap64 n = n := IntWalk.wrap64_in n h
theorem alone (n : Int) (h : fit n) : ((opened false).times n).closed = n := by
  show wrap64 (0 + wrap64 (1 * n)) = n
  rw [Int.one_mul, wrap_fit n h, Int.zero_add, wrap_fit n h]
theorem closes (n : Int) (h : fit n) : ∀ (d k p a : Nat),
    machs (k + d) (.beh n) (ptoks (List.replicate d (.sg 41)) p) a (List.replicate d (opened false)) = machs k (.beh n) (ptoks [] (p + d)) (a + d) [] := by
  intro d
  induction d with
  | zero => intro k p a; rfl
  | succ d ih =>
    intro k p a
    rw [List.replicate_succ, List.replicate_succ, ← Nat.add_assoc, beh_close, alone n h, ih, show p + 1 + d = p + (d + 1) by omega, show a + 1 + d = a + (d + 1) by omega]
theorem nest_val (n : Int) (h : fit n) (d : Nat) (hd : d ≤ 32) : machs (1 + d + 1 + d) .fac (ptoks (pnest n d) 0) 0 [] = some (.val n (0 + d + plen n + d)) := by
  unfold pnest
  rw [opens _ d _ _ _ _ (by simp; omega), List.append_nil, fac_num n h, closes n h, beh_end]
theorem nest_deep (n : Int) (d : Nat) (hd : 32 < d) : machs (1 + 32) .fac (ptoks (pnest n d) 0) 0 [] = some (.bad 21 32) := by
  unfold pnest
  obtain ⟨j, rfl⟩ : ∃ j, d = 32 + (j + 1) := ⟨d - 33, by omega⟩
  rw [← List.replicate_append_replicate, List.append_assoc, opens _ 32 _ _ _ _ (by simp), List.replicate_succ, List.cons_append, fac_deep _ _ _ _ _ (by simp)]

/-- The last of these tokens is the end. -/
theorem ptoks_last : ∀ (l : List Pc) (p : Nat), ∃ ts q, ptoks l p = ts ++ [⟨0, [], 0, 0, q⟩] := by
  intro l
  induction l with
  | nil => intro p; exact ⟨[], p, rfl⟩
  | cons x r ih =>
    intro p
    obtain ⟨ts, q, e⟩ := ih (p + (pby x).length)
    exact ⟨ptk x p :: ts, q, by rw [ptoks, e]; rfl⟩

/-- The five texts of the laws. -/
def pl1 (x y z : Int) : List Pc := .sg 40 :: (pnum x ++ .sg 43 :: (pnum y ++ .sg 42 :: (pnum z ++ [.sg 41])))
def pl2 (x y z : Int) : List Pc := .sg 40 :: (pnum z ++ .sg 42 :: (pnum y ++ .sg 43 :: (pnum x ++ [.sg 41])))
def pl3 (x y z : Int) : List Pc := .sg 40 :: (pnum x ++ .sg 42 :: .sg 40 :: (pnum y ++ .sg 43 :: (pnum z ++ [.sg 41, .sg 41])))
def pl4 (x y z : Int) : List Pc := .sg 40 :: (pnum x ++ .sg 42 :: (pnum y ++ .sg 43 :: (pnum x ++ .sg 42 :: (pnum z ++ [.sg 41]))))
def pl5 (x y z : Int) : List Pc := .sg 40 :: (pnum x ++ .sg 45 :: .sg 40 :: (pnum y ++ .sg 45 :: (pnum z ++ .sg 41 :: .sg 43 :: (pnum y ++ .sg 45 :: (pnum z ++ [.sg 41])))))
theorem fit_reck1 (a b : Int) : fit (reck 1 a b) := fit_wrap _
theorem fit_reck2 (a b : Int) : fit (reck 2 a b) := fit_wrap _
theorem fit_reck3 (a b : Int) : fit (reck 3 a b) := fit_wrap _
theorem B_reck1 (a b : Int) : B (reck 1 a b) = B a + B b := B_add a b
theorem B_reck2 (a b : Int) : B (reck 2 a b) = B a - B b := B_sub a b
theorem B_reck3 (a b : Int) : B (reck 3 a b) = B a * B b := B_mul a b
theorem of_B {a b : Int} (ha : fit a) (hb : fit b) (h : B a = B b) : a = b := by rw [← toInt_B ha, h, toInt_B hb]
theorem B_0 : B 0 = 0 := rfl
theorem B_1 : B 1 = 1 := rfl
theorem law12 (x y z : Int) (hx : fit x) (hy : fit y) (hz : fit z) : ∃ v a b, machs 8 .fac (ptoks (pl1 x y z) 0) 0 [] = some (.val v a) ∧ machs 8 .fac (ptoks (pl2 x y z) 0) 0 [] = some (.val v b) := by
  have h1 : ∃ a, machs 8 .fac (ptoks (pl1 x y z) 0) 0 [] = some (.val (reck 1 (reck 1 0 (reck 3 1 x)) (reck 3 (reck 3 1 y) z)) a) := by
    unfold pl1
    rw [fac_open _ _ _ _ _ (by simp), fac_num x hx, beh_plus, fac_num y hy, beh_times, fac_num z hz, beh_close, beh_end]
    exact ⟨_, rfl⟩
  have h2 : ∃ a, machs 8 .fac (ptoks (pl2 x y z) 0) 0 [] = some (.val (reck 1 (reck 1 0 (reck 3 (reck 3 1 z) y)) (reck 3 1 x)) a) := by
    unfold pl2
    rw [fac_open _ _ _ _ _ (by simp), fac_num z hz, beh_times, fac_num y hy, beh_plus, fac_num x hx, beh_close, beh_end]
    exact ⟨_, rfl⟩
  obtain ⟨a, h1⟩ := h1
  obtain ⟨b, h2⟩ := h2
  refine ⟨_, a, b, h1, ?_⟩
  rw [h2]
  congr 2
  refine of_B (fit_reck1 _ _) (fit_reck1 _ _) ?_
  simp only [B_reck1, B_reck3, B_0, B_1]
  grind
theorem law34 (x y z : Int) (hx : fit x) (hy : fit y) (hz : fit z) : ∃ v a b, machs 12 .fac (ptoks (pl3 x y z) 0) 0 [] = some (.val v a) ∧ machs 12 .fac (ptoks (pl4 x y z) 0) 0 [] = some (.val v b) := by
  have h1 : ∃ a, machs 12 .fac (ptoks (pl3 x y z) 0) 0 [] = some (.val (reck 1 0 (reck 3 (reck 3 1 x) (reck 1 (reck 1 0 (reck 3 1 y)) (reck 3 1 z)))) a) := by
    unfold pl3
    rw [fac_open _ _ _ _ _ (by simp), fac_num x hx, beh_times, fac_open _ _ _ _ _ (by simp), fac_num y hy, beh_plus, fac_num z hz, beh_close, beh_close, beh_end]
    exact ⟨_, rfl⟩
  have h2 : ∃ a, machs 12 .fac (ptoks (pl4 x y z) 0) 0 [] = some (.val (reck 1 (reck 1 0 (reck 3 (reck 3 1 x) y)) (reck 3 (reck 3 1 x) z)) a) := by
    unfold pl4
    rw [fac_open _ _ _ _ _ (by simp), fac_num x hx, beh_times, fac_num y hy, beh_plus, fac_num x hx, beh_times, fac_num z hz, beh_close, beh_end]
    exact ⟨_, rfl⟩
  obtain ⟨a, h1⟩ := h1
  obtain ⟨b, h2⟩ := h2
  refine ⟨_, a, b, h1, ?_⟩
  rw [h2]
  congr 2
  refine of_B (fit_reck1 _ _) (fit_reck1 _ _) ?_
  simp only [B_reck1, B_reck3, B_0, B_1]
  grind
theorem law5 (x y z : Int) (hx : fit x) (hy : fit y) (hz : fit z) : ∃ a, machs 16 .fac (ptoks (pl5 x y z) 0) 0 [] = some (.val x a) := by
  have h1 : ∃ v a, machs 16 .fac (ptoks (pl5 x y z) 0) 0 [] = some (.val v a) ∧ v = reck 2 (reck 1 (reck 2 (reck 1 0 (reck 3 1 x)) (reck 3 1 (reck 2 (reck 1 0 (reck 3 1 y)) (reck 3 1 z)))) (reck 3 1 y)) (reck 3 1 z) := by
    unfold pl5
    rw [fac_open _ _ _ _ _ (by simp), fac_num x hx, beh_minus, fac_open _ _ _ _ _ (by simp), fac_num y hy, beh_minus, fac_num z hz, beh_close, beh_plus, fac_num y hy, beh_minus, fac_num z hz, beh_close, beh_end]
    exact ⟨_, _, rfl, rfl⟩
  obtain ⟨v, a, h1, hv⟩ := h1
  have : v = x := by
    rw [hv]
    refine of_B (fit_reck2 _ _) hx ?_
    simp only [B_reck1, B_reck2, B_reck3, B_0, B_1]
    grind
  rw [this] at h1
  exact ⟨a, h1⟩
theorem pl_good1 (x y z : Int) (hx : fit x) (hy : fit y) (hz : fit z) : pgood (pl1 x y z) :=
  good_sg (by decide) (good_num x hx _ (good_sg (by decide) (good_num y hy _ (good_sg (by decide) (good_num z hz _ (good_sg (by decide) trivial) (hsg_sg _ _))) (hsg_sg _ _))) (hsg_sg _ _))
theorem pl_good2 (x y z : Int) (hx : fit x) (hy : fit y) (hz : fit z) : pgood (pl2 x y z) :=
  good_sg (by decide) (good_num z hz _ (good_sg (by decide) (good_num y hy _ (good_sg (by decide) (good_num x hx _ (good_sg (by decide) trivial) (hsg_sg _ _))) (hsg_sg _ _))) (hsg_sg _ _))
theorem pl_good3 (x y z : Int) (hx : fit x) (hy : fit y) (hz : fit z) : pgood (pl3 x y z) :=
  good_sg (by decide) (good_num x hx _ (good_sg (by decide) (good_sg (by decide) (good_num y hy _ (good_sg (by decide) (good_num z hz _ (good_sg (by decide) (good_sg (by decide) trivial)) (hsg_sg _ _))) (hsg_sg _ _)))) (hsg_sg _ _))
theorem pl_good4 (x y z : Int) (hx : fit x) (hy : fit y) (hz : fit z) : pgood (pl4 x y z) :=
  good_sg (by decide) (good_num x hx _ (good_sg (by decide) (good_num y hy _ (good_sg (by decide) (good_num x hx _ (good_sg (by decide) (good_num z hz _ (good_sg (by decide) trivial) (hsg_sg _ _))) (hsg_sg _ _))) (hsg_sg _ _))) (hsg_sg _ _))
theorem pl_good5 (x y z : Int) (hx : fit x) (hy : fit y) (hz : fit z) : pgood (pl5 x y z) :=
  good_sg (by decide) (good_num x hx _ (good_sg (by decide) (good_sg (by decide) (good_num y hy _ (good_sg (by decide) (good_num z hz _ (good_sg (by decide) (good_sg (by decide) (good_num y hy _ (good_sg (by decide) (good_num z hz _ (good_sg (by decide) trivial) (hsg_sg _ _))) (hsg_sg _ _)))) (hsg_sg _ _))) (hsg_sg _ _)))) (hsg_sg _ _))
end Go.Proofs.YtgjaajofhfhadaaDoor.Fol
