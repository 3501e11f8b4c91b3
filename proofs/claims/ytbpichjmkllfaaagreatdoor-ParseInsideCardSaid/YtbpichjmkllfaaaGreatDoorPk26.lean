/- Blocks, and functions, where what stands behind is cut off. -/
import Derived.Test.YtbpichjmkllfaaaGreatDoorPk25
import Derived.Test.YtbpichjmkllfaaaGreatDoorPk04
import Derived.Test.YtbpichjmkllfaaaGreatDoorPk12
namespace Go.Proofs.YtbpichjmkllfaaaGreatDoor.Par
open Lex (Tok)
set_option linter.unusedVariables false
set_option maxRecDepth 20000

def stops (l : List Tok) : Bool := isB l [125] || begins l
theorem isB_end {e : Tok} (he : e.kind = 0) (r : List Tok) (s : List UInt8) : isB (e :: r) s = false := isT_end he s
/-- What stops there stops here, or it is too short. -/
theorem stops_cut {u v : List Tok} {t e : Tok} (he : e.kind = 0) (h : stops (u ++ [e]) = true) : stops (u ++ t :: v) = true := by
  match u, h with
  | [], h =>
    unfold stops begins at h
    rw [List.nil_append, isB_end he] at h
    have : kindOf [e] = 0 := he
    rw [this] at h
    simp at h
  | [x], h =>
    unfold stops begins edgeB at h ⊢
    have e1 : ∀ s, isB [x, e].tail s = false := fun s => isB_end he [] s
    have e2 : kindOf [x, e].tail = 0 := he
    rw [List.singleton_append, e1, e1, e2] at h
    simp only [List.singleton_append]
    have e3 : isB (x :: t :: v) [125] = isB [x, e] [125] := rfl
    rw [e3]
    simp at h
    rw [h]; rfl
  | x :: y :: u, h => exact h
/-- What stops there, and not here, is an instruction's beginning that is wrong at the end. -/
theorem stops_bad {u v : List Tok} {t e : Tok} (he : e.kind = 0) (h : stops (u ++ t :: v) = true) (hn : stops (u ++ [e]) = false) : instr (u ++ [e]) = .bad 20 e.at_ := by
  have h0 : ∀ d : Opn, instr2 d [e] = .bad 20 e.at_ := fun d => by
    unfold instr2
    have : kindOf [e] = 0 := he
    rw [this, if_neg (by simp)]; rfl
  match u, h, hn with
  | [], h, hn =>
    rw [List.nil_append]
    unfold instr
    have : kindOf [e] = 0 := he
    rw [this, if_neg (by decide), if_neg (by simp)]
    exact h0 _
  | [x], h, hn =>
    have hx : isB [x, e] [125] = false := by
      unfold stops at hn
      simp at hn
      exact hn.1
    have hk : x.kind = 1 := by
      unfold stops begins at h
      have e3 : isB (x :: t :: v) [125] = isB [x, e] [125] := rfl
      rw [List.singleton_append, e3, hx] at h
      simp at h
      exact h.1
    have hkk : kindOf [x, e] = 1 := hk
    rw [List.singleton_append]
    unfold instr
    rw [hkk, if_neg (by decide)]
    by_cases hf : findOp (textOf [x, e]) = 0
    · rw [if_pos ⟨rfl, hf⟩]; rfl
    · rw [if_neg (by simp [hf])]
      have hE : Ends [e] := ends_cut [] he
      have hbad : ∀ op : Nat, 1 ≤ op → op ≤ 27 → rest op [e] = .bad 20 e.at_ := by
        intro op o1 o2
        have hv : value [e] = .bad 20 e.at_ := by
          refine value_of (k := 1) (R := .bad 20 e.at_) hE ?_
          have := mach_fac_eq [e] 0 0 [] e rfl 0 (by rw [isT_end he]; rfl) e rfl
          rw [this, isT_end he, numT_end he]; rfl
        have hofk : ∀ k, k ≠ 0 → ofk k [e] = .bad 20 e.at_ := fun k hk => by unfold ofk; simp only; rw [if_neg (by rw [he]; exact fun h => hk h.symm)]; rfl
        have ho : operand [e] = .bad 20 e.at_ := by
          unfold operand
          have : kindOf [e] = 0 := he
          rw [this, if_neg (by decide), if_neg (by decide), if_neg (by decide), isB_end he, if_neg (by decide), hv]; rfl
        have hl : label [e] = .bad 20 e.at_ := by unfold label; rw [hofk 1 (by decide)]; rfl
        unfold rest
        by_cases h19 : op = 19
        · rw [if_pos h19, hofk 3 (by decide)]; rfl
        · rw [if_neg h19]
          by_cases hm : Opr.many (op : Int) = 0
          · have h20 : op = 20 := by
              have hall : ∀ k : Fin 27, Opr.many ((k.val : Int) + 1) = 0 → k.val = 19 ∨ k.val = 18 := by decide +kernel
              have := hall ⟨op - 1, by omega⟩ (by rw [← hm]; congr 1; simp; omega)
              simp at this
              omega
            rw [hm]
            simp only [argsN, Res.bind]
            rw [if_neg (by omega), if_pos h20, hl]
          · obtain ⟨m, hm2⟩ : ∃ m, Opr.many (op : Int) = m + 1 := ⟨Opr.many (op : Int) - 1, by omega⟩
            rw [hm2]
            unfold argsN
            simp only [if_true, Res.bind, ho]
      have hop : 1 ≤ findOp (textOf [x, e]) ∧ findOp (textOf [x, e]) ≤ 27 := by
        constructor
        · omega
        · unfold findOp
          cases hi : Opr.tab.findIdx? (fun r => decide (r.nm.data.toList = textOf [x, e])) with
          | none => simp
          | some k =>
            have := (List.findIdx?_eq_some_iff_getElem.1 hi).1
            simp only
            have h27 : Opr.tab.length = 27 := Opr.tab_len
            omega
      unfold instr2
      rw [if_pos ⟨hkk, hf⟩]
      have : [x, e].tail = [e] := rfl
      rw [this, hbad _ hop.1 hop.2]; rfl
  | x :: y :: u, h, hn =>
    have : stops (x :: y :: u ++ t :: v) = stops (x :: y :: u ++ [e]) := rfl
    rw [this, hn] at h
    cases h
theorem tr_code : ∀ (n : Nat) (acc : List Ins) (l : List Tok), l.length ≤ n → Ends l → TrAt (code acc) l := by
  intro n
  induction n with
  | zero =>
    intro acc l hl hE
    have := List.length_pos_iff.2 hE.ne
    omega
  | succ n ih =>
    intro acc l hl hE
    have hb : TrAt (fun l => (instr l).bind fun x r => code (acc ++ [x]) r) l := (tr_instr hE).bind fun x r h1 => ih _ _ (by have := (instr_sub h1).2; omega) (hE.sub (instr_sub h1).1)
    have e1 : ∀ l, stops l = true → code acc l = .ok acc l := fun l h => by rw [code_eq]; exact if_pos h
    have e2 : ∀ l, stops l = false → code acc l = (instr l).bind fun x r => code (acc ++ [x]) r := fun l h => by rw [code_eq]; exact if_neg (by unfold stops at h; rw [h]; decide)
    cases hs : stops l with
    | true =>
      constructor
      · intro p hp
        rw [e1 l hs] at hp; cases hp
      · intro a r h
        rw [e1 l hs] at h
        injection h with h1 h2
        subst h1; subst h2
        refine ⟨[], rfl, fun u t v hr e he => ?_⟩
        rw [List.nil_append]
        cases hc : stops (u ++ [e]) with
        | true => exact .inl (e1 _ hc)
        | false =>
          right
          rw [hr] at hs
          rw [e2 _ hc, stops_bad he hs hc]; rfl
    | false =>
      have hcut : ∀ u t v, l = u ++ t :: v → ∀ e : Tok, e.kind = 0 → stops (u ++ [e]) = false := fun u t v hl e he => by
        cases h : stops (u ++ [e]) with
        | false => rfl
        | true => rw [hl, stops_cut he h] at hs; cases hs
      constructor
      · intro p hp
        rw [e2 l hs] at hp
        obtain ⟨u, t, v, g1, g2, g3⟩ := hb.bad p hp
        exact ⟨u, t, v, g1, g2, fun e he => (e2 _ (hcut u t v g1 e he)).trans (g3 e he)⟩
      · intro a r h
        rw [e2 l hs] at h
        obtain ⟨w, g1, g2⟩ := hb.ok a r h
        refine ⟨w, g1, fun u t v hr e he => ?_⟩
        have := hcut (w ++ u) t v (by rw [g1, hr]; simp) e he
        rw [List.append_assoc] at this
        rw [e2 _ this]
        exact g2 u t v hr e he
theorem TrAt.edge {α : Type} {A : Tok → List Tok → Res α} {B : List Tok → Res α} {l : List Tok} (hA : ∀ t s r, l = t :: s :: r → s.kind = 1 → t.kind ≠ 0 → TrAt (A s) r) (hB : TrAt B l) :
    TrAt (fun l => if edgeB l = true then (ofk 1 l.tail).bind A else B l) l :=
  (TrAt.two (c := fun t s => decide (t.kind = 1) && (Fol.isT t edgeL && decide (s.kind = 1))) (A := fun _ s r => A s r) (B := B) (fun t e he => by simp [he]) (fun t s r e hc => hA t s r e (by simp at hc; exact hc.2.2) (by simp at hc; omega)) hB).congr fun l => by
    match l with
    | [] => rfl
    | [t] =>
      unfold twoIte edgeB
      have : kindOf [t].tail = 0 := rfl
      rw [this]; simp
    | t :: s :: r =>
      unfold twoIte
      have e1 : edgeB (t :: s :: r) = (decide (t.kind = 1) && (Fol.isT t edgeL && decide (s.kind = 1))) := rfl
      rw [e1]
      simp only
      split
      · rename_i h
        have hs : s.kind = 1 := by simp at h; exact h.2.2
        have : (t :: s :: r).tail = s :: r := rfl
        rw [this]
        unfold ofk
        simp only [if_pos hs, Res.bind]
      · rfl
/-- What a block has behind its first word. -/
def blockRest (edge : Bool) (t : Tok) (r : List Tok) : Res Blk :=
  (if edge = true then (must [46] r).bind fun _ r => (ofk 1 r).bind fun u r => .ok (t.text ++ 46 :: u.text) r else .ok t.text r).bind fun s r =>
  (if isB r [91] = true then ops [93] [] r.tail else .ok [] r).bind fun ins r =>
  (must [58] r).bind fun _ r => (code [] r).bind fun c r => .ok ⟨⟨s.toArray⟩, edge, ins, c⟩ r
theorem tr_blockRest (edge : Bool) (t : Tok) {r : List Tok} (hE : Ends r) : TrAt (blockRest edge t) r := by
  have hx : TrAt (fun r => if edge = true then (must [46] r).bind fun _ r => (ofk 1 r).bind fun u r => .ok (t.text ++ 46 :: u.text) r else .ok t.text r) r := by
    cases edge with
    | true =>
      simp only [if_true]
      exact (tr_must [46] hE).bind fun _ r h1 => (tr_ofk 1 (by decide) (hE.sub (must_sub h1).1)).bind fun u r _ => TrAt.pure _ r
    | false =>
      simp only [Bool.false_eq_true, if_false]
      exact TrAt.pure _ r
  have hs : ∀ s r1, (if edge = true then (must [46] r).bind fun _ r => (ofk 1 r).bind fun u r => .ok (t.text ++ 46 :: u.text) r else .ok t.text r) = .ok s r1 → Ends r1 := by
    intro s r1 h
    cases edge with
    | true =>
      simp only [if_true] at h
      obtain ⟨_, r2, h1, h⟩ := bind_ok h
      obtain ⟨u, r3, h2, h⟩ := bind_ok h
      injection h with _ h; subst h
      exact (hE.sub (must_sub h1).1).sub (ofk_sub h2 (by decide)).1
    | false =>
      simp only [Bool.false_eq_true, if_false] at h
      injection h with _ h; subst h; exact hE
  refine hx.bind fun s r1 h1 => ?_
  have e1 := hs s r1 h1
  have hi : TrAt (fun r => if isB r [91] = true then ops [93] [] r.tail else .ok [] r) r1 :=
    TrAt.isB (A := fun l => ops [93] [] l) (fun hb => tr_ops _ _ _ _ (Nat.le_refl _) (ends_tail e1 hb)) (TrAt.pure _ r1)
  refine hi.bind fun i r2 h2 => ?_
  have e2 : Ends r2 := by
    split at h2
    · rename_i hb; exact (ends_tail e1 hb).sub (ops_sub _ _ _ _ _ _ (Nat.le_refl _) h2).1
    · injection h2 with _ h2; subst h2; exact e1
  refine (tr_must [58] e2).bind fun _ r3 h3 => ?_
  exact (tr_code _ _ _ (Nat.le_refl _) (e2.sub (must_sub h3).1)).bind fun c r _ => TrAt.pure _ r
theorem block_eq (l : List Tok) : block l = if edgeB l = true then (ofk 1 l.tail).bind (blockRest true) else (ofk 1 l).bind (blockRest false) := by
  unfold block blockRest
  cases edgeB l with
  | true => simp
  | false => simp
theorem tr_block {l : List Tok} (hE : Ends l) : TrAt block l := by
  refine TrAt.congr ?_ block_eq
  refine TrAt.edge (fun t s r e hs ht => ?_) ((tr_ofk 1 (by decide) hE).bind fun t r h1 => tr_blockRest false t (hE.sub (ofk_sub h1 (by decide)).1))
  refine tr_blockRest true s ?_
  rw [e] at hE
  exact (hE.sub (sub_one ht).1).sub (sub_one (by omega)).1
theorem tr_reg1 {l : List Tok} (hE : Ends l) : TrAt reg1 l := by
  refine (tr_ofk 4 (by decide) hE).bind fun v r h1 => ?_
  have e1 := hE.sub (ofk_sub h1 (by decide)).1
  refine (tr_must [58] e1).bind fun _ r h2 => ?_
  have e2 := e1.sub (must_sub h2).1
  exact TrAt.isB (A := fun l => Res.ok (⟨v.n, 1⟩ : Rg) l) (fun _ => TrAt.pure _ _) ((tr_must [103] e2).bind fun _ r _ => TrAt.pure _ r)
theorem tr_regs : ∀ (n : Nat) (acc : List Rg) (l : List Tok), l.length ≤ n → Ends l → TrAt (regs acc) l := by
  intro n
  induction n with
  | zero =>
    intro acc l hl hE
    have := List.length_pos_iff.2 hE.ne
    omega
  | succ n ih =>
    intro acc l hl hE
    refine TrAt.congr ?_ (regs_eq acc)
    exact TrAt.isB (A := fun l => Res.ok acc l) (fun _ => TrAt.pure _ _) ((tr_reg1 hE).bind fun x r h1 => ih _ _ (by have := (reg1_sub h1).2; omega) (hE.sub (reg1_sub h1).1))
theorem tr_blocks : ∀ (n : Nat) (acc : List Blk) (l : List Tok), l.length ≤ n → Ends l → TrAt (blocks acc) l := by
  intro n
  induction n with
  | zero =>
    intro acc l hl hE
    have := List.length_pos_iff.2 hE.ne
    omega
  | succ n ih =>
    intro acc l hl hE
    refine TrAt.congr ?_ (blocks_eq acc)
    exact TrAt.isB (A := fun l => Res.ok acc l) (fun _ => TrAt.pure _ _) ((tr_block hE).bind fun x r h1 => ih _ _ (by have := (block_sub h1).2; omega) (hE.sub (block_sub h1).1))
/-- The registers that are told ahead. -/
def regsOf (r : List Tok) : Res (List Rg) := if (isB r regsL && decide (kindOf r.tail = 4)) = true then regs [] r.tail else .ok [] r
theorem reg_after {s : Tok} (hs : s.kind = 4) (r : List Tok) : regs [] (s :: r) = ((must [58] r).bind fun _ l => if isB l [120] = true then .ok ⟨s.n, 1⟩ l.tail else (must [103] l).bind fun _ l => .ok (⟨s.n, 0⟩ : Rg) l).bind fun x r => regs ([] ++ [x]) r := by
  rw [regs_eq]
  have h1 : isB (s :: r) [59] = false := by
    show Fol.isT s [59] = false
    unfold Fol.isT; simp [hs]
  rw [h1, if_neg (by decide)]
  unfold reg1 ofk
  simp only [if_pos hs, Res.bind]
theorem tr_regsOf {r : List Tok} (hE : Ends r) : TrAt regsOf r := by
  refine TrAt.congr (f := twoIte (fun t s => Fol.isT t regsL && decide (s.kind = 4)) (fun _ s r => ((must [58] r).bind fun _ l => if isB l [120] = true then .ok ⟨s.n, 1⟩ l.tail else (must [103] l).bind fun _ l => .ok (⟨s.n, 0⟩ : Rg) l).bind fun x r => regs ([] ++ [x]) r) (fun r => .ok [] r)) ?_ fun l => ?_
  · refine TrAt.two (fun t e he => by simp [he]) (fun t s q e hc => ?_) (TrAt.pure _ r)
    simp only [Bool.and_eq_true, decide_eq_true_eq] at hc
    rw [e] at hE
    have e1 : Ends q := (hE.sub (sub_one (by have := isT_kind hc.1; omega)).1).sub (sub_one (by omega)).1
    have hx : TrAt (fun r => (must [58] r).bind fun _ l => if isB l [120] = true then .ok ⟨s.n, 1⟩ l.tail else (must [103] l).bind fun _ l => .ok (⟨s.n, 0⟩ : Rg) l) q := by
      refine (tr_must [58] e1).bind fun _ r h2 => ?_
      have e2 := e1.sub (must_sub h2).1
      exact TrAt.isB (A := fun l => Res.ok (⟨s.n, 1⟩ : Rg) l) (fun _ => TrAt.pure _ _) ((tr_must [103] e2).bind fun _ r _ => TrAt.pure _ r)
    refine hx.bind fun x r h1 => tr_regs _ _ _ (Nat.le_refl _) ?_
    obtain ⟨_, r1, g1, h1⟩ := bind_ok h1
    have e2 := e1.sub (must_sub g1).1
    split at h1
    · rename_i hb; injection h1 with _ h1; subst h1; exact ends_tail e2 hb
    · obtain ⟨_, r2, g2, h1⟩ := bind_ok h1
      injection h1 with _ h1; subst h1
      exact e2.sub (must_sub g2).1
  · match l with
    | [] => rfl
    | [t] =>
      unfold twoIte regsOf
      have : kindOf [t].tail = 0 := rfl
      rw [this]; simp
    | t :: s :: r =>
      unfold twoIte regsOf
      have e1 : (isB (t :: s :: r) regsL && decide (kindOf (t :: s :: r).tail = 4)) = (Fol.isT t regsL && decide (s.kind = 4)) := rfl
      rw [e1]
      simp only
      split
      · rename_i h
        have hs : s.kind = 4 := by simp at h; exact h.2
        have : (t :: s :: r).tail = s :: r := rfl
        rw [this, reg_after hs]
      · rfl
/-- What a function has behind its first word. -/
def funcRest (m : Bool) (r : List Tok) : Res Fun :=
  (ofk 1 r).bind fun t r => (must [40] r).bind fun _ r => (ops0 [41] r).bind fun ps r => (must [123] r).bind fun _ r => (regsOf r).bind fun rs r =>
  (blocks [] r).bind fun bs r => .ok ⟨m, ⟨t.text.toArray⟩, rs, ps, bs⟩ r
theorem tr_funcRest (m : Bool) {r : List Tok} (hE : Ends r) : TrAt (funcRest m) r := by
  refine (tr_ofk 1 (by decide) hE).bind fun t r h1 => ?_
  have e1 := hE.sub (ofk_sub h1 (by decide)).1
  refine (tr_must [40] e1).bind fun _ r h2 => ?_
  have e2 := e1.sub (must_sub h2).1
  refine (tr_ops0 [41] e2).bind fun ps r h3 => ?_
  have e3 := e2.sub (ops0_sub h3).1
  refine (tr_must [123] e3).bind fun _ r h4 => ?_
  have e4 := e3.sub (must_sub h4).1
  refine (tr_regsOf e4).bind fun rs r h5 => ?_
  have e5 : Ends r := by
    unfold regsOf at h5
    split at h5
    · rename_i hb
      simp only [Bool.and_eq_true] at hb
      exact (ends_tail e4 hb.1).sub (regs_sub _ _ _ _ _ (Nat.le_refl _) h5).1
    · injection h5 with _ h5; subst h5; exact e4
  exact (tr_blocks _ _ _ (Nat.le_refl _) e5).bind fun bs r _ => TrAt.pure _ r
theorem func_eq (l : List Tok) : func l = if isB l machineL = true then funcRest true l.tail else (must funcL l).bind fun _ r => funcRest false r := by
  unfold func funcRest regsOf
  cases isB l machineL with
  | true => simp [Res.bind]
  | false => simp
theorem tr_func {l : List Tok} (hE : Ends l) : TrAt func l := by
  refine TrAt.congr ?_ func_eq
  exact TrAt.isB (A := funcRest true) (fun hb => tr_funcRest true (ends_tail hE hb)) ((tr_must funcL hE).bind fun _ r h1 => tr_funcRest false (hE.sub (must_sub h1).1))
/-- What is wrong with a function's tokens: cut off there, they are wrong at the end, or right. -/
theorem whole_cut {l : List Tok} (hE : Ends l) (p : Nat) (h : whole l = .bad 20 p) : ∃ u t v, l = u ++ t :: v ∧ p = t.at_ ∧ ∀ e : Tok, e.kind = 0 → (∃ f r, whole (u ++ [e]) = .ok f r) ∨ whole (u ++ [e]) = .bad 20 e.at_ := by
  have hT := tr_func hE
  unfold whole at h
  cases hf : func l with
  | bad c q =>
    simp only [hf, Res.bind] at h
    injection h with h1 h2
    subst h1; subst h2
    obtain ⟨u, t, v, g1, g2, g3⟩ := hT.bad _ hf
    exact ⟨u, t, v, g1, g2, fun e he => .inr (by unfold whole; rw [g3 e he]; rfl)⟩
  | ok f r =>
    simp only [hf, Res.bind] at h
    obtain ⟨w, g1, g2⟩ := hT.ok f r hf
    have hr : Ends r := hE.sub (func_sub hf).1
    cases r with
    | nil => exact absurd rfl hr.ne
    | cons t v =>
      have hp : p = t.at_ := by
        unfold ofk at h
        by_cases hk : t.kind = 0
        · simp [hk] at h
        · simp [hk, Par.err, headAt] at h
          exact h.symm
      refine ⟨w, t, v, g1, hp, fun e he => ?_⟩
      rcases g2 [] t v rfl e he with g3 | g3
      · rw [List.nil_append] at g3
        refine .inl ⟨f, [], ?_⟩
        unfold whole
        rw [g3]
        unfold ofk
        simp only [Res.bind, if_pos he]
      · rw [List.nil_append] at g3
        right
        unfold whole
        rw [g3]; rfl
end Go.Proofs.YtbpichjmkllfaaaGreatDoor.Par

/- What is wrong stands at a token. -/
namespace Go.Proofs.YtbpichjmkllfaaaGreatDoor.Par
open Lex (Tok)
set_option linter.unusedVariables false
set_option maxRecDepth 20000

def BadIn {α : Type} (l : List Tok) (x : Res α) : Prop := ∀ c p, x = .bad c p → ∃ t ∈ l, p = t.at_
theorem BadIn.ok {α : Type} {l r : List Tok} {a : α} : BadIn l (.ok a r) := fun c p h => by cases h
theorem BadIn.bind {α β : Type} {l : List Tok} {x : Res α} {f : α → List Tok → Res β} (h : BadIn l x) (k : ∀ a r, x = .ok a r → BadIn l (f a r)) : BadIn l (x.bind f) := by
  intro c p hb
  cases x with
  | bad c' p' => injection hb with h1 h2; subst h1; subst h2; exact h _ _ rfl
  | ok a r => exact k a r rfl c p hb
theorem BadIn.up {α : Type} {l r : List Tok} {x : Res α} (h : BadIn r x) (k : Sub l r) : BadIn l x := by
  intro c p hb
  obtain ⟨t, ht, e⟩ := h c p hb
  obtain ⟨u, rfl, _⟩ := k
  exact ⟨t, List.mem_append.2 (.inr ht), e⟩
theorem bi_err {α : Type} {l : List Tok} (h : Ends l) : BadIn l (err (α := α) l) := by
  intro c p hb
  cases l with
  | nil => exact absurd rfl h.ne
  | cons t r => injection hb with _ h2; exact ⟨t, by simp, h2.symm⟩
theorem bi_must {l : List Tok} (s : List UInt8) (h : Ends l) : BadIn l (must s l) := by
  unfold must
  split
  · exact BadIn.ok
  · exact bi_err h
theorem bi_ofk {l : List Tok} (k : Nat) (h : Ends l) : BadIn l (ofk k l) := by
  unfold ofk
  split
  · exact absurd rfl h.ne
  · split
    · exact BadIn.ok
    · exact bi_err h
theorem mach_at (l : List Tok) : ∀ (k : Nat) (md : Fol.Mode) (a : Nat) (stk : List Fol.Opn) (c : Int) (p : Nat), Fol.mach l k md a stk = some (.bad c p) → ∃ t ∈ l, p = t.at_ := by
  intro k
  induction k with
  | zero => intro md a stk c p h; cases md <;> cases h
  | succ k ih =>
    intro md a stk c p h
    cases md with
    | fac =>
      obtain ⟨t0, t, h0, hc⟩ := Fol.mach_fac h
      obtain ⟨m, q, ht, hf⟩ : ∃ m q, l[q]? = some t ∧ Fol.FacP l k a stk (.bad c p) m q t := by
        rcases hc with ⟨h1, h2, h3⟩ | ⟨h1, h2, h3⟩
        · exact ⟨true, a + 1, h2, h3⟩
        · exact ⟨false, a, h2, h3⟩
      have hm := List.mem_of_getElem? ht
      rcases hf with ⟨_, _, h3⟩ | ⟨_, _, h3⟩ | ⟨_, x, _, h3⟩ | ⟨_, x, d, _, _, h3⟩
      · exact ih _ _ _ _ _ h3
      · injection h3 with _ h4; exact ⟨t, hm, h4⟩
      · exact ih _ _ _ _ _ h3
      · injection h3 with _ h4; exact ⟨t, hm, h4⟩
    | beh x =>
      cases stk with
      | nil => cases Fol.mach_top h
      | cons o r =>
        obtain ⟨t, ht, hc⟩ := Fol.mach_beh h
        have hm := List.mem_of_getElem? ht
        rcases hc with ⟨_, h3⟩ | ⟨_, _, h3⟩ | ⟨_, _, _, h3⟩ | ⟨_, _, _, _, h3⟩ | ⟨_, _, _, _, h3⟩
        · exact ih _ _ _ _ _ h3
        · exact ih _ _ _ _ _ h3
        · exact ih _ _ _ _ _ h3
        · exact ih _ _ _ _ _ h3
        · injection h3 with _ h4; exact ⟨t, hm, h4⟩
theorem bi_value {l : List Tok} (h : Ends l) : BadIn l (value l) := by
  obtain ⟨R, hR⟩ := mach_some l h (2 * l.length + 2) .fac 0 [] (List.length_pos_iff.2 h.ne) (by omega)
  rw [value_of h hR]
  cases R with
  | val n a => exact BadIn.ok
  | bad c p => intro c' p' e; injection e with e1 e2; subst e1; subst e2; exact mach_at l _ _ _ _ _ _ hR
theorem bi_tag {l : List Tok} (h : Ends l) : BadIn l (tag l) :=
  (bi_must _ h).bind fun _ r h1 => ((bi_ofk 4 (h.sub (must_sub h1).1)).up (must_sub h1).1).bind fun _ _ _ => BadIn.ok
theorem bi_operand {l : List Tok} (h : Ends l) : BadIn l (operand l) := by
  unfold operand
  split
  · exact (bi_ofk 4 h).bind fun _ _ _ => BadIn.ok
  · split
    · exact (bi_ofk 5 h).bind fun t r h1 => ((bi_tag (h.sub (ofk_sub h1 (by decide)).1)).up (ofk_sub h1 (by decide)).1).bind fun _ _ _ => BadIn.ok
    · split
      · exact (bi_ofk 6 h).bind fun t r h1 => ((bi_tag (h.sub (ofk_sub h1 (by decide)).1)).up (ofk_sub h1 (by decide)).1).bind fun _ _ _ => BadIn.ok
      · split
        · exact BadIn.ok
        · exact (bi_value h).bind fun _ _ _ => BadIn.ok
theorem bi_ops (e : List UInt8) : ∀ (n : Nat) (acc : List Opn) (l : List Tok), l.length ≤ n → Ends l → BadIn l (ops e acc l) := by
  intro n
  induction n with
  | zero => intro acc l hl hE; have := List.length_pos_iff.2 hE.ne; omega
  | succ n ih =>
    intro acc l hl hE
    rw [ops_eq]
    refine (bi_operand hE).bind fun a r h1 => ?_
    have g := operand_sub h1
    have hr := hE.sub g.1
    refine BadIn.up ?_ g.1
    split
    · rename_i hb
      exact (ih _ _ (by have := g.2; have := (isB_sub hb).2; omega) (ends_tail hr hb)).up (isB_sub hb).1
    · exact (bi_must e hr).bind fun _ _ _ => BadIn.ok
theorem bi_ops0 (e : List UInt8) {l : List Tok} (h : Ends l) : BadIn l (ops0 e l) := by
  unfold ops0
  split
  · exact BadIn.ok
  · exact bi_ops e _ _ _ (Nat.le_refl _) h
theorem bi_label {l : List Tok} (h : Ends l) : BadIn l (label l) := by
  refine (bi_ofk 1 h).bind fun t r h1 => ?_
  have g := (ofk_sub h1 (by decide)).1
  refine BadIn.up ?_ g
  split
  · rename_i hb
    exact ((bi_ofk 1 (ends_tail (h.sub g) hb)).up (isB_sub hb).1).bind fun _ _ _ => BadIn.ok
  · exact BadIn.ok
theorem bi_argsN : ∀ (k : Nat) (acc : List Opn) (l : List Tok), Ends l → BadIn l (argsN k acc l) := by
  intro k
  induction k with
  | zero => intro acc l h; exact BadIn.ok
  | succ k ih =>
    intro acc l h
    rw [argsN]
    have step : ∀ r, Ends r → BadIn r ((operand r).bind fun a l => argsN k (acc ++ [a]) l) := fun r hr => (bi_operand hr).bind fun a r2 h2 => (ih _ _ (hr.sub (operand_sub h2).1)).up (operand_sub h2).1
    split
    · exact step l h
    · exact (bi_must [44] h).bind fun _ r h1 => (step r (h.sub (must_sub h1).1)).up (must_sub h1).1
theorem bi_case1 {l : List Tok} (h : Ends l) : BadIn l (case1 l) := by
  refine (bi_value h).bind fun n r h1 => BadIn.up ?_ (value_sub h1).1
  have e1 := h.sub (value_sub h1).1
  refine (bi_must [58] e1).bind fun _ r h2 => BadIn.up ?_ (must_sub h2).1
  have e2 := e1.sub (must_sub h2).1
  refine (bi_label e2).bind fun s r h3 => BadIn.up ?_ (label_sub h3).1
  exact (bi_must [44] (e2.sub (label_sub h3).1)).bind fun _ _ _ => BadIn.ok
theorem bi_cases : ∀ (n : Nat) (cs : List Int) (ls : List ByteArray) (l : List Tok), l.length ≤ n → Ends l → BadIn l (cases cs ls l) := by
  intro n
  induction n with
  | zero => intro cs ls l hl hE; have := List.length_pos_iff.2 hE.ne; omega
  | succ n ih =>
    intro cs ls l hl hE
    rw [cases_eq]
    split
    · rename_i hb
      have e0 := ends_tail hE hb
      refine BadIn.up ?_ (isB_sub hb).1
      refine (bi_must [58] e0).bind fun _ r h1 => BadIn.up ?_ (must_sub h1).1
      have e1 := e0.sub (must_sub h1).1
      refine (bi_label e1).bind fun s r h2 => BadIn.up ?_ (label_sub h2).1
      exact (bi_must [93] (e1.sub (label_sub h2).1)).bind fun _ _ _ => BadIn.ok
    · refine (bi_case1 hE).bind fun x r h1 => ?_
      have g := case1_sub h1
      exact (ih _ _ _ (by have := g.2; omega) (hE.sub g.1)).up g.1
theorem bi_rest (op : Nat) {l : List Tok} (h : Ends l) : BadIn l (rest op l) := by
  unfold rest
  split
  · refine (bi_ofk 3 h).bind fun t r h1 => BadIn.up ?_ (ofk_sub h1 (by decide)).1
    have e1 := h.sub (ofk_sub h1 (by decide)).1
    refine (bi_must [40] e1).bind fun _ r h2 => BadIn.up ?_ (must_sub h2).1
    exact (bi_ops0 [41] (e1.sub (must_sub h2).1)).bind fun _ _ _ => BadIn.ok
  · refine (bi_argsN _ _ _ h).bind fun a r h1 => BadIn.up ?_ (argsN_sub _ _ _ _ _ h1)
    have e1 := h.sub (argsN_sub _ _ _ _ _ h1)
    split
    · split
      · rename_i hb
        exact ((bi_value (ends_tail e1 hb)).up (isB_sub hb).1).bind fun _ _ _ => BadIn.ok
      · exact BadIn.ok
    · split
      · exact (bi_label e1).bind fun _ _ _ => BadIn.ok
      · split
        · refine (bi_must [44] e1).bind fun _ r h2 => BadIn.up ?_ (must_sub h2).1
          have e2 := e1.sub (must_sub h2).1
          refine (bi_label e2).bind fun s r h3 => BadIn.up ?_ (label_sub h3).1
          have e3 := e2.sub (label_sub h3).1
          refine (bi_must [44] e3).bind fun _ r h4 => BadIn.up ?_ (must_sub h4).1
          exact (bi_label (e3.sub (must_sub h4).1)).bind fun _ _ _ => BadIn.ok
        · split
          · refine (bi_must [91] e1).bind fun _ r h2 => BadIn.up ?_ (must_sub h2).1
            exact (bi_cases _ _ _ _ (Nat.le_refl _) (e1.sub (must_sub h2).1)).bind fun _ _ _ => BadIn.ok
          · exact BadIn.ok
theorem bi_instr2 (d : Opn) {l : List Tok} (h : Ends l) : BadIn l (instr2 d l) := by
  unfold instr2
  split
  · rename_i hk
    have g : Sub1 l l.tail := kind_sub (by rw [hk.1]; decide)
    refine BadIn.up ?_ g.1
    have e0 := h.sub g.1
    refine (bi_rest _ e0).bind fun x r h1 => BadIn.up ?_ (rest_sub h1)
    exact (bi_must [59] (e0.sub (rest_sub h1))).bind fun _ _ _ => BadIn.ok
  · exact bi_err h
theorem bi_instr {l : List Tok} (h : Ends l) : BadIn l (instr l) := by
  unfold instr
  split
  · refine (bi_operand h).bind fun d r h1 => BadIn.up ?_ (operand_sub h1).1
    have e1 := h.sub (operand_sub h1).1
    exact (bi_must [61] e1).bind fun _ r h2 => (bi_instr2 d (e1.sub (must_sub h2).1)).up (must_sub h2).1
  · split
    · rename_i hk
      have g : Sub1 l l.tail := kind_sub (by rw [hk.1]; decide)
      exact (bi_err (h.sub g.1)).up g.1
    · exact bi_instr2 _ h
theorem bi_code : ∀ (n : Nat) (acc : List Ins) (l : List Tok), l.length ≤ n → Ends l → BadIn l (code acc l) := by
  intro n
  induction n with
  | zero => intro acc l hl hE; have := List.length_pos_iff.2 hE.ne; omega
  | succ n ih =>
    intro acc l hl hE
    rw [code_eq]
    split
    · exact BadIn.ok
    · exact (bi_instr hE).bind fun x r h1 => (ih _ _ (by have := (instr_sub h1).2; omega) (hE.sub (instr_sub h1).1)).up (instr_sub h1).1
theorem bi_blockRest (edge : Bool) (t : Tok) {r : List Tok} (h : Ends r) : BadIn r (blockRest edge t r) := by
  unfold blockRest
  have hx : BadIn r (if edge = true then (must [46] r).bind fun _ r => (ofk 1 r).bind fun u r => Res.ok (t.text ++ 46 :: u.text) r else .ok t.text r) := by
    split
    · exact (bi_must [46] h).bind fun _ r h1 => ((bi_ofk 1 (h.sub (must_sub h1).1)).up (must_sub h1).1).bind fun _ _ _ => BadIn.ok
    · exact BadIn.ok
  refine hx.bind fun s r1 h1 => ?_
  have g1 : Sub r r1 := by
    split at h1
    · obtain ⟨_, r2, k1, h1⟩ := bind_ok h1
      obtain ⟨u, r3, k2, h1⟩ := bind_ok h1
      injection h1 with _ h1; subst h1
      exact (must_sub k1).1.trans (ofk_sub k2 (by decide)).1
    · injection h1 with _ h1; subst h1; exact Sub.refl _
  refine BadIn.up ?_ g1
  have e1 := h.sub g1
  have hi : BadIn r1 (if isB r1 [91] = true then ops [93] [] r1.tail else .ok [] r1) := by
    split
    · rename_i hb; exact (bi_ops _ _ _ _ (Nat.le_refl _) (ends_tail e1 hb)).up (isB_sub hb).1
    · exact BadIn.ok
  refine hi.bind fun i r2 h2 => ?_
  have g2 : Sub r1 r2 := by
    split at h2
    · rename_i hb; exact (isB_sub hb).1.trans (ops_sub _ _ _ _ _ _ (Nat.le_refl _) h2).1
    · injection h2 with _ h2; subst h2; exact Sub.refl _
  refine BadIn.up ?_ g2
  have e2 := e1.sub g2
  refine (bi_must [58] e2).bind fun _ r3 h3 => BadIn.up ?_ (must_sub h3).1
  exact (bi_code _ _ _ (Nat.le_refl _) (e2.sub (must_sub h3).1)).bind fun _ _ _ => BadIn.ok
theorem bi_block {l : List Tok} (h : Ends l) : BadIn l (block l) := by
  rw [block_eq]
  split
  · rename_i hb
    unfold edgeB at hb
    simp only [Bool.and_eq_true] at hb
    have g := (isB_sub hb.2.1).1
    refine BadIn.up ?_ g
    have e0 := h.sub g
    exact (bi_ofk 1 e0).bind fun t r h1 => (bi_blockRest true t (e0.sub (ofk_sub h1 (by decide)).1)).up (ofk_sub h1 (by decide)).1
  · exact (bi_ofk 1 h).bind fun t r h1 => (bi_blockRest false t (h.sub (ofk_sub h1 (by decide)).1)).up (ofk_sub h1 (by decide)).1
theorem bi_reg1 {l : List Tok} (h : Ends l) : BadIn l (reg1 l) := by
  refine (bi_ofk 4 h).bind fun v r h1 => BadIn.up ?_ (ofk_sub h1 (by decide)).1
  have e1 := h.sub (ofk_sub h1 (by decide)).1
  refine (bi_must [58] e1).bind fun _ r h2 => BadIn.up ?_ (must_sub h2).1
  split
  · exact BadIn.ok
  · exact (bi_must [103] (e1.sub (must_sub h2).1)).bind fun _ _ _ => BadIn.ok
theorem bi_regs : ∀ (n : Nat) (acc : List Rg) (l : List Tok), l.length ≤ n → Ends l → BadIn l (regs acc l) := by
  intro n
  induction n with
  | zero => intro acc l hl hE; have := List.length_pos_iff.2 hE.ne; omega
  | succ n ih =>
    intro acc l hl hE
    rw [regs_eq]
    split
    · exact BadIn.ok
    · exact (bi_reg1 hE).bind fun x r h1 => (ih _ _ (by have := (reg1_sub h1).2; omega) (hE.sub (reg1_sub h1).1)).up (reg1_sub h1).1
theorem bi_blocks : ∀ (n : Nat) (acc : List Blk) (l : List Tok), l.length ≤ n → Ends l → BadIn l (blocks acc l) := by
  intro n
  induction n with
  | zero => intro acc l hl hE; have := List.length_pos_iff.2 hE.ne; omega
  | succ n ih =>
    intro acc l hl hE
    rw [blocks_eq]
    split
    · exact BadIn.ok
    · exact (bi_block hE).bind fun x r h1 => (ih _ _ (by have := (block_sub h1).2; omega) (hE.sub (block_sub h1).1)).up (block_sub h1).1
theorem bi_funcRest (m : Bool) {r : List Tok} (h : Ends r) : BadIn r (funcRest m r) := by
  unfold funcRest
  refine (bi_ofk 1 h).bind fun t r h1 => BadIn.up ?_ (ofk_sub h1 (by decide)).1
  have e1 := h.sub (ofk_sub h1 (by decide)).1
  refine (bi_must [40] e1).bind fun _ r h2 => BadIn.up ?_ (must_sub h2).1
  have e2 := e1.sub (must_sub h2).1
  refine (bi_ops0 [41] e2).bind fun ps r h3 => BadIn.up ?_ (ops0_sub h3).1
  have e3 := e2.sub (ops0_sub h3).1
  refine (bi_must [123] e3).bind fun _ r h4 => BadIn.up ?_ (must_sub h4).1
  have e4 := e3.sub (must_sub h4).1
  have hx : BadIn r (regsOf r) := by
    unfold regsOf
    split
    · rename_i hb
      simp only [Bool.and_eq_true] at hb
      exact (bi_regs _ _ _ (Nat.le_refl _) (ends_tail e4 hb.1)).up (isB_sub hb.1).1
    · exact BadIn.ok
  refine hx.bind fun rs r5 h5 => ?_
  have g5 : Sub r r5 := by
    unfold regsOf at h5
    split at h5
    · rename_i hb
      simp only [Bool.and_eq_true] at hb
      exact (isB_sub hb.1).1.trans (regs_sub _ _ _ _ _ (Nat.le_refl _) h5).1
    · injection h5 with _ h5; subst h5; exact Sub.refl _
  refine BadIn.up ?_ g5
  exact (bi_blocks _ _ _ (Nat.le_refl _) (e4.sub g5)).bind fun _ _ _ => BadIn.ok
theorem bi_func {l : List Tok} (h : Ends l) : BadIn l (func l) := by
  rw [func_eq]
  split
  · rename_i hb; exact (bi_funcRest true (ends_tail h hb)).up (isB_sub hb).1
  · exact (bi_must funcL h).bind fun _ r h1 => (bi_funcRest false (h.sub (must_sub h1).1)).up (must_sub h1).1
theorem bi_whole {l : List Tok} (h : Ends l) : BadIn l (whole l) :=
  (bi_func h).bind fun f r h1 => ((bi_ofk 0 (h.sub (func_sub h1).1)).up (func_sub h1).1).bind fun _ _ _ => BadIn.ok
/-! Of a text. -/
theorem all_ends {s : List UInt8} {m : List Tok} {q : Nat} (h : Lex.all s = (m, 0, q)) : Ends m := by
  have hl : s.length ≤ 65536 := by
    rcases Nat.lt_or_ge 65536 s.length with h1 | h1
    · rw [Lex.all_long h1] at h
      injection h with _ h
      injection h with h _
      exact absurd h (by decide)
    · exact h1
  unfold Lex.all at h
  rw [if_neg (by omega)] at h
  obtain ⟨ts, h1, _⟩ := Lex.go_sound s.length s (s.length + 1) 0 [] m q (Nat.le_refl _) (by omega) (fun t h => by cases h) h
  exact ⟨ts, _, h1, rfl⟩
/-- What is wrong with a text's tokens stands at a place of it; if it is a token with which nothing goes on: cut off there, the text is wrong at its end, or right. -/
theorem inside {s : List UInt8} {m : List Tok} {q : Nat} (h : Lex.all s = (m, 0, q)) {c : Int} {p : Nat} (hw : whole m = .bad c p) :
    p ≤ s.length ∧ (c = 20 → ∃ m', Lex.all (s.take p) = (m', 0, 0) ∧ ((∃ f r, whole m' = .ok f r) ∨ whole m' = .bad 20 p)) := by
  have hE := all_ends h
  constructor
  · obtain ⟨t, ht, rfl⟩ := bi_whole hE c p hw
    obtain ⟨u, v, rfl⟩ := List.append_of_mem ht
    exact (Lex.all_cut h).1
  · intro hc
    subst hc
    obtain ⟨u, t, v, rfl, rfl, h3⟩ := whole_cut hE p hw
    refine ⟨_, (Lex.all_cut h).2, ?_⟩
    exact h3 ⟨0, [], 0, 0, t.at_⟩ rfl
end Go.Proofs.YtbpichjmkllfaaaGreatDoor.Par

/- The tokens of a text: what their texts and numbers are. -/
namespace Go.Proofs.YtbpichjmkllfaaaGreatDoor.Par
open Lex (Tok)
set_option linter.unusedVariables false
set_option maxRecDepth 20000

theorem wrapN_fit {u : Nat} (h : u ≤ 9223372036854775808) : Fit64 (Lex.wrapN u) ∧ (0 ≤ Lex.wrapN u ∨ Lex.wrapN u = -9223372036854775808) := by
  unfold Lex.wrapN Fit64
  by_cases h1 : u < 9223372036854775808
  · rw [if_pos h1]; omega
  · rw [if_neg h1]; omega
theorem numb_wf {kind cls top : Nat} {pre r : List UInt8} {a k : Nat} {t : Tok} (h1 : kind ≠ 1) (h7 : kind ≠ 7) (ht : top ≤ 9223372036854775808) (h : Lex.numb kind cls top pre r a = .tok t k) : Wf t := by
  unfold Lex.numb at h
  split at h
  · rename_i hv
    injection h with h _
    subst h
    have hval : Deci.val (Lex.dg r) ≤ top := by
      unfold Lex.vcode at hv
      split at hv
      · exact absurd hv (by decide)
      · split at hv
        · exact absurd hv (by decide)
        · omega
    have hf := wrapN_fit (Nat.le_trans hval ht)
    exact ⟨fun e => absurd e h1, fun e => absurd e h7, hf.1, fun _ => hf.2⟩
  · cases h
theorem plain_wf {c : UInt8} {r : List UInt8} {a k : Nat} {t : Tok} (h : Lex.plain c r a = .tok t k) : Wf t := by
  unfold Lex.plain at h
  split at h
  · split at h
    · cases h
    · injection h with h _
      subst h
      exact ⟨fun _ b hb => Lex.tw_all _ b hb, fun e => absurd e (by show (1 : Nat) ≠ 7; decide), by show Fit64 0; unfold Fit64; omega, fun e => absurd e (by show (1 : Nat) ≠ 2; decide)⟩
  · split at h
    · exact numb_wf (by decide) (by decide) (by decide) h
    · split at h
      · exact numb_wf (by decide) (by decide) (by decide) h
      · split at h
        · split at h
          · cases h
          · split at h
            · exact numb_wf (by decide) (by decide) (by decide) h
            · split at h
              · exact numb_wf (by decide) (by decide) (by decide) h
              · cases h
        · split at h
          · exact numb_wf (by decide) (by decide) (by decide) h
          · split at h
            · rename_i hs
              have hsg : ∀ d ∈ Lex.signs, Nam.sign d = false := by decide
              split at h
              · injection h with h _
                subst h
                exact ⟨fun e => absurd e (by show (7 : Nat) ≠ 1; decide), fun _ b hb => by
                  have : b = 46 := by simpa using hb
                  rw [this]; decide, by show Fit64 0; unfold Fit64; omega, fun e => absurd e (by show (7 : Nat) ≠ 2; decide)⟩
              · injection h with h _
                subst h
                exact ⟨fun e => absurd e (by show (7 : Nat) ≠ 1; decide), fun _ b hb => by
                  have : b = c := by simpa using hb
                  rw [this]; exact hsg c hs, by show Fit64 0; unfold Fit64; omega, fun e => absurd e (by show (7 : Nat) ≠ 2; decide)⟩
            · cases h
theorem nx_wf {l : List UInt8} {a k : Nat} {t : Tok} (h : Lex.nx l a = .tok t k) : Wf t := by
  unfold Lex.nx at h
  split at h
  · cases h
  · split at h
    · cases h
    · split at h
      · cases h
      · split at h
        · split at h
          · injection h with h _
            subst h
            exact ⟨fun e => absurd e (by show (3 : Nat) ≠ 1; decide), fun e => absurd e (by show (3 : Nat) ≠ 7; decide), by show Fit64 0; unfold Fit64; omega, fun e => absurd e (by show (3 : Nat) ≠ 2; decide)⟩
          · cases h
        · exact plain_wf h
theorem end_wf (p : Nat) : Wf ⟨0, [], 0, 0, p⟩ := ⟨fun e => absurd e (by show (0 : Nat) ≠ 1; decide), fun e => absurd e (by show (0 : Nat) ≠ 7; decide), by show Fit64 0; unfold Fit64; omega, fun e => absurd e (by show (0 : Nat) ≠ 2; decide)⟩
theorem go_wf : ∀ (n : Nat) (l : List UInt8) (f p : Nat) (out m : List Tok) (c : Int) (q : Nat), l.length ≤ n → (∀ t ∈ out, Wf t) → Lex.go f l p out = (m, c, q) → ∀ t ∈ m, Wf t := by
  intro n
  induction n with
  | zero =>
    intro l f p out m c q h1 ho h
    obtain rfl : l = [] := List.eq_nil_of_length_eq_zero (by omega)
    cases f with
    | zero => injection h with h _; subst h; exact fun t ht => by cases ht
    | succ f =>
      rw [Lex.go_end] at h
      injection h with h _
      subst h
      intro t ht
      rcases List.mem_append.1 ht with ht | ht
      · exact ho t ht
      · rw [List.mem_singleton] at ht; subst ht; exact end_wf _
  | succ n ih =>
    intro l f p out m c q h1 ho h
    cases f with
    | zero => injection h with h _; subst h; exact fun t ht => by cases ht
    | succ f =>
      cases l with
      | nil =>
        rw [Lex.go_end] at h
        injection h with h _
        subst h
        intro t ht
        rcases List.mem_append.1 ht with ht | ht
        · exact ho t ht
        · rw [List.mem_singleton] at ht; subst ht; exact end_wf _
      | cons x r =>
        cases hx : Lex.nx (x :: r) p with
        | skip k =>
          have hk := Lex.nx_skip_size hx
          rw [Lex.go_skip out hx] at h
          exact ih _ _ _ _ _ _ _ (by rw [List.length_drop]; omega) ho h
        | tok t k =>
          have hk := Lex.nx_tok_size hx
          rw [Lex.go_tok out hx] at h
          refine ih _ _ _ _ _ _ _ (by rw [List.length_drop]; omega) (fun u hu => ?_) h
          rcases List.mem_append.1 hu with hu | hu
          · exact ho u hu
          · rw [List.mem_singleton] at hu; subst hu; exact nx_wf hx
        | bad e y =>
          rw [Lex.go_bad out hx] at h
          injection h with h _
          subst h
          exact fun t ht => by cases ht
theorem all_wf {s : List UInt8} {m : List Tok} {c : Int} {q : Nat} (h : Lex.all s = (m, c, q)) : ∀ t ∈ m, Wf t := by
  unfold Lex.all at h
  split at h
  · injection h with h _; subst h; exact fun t ht => by cases ht
  · exact go_wf _ _ _ _ _ _ _ _ (Nat.le_refl _) (fun t h => by cases h) h
end Go.Proofs.YtbpichjmkllfaaaGreatDoor.Par
