/- Lines as plain lists of bytes: a text's lines, where each begins, and the line and the column of a place. -/
namespace Go.Proofs.Ytnmpaidllhijnaa
set_option linter.unusedVariables false

/-- Lines one behind the other, each ended by a byte 10. -/
def glue (I : List (List UInt8)) : List UInt8 := I.flatMap fun x => x ++ [10]
theorem glue_nil : glue [] = [] := rfl
theorem glue_append (I J : List (List UInt8)) : glue (I ++ J) = glue I ++ glue J := by unfold glue; rw [List.flatMap_append]
theorem glue_one (x : List UInt8) : glue [x] = x ++ [10] := by simp [glue]
theorem glue_cons (x : List UInt8) (I : List (List UInt8)) : glue (x :: I) = x ++ [10] ++ glue I := by simp [glue]
theorem glue_snoc (I : List (List UInt8)) (x : List UInt8) : glue (I ++ [x]) = glue I ++ (x ++ [10]) := by rw [glue_append, glue_one]

/-- One byte more to lines. -/
def push (L : List (List UInt8)) (c : UInt8) : List (List UInt8) := if c = 10 then L ++ [[]] else L.dropLast ++ [L.getLastD [] ++ [c]]
/-- A text's lines. -/
def rows (l : List UInt8) : List (List UInt8) := l.foldl push [[]]
theorem push_ten (I : List (List UInt8)) (r : List UInt8) : push (I ++ [r]) 10 = I ++ [r] ++ [[]] := by simp [push]
theorem push_else (I : List (List UInt8)) (r : List UInt8) (c : UInt8) (h : c ≠ 10) : push (I ++ [r]) c = I ++ [r ++ [c]] := by
  simp [push, h, List.getLastD_eq_getLast?]
theorem rows_snoc (l : List UInt8) (c : UInt8) : rows (l ++ [c]) = push (rows l) c := by unfold rows; rw [List.foldl_append]; rfl

/-- The text l is the ended lines I, and behind them r, which has no end. -/
structure Cut (l : List UInt8) (I : List (List UInt8)) (r : List UInt8) : Prop where
  eq : l = glue I ++ r
  all : ∀ x ∈ I, (10 : UInt8) ∉ x
  one : (10 : UInt8) ∉ r
theorem Cut.nil : Cut [] [] [] := ⟨rfl, by simp, by simp⟩
theorem Cut.more {l I r} (h : Cut l I r) {m : List UInt8} (hm : (10 : UInt8) ∉ m) : Cut (l ++ m) I (r ++ m) :=
  ⟨by rw [h.eq, List.append_assoc], h.all, by simp [h.one, hm]⟩
theorem Cut.ten {l I r} (h : Cut l I r) : Cut (l ++ [10]) (I ++ [r]) [] :=
  ⟨by rw [h.eq, glue_snoc]; simp, by intro x hx; simp at hx; rcases hx with hx | rfl; exact h.all x hx; exact h.one, by simp⟩
theorem Cut.told {l I r} (h : Cut l I r) : rows l = I ++ [r] := by
  have hr : ∀ (r : List UInt8) (J : List (List UInt8)) (s : List UInt8), (10 : UInt8) ∉ r → r.foldl push (J ++ [s]) = J ++ [s ++ r] := by
    intro r
    induction r with
    | nil => intro J s _; simp
    | cons c r ih =>
      intro J s hc
      simp only [List.mem_cons, not_or] at hc
      rw [List.foldl_cons, push_else _ _ _ (fun e => hc.1 e.symm), ih _ _ hc.2]
      simp
  have hI : ∀ (I : List (List UInt8)) (J : List (List UInt8)), (∀ x ∈ I, (10 : UInt8) ∉ x) → (glue I).foldl push (J ++ [[]]) = J ++ I ++ [[]] := by
    intro I
    induction I with
    | nil => intro J _; simp [glue]
    | cons x I ih =>
      intro J hx
      rw [glue_cons, List.foldl_append, List.foldl_append, hr x J [] (hx x (by simp))]
      show List.foldl push (push (J ++ [[] ++ x]) 10) (glue I) = _
      rw [push_ten, ih _ (fun y hy => hx y (by simp [hy]))]
      simp
  unfold rows
  rw [h.eq, List.foldl_append]
  have h1 := hI I [] h.all
  simp only [List.nil_append] at h1
  rw [h1, hr r I [] h.one]
  simp
theorem cut_of (l : List UInt8) : ∃ I r, Cut l I r := by
  have h : ∀ n, n ≤ l.length → ∃ I r, Cut (l.take n) I r := by
    intro n
    induction n with
    | zero => intro _; exact ⟨[], [], by simpa using Cut.nil⟩
    | succ n ih =>
      intro hn
      obtain ⟨I, r, h⟩ := ih (by omega)
      rw [List.take_succ_eq_append_getElem (by omega : n < l.length)]
      by_cases hc : l[n] = 10
      · rw [hc]; exact ⟨_, _, h.ten⟩
      · exact ⟨_, _, h.more (by simp; exact fun e => hc e.symm)⟩
  simpa using h l.length (Nat.le_refl _)
theorem Cut.uniq {l I r J q} (h : Cut l I r) (h' : Cut l J q) : I = J ∧ r = q := by
  have e := h.told.symm.trans h'.told
  exact ⟨(List.append_inj' e rfl).1, by simpa using (List.append_inj' e rfl).2⟩
theorem Cut.len {l I r} (h : Cut l I r) : l.length = (glue I).length + r.length := by rw [h.eq, List.length_append]
theorem Cut.count {l I r} (h : Cut l I r) : I.length ≤ (glue I).length := by
  clear h
  induction I with
  | nil => simp
  | cons x I ih => rw [glue_cons]; simp; omega
theorem rows_len (l : List UInt8) : (rows l).length ≤ l.length + 1 := by
  obtain ⟨I, r, h⟩ := cut_of l
  rw [h.told]; have := h.len; have := h.count; simp; omega
theorem rows_pos (l : List UInt8) : 0 < (rows l).length := by
  obtain ⟨I, r, h⟩ := cut_of l
  rw [h.told]; simp
/-- Behind a byte 10 the lines are those of what is behind it. -/
theorem Cut.go {l I r} (h : Cut l I r) (t : List UInt8) : rows (l ++ 10 :: t) = I ++ r :: rows t := by
  obtain ⟨J, q, h'⟩ := cut_of t
  have : Cut (l ++ 10 :: t) (I ++ r :: J) q := ⟨by rw [h.eq, h'.eq, glue_append, glue_cons]; simp, by
    intro x hx; simp at hx; rcases hx with hx | rfl | hx; exact h.all x hx; exact h.one; exact h'.all x hx, h'.one⟩
  rw [this.told, h'.told]; simp
/-- A line goes on with what is behind up to the next end. -/
theorem Cut.on {l I r} (h : Cut l I r) (t : List UInt8) : ∃ q J, rows (l ++ t) = I ++ (r ++ q) :: J ∧ rows t = q :: J := by
  obtain ⟨J, q, h'⟩ := cut_of t
  cases J with
  | nil =>
    have e : t = q := by have := h'.eq; simpa [glue] using this
    subst e
    exact ⟨t, [], by rw [(h.more h'.one).told], by rw [h'.told]; rfl⟩
  | cons x J =>
    have : Cut (l ++ t) (I ++ (r ++ x) :: J) q := ⟨by rw [h.eq, h'.eq, glue_append, glue_cons, glue_cons]; simp, by
      intro y hy; simp at hy; rcases hy with hy | rfl | hy
      · exact h.all y hy
      · have := h'.all x (by simp); simp [h.one, this]
      · exact h'.all y (by simp [hy]), h'.one⟩
    exact ⟨x, J ++ [q], by rw [this.told]; simp, by rw [h'.told]; simp⟩
/-- What the lines are made of. -/
theorem rows_glue (l : List UInt8) (I : List (List UInt8)) (x : List UInt8) (J : List (List UInt8)) (h : rows l = I ++ x :: J) :
    ∃ t, l = glue I ++ (x ++ t) ∧ (∀ y ∈ I, (10 : UInt8) ∉ y) ∧ (10 : UInt8) ∉ x := by
  obtain ⟨K, q, hc⟩ := cut_of l
  rw [hc.told] at h
  have hall : ∀ y ∈ I ++ x :: J, (10 : UInt8) ∉ y := by
    rw [← h]; intro y hy; simp at hy; rcases hy with hy | rfl; exact hc.all y hy; exact hc.one
  refine ⟨?_, ?_, fun y hy => hall y (by simp [hy]), hall x (by simp)⟩
  · exact (l.drop ((glue I).length + x.length))
  · rcases List.eq_nil_or_concat J with rfl | ⟨J', z, rfl⟩
    · obtain ⟨e1, e2⟩ := List.append_inj' h rfl
      simp at e2; subst e1; subst e2
      rw [hc.eq]; simp
    · have h' : K ++ [q] = (I ++ x :: J') ++ [z] := by rw [h]; simp
      obtain ⟨e1, e2⟩ := List.append_inj' h' rfl
      simp at e2; subst e1; subst e2
      rw [hc.eq, glue_append, glue_cons]
      simp [List.drop_append]

/-- Where a line begins and ends, by its number; or that there is none. -/
def spanOf (L : List (List UInt8)) (n : Int) : Nat × Nat × Bool :=
  if 1 ≤ n ∧ n ≤ L.length then ((glue (L.take (n.toNat - 1))).length, (glue (L.take (n.toNat - 1))).length + (L.getD (n.toNat - 1) []).length, true) else (0, 0, false)
theorem spanOf_in (I : List (List UInt8)) (x : List UInt8) (J : List (List UInt8)) (n : Int) (hn : n = I.length + 1) : spanOf (I ++ x :: J) n = ((glue I).length, (glue I).length + x.length, true) := by
  subst hn
  unfold spanOf
  rw [if_pos ⟨by omega, by simp; omega⟩, show ((I.length : Int) + 1).toNat - 1 = I.length by omega]
  simp
theorem spanOf_out (L : List (List UInt8)) (n : Int) (hn : n < 1 ∨ (L.length : Int) < n) : spanOf L n = (0, 0, false) := by
  unfold spanOf; rw [if_neg (by omega)]
theorem split_at (L : List (List UInt8)) (n : Int) (h1 : 1 ≤ n) (h2 : n ≤ L.length) : ∃ I x J, L = I ++ x :: J ∧ n = I.length + 1 := by
  have hk : n.toNat - 1 < L.length := by omega
  refine ⟨L.take (n.toNat - 1), L[n.toNat - 1], L.drop (n.toNat - 1 + 1), by simp, by simp; omega⟩
theorem spanOf_le (l : List UInt8) (n : Int) (a b : Nat) (c : Bool) (h : spanOf (rows l) n = (a, b, c)) : a ≤ b ∧ b ≤ l.length := by
  by_cases hn : 1 ≤ n ∧ n ≤ (rows l).length
  · obtain ⟨I, x, J, e, hI⟩ := split_at _ n hn.1 hn.2
    rw [e, spanOf_in I x J n hI] at h
    obtain ⟨t, ht, _, _⟩ := rows_glue l I x J e
    simp at h
    have := congrArg List.length ht
    simp at this; omega
  · rw [spanOf_out _ _ (by omega)] at h; simp at h; omega
/-- A line by its number; or that there is none. -/
def lineOf (L : List (List UInt8)) (n : Int) : List UInt8 × Bool := if 1 ≤ n ∧ n ≤ L.length then (L.getD (n.toNat - 1) [], true) else ([], false)
theorem lineOf_in (I : List (List UInt8)) (x : List UInt8) (J : List (List UInt8)) (n : Int) (hn : n = I.length + 1) : lineOf (I ++ x :: J) n = (x, true) := by
  subst hn
  unfold lineOf
  rw [if_pos ⟨by omega, by simp; omega⟩, show ((I.length : Int) + 1).toNat - 1 = I.length by omega]
  simp
theorem lineOf_out (L : List (List UInt8)) (n : Int) (hn : n < 1 ∨ (L.length : Int) < n) : lineOf L n = ([], false) := by
  unfold lineOf; rw [if_neg (by omega)]
theorem line_span (l : List UInt8) (n : Int) (a b : Nat) (c : Bool) (h : spanOf (rows l) n = (a, b, c)) : lineOf (rows l) n = ((l.drop a).take (b - a), c) := by
  by_cases hn : 1 ≤ n ∧ n ≤ (rows l).length
  · obtain ⟨I, x, J, e, hI⟩ := split_at _ n hn.1 hn.2
    obtain ⟨t, ht, _, _⟩ := rows_glue l I x J e
    rw [e, spanOf_in I x J n hI] at h
    rw [e, lineOf_in I x J n hI]
    simp only [Prod.mk.injEq] at h
    obtain ⟨rfl, rfl, rfl⟩ := h
    rw [ht]; simp
  · rw [spanOf_out _ _ (by omega)] at h
    rw [lineOf_out _ _ (by omega)]
    simp only [Prod.mk.injEq] at h
    obtain ⟨rfl, rfl, rfl⟩ := h
    simp

/-- Where the lines begin: of ended lines, and one more. -/
def begs (I : List (List UInt8)) : List Nat := (List.range (I.length + 1)).map fun k => (glue (I.take k)).length
theorem begs_nil : begs [] = [0] := rfl
theorem begs_len (I : List (List UInt8)) : (begs I).length = I.length + 1 := by simp [begs]
theorem begs_snoc (I : List (List UInt8)) (x : List UInt8) : begs (I ++ [x]) = begs I ++ [(glue (I ++ [x])).length] := by
  unfold begs
  rw [show (I ++ [x]).length + 1 = (I.length + 1) + 1 by simp, List.range_succ, List.map_append]
  congr 1
  · apply List.map_congr_left
    intro k hk
    simp at hk
    rw [List.take_append_of_le_length (by omega)]
  · simp
    rw [List.take_of_length_le (by simp)]
theorem begs_at (I : List (List UInt8)) (k : Nat) (h : k ≤ I.length) : (begs I)[k]? = some (glue (I.take k)).length := by
  unfold begs
  rw [List.getElem?_map, List.getElem?_range (by omega)]; rfl

/-- The place of a line and a column; or that there is none. -/
def atOf (L : List (List UInt8)) (line col : Int) : Int × Bool :=
  if (spanOf L line).2.2 = true ∧ 1 ≤ col ∧ col ≤ ((spanOf L line).2.1 : Int) - (spanOf L line).1 + 1 then ((spanOf L line).1 + col - 1, true) else (0, false)
/-- The place of the line and the column of a place is that place. -/
theorem atOf_spot (l : List UInt8) (p : Nat) (hp : p ≤ l.length) (I : List (List UInt8)) (r : List UInt8) (h : Cut (l.take p) I r) : atOf (rows l) (I.length + 1) (r.length + 1) = ((p : Int), true) := by
  obtain ⟨q, J, e, _⟩ := h.on (l.drop p)
  rw [List.take_append_drop] at e
  have hl := h.len
  rw [List.length_take] at hl
  unfold atOf
  rw [e, spanOf_in I _ J _ rfl]
  rw [if_pos ⟨rfl, by omega, by simp; omega⟩]
  simp; omega
/-- What has a place is that place's line and column. -/
theorem spot_atOf (l : List UInt8) (line col : Int) (p : Int) (h : atOf (rows l) line col = (p, true)) :
    ∃ k : Nat, p = k ∧ k ≤ l.length ∧ ∃ I r, Cut (l.take k) I r ∧ line = I.length + 1 ∧ col = r.length + 1 := by
  unfold atOf at h
  by_cases hc : (spanOf (rows l) line).2.2 = true ∧ 1 ≤ col ∧ col ≤ ((spanOf (rows l) line).2.1 : Int) - (spanOf (rows l) line).1 + 1
  · rw [if_pos hc] at h
    by_cases hn : 1 ≤ line ∧ line ≤ (rows l).length
    · obtain ⟨I, x, J, e, hI⟩ := split_at _ line hn.1 hn.2
      obtain ⟨t, ht, h1, h2⟩ := rows_glue l I x J e
      rw [e, spanOf_in I x J line hI] at h hc
      simp only [true_and] at hc
      simp only [Prod.mk.injEq, and_true] at h
      have hcol : col.toNat - 1 ≤ x.length := by omega
      refine ⟨(glue I).length + (col.toNat - 1), by omega, ?_, I, x.take (col.toNat - 1), ⟨?_, h1, fun hm => h2 (List.mem_of_mem_take hm)⟩, hI, ?_⟩
      · rw [ht]; simp; omega
      · rw [ht, List.take_length_add_append, List.take_append_of_le_length hcol]
      · rw [List.length_take]; omega
    · rw [spanOf_out _ _ (by omega)] at hc; simp at hc
  · rw [if_neg hc] at h; simp at h
theorem atOf_false (L : List (List UInt8)) (line col : Int) (n : Int) (h : atOf L line col = (n, false)) : n = 0 := by
  unfold atOf at h; split at h <;> simp at h; exact h.symm

/-- What fills the line below some bytes. -/
def blank (l : List UInt8) : List UInt8 := l.map fun c => if c = 9 then 9 else 32
theorem blank_len (l : List UInt8) : (blank l).length = l.length := by simp [blank]
theorem blank_ten (l : List UInt8) : (10 : UInt8) ∉ blank l := by
  unfold blank; intro h; simp only [List.mem_map] at h; obtain ⟨c, _, hc⟩ := h; split at hc <;> revert hc <;> decide
theorem blank_take (l : List UInt8) (k : Nat) (h : k < l.length) : blank (l.take (k + 1)) = blank (l.take k) ++ [if l[k] = 9 then 9 else 32] := by
  rw [List.take_succ_eq_append_getElem h]; unfold blank; rw [List.map_append]; rfl
/-- The lines that mark a place: a, b the numbers' texts. -/
def markOf (a b row fill : List UInt8) : List UInt8 := a ++ [58] ++ b ++ [10] ++ row ++ [10] ++ fill ++ [94, 10]
theorem markOf_rows (a b row fill : List UInt8) (ha : (10 : UInt8) ∉ a) (hb : (10 : UInt8) ∉ b) (hr : (10 : UInt8) ∉ row) (hf : (10 : UInt8) ∉ fill) :
    rows (markOf a b row fill) = [a ++ [58] ++ b, row, fill ++ [94], []] := by
  have : Cut (markOf a b row fill) [a ++ [58] ++ b, row, fill ++ [94]] [] := ⟨by simp [markOf, glue], by
    intro x hx; simp at hx
    rcases hx with rfl | rfl | rfl
    · simp [ha, hb]
    · exact hr
    · simp [hf], by simp⟩
  exact this.told
theorem markOf_len (a b row fill : List UInt8) : (markOf a b row fill).length = a.length + b.length + row.length + fill.length + 5 := by simp [markOf]; omega
end Go.Proofs.Ytnmpaidllhijnaa
