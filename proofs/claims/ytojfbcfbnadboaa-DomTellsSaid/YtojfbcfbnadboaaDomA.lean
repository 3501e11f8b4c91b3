/- The order of the blocks that are reached: each once, each but the first one behind one that goes on with it (plain). -/
import Derived.Test.YtojfbcfbnadboaaGraOrd
import Derived.Test.YtojfbcfbnadboaaGraMath
namespace Go.Proofs.Ytojfbcfbnadboaa.Gra
set_option linter.unusedVariables false

theorem Wk.new2 {s : Gr} {l : List Nat} {sn sn' : List Bool} {out out' : List Nat} (hs : Ok s) (h : Wk s l sn out sn' out') (hl : sn.length = s.length) (hj : ∀ j ∈ l, j < s.length) :
    ∃ w : List Nat, out' = out ++ w ∧ w.Nodup ∧ (∀ x ∈ w, at_ sn x = false) ∧ (∀ i, at_ sn' i = true ↔ at_ sn i = true ∨ i ∈ w) ∧ ∀ (i x : Nat), w[i]? = some x → x ∈ l ∨ ∃ i' y : Nat, i < i' ∧ w[i']? = some y ∧ x ∈ nx s y := by
  induction h with
  | nil => exact ⟨[], by simp, by simp, by simp, by simp, by simp⟩
  | skip _ _ ih =>
    obtain ⟨w, h1, h2, h3, h4, h5⟩ := ih hl (fun x hx => hj x (List.mem_cons_of_mem _ hx))
    exact ⟨w, h1, h2, h3, h4, fun i x hx => (h5 i x hx).imp (List.mem_cons_of_mem _) id⟩
  | @go j l sn sn1 sn' out out1 out' h1 h2 h3 ih1 ih2 =>
    have hjl := hj j (List.mem_cons_self ..)
    obtain ⟨w1, rfl, a1, b1, c1, d1⟩ := ih1 (by simpa using hl) (fun x hx => hs _ _ hx)
    have hl1 : sn1.length = s.length := by rw [← h2.le.1]; simpa using hl
    obtain ⟨w2, rfl, a2, b2, c2, d2⟩ := ih2 hl1 (fun x hx => hj x (List.mem_cons_of_mem _ hx))
    have hset : ∀ i, at_ (sn.set j true) i = (decide (j = i) || at_ sn i) := fun i => at_set sn j i (by rw [hl]; exact hjl)
    have b1' : ∀ x ∈ w1, x ≠ j ∧ at_ sn x = false := fun x hx => by
      have := b1 x hx
      rw [hset, Bool.or_eq_false_iff, decide_eq_false_iff_not] at this
      exact ⟨fun e => this.1 e.symm, this.2⟩
    have b2' : ∀ x ∈ w2, x ∉ w1 ∧ x ≠ j ∧ at_ sn x = false := fun x hx => by
      have h := b2 x hx
      have hc := c1 x
      rw [h, hset] at hc
      simp at hc
      exact ⟨hc.2, fun e => hc.1.1 e.symm, hc.1.2⟩
    refine ⟨w1 ++ j :: w2, by simp, ?_, ?_, ?_, ?_⟩
    · rw [List.nodup_append, List.nodup_cons]
      refine ⟨a1, ⟨fun h => (b2' j h).2.1 rfl, a2⟩, fun x hx y hy e => ?_⟩
      subst e
      rcases List.mem_cons.1 hy with e | hy
      · exact (b1' x hx).1 e
      · exact (b2' x hy).1 hx
    · intro x hx
      rcases List.mem_append.1 hx with hx | hx
      · exact (b1' x hx).2
      · rcases List.mem_cons.1 hx with rfl | hx
        · exact h1
        · exact (b2' x hx).2.2
    · intro i
      rw [c2, c1, hset, Bool.or_eq_true, decide_eq_true_eq, List.mem_append, List.mem_cons]
      constructor
      · rintro (((rfl | h) | h) | h)
        · exact .inr (.inr (.inl rfl))
        · exact .inl h
        · exact .inr (.inl h)
        · exact .inr (.inr (.inr h))
      · rintro (h | h | rfl | h)
        · exact .inl (.inl (.inr h))
        · exact .inl (.inr h)
        · exact .inl (.inl (.inl rfl))
        · exact .inr h
    · intro i x hx
      by_cases hi : i < w1.length
      · rw [List.getElem?_append_left hi] at hx
        right
        rcases d1 i x hx with h | ⟨i', y, e1, e2, e3⟩
        · exact ⟨w1.length, j, hi, by rw [List.getElem?_append_right (Nat.le_refl _)]; simp, h⟩
        · have := (List.getElem?_eq_some_iff.1 e2).1
          exact ⟨i', y, e1, by rw [List.getElem?_append_left this]; exact e2, e3⟩
      · rw [List.getElem?_append_right (by omega)] at hx
        by_cases h0 : i - w1.length = 0
        · rw [h0] at hx
          injection hx with hx
          subst hx
          exact .inl (List.mem_cons_self ..)
        · obtain ⟨q, hq⟩ : ∃ q, i - w1.length = q + 1 := ⟨i - w1.length - 1, by omega⟩
          rw [hq] at hx
          rcases d2 q x hx with h | ⟨i', y, e1, e2, e3⟩
          · exact .inl (List.mem_cons_of_mem _ h)
          · refine .inr ⟨w1.length + (i' + 1), y, by omega, ?_, e3⟩
            rw [List.getElem?_append_right (by omega)]
            rw [show w1.length + (i' + 1) - w1.length = i' + 1 by omega]
            exact e2
/-- What is told of an order: O's places are the blocks that are reached. -/
structure IsO (s : Gr) (O : List Nat) : Prop where
  nd : O.Nodup
  mem : ∀ b, b ∈ O ↔ Rch s (fun _ => False) 0 b
  first : 0 < s.length → O[0]? = some 0
  pred : ∀ i x : Nat, 0 < i → O[i]? = some x → ∃ i' y : Nat, i' < i ∧ O[i']? = some y ∧ x ∈ nx s y
theorem isO {s : Gr} {R : List Nat} (hs : Ok s) (h : IsLeft s R) : IsO s R.reverse := by
  have hm := h.mem hs
  rcases h with ⟨rfl, rfl⟩ | ⟨h0, sn, h⟩
  · exact ⟨by simp, fun b => by rw [List.mem_reverse]; exact hm b, fun h => by simp at h, fun i x _ h => by simp at h⟩
  · obtain ⟨w, e, a, _, _, d⟩ := h.new2 hs (by simp) (by simpa using h0)
    rw [List.nil_append] at e
    subst e
    have hlast : ∃ r, R = r ++ [0] := by
      cases h with
      | skip h1 _ => rw [at_rep] at h1; cases h1
      | go _ _ h3 => cases h3; exact ⟨_, rfl⟩
    obtain ⟨r, rfl⟩ := hlast
    refine ⟨(List.reverse_perm _).nodup_iff.2 a, fun b => by rw [List.mem_reverse]; exact hm b, fun _ => by simp, fun i x hi hx => ?_⟩
    have hlt := (List.getElem?_eq_some_iff.1 hx).1
    rw [List.length_reverse] at hlt
    rw [List.getElem?_reverse hlt] at hx
    rcases d _ x hx with h | ⟨i', y, e1, e2, e3⟩
    · rw [List.mem_singleton] at h
      subst h
      exfalso
      have hr : (r ++ [0]).length = r.length + 1 := by simp
      rw [List.getElem?_append_left (by omega)] at hx
      rw [List.nodup_append] at a
      exact a.2.2 0 (List.mem_of_getElem? hx) 0 (by simp) rfl
    · have hlt2 := (List.getElem?_eq_some_iff.1 e2).1
      refine ⟨(r ++ [0]).length - 1 - i', y, by omega, ?_, e3⟩
      rw [List.getElem?_reverse (by omega), ← e2]
      congr 1
      omega
end Go.Proofs.Ytojfbcfbnadboaa.Gra
/- What hangs above a place, and how places are lifted (plain). -/
namespace Go.Proofs.Ytojfbcfbnadboaa.Gra
set_option linter.unusedVariables false

/-- a is x, or hangs above it. -/
inductive An (ov : Nat → Nat) (a : Nat) : Nat → Prop
  | refl : An ov a a
  | up {x : Nat} : 0 < x → An ov a (ov x) → An ov a x
/-- What hangs above is less. -/
def Fall (ov : Nat → Nat) (m : Nat) : Prop := ∀ x, 0 < x → x < m → ov x < x
theorem An.le {ov : Nat → Nat} {m a x : Nat} (hf : Fall ov m) (h : An ov a x) (hx : x < m) : a ≤ x := by
  induction h with
  | refl => exact Nat.le_refl _
  | up h0 h1 ih =>
    have := hf _ h0 hx
    have := ih (by omega)
    omega
theorem An.trans {ov : Nat → Nat} {a b c : Nat} (h : An ov a b) (k : An ov b c) : An ov a c := by
  induction k with
  | refl => exact h
  | up h0 h1 ih => exact .up h0 ih
theorem An.cases_ {ov : Nat → Nat} {a x : Nat} (h : An ov a x) : a = x ∨ (0 < x ∧ An ov a (ov x)) := by
  cases h with
  | refl => exact .inl rfl
  | up h0 h1 => exact .inr ⟨h0, h1⟩
theorem An.total {ov : Nat → Nat} {a b x : Nat} (h : An ov a x) (k : An ov b x) : An ov a b ∨ An ov b a := by
  induction h with
  | refl => exact .inr k
  | up h0 h1 ih =>
    rcases k.cases_ with rfl | ⟨_, k⟩
    · exact .inl (.up h0 h1)
    · exact ih k
theorem An.root {ov : Nat → Nat} {m : Nat} (hf : Fall ov m) : ∀ x, x < m → An ov 0 x := by
  intro x
  induction x using Nat.strongRecOn with
  | _ x ih =>
    intro hx
    by_cases h0 : x = 0
    · subst h0; exact .refl
    · have h1 := hf x (by omega) hx
      exact .up (by omega) (ih _ h1 (by omega))
/-- Where two meet. -/
inductive Cm (ov : Nat → Nat) : Nat → Nat → Nat → Prop
  | eq {a : Nat} : Cm ov a a a
  | lt {a b c : Nat} : a < b → Cm ov (ov b) a c → Cm ov a b c
  | gt {a b c : Nat} : b < a → Cm ov (ov a) b c → Cm ov a b c
theorem Cm.iff {ov : Nat → Nat} {m a b c : Nat} (hf : Fall ov m) (h : Cm ov a b c) (ha : a < m) (hb : b < m) : ∀ d, An ov d c ↔ An ov d a ∧ An ov d b := by
  induction h with
  | eq => exact fun d => ⟨fun h => ⟨h, h⟩, fun h => h.1⟩
  | @lt a b c h1 h2 ih =>
    intro d
    have hb' := hf b (by omega) hb
    rw [ih (by omega) ha d]
    constructor
    · exact fun h => ⟨h.2, .up (by omega) h.1⟩
    · intro h
      refine ⟨?_, h.1⟩
      rcases h.2.cases_ with e | e
      · subst e
        have := h.1.le hf ha
        omega
      · exact e.2
  | @gt a b c h1 h2 ih =>
    intro d
    have ha' := hf a (by omega) ha
    rw [ih (by omega) hb d]
    constructor
    · exact fun h => ⟨.up (by omega) h.1, h.2⟩
    · intro h
      refine ⟨?_, h.2⟩
      rcases h.1.cases_ with e | e
      · subst e
        have := h.2.le hf hb
        omega
      · exact e.2
theorem cm_ex {ov : Nat → Nat} {m : Nat} (hf : Fall ov m) : ∀ (n a b : Nat), a + b ≤ n → a < m → b < m → ∃ c, Cm ov a b c := by
  intro n
  induction n with
  | zero =>
    intro a b h _ _
    have e : a = b := by omega
    subst e
    exact ⟨a, .eq⟩
  | succ n ih =>
    intro a b h ha hb
    rcases Nat.lt_trichotomy a b with h1 | rfl | h1
    · have := hf b (by omega) hb
      obtain ⟨c, hc⟩ := ih (ov b) a (by omega) (by omega) ha
      exact ⟨c, .lt h1 hc⟩
    · exact ⟨a, .eq⟩
    · have := hf a (by omega) ha
      obtain ⟨c, hc⟩ := ih (ov a) b (by omega) (by omega) hb
      exact ⟨c, .gt h1 hc⟩
theorem Cm.det {ov : Nat → Nat} {a b c d : Nat} (h : Cm ov a b c) (k : Cm ov a b d) : c = d := by
  induction h with
  | eq => cases k with
    | eq => rfl
    | lt h _ => omega
    | gt h _ => omega
  | lt h1 h2 ih => cases k with
    | eq => omega
    | lt _ k2 => exact ih k2
    | gt _ _ => omega
  | gt h1 h2 ih => cases k with
    | eq => omega
    | lt _ _ => omega
    | gt _ k2 => exact ih k2
theorem Rch.trans {s : Gr} {wo : Nat → Prop} {a b c : Nat} (h : Rch s wo a b) (k : Rch s wo b c) : Rch s wo a c := by
  induction k with
  | refl _ _ => exact h
  | step _ h2 h3 ih => exact .step ih h2 h3
theorem Rch.mono {s : Gr} {wo wo' : Nat → Prop} {a b : Nat} (h : Rch s wo a b) (hw : ∀ k, wo' k → wo k) : Rch s wo' a b := by
  induction h with
  | refl h1 h2 => exact .refl h1 (fun h => h2 (hw _ h))
  | step _ h2 h3 ih => exact .step ih h2 (fun h => h3 (hw _ h))
/-- a is on each way from 0 to x. -/
def Dm (T : Gr) (a x : Nat) : Prop := a = x ∨ ¬ Rch T (fun k => k = a) 0 x
/-- What holds while places are lifted. -/
structure DI (T : Gr) (m : Nat) (ov : Nat → Nat) : Prop where
  fall : Fall ov m
  path : ∀ x, 0 < x → x < m → Rch T (fun k => An ov k (ov x) ∧ k ≠ ov x) (ov x) x
  dom : ∀ a x, x < m → Dm T a x → An ov a x
theorem DI.chain {T : Gr} {m : Nat} {ov : Nat → Nat} (h : DI T m ov) (hT : T.length = m) {a x : Nat} (hx : x < m) (k : An ov a x) : Rch T (fun q => An ov q a ∧ q ≠ a) a x := by
  induction k with
  | refl => exact .refl (by omega) (fun h => h.2 rfl)
  | @up x h0 h1 ih =>
    have hlt := h.fall x h0 hx
    refine (ih (by omega)).trans ((h.path x h0 hx).mono fun q hq => ⟨hq.1.trans h1, fun e => ?_⟩)
    subst e
    have h2 := h1.le h.fall (by omega)
    have h4 : a < m := by omega
    have h5 := hq.1.le h.fall h4
    exact hq.2 (by omega)
def put (ov : Nat → Nat) (t c : Nat) : Nat → Nat := fun k => if k = t then c else ov k
theorem put_same (ov : Nat → Nat) (t c : Nat) : put ov t c t = c := if_pos rfl
theorem put_else (ov : Nat → Nat) {t k : Nat} (c : Nat) (h : k ≠ t) : put ov t c k = ov k := if_neg h
section
variable {T : Gr} {m t o c : Nat} {ov : Nat → Nat}
/-- Chains of what is less stay. -/
theorem an_low (hf : Fall ov m) (htm : t < m) {d y : Nat} (hy : y < t) : An (put ov t c) d y ↔ An ov d y := by
  induction y using Nat.strongRecOn with
  | _ y ih =>
    constructor
    · intro h
      rcases h.cases_ with rfl | ⟨h0, h1⟩
      · exact .refl
      · rw [put_else _ _ (by omega)] at h1
        have := hf y h0 (by omega)
        exact .up h0 ((ih _ this (by omega)).1 h1)
    · intro h
      rcases h.cases_ with rfl | ⟨h0, h1⟩
      · exact .refl
      · have := hf y h0 (by omega)
        exact .up h0 (by rw [put_else _ _ (by omega)]; exact (ih _ this (by omega)).2 h1)
/-- Nothing new comes above. -/
theorem an_less (hf : Fall ov m) (htm : t < m) (h0t : 0 < t) (hc : An ov c (ov t)) {d : Nat} : ∀ x, x < m → An (put ov t c) d x → An ov d x := by
  have hct := hc.le hf (by have := hf t h0t htm; omega)
  have hlt := hf t h0t htm
  intro x
  induction x using Nat.strongRecOn with
  | _ x ih =>
    intro hx h
    rcases h.cases_ with rfl | ⟨h0, h1⟩
    · exact .refl
    · by_cases e : x = t
      · subst e
        rw [put_same] at h1
        exact .up h0 (((an_low hf htm (by omega)).1 h1).trans hc)
      · rw [put_else _ _ e] at h1
        have := hf x h0 hx
        exact .up h0 (ih _ this (by omega) h1)
/-- What hangs at t or below it stays. -/
theorem an_high (hf : Fall ov m) {d : Nat} : ∀ x, x < m → An ov t d → t ≤ d → An ov d x → An (put ov t c) d x := by
  intro x
  induction x using Nat.strongRecOn with
  | _ x ih =>
    intro hx htd hle h
    rcases h.cases_ with rfl | ⟨h0, h1⟩
    · exact .refl
    · have hlt := hf x h0 hx
      have hd := h1.le hf (by omega)
      exact .up h0 (by rw [put_else _ _ (by omega)]; exact ih _ hlt (by omega) htd hle h1)
theorem an_off (hf : Fall ov m) {d : Nat} : ∀ x, x < m → ¬ An ov t x → An ov d x → An (put ov t c) d x := by
  intro x
  induction x using Nat.strongRecOn with
  | _ x ih =>
    intro hx hn h
    rcases h.cases_ with rfl | ⟨h0, h1⟩
    · exact .refl
    · have hlt := hf x h0 hx
      have hne : x ≠ t := fun e => hn (e ▸ .refl)
      exact .up h0 (by rw [put_else _ _ hne]; exact ih _ hlt (by omega) (fun k => hn (.up h0 k)) h1)
theorem DI.lift (h : DI T m ov) (hT : T.length = m) (h0 : 0 < t) (ht : t < m) (ho : t ∈ nx T o) (hom : o < m) (hc : Cm ov (ov t) o c) : DI T m (put ov t c) := by
  have hlt := h.fall t h0 ht
  have hiff := hc.iff h.fall (by omega) hom
  have hca := (hiff c).1 .refl
  have hcl := hca.1.le h.fall (by omega)
  have hf' : Fall (put ov t c) m := fun x hx0 hx => by
    by_cases e : x = t
    · subst e; rw [put_same]; omega
    · rw [put_else _ _ e]; exact h.fall x hx0 hx
  refine ⟨hf', fun x hx0 hx => ?_, fun a x hx hd => ?_⟩
  · by_cases e : x = t
    · subst e
      rw [put_same]
      have h1 : Rch T (fun q => An ov q c ∧ q ≠ c) c x := h.chain hT hx (.up hx0 hca.1)
      refine h1.mono fun k hk => ⟨(an_low h.fall hx (by omega)).1 hk.1, hk.2⟩
    · rw [put_else _ _ e]
      have hlx := h.fall x hx0 hx
      exact (h.path x hx0 hx).mono fun k hk => ⟨an_less h.fall ht h0 hca.1 _ (by omega) hk.1, hk.2⟩
  · have ha := h.dom a x hx hd
    by_cases htx : An ov t x
    · rcases ha.total htx with k | k
      · by_cases e : a = t
        · subst e; exact an_high h.fall x hx .refl (Nat.le_refl _) ha
        · have hax : a ≠ x := by
            rintro rfl
            have h1 := htx.le h.fall hx
            have h2 := k.le h.fall ht
            omega
          have hnr : ¬ Rch T (fun k => k = a) 0 x := hd.resolve_left hax
          have hdt : ¬ Rch T (fun k => k = a) 0 t := fun r => hnr (r.trans ((h.chain hT hx htx).mono fun q hq => by
            have hq : q = a := hq
            subst hq
            exact ⟨k, e⟩))
          have hdo : Dm T a o := by
            by_cases e2 : a = o
            · exact .inl e2
            · exact .inr fun r => hdt (.step r ho (fun q => e q.symm))
          have h1 : An ov a o := h.dom a o hom hdo
          have h2 : An ov a (ov t) := (k.cases_.resolve_left e).2
          have h3 : An ov a c := (hiff a).2 ⟨h2, h1⟩
          have h4 : An (put ov t c) a t := .up h0 (by rw [put_same]; exact (an_low h.fall ht (by omega)).2 h3)
          exact h4.trans (an_high h.fall x hx .refl (Nat.le_refl _) htx)
      · exact an_high h.fall x hx k (k.le h.fall (Nat.lt_of_le_of_lt (ha.le h.fall hx) hx)) ha
    · exact an_off h.fall x hx htx ha
/-- Nothing is lifted any more: what hangs above is on each way. -/
theorem DI.final (h : DI T m ov) (hT : T.length = m) (hs : Ok T) (he : ∀ t o, 0 < t → t < m → t ∈ nx T o → An ov (ov t) o) {a x : Nat} (hx : x < m) : An ov a x ↔ Dm T a x := by
  refine ⟨fun k => ?_, h.dom a x hx⟩
  by_cases e : a = x
  · exact .inl e
  · refine .inr fun r => ?_
    have : ¬ An ov a x := r.along (P := fun y => ¬ An ov a y) (fun q => by
      rcases q.cases_ with e | ⟨h0, _⟩
      · exact r.from_lt.2 e.symm
      · omega) (fun y z hz hw hp q => by
      rcases q.cases_ with e | ⟨h0, h1⟩
      · exact hw e.symm
      · have hz' := hs y z hz
        rw [hT] at hz'
        exact hp (h1.trans (he z y h0 hz' hz)))
    exact this k
end
end Go.Proofs.Ytojfbcfbnadboaa.Gra
/- The graph of places in an order; who dominates whom there and among the blocks; chains as lists (plain). -/
namespace Go.Proofs.Ytojfbcfbnadboaa.Gra
set_option linter.unusedVariables false

/-- The place of a block in an order. -/
def pl (O : List Nat) (b : Nat) : Nat := O.findIdx (fun x => x == b)
theorem nodup_inj {O : List Nat} (hn : O.Nodup) {i j : Nat} (hi : i < O.length) (hj : j < O.length) (e : O[i] = O[j]) : i = j := by
  have h := List.pairwise_iff_getElem.1 hn
  rcases Nat.lt_trichotomy i j with h1 | h1 | h1
  · exact (h i j hi hj h1 e).elim
  · exact h1
  · exact (h j i hj hi h1 e.symm).elim
theorem at_pl {O : List Nat} {b : Nat} (h : b ∈ O) : O[pl O b]? = some b := by
  have h1 : O.findIdx (fun x => x == b) < O.length := by
    rw [List.findIdx_lt_length]
    exact ⟨b, h, by simp⟩
  show O[O.findIdx (fun x => x == b)]? = some b
  rw [List.getElem?_eq_getElem h1]
  have := List.findIdx_getElem (p := fun x => x == b) (xs := O) (w := h1)
  simpa using this
theorem pl_at {O : List Nat} (hn : O.Nodup) {i b : Nat} (h : O[i]? = some b) : pl O b = i := by
  obtain ⟨hi, e⟩ := List.getElem?_eq_some_iff.1 h
  obtain ⟨h1, h2⟩ := List.getElem?_eq_some_iff.1 (at_pl (List.mem_of_getElem? h))
  exact nodup_inj hn h1 hi (by rw [h2, e])
theorem pl_lt {O : List Nat} {b : Nat} (h : b ∈ O) : pl O b < O.length := (List.getElem?_eq_some_iff.1 (at_pl h)).1
/-- The graph of places. -/
def tg (s : Gr) (O : List Nat) : Gr := O.map fun b => (nx s b).map (pl O)
theorem tg_len (s : Gr) (O : List Nat) : (tg s O).length = O.length := by unfold tg; simp
theorem tg_at {s : Gr} {O : List Nat} {i b : Nat} (h : O[i]? = some b) : nx (tg s O) i = (nx s b).map (pl O) := by
  unfold nx tg
  rw [List.getD_eq_getElem?_getD, List.getElem?_map, h]
  rfl
section
variable {s : Gr} {O : List Nat}
theorem IsO.succ (h : IsO s O) {b c : Nat} (hb : b ∈ O) (hc : c ∈ nx s b) : c ∈ O := (h.mem c).2 (.step ((h.mem b).1 hb) hc id)
theorem IsO.step (h : IsO s O) {i j b c : Nat} (hi : O[i]? = some b) (hj : O[j]? = some c) : j ∈ nx (tg s O) i ↔ c ∈ nx s b := by
  rw [tg_at hi, List.mem_map]
  constructor
  · rintro ⟨x, hx, e⟩
    have hxO := h.succ (List.mem_of_getElem? hi) hx
    have h1 := at_pl hxO
    rw [e, hj] at h1
    injection h1 with h1
    rw [h1]; exact hx
  · intro hc
    exact ⟨c, hc, pl_at h.nd hj⟩
theorem IsO.ok (h : IsO s O) : Ok (tg s O) := by
  intro i j hj
  have hi := nx_lt hj
  rw [tg_len] at hi ⊢
  rw [tg_at (List.getElem?_eq_getElem hi), List.mem_map] at hj
  obtain ⟨x, hx, rfl⟩ := hj
  exact pl_lt (h.succ (List.getElem_mem hi) hx)
theorem IsO.to_t (h : IsO s O) {wo : Nat → Prop} {b : Nat} (hr : Rch s wo 0 b) (hs0 : 0 < s.length) : Rch (tg s O) (fun p => ∃ x, O[p]? = some x ∧ wo x) 0 (pl O b) := by
  have hO0 := h.first hs0
  induction hr with
  | refl h1 h2 =>
    rw [pl_at h.nd hO0]
    refine .refl (by rw [tg_len]; exact (List.getElem?_eq_some_iff.1 hO0).1) ?_
    rintro ⟨x, hx, hw⟩
    rw [hO0] at hx
    injection hx with hx
    subst hx
    exact h2 hw
  | @step b c h1 h2 h3 ih =>
    have hb : b ∈ O := (h.mem b).2 (h1.mono fun _ h => h.elim)
    have hc := h.succ hb h2
    refine .step ih ((h.step (at_pl hb) (at_pl hc)).2 h2) ?_
    rintro ⟨x, hx, hw⟩
    rw [at_pl hc] at hx
    injection hx with hx
    subst hx
    exact h3 hw
theorem IsO.of_t (h : IsO s O) {wo : Nat → Prop} {p : Nat} (hr : Rch (tg s O) (fun p => ∃ x, O[p]? = some x ∧ wo x) 0 p) (hs0 : 0 < s.length) : ∃ b, O[p]? = some b ∧ Rch s wo 0 b := by
  have hO0 := h.first hs0
  induction hr with
  | refl h1 h2 => exact ⟨0, hO0, .refl hs0 (fun hw => h2 ⟨0, hO0, hw⟩)⟩
  | @step p q h1 h2 h3 ih =>
    obtain ⟨b, hb, hr⟩ := ih
    have hq := h.ok p q h2
    rw [tg_len] at hq
    have hc := List.getElem?_eq_getElem hq
    exact ⟨_, hc, .step hr ((h.step hb hc).1 h2) (fun hw => h3 ⟨_, hc, hw⟩)⟩
/-- Who dominates whom, by blocks. -/
def DomB (s : Gr) (a b : Nat) : Prop := Rch s (fun _ => False) 0 b ∧ (a = b ∨ ¬ Rch s (fun k => k = a) 0 b)
theorem IsO.dom (h : IsO s O) (hs0 : 0 < s.length) {a b : Nat} : DomB s a b ↔ a ∈ O ∧ b ∈ O ∧ Dm (tg s O) (pl O a) (pl O b) := by
  unfold DomB Dm
  constructor
  · rintro ⟨h1, h2⟩
    have hb := (h.mem b).2 h1
    by_cases ha : a ∈ O
    · refine ⟨ha, hb, ?_⟩
      rcases h2 with rfl | h2
      · exact .inl rfl
      · right
        intro hr
        have e : (fun k => k = pl O a) = fun p => ∃ x, O[p]? = some x ∧ x = a := by
          funext p
          refine propext ⟨fun e => ⟨a, by rw [e]; exact at_pl ha, rfl⟩, ?_⟩
          rintro ⟨x, hx, rfl⟩
          exact (pl_at h.nd hx).symm
        rw [e] at hr
        obtain ⟨c, hc, hr⟩ := h.of_t (wo := fun k => k = a) hr hs0
        rw [at_pl hb] at hc
        injection hc with hc
        subst hc
        exact h2 hr
    · exfalso
      rcases h2 with rfl | h2
      · exact ha hb
      · refine h2 ?_
        have : ∀ c, Rch s (fun _ => False) 0 c → Rch s (fun k => k = a) 0 c := fun c hc => by
          induction hc with
          | refl k1 _ => exact .refl k1 (fun e => ha (by rw [← e]; exact (h.mem 0).2 (.refl k1 id)))
          | @step x y k1 k2 _ ih => exact .step ih k2 (fun e => ha (by rw [← e]; exact (h.mem y).2 (.step k1 k2 id)))
        exact this b h1
  · rintro ⟨ha, hb, h2⟩
    refine ⟨(h.mem b).1 hb, ?_⟩
    rcases h2 with e | h2
    · left
      have h3 := at_pl ha
      rw [e, at_pl hb] at h3
      injection h3 with h3
      exact h3.symm
    · right
      intro hr
      refine h2 ?_
      have h3 := h.to_t hr hs0
      refine h3.mono fun k hk => ?_
      rw [hk]
      exact ⟨a, at_pl ha, rfl⟩
/-- Each place but the first has one ahead that goes on with it. -/
theorem IsO.ahead (h : IsO s O) {t : Nat} (h0 : 0 < t) (ht : t < O.length) : ∃ i, i < t ∧ t ∈ nx (tg s O) i := by
  obtain ⟨i, y, h1, h2, h3⟩ := h.pred t _ h0 (List.getElem?_eq_getElem ht)
  exact ⟨i, h1, (h.step h2 (List.getElem?_eq_getElem ht)).2 h3⟩
end
/-- What hangs above a place, itself first, 0 last. -/
inductive Ch (ov : Nat → Nat) : Nat → List Nat → Prop
  | zero : Ch ov 0 [0]
  | up {x : Nat} {l : List Nat} : 0 < x → Ch ov (ov x) l → Ch ov x (x :: l)
theorem ch_ex {ov : Nat → Nat} {m : Nat} (hf : Fall ov m) : ∀ x, x < m → ∃ l, Ch ov x l := by
  intro x
  induction x using Nat.strongRecOn with
  | _ x ih =>
    intro hx
    by_cases h0 : x = 0
    · subst h0; exact ⟨[0], .zero⟩
    · have hlt := hf x (by omega) hx
      obtain ⟨l, hl⟩ := ih _ hlt (by omega)
      exact ⟨_, .up (by omega) hl⟩
theorem Ch.det {ov : Nat → Nat} {x : Nat} {l k : List Nat} (h : Ch ov x l) (h2 : Ch ov x k) : l = k := by
  induction h generalizing k with
  | zero => cases h2 with
    | zero => rfl
    | up h _ => omega
  | up h0 h1 ih => cases h2 with
    | zero => omega
    | up _ k1 => rw [ih k1]
theorem Ch.mem {ov : Nat → Nat} {x a : Nat} {l : List Nat} (h : Ch ov x l) : a ∈ l ↔ An ov a x := by
  induction h with
  | zero =>
    rw [List.mem_singleton]
    refine ⟨fun e => e ▸ .refl, fun k => ?_⟩
    rcases k.cases_ with e | ⟨h, _⟩
    · exact e
    · omega
  | up h0 h1 ih =>
    rw [List.mem_cons, ih]
    refine ⟨fun k => k.elim (fun e => e ▸ .refl) (fun k => .up h0 k), fun k => ?_⟩
    rcases k.cases_ with e | ⟨_, k⟩
    · exact .inl e
    · exact .inr k
theorem Ch.nodup {ov : Nat → Nat} {m x : Nat} {l : List Nat} (hf : Fall ov m) (h : Ch ov x l) (hx : x < m) : l.Nodup ∧ 0 < l.length ∧ l.length ≤ x + 1 := by
  induction h with
  | zero => exact ⟨by simp, by simp, by simp⟩
  | @up x l h0 h1 ih =>
    have hlt := hf x h0 hx
    obtain ⟨i1, i2, i3⟩ := ih (by omega)
    refine ⟨List.nodup_cons.2 ⟨fun hm => ?_, i1⟩, by simp, by rw [List.length_cons]; omega⟩
    have := ((h1.mem).1 hm).le hf (by omega)
    omega
/-- What is above has fewer above. -/
theorem Ch.less {ov : Nat → Nat} {x a : Nat} {l k : List Nat} (h : Ch ov x l) (hk : Ch ov a k) (ha : An ov a x) : k.length ≤ l.length ∧ (k.length = l.length → a = x) := by
  induction h with
  | zero =>
    rcases ha.cases_ with e | ⟨h, _⟩
    · subst e; rw [hk.det .zero]; exact ⟨Nat.le_refl _, fun _ => rfl⟩
    · omega
  | up h0 h1 ih =>
    rcases ha.cases_ with e | ⟨_, k2⟩
    · subst e; rw [hk.det (.up h0 h1)]; exact ⟨Nat.le_refl _, fun _ => rfl⟩
    · have := ih k2
      rw [List.length_cons]
      exact ⟨by omega, fun e => by omega⟩
end Go.Proofs.Ytojfbcfbnadboaa.Gra
/- How many dominate a block, and the nearest one, as the document reckons it (plain). -/
namespace Go.Proofs.Ytojfbcfbnadboaa.Gra
set_option linter.unusedVariables false

/-- Does a dominate b, as the document says it? -/
def isB (s : Gr) (a b : Nat) : Bool := at_ (reach s 0 (-1)) b && (a == b || !at_ (reach s 0 (a : Int)) b)
theorem isB_iff {s : Gr} (hs : Ok s) {a b : Nat} : isB s a b = true ↔ DomB s a b := by
  have h1 : at_ (reach s 0 (-1)) b = true ↔ _ := reach_iff hs 0 (-1) b
  have e : (fun k : Nat => (k : Int) = -1) = fun _ => False := funext fun k => by simp
  have e2 : (fun k : Nat => (k : Int) = (a : Int)) = fun k => k = a := funext fun k => propext (by omega)
  rw [e] at h1
  have h2 : at_ (reach s 0 (a : Int)) b = true ↔ _ := reach_iff hs 0 (a : Int) b
  rw [e2] at h2
  unfold isB DomB
  rw [Bool.and_eq_true, Bool.or_eq_true, beq_iff_eq, Bool.not_eq_true', h1]
  refine and_congr_right fun _ => or_congr_right ?_
  rw [← h2]
  cases at_ (reach s 0 (a : Int)) b <;> simp
def cntB (s : Gr) (b : Nat) : Nat := ((List.range s.length).filter fun a => isB s a b).length
def bst (s : Gr) (b : Nat) (x : Int × Nat) (a : Nat) : Int × Nat := if a ≠ b ∧ isB s a b = true ∧ x.2 < cntB s a then ((a : Int), cntB s a) else x
def idB (s : Gr) (b : Nat) : Int := ((List.range s.length).foldl (bst s b) (-1, 0)).1
/-- All that is told of the blocks' order, and of what hangs above each place. -/
structure DO (s : Gr) (O : List Nat) (ov : Nat → Nat) : Prop where
  ok : Ok s
  pos : 0 < s.length
  o : IsO s O
  fall : Fall ov O.length
  dom : ∀ a b, DomB s a b ↔ a ∈ O ∧ b ∈ O ∧ An ov (pl O a) (pl O b)
section
variable {s : Gr} {O : List Nat} {ov : Nat → Nat}
theorem DO.lt (h : DO s O ov) {b : Nat} (hb : b ∈ O) : b < s.length := ((h.o.mem b).1 hb).lt h.ok
theorem nodup_same {a b : List Nat} (ha : a.Nodup) (hb : b.Nodup) (h : ∀ x, x ∈ a ↔ x ∈ b) : a.length = b.length :=
  Nat.le_antisymm (List.Nodup.length_le_of_subset ha fun x hx => (h x).1 hx) (List.Nodup.length_le_of_subset hb fun x hx => (h x).2 hx)
theorem map_nodup {l O : List Nat} (hO : O.Nodup) (hl : l.Nodup) (hm : ∀ p ∈ l, p < O.length) : (l.map fun p => O.getD p 0).Nodup := by
  rw [List.Nodup, List.pairwise_map]
  refine List.Pairwise.imp_of_mem (fun {p q} hp hq hne e => hne ?_) hl
  rw [List.getD_eq_getElem?_getD, List.getD_eq_getElem?_getD, List.getElem?_eq_getElem (hm p hp), List.getElem?_eq_getElem (hm q hq)] at e
  exact nodup_inj hO (hm p hp) (hm q hq) e
theorem getD_pl {b : Nat} (hb : b ∈ O) : O.getD (pl O b) 0 = b := by rw [List.getD_eq_getElem?_getD, at_pl hb]; rfl
theorem DO.cnt (h : DO s O ov) {b : Nat} (hb : b ∈ O) {l : List Nat} (hl : Ch ov (pl O b) l) : cntB s b = l.length := by
  have hbl := pl_lt hb
  have hm : ∀ p ∈ l, p < O.length := fun p hp => Nat.lt_of_le_of_lt ((hl.mem.1 hp).le h.fall hbl) hbl
  have h1 := nodup_same (a := (List.range s.length).filter fun a => isB s a b) (b := l.map fun p => O.getD p 0) (List.nodup_range.filter _) (map_nodup h.o.nd (hl.nodup h.fall hbl).1 hm) (fun x => by
    rw [List.mem_filter, List.mem_range, isB_iff h.ok, h.dom, List.mem_map]
    constructor
    · rintro ⟨_, hx, _, ha⟩
      exact ⟨pl O x, hl.mem.2 ha, getD_pl hx⟩
    · rintro ⟨p, hp, rfl⟩
      have hpl := hm p hp
      have hat : O[p]? = some (O.getD p 0) := by rw [List.getD_eq_getElem?_getD, List.getElem?_eq_getElem hpl]; rfl
      have hmem := List.mem_of_getElem? hat
      exact ⟨h.lt hmem, hmem, hb, by rw [pl_at h.o.nd hat]; exact hl.mem.1 hp⟩)
  unfold cntB
  rw [h1, List.length_map]
theorem DO.cnt_no (h : DO s O ov) {b : Nat} (hb : b ∉ O) : cntB s b = 0 := by
  unfold cntB
  rw [List.length_eq_zero_iff, List.filter_eq_nil_iff]
  intro a _ ha
  exact hb ((h.dom a b).1 ((isB_iff h.ok).1 ha)).2.1
/-- The nearest one, as places tell it. -/
def idO (O : List Nat) (ov : Nat → Nat) (b : Nat) : Int := if b ∈ O ∧ 0 < pl O b then ((O.getD (ov (pl O b)) 0 : Nat) : Int) else -1
theorem bst_inv (s : Gr) (b : Nat) (hp : ∀ a, isB s a b = true → 0 < cntB s a) : ∀ k, 
    (((List.range k).foldl (bst s b) (-1, 0)) = (-1, 0) ∧ ∀ a, a < k → ¬ (a ≠ b ∧ isB s a b = true)) ∨
    (∃ a, a < k ∧ a ≠ b ∧ isB s a b = true ∧ ((List.range k).foldl (bst s b) (-1, 0)) = ((a : Int), cntB s a) ∧ ∀ a', a' < k → a' ≠ b → isB s a' b = true → cntB s a' ≤ cntB s a)
  | 0 => .inl ⟨rfl, fun a h => by omega⟩
  | k + 1 => by
    rw [List.range_succ, List.foldl_append]
    show (bst s b ((List.range k).foldl (bst s b) (-1, 0)) k = _ ∧ _) ∨ (∃ a, _ ∧ _ ∧ _ ∧ bst s b ((List.range k).foldl (bst s b) (-1, 0)) k = _ ∧ _)
    rcases bst_inv s b hp k with ⟨e, h⟩ | ⟨a, h1, h2, h3, e, h4⟩
    · rw [e]
      by_cases hk : k ≠ b ∧ isB s k b = true
      · right
        refine ⟨k, by omega, hk.1, hk.2, ?_, fun a' ha' hb' hc' => ?_⟩
        · unfold bst; rw [if_pos ⟨hk.1, hk.2, hp k hk.2⟩]
        · by_cases e2 : a' = k
          · subst e2; exact Nat.le_refl _
          · exact (h a' (by omega) ⟨hb', hc'⟩).elim
      · left
        refine ⟨by unfold bst; rw [if_neg (fun h => hk ⟨h.1, h.2.1⟩)], fun a ha hc => ?_⟩
        by_cases e2 : a = k
        · subst e2; exact hk hc
        · exact h a (by omega) hc
    · rw [e]
      right
      by_cases hk : k ≠ b ∧ isB s k b = true ∧ cntB s a < cntB s k
      · refine ⟨k, by omega, hk.1, hk.2.1, by unfold bst; rw [if_pos hk], fun a' ha' hb' hc' => ?_⟩
        by_cases e2 : a' = k
        · subst e2; exact Nat.le_refl _
        · have := h4 a' (by omega) hb' hc'; omega
      · refine ⟨a, by omega, h2, h3, by unfold bst; rw [if_neg hk], fun a' ha' hb' hc' => ?_⟩
        by_cases e2 : a' = k
        · subst e2
          by_cases hlt : cntB s a < cntB s a'
          · exact (hk ⟨hb', hc', hlt⟩).elim
          · omega
        · exact h4 a' (by omega) hb' hc'
theorem DO.idom (h : DO s O ov) (b : Nat) : idB s b = idO O ov b := by
  have hp : ∀ a, isB s a b = true → 0 < cntB s a := fun a ha => by
    have h1 := (h.dom a b).1 ((isB_iff h.ok).1 ha)
    obtain ⟨l, hl⟩ := ch_ex h.fall _ (pl_lt h1.1)
    rw [h.cnt h1.1 hl]
    exact (hl.nodup h.fall (pl_lt h1.1)).2.1
  unfold idB idO
  by_cases hb : b ∈ O ∧ 0 < pl O b
  · rw [if_pos hb]
    have hbl := pl_lt hb.1
    have hlt := h.fall _ hb.2 hbl
    have hat : O[ov (pl O b)]? = some (O.getD (ov (pl O b)) 0) := by rw [List.getD_eq_getElem?_getD, List.getElem?_eq_getElem (by omega)]; rfl
    have hiO := List.mem_of_getElem? hat
    have hpi := pl_at h.o.nd hat
    have hc : O.getD (ov (pl O b)) 0 ≠ b ∧ isB s (O.getD (ov (pl O b)) 0) b = true := by
      refine ⟨fun e => ?_, (isB_iff h.ok).2 ((h.dom _ _).2 ⟨hiO, hb.1, by rw [hpi]; exact .up hb.2 .refl⟩)⟩
      rw [e] at hpi
      omega
    rcases bst_inv s b hp s.length with ⟨_, hn⟩ | ⟨a, h1, h2, h3, e, h4⟩
    · exact (hn _ (h.lt hiO) hc).elim
    · rw [e]
      have h5 := h4 _ (h.lt hiO) hc.1 hc.2
      have h6 := (h.dom a b).1 ((isB_iff h.ok).1 h3)
      have h7 : An ov (pl O a) (ov (pl O b)) := by
        rcases h6.2.2.cases_ with e2 | ⟨_, k⟩
        · exfalso
          have := at_pl h6.1
          rw [e2, at_pl hb.1] at this
          injection this with this
          exact h2 this.symm
        · exact k
      obtain ⟨l, hl⟩ := ch_ex h.fall _ (pl_lt h6.1)
      obtain ⟨k, hk⟩ := ch_ex h.fall (ov (pl O b)) (by omega)
      rw [h.cnt hiO (by rw [hpi]; exact hk), h.cnt h6.1 hl] at h5
      have h8 := hk.less hl h7
      have h9 := h8.2 (by omega)
      have h10 := at_pl h6.1
      rw [h9, hat] at h10
      injection h10 with h10
      show ((a : Nat) : Int) = _
      rw [h10]
  · rw [if_neg hb]
    rcases bst_inv s b hp s.length with ⟨e, _⟩ | ⟨a, h1, h2, h3, e, _⟩
    · rw [e]
    · exfalso
      have h6 := (h.dom a b).1 ((isB_iff h.ok).1 h3)
      have h0 : pl O b = 0 := by
        by_cases h0 : pl O b = 0
        · exact h0
        · exact (hb ⟨h6.2.1, by omega⟩).elim
      have h7 := h6.2.2
      rw [h0] at h7
      have h8 : pl O a = 0 := by
        rcases h7.cases_ with e2 | ⟨k, _⟩
        · exact e2
        · omega
      have h9 := at_pl h6.1
      rw [h8, ← h0, at_pl h6.2.1] at h9
      injection h9 with h9
      exact h2 h9.symm
end
end Go.Proofs.Ytojfbcfbnadboaa.Gra
