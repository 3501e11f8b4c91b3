/- A number's text, by itself or behind a sign, as a token. -/
import Derived.Test.YtmckplgbaalpbaaDoorLexMore
namespace Go.Proofs.YtmckplgbaalpbaaDoor.Lex
set_option linter.unusedVariables false

theorem dgt_digs (u : Nat) : ∀ c ∈ Deci.digs u, dgt c = true := by
  intro c hc
  have := Deci.digs_all u c hc
  unfold dgt; simp; omega
theorem dg_digs (u : Nat) : dg (Deci.digs u) = Deci.digs u := by
  have := dg_cat (Deci.digs u) [] (dgt_digs u) (by intro c h; cases h)
  rwa [List.append_nil] at this
theorem digs_ok (u : Nat) : ¬ (Deci.digs u = [] ∨ ((Deci.digs u).head? = some 48 ∧ 1 < (Deci.digs u).length)) := by
  rintro (h | ⟨h1, h2⟩)
  · have := Deci.digs_pos u; rw [h] at this; cases this
  · have := Deci.digs_head u 48 h1 (by decide)
    subst this
    rw [Deci.digs_zero] at h2; simp at h2
theorem vcode_digs (top u : Nat) : vcode top (Deci.digs u) = if top < u then 2 else 0 := by
  unfold vcode; rw [if_neg (digs_ok u), Deci.val_digs]
theorem numb_digs (kind cls top : Nat) (pre : List UInt8) (u : Nat) (hu : u < 9223372036854775808) : numb kind cls top pre (Deci.digs u) 0 = if top < u then .bad 2 0 else .tok ⟨kind, pre ++ Deci.digs u, u, cls, 0⟩ (pre.length + (Deci.digs u).length) := by
  unfold numb
  rw [dg_digs, vcode_digs, Deci.val_digs]
  by_cases h : top < u
  · rw [if_pos h, if_pos h, if_neg (by decide)]
  · rw [if_neg h, if_neg h, if_pos rfl]
    unfold wrapN; rw [if_pos hu]
/-- The five ways. -/
def aheads : List (List UInt8 × Nat × Nat × Nat) := [([], 2, 0, 9223372036854775808), ([37], 4, 0, 2147483647), ([35], 6, 0, 2147483647), ([36, 103], 5, 0, 2147483647), ([36, 120], 5, 1, 2147483647)]
theorem nx_ahead {pre : List UInt8} {kind cls top : Nat} (h : (pre, kind, cls, top) ∈ aheads) (u : Nat) : nx (pre ++ Deci.digs u) 0 = numb kind cls top pre (Deci.digs u) 0 := by
  unfold aheads at h
  simp only [List.mem_cons, Prod.mk.injEq, List.not_mem_nil, or_false] at h
  rcases h with ⟨rfl, rfl, rfl, rfl⟩ | ⟨rfl, rfl, rfl, rfl⟩ | ⟨rfl, rfl, rfl, rfl⟩ | ⟨rfl, rfl, rfl, rfl⟩ | ⟨rfl, rfl, rfl, rfl⟩
  · obtain ⟨c, r, e⟩ : ∃ c r, Deci.digs u = c :: r := by
      cases hd : Deci.digs u with
      | nil => have := Deci.digs_pos u; rw [hd] at this; cases this
      | cons c r => exact ⟨c, r, rfl⟩
    have hc := Deci.digs_all u c (by rw [e]; exact List.mem_cons_self ..)
    have hd : dgt c = true := dgt_digs u c (by rw [e]; exact List.mem_cons_self ..)
    have nb : blank c = false := by
      unfold blank
      simp only [Bool.or_eq_false_iff, decide_eq_false_iff_not]
      refine ⟨⟨⟨?_, ?_⟩, ?_⟩, ?_⟩ <;> (intro e; subst e; revert hc; decide)
    have ne : ∀ k : UInt8, dgt k = false → c ≠ k := fun k hk e => by rw [e, hk] at hd; cases hd
    have nl : ¬ Nam.letter c = true := by
      unfold Nam.letter
      simp; omega
    rw [List.nil_append, e, nx_plain nb (ne 47 (by decide)) (ne 34 (by decide))]
    unfold plain
    rw [if_neg nl, if_neg (ne 37 (by decide)), if_neg (ne 35 (by decide)), if_neg (ne 36 (by decide)), if_pos hd]
  · rw [List.cons_append, nx_plain (by decide) (by decide) (by decide)]
    unfold plain; rw [if_neg (by decide), if_pos rfl]; rfl
  · rw [List.cons_append, nx_plain (by decide) (by decide) (by decide)]
    unfold plain; rw [if_neg (by decide), if_neg (by decide), if_pos rfl]; rfl
  · rw [List.cons_append, nx_plain (by decide) (by decide) (by decide)]
    unfold plain; rw [if_neg (by decide), if_neg (by decide), if_neg (by decide), if_pos rfl]; rfl
  · rw [List.cons_append, nx_plain (by decide) (by decide) (by decide)]
    unfold plain; rw [if_neg (by decide), if_neg (by decide), if_neg (by decide), if_pos rfl]; rfl
/-- All tokens of such a text. -/
theorem all_num {pre : List UInt8} {kind cls top : Nat} (h : (pre, kind, cls, top) ∈ aheads) (u : Nat) (hu : u < 9223372036854775808) :
    all (pre ++ Deci.digs u) = if top < u then ([], 2, 0) else ([⟨kind, pre ++ Deci.digs u, u, cls, 0⟩, ⟨0, [], 0, 0, (pre ++ Deci.digs u).length⟩], 0, 0) := by
  have hl := Deci.digs_le 18 u (by omega)
  have hp : pre.length ≤ 2 := by
    unfold aheads at h
    simp only [List.mem_cons, Prod.mk.injEq, List.not_mem_nil, or_false] at h
    rcases h with ⟨rfl, _⟩ | ⟨rfl, _⟩ | ⟨rfl, _⟩ | ⟨rfl, _⟩ | ⟨rfl, _⟩ <;> decide
  have hn := nx_ahead h u
  rw [numb_digs kind cls top pre u hu] at hn
  have h0 : 0 < (pre ++ Deci.digs u).length := by have := Deci.digs_pos u; rw [List.length_append]; omega
  rw [rest_start (by rw [List.length_append]; omega)]
  by_cases ht : top < u
  · rw [if_pos ht] at hn ⊢
    exact rest_bad [] h0 (by rw [List.drop_zero]; exact hn)
  · rw [if_neg ht] at hn ⊢
    obtain ⟨e, _, _⟩ := rest_tok (s := pre ++ Deci.digs u) (at_ := 0) [] (by rw [List.drop_zero]; exact hn)
    rw [e, Nat.zero_add, ← List.length_append, rest_end]; rfl
end Go.Proofs.YtmckplgbaalpbaaDoor.Lex
