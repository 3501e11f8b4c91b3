/- The statement on telling again, in parts: a token's bytes; what is compared. -/
import Derived.Test.YtmckplgbaalpbaaDoorLexNumbers
import Derived.Test.YtmckplgbaalpbaaDoorQuoRef
import Derived.Test.YtmckplgbaalpbaaDoorLexText
namespace Go.Proofs.YtmckplgbaalpbaaDoor.Lex
open Go.ChangeShapes Go.WideShapes Go.RowKit
set_option linter.unusedVariables false
set_option maxRecDepth 20000

theorem again_v (t : Tok) (A : ByteArray) (hA : (⟨(again t).toArray⟩ : ByteArray) = A) (ht : t.text.length ≤ 10000) (w : World) : Calls Tryd.prog 12 #[tkv t] w fun e w' => e = .returned (.string A) ∧ Below w.heap.size w w' := by
  have B0 := Lib.hid ((Below.refl _ w).alloc (Nat.le_refl _) (.cells (tcl t) 37))
  unfold tkv tk tc
  by_cases hk : t.kind = 3
  · have c1 : ((t.kind : Int) == 3) = true := by rw [beq_iff_eq]; omega
    have hp : Quo.put (⟨t.text.toArray⟩ : ByteArray).data.toList = again t := by unfold again; rw [if_pos hk]
    have HP := Lib.hid (And.intro hp hA)
    clear hk hp hA
    go_enter Tryd.func12, Tryd.ntmps12
    go_wp2_with fail
    refine (Quo.refput_v _ _ HP.out.1 (by exact ht) _).mono ?_
    rintro e w1 ⟨rfl, hb⟩
    have B1 := Lib.hid (B0.out.trans (hb.mono B0.out.size))
    rw [HP.out.2]
    clear hb
    go_wp2_with fail
    go_ret
    exact ⟨rfl, B1.out⟩
  · have c1 : ((t.kind : Int) == 3) = false := by rw [beq_eq_false_iff_ne]; omega
    have hp : (⟨t.text.toArray⟩ : ByteArray) = A := by rw [← hA]; unfold again; rw [if_neg hk]
    rw [hp]
    rw [show tcl t = #[.int .i64 t.kind, .string A, .int .i64 t.n, .int .i64 t.cls, .int .i64 t.at_] by unfold tcl tc; rw [hp]] at B0
    clear hk hp hA
    go_enter Tryd.func12, Tryd.ntmps12
    go_wp2_with fail
    go_ret
    exact ⟨rfl, B0.out⟩
/-- The five cells of token k. -/
theorem cells5 {N : Nat} {w : World} {g c : Nat} {l : List Tok} (h : OwnK N w (some ⟨g, 0, none⟩) c l) (k : Nat) (hk : k < l.length) :
    w.cell? ⟨g, k * 5, none⟩ = some (.int .i64 l[k].kind) ∧ w.cell? ⟨g, k * 5 + 1, none⟩ = some (.string ⟨l[k].text.toArray⟩) ∧ w.cell? ⟨g, k * 5 + 2, none⟩ = some (.int .i64 l[k].n) ∧ w.cell? ⟨g, k * 5 + 3, none⟩ = some (.int .i64 l[k].cls) ∧ w.cell? ⟨g, k * 5 + 4, none⟩ = some (.int .i64 l[k].at_) := by
  obtain ⟨g', e, _, _, hc⟩ := h.form (by omega)
  injection e with e
  injection e with e1 e2
  subst e1
  exact ⟨hc k 0 hk (by decide), hc k 1 hk (by decide), hc k 2 hk (by decide), hc k 3 hk (by decide), hc k 4 hk (by decide)⟩
theorem cells5t {N : Nat} {w : World} {g c : Nat} {l : List Tok} (h : OwnK N w (some ⟨g, 0, none⟩) c l) (k : Nat) (t : Tok) (ht : l[k]? = some t) :
    w.cell? ⟨g, k * 5, none⟩ = some (.int .i64 t.kind) ∧ w.cell? ⟨g, k * 5 + 1, none⟩ = some (.string ⟨t.text.toArray⟩) ∧ w.cell? ⟨g, k * 5 + 2, none⟩ = some (.int .i64 t.n) ∧ w.cell? ⟨g, k * 5 + 3, none⟩ = some (.int .i64 t.cls) ∧ w.cell? ⟨g, k * 5 + 4, none⟩ = some (.int .i64 t.at_) := by
  obtain ⟨hk, rfl⟩ := List.getElem?_eq_some_iff.1 ht
  exact cells5 h k hk
theorem bare_teq {a b : Tok} (h : bare a = bare b) : teq a.kind ⟨a.text.toArray⟩ a.n a.cls 0 b.kind ⟨b.text.toArray⟩ b.n b.cls 0 = true := by
  unfold bare at h
  injection h with h1 h2 h3 h4 h5
  rw [h1, h2, h3, h4]
  exact teq_refl _ _ _ _ _
theorem map_at {l m : List Tok} (h : m.map bare = l.map bare) (k : Nat) (t : Tok) (ht : l[k]? = some t) : ∃ u, m[k]? = some u ∧ bare t = bare u := by
  have e : (m.map bare)[k]? = (l.map bare)[k]? := by rw [h]
  rw [List.getElem?_map, List.getElem?_map, ht] at e
  cases hu : m[k]? with
  | none => rw [hu] at e; cases e
  | some u => rw [hu] at e; injection e with e; exact ⟨u, rfl, e.symm⟩
end Go.Proofs.YtmckplgbaalpbaaDoor.Lex
