
/- slices.Sort and slices.Reverse at a list of the call's own, out of the library's contracts. -/
import Derived.Test.YtojfbcfbnadboaaGraClone
import Derived.Lib.RowBridge
import Derived.Laws.OwnMore
namespace Go.Proofs.Ytojfbcfbnadboaa.Gra
open Go.ChangeShapes Go.WideShapes Go.RowKit
set_option linter.unusedVariables false

theorem row_setCells {N n cap g : Nat} {T : TypeId} : ∀ (vs : List Value) (o : Nat) (w : World) (xs : List Value), w.ownsRow N T 1 (.slice (some ⟨g, 0, none⟩) n cap) n xs → xs.length = o + vs.length →
    (w.setCells g o vs).ownsRow N T 1 (.slice (some ⟨g, 0, none⟩) n cap) n (xs.take o ++ vs) ∧ w.grownBy (w.setCells g o vs) (some g)
  | [], o, w, xs, h, hl => by
    rw [List.append_nil, List.take_of_length_le (by simp at hl; omega)]
    exact ⟨h, World.grownBy.refl _ _⟩
  | v :: vs, o, w, xs, h, hl => by
    obtain ⟨h1, h2⟩ := h.stored o v
    obtain ⟨h3, h4⟩ := row_setCells vs (o + 1) (w.setCell ⟨g, o, none⟩ v) (xs.set o v) h1 (by rw [List.length_set, hl, List.length_cons]; omega)
    rw [List.length_cons] at hl
    have e : (xs.set o v).take (o + 1) ++ vs = xs.take o ++ v :: vs := by
      rw [List.take_add_one, List.getElem?_set, if_pos rfl, if_pos (by omega), List.take_set_of_le (Nat.le_refl _)]
      simp
    rw [e] at h3
    exact ⟨h3, gtrans h2 h4⟩
theorem intC_map : ∀ l : List Int, l.flatMap intC = l.map (Value.int .i64)
  | [] => rfl
  | x :: l => by rw [List.flatMap_cons, List.map_cons, intC_map l]; rfl
theorem own_turned {N c g : Nat} {w w1 : World} {l l' : List Int} (h : OwnL 3 1 intC N w (some ⟨g, 0, none⟩) c l) (hl : l'.length = l.length) (q : Nat) (hw : (w.drewN q).setCells g 0 (l'.map (Value.int .i64)) = w1) : OwnL 3 1 intC N w1 (some ⟨g, 0, none⟩) c l' ∧ w.grownBy w1 (some g) := by
  subst hw
  have h1 : (w.drewN q).ownsRow N 3 1 (.slice (some ⟨g, 0, none⟩) l.length c) l.length (l.flatMap intC) := h
  obtain ⟨h2, h3⟩ := row_setCells (l'.map (Value.int .i64)) 0 (w.drewN q) _ h1 (by rw [intC_map]; simp [hl])
  unfold OwnL
  rw [hl, intC_map]
  exact ⟨h2, ⟨h3.os, h3.tape, h3.output, h3.size, h3.block⟩⟩
theorem own_holds {N c g : Nat} {w : World} {l : List Int} (h : OwnL 3 1 intC N w (some ⟨g, 0, none⟩) c l) : Go.Sort.Holds (Value.int .i64) w g 0 l.toArray := by
  intro j hj
  have hj : j < l.length := by simpa using hj
  have h1 : w.ownsRow N 3 1 (.slice (some ⟨g, 0, none⟩) l.length c) l.length (l.flatMap intC) := h
  rw [Nat.zero_add]
  refine ⟨?_, h1.frozenAt j⟩
  rw [h1.cellAt j (by omega), intC_map, List.getElem?_map, List.getElem?_eq_getElem hj]
  simp [hj]
theorem own_nil {N c m : Nat} {w : World} {B : Option Addr} {l : List Int} (h : OwnL 3 1 intC N w B c l) (hB : B = none ∨ l.length = 0) : l = [] := by
  rcases hB with rfl | h0
  · obtain ⟨_, ⟨_, h2⟩ | ⟨g, cap, cur, e, _⟩⟩ := h
    · exact List.eq_nil_of_length_eq_zero h2
    · injection e with e _ _
      cases e
  · exact List.eq_nil_of_length_eq_zero h0
theorem own_head {N c : Nat} {w : World} {b : Addr} {l : List Int} (h : OwnL 3 1 intC N w (some b) c l) : ∃ g, b = ⟨g, 0, none⟩ := by
  obtain ⟨_, ⟨h2, _⟩ | ⟨g, cap, cur, e, _⟩⟩ := h
  · injection h2 with e _ _
    cases e
  · injection e with e _ _
    injection e with e
    exact ⟨g, e⟩
theorem sort_v (N : Nat) (B : Option Addr) (m c : Nat) (l : List Nat) (w : World) (h : OwnL 3 1 intC N w B c (nn l)) (hl : l.length = m) (hm : m ≤ 1000000) :
    Calls Try.prog 41 #[.slice B m c] w fun e w' => e = .returned (.tuple #[]) ∧ OwnL 3 1 intC N w' B c (nn (l.mergeSort fun x y => decide (x ≤ y))) ∧ w.grownBy w' (Value.ownBlock (.slice B m c)) := by
  have hs : nn (l.mergeSort fun x y => decide (x ≤ y)) = (nn l).mergeSort fun x y => decide (x ≤ y) := by
    unfold nn
    exact List.map_mergeSort (fun a _ b _ => by show decide (a ≤ b) = decide ((a : Int) ≤ (b : Int)); rw [decide_eq_decide]; omega)
  rw [hs]
  cases B with
  | none =>
    obtain e := own_nil (m := 0) h (.inl rfl)
    have h0 : m = 0 := by rw [← hl, ← nn_len, e]; rfl
    subst h0
    rw [e]
    refine (Try.slices_Sort_int_none none c w).mono ?_
    rintro e w' ⟨rfl, rfl⟩
    exact ⟨rfl, by rw [List.mergeSort_nil]; rw [← e]; exact h, grefl _ _⟩
  | some b =>
    obtain ⟨g, rfl⟩ := own_head h
    have hlen : (nn l).length = m := by rw [nn_len]; exact hl
    have hlt := (h.lo g (by rfl)).2
    subst hlen
    refine (Try.slices_Sort_int g 0 c (nn l) w (own_holds h) hlt (by omega)).mono ?_
    rintro e w' ⟨rfl, q, os, rfl⟩
    have e2 := Lib.putRow_eq_setCells (Value.int .i64) w g 0 (nn l).toArray ((nn l).mergeSort fun x y => decide (x ≤ y)) q (own_holds h) (by simp)
    obtain ⟨h1, h2⟩ := own_turned (l' := (nn l).mergeSort fun x y => decide (x ≤ y)) h (by simp) q e2.symm
    have hb : ∀ W : World, Below W.heap.size W (Sort.grow W os) := fun W => ⟨rfl, rfl, rfl, by simp [Sort.grow], fun k hk => by simp [Sort.grow, Array.getElem?_append, hk]⟩
    exact ⟨rfl, h1.below (hb _), gtrans h2 (gbelow (hb _) _)⟩
theorem reverse_v (N : Nat) (B : Option Addr) (m c : Nat) (l : List Nat) (w : World) (h : OwnL 3 1 intC N w B c (nn l)) (hl : l.length = m) (hm : m ≤ 1000000) :
    Calls Try.prog 50 #[.slice B m c] w fun e w' => e = .returned (.tuple #[]) ∧ OwnL 3 1 intC N w' B c (nn l.reverse) ∧ w.grownBy w' (Value.ownBlock (.slice B m c)) := by
  have hs : nn l.reverse = (nn l).reverse := by unfold nn; rw [List.map_reverse]
  rw [hs]
  cases B with
  | none =>
    obtain e := own_nil (m := 0) h (.inl rfl)
    have h0 : m = 0 := by rw [← hl, ← nn_len, e]; rfl
    subst h0
    refine (Try.slices_Reverse_int_empty none c w).mono ?_
    rintro e w' ⟨rfl, rfl⟩
    exact ⟨rfl, by rw [e, List.reverse_nil]; rw [← e]; exact h, grefl _ _⟩
  | some b =>
    obtain ⟨g, rfl⟩ := own_head h
    have hlen : (nn l).length = m := by rw [nn_len]; exact hl
    subst hlen
    refine (Try.slices_Reverse_int g 0 c (nn l) w (own_holds h) (by omega)).mono ?_
    rintro e w' ⟨rfl, q, rfl⟩
    have e2 := Lib.putRow_eq_setCells (Value.int .i64) w g 0 (nn l).toArray (nn l).reverse q (own_holds h) (by simp)
    obtain ⟨h1, h2⟩ := own_turned (l' := (nn l).reverse) h (by simp) q e2.symm
    exact ⟨rfl, h1, h2⟩
end Go.Proofs.Ytojfbcfbnadboaa.Gra
