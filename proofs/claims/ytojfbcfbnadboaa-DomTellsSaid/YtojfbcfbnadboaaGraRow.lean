
/- Rows of lists of the call's own, each of which may grow. -/
import Derived.Test.YtojfbcfbnadboaaGraJn
import Derived.Test.YtojfbcfbnadboaaGraIn
import Derived.Test.YtojfbcfbnadboaaGraRea
namespace Go.Proofs.Ytojfbcfbnadboaa.Gra
open Go.ChangeShapes Go.WideShapes Go.RowKit
set_option linter.unusedVariables false
set_option maxRecDepth 20000

def ilB (x : Il) : Option Nat := Value.ownBlock (.slice x.A x.n x.c)
/-- Cells of a block that have lists. -/
structure RC (W : World) (g n : Nat) (v : Nat → Il) : Prop where
  lt : g < W.heap.size
  cell : ∀ k, k < n → W.cell? ⟨g, k, none⟩ = some (.slice (v k).A (v k).n (v k).c)
  free : ∀ k, W.frozen? ⟨g, k, none⟩ = false
theorem RC.grown {W W' : World} {g n : Nat} {v : Nat → Il} {row : Option Nat} (h : RC W g n v) (hg : W.grownBy W' row) (hne : row ≠ some g) : RC W' g n v :=
  ⟨Nat.lt_of_lt_of_le h.lt hg.size, fun k hk => (hg.cell_far ⟨g, k, none⟩ h.lt (fun e => hne e.symm)).trans (h.cell k hk), fun k => (hg.frozen_far ⟨g, k, none⟩ h.lt (fun e => hne e.symm)).trans (h.free k)⟩
theorem RC.below {W W' : World} {g n : Nat} {v : Nat → Il} (h : RC W g n v) (hb : Below W.heap.size W W') : RC W' g n v :=
  h.grown (row := none) ⟨hb.os, hb.tape, hb.output, hb.size, fun k hk _ => hb.block k hk⟩ (by simp)
theorem RC.put {W : World} {g n i : Nat} {v : Nat → Il} (h : RC W g n v) (hi : i < n) (x : Il) : RC (W.setCell ⟨g, i, none⟩ (.slice x.A x.n x.c)) g n (upd v i x) := by
  refine ⟨by simpa [World.setCell] using h.lt, fun j hj => ?_, fun j => by rw [World.frozen?_setCell]; exact h.free j⟩
  by_cases e : j = i
  · subst e
    rw [World.cell?_setCell_same (h := h.cell j hi), upd_same]
  · rw [World.cell?_setCell_other (h := by intro q; injection q with _ q; exact e q.symm), h.cell j hj, upd_else _ _ e]
theorem RC.other {W : World} {g n b o : Nat} {v : Nat → Il} (h : RC W g n v) (hb : b ≠ g) (x : Value) : RC (W.setCell ⟨b, o, none⟩ x) g n v :=
  ⟨by simpa [World.setCell] using h.lt, fun j hj => by rw [World.cell?_setCell_other (h := by intro q; injection q with q _; exact hb q)]; exact h.cell j hj, fun j => by rw [World.frozen?_setCell]; exact h.free j⟩
theorem RC.congr {W : World} {g n : Nat} {v u : Nat → Il} (h : RC W g n v) (he : ∀ k, k < n → v k = u k) : RC W g n u :=
  ⟨h.lt, fun k hk => by rw [← he k hk]; exact h.cell k hk, h.free⟩
/-- Lists of the call's own, all in blocks of their own, and in none of some. -/
structure Fam (N : Nat) (W : World) (hs : List Nat) (m : Nat) (v : Nat → Il) : Prop where
  own : ∀ k, k < m → OwnL 3 1 intC N W (v k).A (v k).c (nn (v k).l)
  len : ∀ k, k < m → (v k).l.length = (v k).n
  hd : ∀ h ∈ hs, h < W.heap.size
  far : ∀ k, k < m → ∀ b, ilB (v k) = some b → b ∉ hs
  ap : ∀ j k, j < m → k < m → j ≠ k → ∀ b, ilB (v j) = some b → ilB (v k) ≠ some b
theorem Fam.lo {N m : Nat} {W : World} {hs : List Nat} {v : Nat → Il} (h : Fam N W hs m v) {k : Nat} (hk : k < m) {b : Nat} (hb : ilB (v k) = some b) : N ≤ b ∧ b < W.heap.size :=
  (h.own k hk).lo b (by rw [nn_len, h.len k hk]; exact hb)
theorem Fam.start {N m : Nat} {W : World} {hs : List Nat} (hh : ∀ h ∈ hs, h < W.heap.size) : Fam N W hs m (fun _ => ⟨none, 0, 0, []⟩) :=
  ⟨fun _ _ => OwnL.nil, fun _ _ => rfl, hh, fun _ _ b hb => (by cases hb), fun _ _ _ _ _ b hb => (by cases hb)⟩
theorem Fam.keep {N m : Nat} {W W' : World} {hs : List Nat} {v : Nat → Il} {M : Nat → Prop} (h : Fam N W hs m v) (hv : Mv M W W') (hM : ∀ k, k < m → ∀ b, ilB (v k) = some b → ¬ M b) : Fam N W' hs m v :=
  ⟨fun k hk => mown_mv (h.own k hk) hv (fun b hb => hM k hk b (by rw [nn_len, h.len k hk] at hb; exact hb)), h.len, fun q hq => Nat.lt_of_lt_of_le (h.hd q hq) hv.size, h.far, h.ap⟩
theorem Fam.below {N m : Nat} {W W' : World} {hs : List Nat} {v : Nat → Il} (h : Fam N W hs m v) (hb : Below W.heap.size W W') : Fam N W' hs m v :=
  h.keep (M := fun _ => False) (Mv.of hb) (fun _ _ _ _ => id)
theorem Fam.put {N m g o : Nat} {W : World} {hs : List Nat} {v : Nat → Il} (h : Fam N W hs m v) (hg : g ∈ hs) (x : Value) : Fam N (W.setCell ⟨g, o, none⟩ x) hs m v :=
  h.keep (M := fun k => k = g) (put_mv x rfl) (fun k hk b hb e => h.far k hk b hb (e ▸ hg))
theorem Fam.grow {N m i g' c' n' : Nat} {W W' : World} {hs : List Nat} {v : Nat → Il} {l' : List Nat} (h : Fam N W hs m v) (hi : i < m) (ho : OwnL 3 1 intC N W' (some ⟨g', 0, none⟩) c' (nn l')) (hl : l'.length = n') (hg : W.grownBy W' (ilB (v i))) (hat : ilB (v i) = some g' ∨ g' = W.heap.size) :
    Fam N W' hs m (upd v i ⟨some ⟨g', 0, none⟩, n', c', l'⟩) := by
  have hnew : ∀ b, ilB (⟨some ⟨g', 0, none⟩, n', c', l'⟩ : Il) = some b → b = g' := fun b hb => by injection hb with hb; exact hb.symm
  refine ⟨fun k hk => ?_, fun k hk => ?_, fun q hq => Nat.lt_of_lt_of_le (h.hd q hq) hg.size, fun k hk b hb => ?_, fun j k hj hk hjk b hb hb2 => ?_⟩
  · by_cases e : k = i
    · subst e; rw [upd_same]; exact ho
    · rw [upd_else _ _ e]
      exact mother (h.own k hk) hg (fun b hb q => h.ap k i hk hi e b (by rw [nn_len, h.len k hk] at hb; exact hb) q.symm)
  · by_cases e : k = i
    · subst e; rw [upd_same]; exact hl
    · rw [upd_else _ _ e]; exact h.len k hk
  · by_cases e : k = i
    · subst e
      rw [upd_same] at hb
      have := hnew b hb
      subst this
      rcases hat with hat | hat
      · exact h.far k hk b hat
      · intro hm
        have := h.hd b hm
        omega
    · rw [upd_else _ _ e] at hb; exact h.far k hk b hb
  · by_cases e : j = i
    · subst e
      rw [upd_same] at hb
      rw [upd_else _ _ (fun q => hjk q.symm)] at hb2
      have := hnew b hb
      subst this
      rcases hat with hat | hat
      · exact h.ap j k hj hk hjk b hat hb2
      · have := (h.lo hk hb2).2
        omega
    · rw [upd_else _ _ e] at hb
      by_cases e2 : k = i
      · subst e2
        rw [upd_same] at hb2
        have := hnew b hb2
        subst this
        rcases hat with hat | hat
        · exact h.ap j k hj hk hjk b hb hat
        · have := (h.lo hj hb).2
          omega
      · rw [upd_else _ _ e2] at hb2
        exact h.ap j k hj hk hjk b hb hb2
/-- Such rows are a list of lists. -/
theorem RC.gr {W : World} {g n N : Nat} {v : Nat → Il} {s : Gr} (h : RC W g n v) (hn : n ≤ 9223372036854775807) (ho : ∀ k, k < n → OwnL 3 1 intC N W (v k).A (v k).c (nn (v k).l) ∧ (v k).l.length = (v k).n) (hs : s.length = n) (he : ∀ k, k < n → nx s k = (v k).l) : IsGr W (some ⟨g, 0, none⟩) n s := by
  refine ⟨hs, hn, .inr ⟨g, 0, rfl, h.lt, fun k hk => ⟨(v k).A, (v k).n, (v k).c, by rw [Nat.zero_add]; exact h.cell k (by omega), ?_⟩⟩⟩
  obtain ⟨h1, h2⟩ := ho k (by omega)
  have h3 := h1.ints
  rw [nn_len, h2] at h3
  rw [he k (by omega)]
  exact h3
/-- A block of lists that was made. -/
theorem nil_cell {n k : Nat} (hk : k < n) : (madeCells #[Value.slice none 0 0] n).toList[k]? = some (Value.slice none 0 0) := by
  rw [toList_madeCells_one, List.getElem?_replicate, if_pos hk]
theorem rc_made {N : Nat} {w : World} {g n : Nat} (h : w.ownsRow N 37 1 (.slice (some ⟨g, 0, none⟩) n n) n (madeCells #[Value.slice none 0 0] n).toList) : RC w g n (fun _ => ⟨none, 0, 0, []⟩) := by
  have h1 := h.lt g rfl
  exact ⟨h1.2, fun k hk => by rw [h.cellAt k (by omega)]; exact nil_cell hk, fun k => h.frozenAt k⟩
theorem ilInfo : (Try.prog.info? 37).map (fun i => (i.zero, i.size, i.bytes)) = some (some (.slice none 0 0), 1, 24) := by kernel_rfl
end Go.Proofs.Ytojfbcfbnadboaa.Gra
