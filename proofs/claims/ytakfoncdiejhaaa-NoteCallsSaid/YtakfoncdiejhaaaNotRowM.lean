
/- Segments in a row: their texts, plain; what a part of a list of segments is in memory. -/
import Derived.Test.YtakfoncdiejhaaaNotMath
import Derived.Test.YtakfoncdiejhaaaIrLarge
namespace Go.Proofs.Ytakfoncdiejhaaa
open Go.ChangeShapes Go.WideShapes Go.RowKit
set_option linter.unusedVariables false
set_option maxRecDepth 20000

/-- The first so many, and no more, have this virtual register. -/
def Alk (l : List Sg) (m : Nat) (v : Int) : Prop := 0 < m ∧ m ≤ l.length ∧ (∀ (j : Nat) (x : Sg), j < m → l[j]? = some x → x.v = v) ∧ ∀ x : Sg, l[m]? = some x → x.v ≠ v
/-- A row's text. -/
def rowsT (l : List Sg) (v : Int) : List UInt8 := [32, 32, 37] ++ (Deci.txt v ++ ([58, 32] ++ (rowT (l.map segT) ++ [59, 10])))
/-- A row may begin here. -/
def Start (l : List Sg) (k : Nat) : Prop := k = 0 ∨ ∀ x y : Sg, l[k - 1]? = some x → l[k]? = some y → x.v ≠ y.v
theorem getD_of {l : List Sg} {k : Nat} {x : Sg} (h : l[k]? = some x) : l.getD k default = x := by rw [List.getD_eq_getElem?_getD, h]; rfl
theorem segsTo_row (l : List Sg) (k m : Nat) (v : Int) (hs : Start l k) (ha : Alk (l.drop k) m v) : segsTo l (k + m) = segsTo l k ++ rowsT ((l.drop k).take m) v := by
  obtain ⟨h0, hm, hin, hout⟩ := ha
  rw [List.length_drop] at hm
  have claim : ∀ j, 0 < j → j ≤ m → segsTo l (k + j) = segsTo l k ++ ([32, 32, 37] ++ (Deci.txt v ++ ([58, 32] ++ (rowT (((l.drop k).take j).map segT) ++ lstT (j == m))))) := by
    intro j
    induction j with
    | zero => intro h; omega
    | succ j ih =>
      intro _ hj
      have hlt : k + j < l.length := by omega
      have hx : l[k + j]? = some l[k + j] := List.getElem?_eq_getElem hlt
      obtain ⟨x, hxe⟩ : ∃ x, l[k + j] = x := ⟨_, rfl⟩
      rw [hxe] at hx
      have hdx : (l.drop k)[j]? = some x := by rw [List.getElem?_drop]; exact hx
      have hv : x.v = v := hin j x (by omega) hdx
      have hst := segsTo_step l (k + j) x hx
      have hrow : rowT (((l.drop k).take (j + 1)).map segT) = rowT (((l.drop k).take j).map segT) ++ sepT j ++ segT x := by
        rw [List.map_take, List.map_take]
        exact rowT_take ((l.drop k).map segT) j (segT x) (by rw [List.getElem?_map, hdx]; rfl)
      have hlst : lstB l (k + j) x = (j + 1 == m) := by
        unfold lstB
        by_cases e : j + 1 = m
        · rw [show (j + 1 == m) = true by simp [e]]
          by_cases e2 : k + j + 1 = l.length
          · simp [e2]
          · have hy : l[k + j + 1]? = some l[k + j + 1] := List.getElem?_eq_getElem (by omega)
            have hne : l[k + j + 1].v ≠ v := hout l[k + j + 1] (by rw [List.getElem?_drop, ← e]; exact hy)
            rw [getD_of hy, hv]
            simp [hne]
        · rw [show (j + 1 == m) = false by simp [e]]
          have hy : l[k + j + 1]? = some l[k + j + 1] := List.getElem?_eq_getElem (by omega)
          have he : l[k + j + 1].v = v := hin (j + 1) l[k + j + 1] (by omega) (by rw [List.getElem?_drop]; exact hy)
          rw [getD_of hy, hv]
          have e3 : ¬ k + j + 1 = l.length := by omega
          simp [e3, he]
      have hsa : segAt l (k + j) x = fstT (fstB l (k + j) x) v ++ (segT x ++ lstT (j + 1 == m)) := by unfold segAt; rw [hlst, hv]
      rw [show k + (j + 1) = k + j + 1 by omega, hst, hsa, hrow]
      by_cases e0 : j = 0
      · subst e0
        have hf : fstB l (k + 0) x = true := by
          unfold fstB
          by_cases ek : k = 0
          · simp [ek]
          · rcases hs with h | h
            · exact absurd h ek
            · have hz : l[k - 1]? = some l[k - 1] := List.getElem?_eq_getElem (by omega)
              have hne := h l[k - 1] x hz hx
              rw [show k + 0 - 1 = k - 1 by omega, getD_of hz]
              simp [hne]
        rw [hf]
        simp [fstT, sepT, rowT]
      · have hf : fstB l (k + j) x = false := by
          unfold fstB
          have hz : l[k + j - 1]? = some l[k + j - 1] := List.getElem?_eq_getElem (by omega)
          have he : l[k + j - 1].v = v := hin (j - 1) l[k + j - 1] (by omega) (by rw [List.getElem?_drop, show k + (j - 1) = k + j - 1 by omega]; exact hz)
          rw [getD_of hz, he, hv]
          have e4 : ¬ (k = 0 ∧ j = 0) := by omega
          simp [e0]
        have hjm : (j == m) = false := by simp; omega
        rw [hf, ih (by omega) (by omega), hjm]
        simp [fstT, sepT, lstT, e0]
  have := claim m h0 (Nat.le_refl _)
  rw [this]
  unfold rowsT
  simp [lstT]
theorem start_next (l : List Sg) (k m : Nat) (v : Int) (ha : Alk (l.drop k) m v) : Start l (k + m) := by
  obtain ⟨h0, hm, hin, hout⟩ := ha
  refine .inr fun x y hx hy => ?_
  rw [hin (m - 1) x (by omega) (by rw [List.getElem?_drop, show k + (m - 1) = k + m - 1 by omega]; exact hx)]
  exact fun e => hout y (by rw [List.getElem?_drop]; exact hy) e.symm
/-- Where a part of a list begins that begins at its m-th element. -/
def lowA (A : Option Addr) (c m : Nat) : Option Addr := if c = m then A else A.map (·.add (m * 6))
theorem IsSegs.drop {w : World} {A : Option Addr} {n c m : Nat} {l : List Sg} (h : IsSegs w A n l) (hm : m ≤ n) (hc : n ≤ c) : IsSegs w (lowA A c m) (n - m) (l.drop m) := by
  by_cases e : c = m
  · have : n - m = 0 := by omega
    rw [this, List.drop_eq_nil_of_le (by have := h.1; omega)]
    exact IsSegs.nil _ _
  · obtain ⟨h1, h2, h3 | ⟨b, o, rfl, hb, hc2⟩⟩ := h
    · subst h3
      simp at h1
      subst h1
      have : m = 0 := by omega
      subst this
      exact ⟨rfl, by omega, .inl rfl⟩
    · refine ⟨by rw [List.length_drop]; omega, by omega, .inr ⟨b, o + m * 6, ?_, hb, fun k hk => ?_⟩⟩
      · unfold lowA; rw [if_neg e]; simp only [Option.map_some]; rw [add_at]
      · rw [List.length_drop] at hk
        have := hc2 (m + k) (by omega)
        rw [List.getElem_drop]
        rw [show o + m * 6 + k * 6 = o + (m + k) * 6 by omega]
        exact this
theorem IsSegs.take {w : World} {A : Option Addr} {n m : Nat} {l : List Sg} (h : IsSegs w A n l) (hm : m ≤ n) : IsSegs w A m (l.take m) := by
  obtain ⟨h1, h2, h3 | ⟨b, o, rfl, hb, hc2⟩⟩ := h
  · subst h3
    simp at h1
    subst h1
    have : m = 0 := by omega
    subst this
    exact ⟨rfl, by omega, .inl rfl⟩
  · refine ⟨by rw [List.length_take]; omega, by omega, .inr ⟨b, o, rfl, hb, fun k hk => ?_⟩⟩
    rw [List.length_take] at hk
    have := hc2 k (by omega)
    rw [List.getElem_take]
    exact this
theorem cut_hi (A : Option Addr) (n c m : Nat) (h : m ≤ c) (W : World) : (Instr.slice 36 (.slice A n c) none (some (.int .i64 (m : Int))) none).run Try.prog W = .ok (.slice A m c) W := by
  rw [run_slice_h W 36 A n c Try.underlying36 .i64 _ (by omega) (by omega)]
  simp [go_sem]
theorem cut_lo (A : Option Addr) (n c m : Nat) (h : m ≤ n) (W : World) : (Instr.slice 36 (.slice A n c) (some (.int .i64 (m : Int))) none none).run Try.prog W = .ok (.slice (lowA A c m) (n - m) (c - m)) W := by
  rw [run_slice_l W 36 A n c Try.underlying36 .i64 _ (by omega) (by omega)]
  have e : sliced A ((m : Int)).toNat n c 6 = .slice (lowA A c m) (n - m) (c - m) := by
    unfold sliced lowA; simp
  have e6 : (sizeOf (Try.prog.elem 36)).run Try.prog W = .ok 6 W := by kernel_rfl
  rw [e6]
  simp only [Result.andThen]
  rw [e]
end Go.Proofs.Ytakfoncdiejhaaa
