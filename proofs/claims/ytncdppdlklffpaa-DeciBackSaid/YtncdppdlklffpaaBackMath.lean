/- A number's text is read as it was; what is read is a number's text: as plain mathematics. -/
import Derived.Test.YtncdppdlklffpaaScanMath
namespace Go.Proofs.Ytncdppdlklffpaa
set_option linter.unusedVariables false

theorem at_list (s : ByteArray) (i : Nat) (h : i < s.size) : s.data.toList[i]? = some s[i] := by
  have h2 : i < s.data.toList.length := by rw [Array.length_toList]; exact h
  rw [List.getElem?_eq_getElem h2]; rfl
theorem dgs_list (s : ByteArray) (fr fin : Nat) : dgs s fr fin = (s.data.toList.drop fr).take (fin - fr) := by
  unfold dgs; rw [ByteArray.data_extract]; simp
theorem len_list (s : ByteArray) : s.data.toList.length = s.size := by rw [Array.length_toList]; rfl
def sg (m : Bool) : List UInt8 := if m then [45] else []
/-- A text that is laid so is scanned so. -/
theorem Scn.of_lists (s : ByteArray) (A D B : List UInt8) (m : Bool) (h : s.data.toList = A ++ (sg m ++ (D ++ B))) (hd : ∀ c ∈ D, isDig c) (hb : ∀ c, B.head? = some c → ¬ isDig c) (hm : m = false → ∀ c, (D ++ B).head? = some c → c.toNat ≠ 45) :
    Scn s A.length m (A.length + (sg m).length) (A.length + (sg m).length + D.length) ∧ dgs s (A.length + (sg m).length) (A.length + (sg m).length + D.length) = D := by
  have hsz : s.size = A.length + ((sg m).length + (D.length + B.length)) := by rw [← len_list, h]; simp
  have hdr : s.data.toList.drop (A.length + (sg m).length) = D ++ B := by
    rw [h, ← List.append_assoc, List.drop_append_of_le_length (by simp)]
    rw [List.drop_of_length_le (by simp)]; simp
  have hda : s.data.toList.drop A.length = sg m ++ (D ++ B) := by rw [h]; simp
  have hget : ∀ i (hi : i < s.size), A.length + (sg m).length ≤ i → (D ++ B)[i - (A.length + (sg m).length)]? = some s[i] := by
    intro i hi hge
    rw [← hdr, List.getElem?_drop, show A.length + (sg m).length + (i - (A.length + (sg m).length)) = i by omega, at_list s i hi]
  refine ⟨⟨by omega, ?_, ?_, ?_, by omega, by omega, ?_, ?_⟩, ?_⟩
  · intro hmt
    subst hmt
    have hlt : A.length < s.size := by rw [hsz]; simp [sg]; omega
    refine ⟨hlt, ?_⟩
    have h1 := at_list s A.length hlt
    have h2 : s.data.toList[A.length]? = some 45 := by
      have : (s.data.toList.drop A.length)[0]? = some 45 := by rw [hda]; rfl
      rw [List.getElem?_drop] at this; exact this
    rw [h2] at h1; injection h1 with h1; rw [← h1]; rfl
  · intro hmf hlt
    subst hmf
    have h1 := hget A.length hlt (by simp [sg])
    apply hm rfl
    rw [List.head?_eq_getElem?, ← h1]; simp [sg]
  · cases m <;> simp [sg]
  · intro i hi hge hlt
    have h1 := hget i hi hge
    rw [List.getElem?_append_left (by omega)] at h1
    exact hd _ (List.mem_of_getElem? h1)
  · intro hlt
    have h1 := hget _ hlt (by omega)
    rw [List.getElem?_append_right (by omega)] at h1
    apply hb
    rw [List.head?_eq_getElem?, ← h1]; congr 1; omega
  · rw [dgs_list, hdr, show A.length + (sg m).length + D.length - (A.length + (sg m).length) = D.length by omega]
    simp
/-- A number's text, wherever it stands, no digit behind it, is read as it was. -/
theorem read_txt (s : ByteArray) (A B : List UInt8) (n : Int) (h1 : -9223372036854775808 ≤ n) (h2 : n ≤ 9223372036854775807) (h : s.data.toList = A ++ (txt n ++ B)) (hb : ∀ c, B.head? = some c → ¬ isDig c) :
    ∃ m fr fin, Scn s A.length m fr fin ∧ scanT (dgs s fr fin) m fin = (n, ((A.length + (txt n).length : Nat) : Int), 0) := by
  by_cases hn : n < 0
  · have et : txt n = sg true ++ digs n.natAbs := by unfold txt; rw [if_pos hn]; rfl
    have k := Scn.of_lists s A (digs n.natAbs) B true (by rw [h, et]; simp) (digs_all _) hb (fun h => by cases h)
    refine ⟨true, _, _, k.1, ?_⟩
    rw [k.2, scanT_ok]
    · rw [val_digs, et]
      have e1 : sgn true n.natAbs = n := by simp only [sgn, if_true]; omega
      rw [e1, List.length_append, Nat.add_assoc]
    · refine ⟨by intro h0; have := digs_pos n.natAbs; rw [h0] at this; simp at this, fun c hc h48 => ?_⟩
      have := digs_head _ c hc h48
      omega
    · rw [val_digs]; simp only [top, if_true]; omega
  · have et : txt n = sg false ++ digs n.natAbs := by unfold txt; rw [if_neg hn]; rfl
    have k := Scn.of_lists s A (digs n.natAbs) B false (by rw [h, et]; simp) (digs_all _) hb (fun _ c hc h45 => by
      cases hdd : digs n.natAbs with
      | nil => have := digs_pos n.natAbs; rw [hdd] at this; simp at this
      | cons x t =>
        rw [hdd] at hc; simp at hc; subst hc
        have := digs_all n.natAbs x (by rw [hdd]; simp)
        omega)
    refine ⟨false, _, _, k.1, ?_⟩
    rw [k.2, scanT_ok]
    · rw [val_digs, et]
      have e1 : sgn false n.natAbs = n := by simp only [sgn, Bool.false_eq_true, if_false]; omega
      rw [e1, List.length_append, Nat.add_assoc]
    · refine ⟨by intro h0; have := digs_pos n.natAbs; rw [h0] at this; simp at this, fun c hc h48 => ?_⟩
      have h0 := digs_head _ c hc h48
      rw [h0, digs_zero]; exact ⟨rfl, rfl⟩
    · rw [val_digs]; simp only [top, Bool.false_eq_true, if_false]; omega
/-- What is read, nothing left behind, is the number's text. -/
theorem txt_read (s : ByteArray) (m : Bool) (fr fin : Nat) (x y : Int) (h : Scn s 0 m fr fin) (ht : scanT (dgs s fr fin) m fin = (x, y, 0)) (hy : ¬ y < (s.size : Int)) :
    txt x = s.data.toList ∧ -9223372036854775808 ≤ x ∧ x ≤ 9223372036854775807 := by
  have hdd := h.digs
  have hfin := h.hfin
  obtain ⟨D, hD⟩ : ∃ D, dgs s fr fin = D := ⟨_, rfl⟩
  rw [hD] at ht hdd
  by_cases hw : well D m
  · by_cases hv : val D ≤ top m
    · rw [scanT_ok hw hv] at ht
      injection ht with e1 e2
      injection e2 with e2 e3
      have hf : fin = s.size := by omega
      have hdr : D = s.data.toList.drop fr := by
        rw [← hD, dgs_list, List.take_of_length_le (by rw [List.length_drop, len_list]; omega)]
      have hdv : digs (val D) = D := digs_val D.length D rfl (List.length_pos_iff.2 hw.1) hdd (fun c hc h48 => (hw.2 c hc h48).1)
      cases m
      · have hfr : fr = 0 := h.hfr
        simp only [sgn, Bool.false_eq_true, if_false] at e1
        simp only [top, Bool.false_eq_true, if_false] at hv
        refine ⟨?_, by omega, by omega⟩
        unfold txt; rw [if_neg (by omega), ← e1, show ((val D : Int)).natAbs = val D by omega, hdv, hdr, hfr]; rfl
      · have hfr : fr = 1 := h.hfr
        simp only [sgn, if_true] at e1
        simp only [top, if_true] at hv
        obtain ⟨c, hc⟩ : ∃ c, D.head? = some c := by
          cases hDD : D with
          | nil => exact absurd hDD hw.1
          | cons a t => exact ⟨a, rfl⟩
        have hp := val_pos D hdd c hc (fun h48 => by have := (hw.2 c hc h48).2; cases this)
        refine ⟨?_, by omega, by omega⟩
        obtain ⟨hlt, h45⟩ := h.hy rfl
        have h0 := at_list s 0 hlt
        unfold txt; rw [if_pos (by omega), ← e1, show (-(val D : Int)).natAbs = val D by omega, hdv, hdr, hfr]
        have e45 : s[0] = 45 := UInt8.toNat_inj.1 h45
        cases hl : s.data.toList with
        | nil => rw [hl] at h0; simp at h0
        | cons a t => rw [hl] at h0; simp at h0; rw [h0, e45]; rfl
    · rw [scanT_range hw hv] at ht
      injection ht with e1 e2
      injection e2 with e2 e3
      cases e3
  · rw [scanT_bad hw] at ht
    injection ht with e1 e2
    injection e2 with e2 e3
    cases e3
end Go.Proofs.Ytncdppdlklffpaa
