/- Of what Calls answers: each name is there, rising, no more than instructions. -/
import Derived.Test.YtocelaebokikcaaOpenW
import Derived.Sort.Walk0
import Derived.Lib.Strings
namespace Go.Proofs.Ytocelaebokikcaa
open Go.ChangeShapes Go.WideShapes Go.RowKit
set_option linter.unusedVariables false

theorem lt_of_le_ne {a b : List UInt8} (h : a ≤ b) (hn : b ≠ a) : a < b := by
  by_cases e : a < b
  · exact e
  · exact absurd (List.le_antisymm (List.not_lt.1 e) h) hn
structure CompM (d : Array (List UInt8)) (m : Nat) : Prop where
  rise : (Lib.compactUpTo d m).Pairwise fun a b => a < b
  top : ∀ x ∈ Lib.compactUpTo d m, ∀ j, m ≤ j + 1 → j < d.size → x ≤ d[j]!
  all : ∀ j, j < m → d[j]! ∈ Lib.compactUpTo d m
theorem compM (d : Array (List UInt8)) (hs : ∀ i j, i < j → j < d.size → d[i]! ≤ d[j]!) (m : Nat) (hm : m ≤ d.size) : CompM d m := by
  induction m with
  | zero => exact ⟨by simp [Lib.compactUpTo], by simp [Lib.compactUpTo], fun j hj => by omega⟩
  | succ m ih =>
    obtain ⟨h1, h2, h3⟩ := ih (by omega)
    by_cases hk : Lib.keeps d m = true
    · have e : Lib.compactUpTo d (m + 1) = Lib.compactUpTo d m ++ [d[m]!] := by rw [Lib.compactUpTo_succ, if_pos hk]
      refine ⟨?_, ?_, ?_⟩
      · rw [e, List.pairwise_append]
        refine ⟨h1, by simp, fun a ha b hb => ?_⟩
        rw [List.mem_singleton] at hb
        subst hb
        cases m with
        | zero => simp [Lib.compactUpTo] at ha
        | succ m =>
          have hne : d[m + 1]! ≠ d[m]! := by
            intro e
            have := Lib.keeps_neg (d := d) (m := m + 1) (by omega) (by simpa using e)
            rw [this] at hk; cases hk
          have ha2 := h2 a ha m (by omega) (by omega)
          have hle := hs m (m + 1) (by omega) (by omega)
          refine lt_of_le_ne (List.le_trans ha2 hle) fun e => hne ?_
          exact List.le_antisymm (by rw [e]; exact ha2) hle
      · intro x hx j hj hjs
        rw [e, List.mem_append, List.mem_singleton] at hx
        rcases hx with hx | rfl
        · exact h2 x hx j (by omega) hjs
        · by_cases e2 : j = m
          · subst e2; exact List.le_refl _
          · exact hs m j (by omega) hjs
      · intro j hj
        rw [e, List.mem_append, List.mem_singleton]
        by_cases e2 : j = m
        · subst e2; exact .inr rfl
        · exact .inl (h3 j (by omega))
    · have e : Lib.compactUpTo d (m + 1) = Lib.compactUpTo d m := by rw [Lib.compactUpTo_succ, if_neg hk, List.append_nil]
      cases m with
      | zero => simp [Lib.keeps] at hk
      | succ m =>
        have heq : d[m + 1]! = d[m]! := by
          by_cases e2 : d[m + 1]! = d[m]!
          · exact e2
          · exact absurd (Lib.keeps_pos (d := d) (m := m + 1) (by simpa using e2)) hk
        refine ⟨by rw [e]; exact h1, ?_, ?_⟩
        · intro x hx j hj hjs
          rw [e] at hx
          exact h2 x hx j (by omega) hjs
        · intro j hj
          rw [e]
          by_cases e2 : j = m + 1
          · subst e2; rw [heq]; exact h3 m (by omega)
          · exact h3 j (by omega)
theorem sorted_at (zs : List (List UInt8)) (h : zs.Pairwise fun a b => a ≤ b) : ∀ i j, i < j → j < zs.toArray.size → zs.toArray[i]! ≤ zs.toArray[j]! := by
  intro i j hij hj
  have hj' : j < zs.length := by simpa using hj
  have := List.pairwise_iff_getElem.1 h i j (by omega) hj' hij
  rw [getElem!_pos zs.toArray i (by simp; omega), getElem!_pos zs.toArray j hj]
  simpa using this
theorem sorted_pair (zs : List (List UInt8)) : (zs.mergeSort fun x y => decide (x ≤ y)).Pairwise fun a b => a ≤ b := by
  have := List.pairwise_mergeSort (le := fun x y : List UInt8 => decide (x ≤ y)) (fun a b c h1 h2 => by simp only [decide_eq_true_eq] at h1 h2 ⊢; exact List.le_trans h1 h2) (fun a b => by simp only [Bool.or_eq_true, decide_eq_true_eq]; exact List.le_total a b) zs
  exact this.imp fun h => by simpa using h
theorem callsOf_mem (l : List Blk) (s : ByteArray) (h : s ∈ blkNames l) : byt s ∈ callsOf l := by
  unfold callsOf Lib.compact
  obtain ⟨ts, hts⟩ : ∃ ts, (((blkNames l).map byt).mergeSort fun x y => decide (x ≤ y)) = ts := ⟨_, rfl⟩
  have hm : byt s ∈ ts := by rw [← hts, List.mem_mergeSort]; exact List.mem_map.2 ⟨s, h, rfl⟩
  have hp : ts.Pairwise fun a b => a ≤ b := by rw [← hts]; exact sorted_pair _
  rw [hts]
  obtain ⟨j, hj, e⟩ := List.mem_iff_getElem.1 hm
  have := (compM ts.toArray (sorted_at ts hp) ts.length (by simp)).all j hj
  rw [getElem!_pos ts.toArray j (by simpa using hj)] at this
  rw [← e]
  simpa using this
theorem callsOf_rise (l : List Blk) : (callsOf l).Pairwise fun a b => a < b := by
  unfold callsOf Lib.compact
  exact (compM _ (sorted_at _ (sorted_pair _)) _ (by simp)).rise
theorem callsOf_len (l : List Blk) : (callsOf l).length ≤ codeSum l := by
  unfold callsOf
  refine Nat.le_trans (Lib.compact_length_le _) ?_
  rw [List.length_mergeSort, List.length_map]
  exact blkNames_len l
theorem blkNames_mem (l : List Blk) (b : Blk) (hb : b ∈ l) (i : Ins) (hi : i ∈ b.code) (h : i.op = 19) : i.name ∈ blkNames l := by
  unfold blkNames callNames
  exact List.mem_flatMap.2 ⟨b, hb, List.mem_flatMap.2 ⟨i, hi, by rw [if_pos h]; simp⟩⟩
theorem byt_inj {a b : ByteArray} (h : byt a = byt b) : a = b := by
  unfold byt at h
  cases a; cases b
  simp only at h
  congr 1
  exact Array.ext' h
theorem less_lt (a b : ByteArray) (h : byt a < byt b) : Op.bytesLess a.toList b.toList = true := by
  rw [bytesLess_eq, Lib.toList_data, Lib.toList_data]
  simpa [byt] using h
end Go.Proofs.Ytocelaebokikcaa
