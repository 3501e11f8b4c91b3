/- Two texts of faults are one just if the faults are, where no part has a colon: plain lists. -/
import Derived.Test.YtnpdmcgfhieepaaDoorText
namespace Go.Proofs.YtnpdmcgfhieepaaDoor
set_option linter.unusedVariables false

/-- No byte of a text is a colon. -/
def Plain (s : ByteArray) : Prop := ∀ c ∈ s.data.toList, c ≠ 58
theorem cut_at {α : Type} {x : α} : ∀ {p q u v : List α}, x ∉ p → x ∉ q → p ++ x :: u = q ++ x :: v → p = q ∧ u = v := by
  intro p
  induction p with
  | nil =>
    intro q u v hp hq h
    cases q with
    | nil => simp at h; exact ⟨rfl, h⟩
    | cons b q =>
      simp only [List.nil_append, List.cons_append, List.cons.injEq] at h
      exact absurd (by rw [h.1]; simp) hq
  | cons a p ih =>
    intro q u v hp hq h
    cases q with
    | nil =>
      simp only [List.nil_append, List.cons_append, List.cons.injEq] at h
      exact absurd (by rw [h.1]; simp) hp
    | cons b q =>
      simp only [List.cons_append, List.cons.injEq] at h
      obtain ⟨h1, h2⟩ := ih (fun k => hp (List.mem_cons_of_mem _ k)) (fun k => hq (List.mem_cons_of_mem _ k)) h.2
      exact ⟨by rw [h.1, h1], h2⟩
theorem bytes_eq {p q : ByteArray} (h : p.data.toList = q.data.toList) : p = q := by
  obtain ⟨⟨a⟩⟩ := p
  obtain ⟨⟨b⟩⟩ := q
  simp at h
  rw [h]
theorem heads_inj : ∀ {ss rr : List ByteArray} {t u : List UInt8}, (∀ s ∈ ss, Plain s) → (∀ s ∈ rr, Plain s) → (58 : UInt8) ∉ t → (58 : UInt8) ∉ u → heads ss ++ t = heads rr ++ u → ss = rr ∧ t = u := by
  intro ss
  induction ss with
  | nil =>
    intro rr t u _ _ ht hu h
    cases rr with
    | nil => exact ⟨rfl, by simpa [heads] using h⟩
    | cons q r =>
      have h' : t = q.data.toList ++ [58, 32] ++ heads r ++ u := by simpa [heads] using h
      exact absurd (by rw [h']; simp) ht
  | cons p s ih =>
    intro rr t u hs hr ht hu h
    cases rr with
    | nil =>
      have h' : u = p.data.toList ++ [58, 32] ++ heads s ++ t := by simpa [heads] using h.symm
      exact absurd (by rw [h']; simp) hu
    | cons q r =>
      have h' : p.data.toList ++ 58 :: (32 :: (heads s ++ t)) = q.data.toList ++ 58 :: (32 :: (heads r ++ u)) := by simpa [heads] using h
      obtain ⟨h1, h2⟩ := cut_at (fun k => hs p (by simp) _ k rfl) (fun k => hr q (by simp) _ k rfl) h'
      simp only [List.cons.injEq, true_and] at h2
      obtain ⟨h3, h4⟩ := ih (fun x hx => hs x (List.mem_cons_of_mem _ hx)) (fun x hx => hr x (List.mem_cons_of_mem _ hx)) ht hu h2
      exact ⟨by rw [bytes_eq h1, h3], h4⟩
theorem txt_bytes (n : Int) : ∀ c ∈ Deci.txt n, c.toNat = 45 ∨ (48 ≤ c.toNat ∧ c.toNat ≤ 57) := by
  intro c hc
  unfold Deci.txt at hc
  split at hc
  · rcases List.mem_cons.1 hc with rfl | h
    · exact .inl rfl
    · exact .inr (Deci.digs_all _ c h)
  · exact .inr (Deci.digs_all _ c hc)
theorem txt_32 (n : Int) : (32 : UInt8) ∉ Deci.txt n := fun h => by
  have := txt_bytes n 32 h
  simp at this
theorem txt_58 (n : Int) : (58 : UInt8) ∉ Deci.txt n := fun h => by
  have := txt_bytes n 58 h
  simp at this
theorem txt_inj {m n : Int} (h : Deci.txt m = Deci.txt n) : m = n := by
  have neg : ∀ a b : Int, a < 0 → ¬ b < 0 → Deci.txt a = Deci.txt b → False := fun a b ha hb h => by
    unfold Deci.txt at h
    rw [if_pos ha, if_neg hb] at h
    have := Deci.digs_all b.natAbs 45 (by rw [← h]; simp)
    simp at this
  by_cases hm : m < 0
  · by_cases hn : n < 0
    · unfold Deci.txt at h
      rw [if_pos hm, if_pos hn] at h
      simp only [List.cons.injEq, true_and] at h
      have h2 := congrArg Deci.val h
      rw [Deci.val_digs, Deci.val_digs] at h2
      omega
    · exact absurd h (fun k => neg m n hm hn k)
  · by_cases hn : n < 0
    · exact absurd h.symm (fun k => neg n m hn hm k)
    · unfold Deci.txt at h
      rw [if_neg hm, if_neg hn] at h
      have h2 := congrArg Deci.val h
      rw [Deci.val_digs, Deci.val_digs] at h2
      omega
theorem full_inj {a b c d : Int} {ss rr : List ByteArray} (hs : ∀ s ∈ ss, Plain s) (hr : ∀ s ∈ rr, Plain s) (h : full a b ss = full c d rr) : a = c ∧ b = d ∧ ss = rr := by
  unfold full at h
  have h' : heads ss ++ (Deci.txt a ++ [32, 97, 116, 32] ++ Deci.txt b) = heads rr ++ (Deci.txt c ++ [32, 97, 116, 32] ++ Deci.txt d) := by simpa using h
  have no : ∀ x y : Int, (58 : UInt8) ∉ Deci.txt x ++ [32, 97, 116, 32] ++ Deci.txt y := fun x y k => by
    simp only [List.mem_append] at k
    rcases k with (k | k) | k
    · exact txt_58 x k
    · simp at k
    · exact txt_58 y k
  obtain ⟨h1, h2⟩ := heads_inj hs hr (no a b) (no c d) h'
  have h3 : Deci.txt a ++ 32 :: (97 :: 116 :: 32 :: Deci.txt b) = Deci.txt c ++ 32 :: (97 :: 116 :: 32 :: Deci.txt d) := by simpa using h2
  obtain ⟨h4, h5⟩ := cut_at (txt_32 a) (txt_32 c) h3
  simp only [List.cons.injEq, true_and] at h5
  exact ⟨txt_inj h4, txt_inj h5, h1⟩
end Go.Proofs.YtnpdmcgfhieepaaDoor
