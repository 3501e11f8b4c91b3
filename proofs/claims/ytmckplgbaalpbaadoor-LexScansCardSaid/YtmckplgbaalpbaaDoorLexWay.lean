/- What way answers: by what the token at a place is read. -/
import Derived.Test.YtmckplgbaalpbaaDoorLexReadB
import Derived.Lib.IndexAny
namespace Go.Proofs.YtmckplgbaalpbaaDoor.Lex
open Go.ChangeShapes Go.WideShapes Go.RowKit
set_option linter.unusedVariables false
set_option maxRecDepth 20000

/-- A reading as a value: a method with its spot. -/
def rd (k : Nat) (s : ByteArray) (a : Nat) : Value := .func (.func k) #[sp s a] #[]
theorem way_end (s : ByteArray) (w : World) : Calls Tryd.prog 17 #[sp s s.size] w fun e w' => e = .returned (rd 26 s s.size) ∧ Below w.heap.size w w' := by
  unfold sp rd
  have hb := Lib.hid (((Below.refl _ w).alloc (Nat.le_refl _) (.cells #[.string s, .int .i64 (s.size : Int)] 48)))
  go_enter Tryd.func17, Tryd.ntmps17
  go_wp2_with fail
  go_ret
  exact ⟨rfl, hb.out⟩
theorem way_word (s : ByteArray) (a : Nat) (ha : a < s.size) (h1 : Nam.letter s[a] = true) (w : World) : Calls Tryd.prog 17 #[sp s a] w fun e w' => e = .returned (rd 28 s a) ∧ Below w.heap.size w w' := by
  unfold sp rd
  have hb := Lib.hid (((Below.refl _ w).alloc (Nat.le_refl _) (.cells #[.string s, .int .i64 (a : Int)] 48)))
  have h0 : ((a : Int) == (s.size : Int)) = false := by rw [beq_eq_false_iff_ne]; omega
  have h0' : (a : Int) < (s.size : Int) := by omega
  have H1 := Lib.hid h1
  clear h1
  go_enter Tryd.func17, Tryd.ntmps17
  go_wp2_with fail
  refine (Nam.letter_v s[a] _ H1.out _).mono ?_
  rintro e w1 ⟨rfl, rfl⟩
  go_wp2_with fail
  go_ret
  exact ⟨rfl, hb.out⟩
theorem way_number (s : ByteArray) (a : Nat) (ha : a < s.size) (h1 : Nam.letter s[a] = false) (h2 : dgt s[a] = true) (w : World) : Calls Tryd.prog 17 #[sp s a] w fun e w' => e = .returned (rd 30 s a) ∧ Below w.heap.size w w' := by
  unfold sp rd
  have hb := Lib.hid (((Below.refl _ w).alloc (Nat.le_refl _) (.cells #[.string s, .int .i64 (a : Int)] 48)))
  have h0 : ((a : Int) == (s.size : Int)) = false := by rw [beq_eq_false_iff_ne]; omega
  have h0' : (a : Int) < (s.size : Int) := by omega
  have H1 := Lib.hid h1
  have H2 := Lib.hid h2
  clear h1 h2
  go_enter Tryd.func17, Tryd.ntmps17
  go_wp2_with fail
  refine (Nam.letter_v s[a] _ H1.out _).mono ?_
  rintro e w1 ⟨rfl, rfl⟩
  go_wp2_with fail
  refine (digit_v s[a] _ H2.out _).mono ?_
  rintro e w1 ⟨rfl, rfl⟩
  go_wp2_with fail
  go_ret
  exact ⟨rfl, hb.out⟩
def sgs : List UInt8 := [123, 125, 40, 41, 91, 93, 44, 58, 59, 61, 43, 45, 42]
theorem sgs_in {c : UInt8} (h : c ∈ sgs) : 0 ≤ Lib.indexByte sgs c := by
  have := Lib.contains_iff_indexByte sgs c
  rw [List.contains_iff_mem.2 h] at this
  exact of_decide_eq_true this.symm
theorem sgs_out {c : UInt8} (h : ¬ c ∈ sgs) : Lib.indexByte sgs c < 0 := by
  have := Lib.contains_iff_indexByte sgs c
  have h2 : sgs.contains c = false := by rw [Bool.eq_false_iff]; intro k; exact h (List.contains_iff_mem.1 k)
  rw [h2] at this
  have := of_decide_eq_false this.symm
  omega
theorem way_sign (s : ByteArray) (a : Nat) (ha : a < s.size) (h1 : Nam.letter s[a] = false) (h2 : dgt s[a] = false) (h3 : s[a] ∈ sgs) (w : World) : Calls Tryd.prog 17 #[sp s a] w fun e w' => e = .returned (rd 32 s a) ∧ Below w.heap.size w w' := by
  unfold sp rd
  have hb := Lib.hid (((Below.refl _ w).alloc (Nat.le_refl _) (.cells #[.string s, .int .i64 (a : Int)] 48)))
  have h0 : ((a : Int) == (s.size : Int)) = false := by rw [beq_eq_false_iff_ne]; omega
  have h0' : (a : Int) < (s.size : Int) := by omega
  obtain ⟨z, hz⟩ : ∃ z, Lib.indexByte sgs s[a] = z := ⟨_, rfl⟩
  have hz0 : 0 ≤ z := by rw [← hz]; exact sgs_in h3
  have HZ := Lib.hid hz
  have H1 := Lib.hid h1
  have H2 := Lib.hid h2
  clear h1 h2 hz h3
  go_enter Tryd.func17, Tryd.ntmps17
  go_wp2_with fail
  refine (Nam.letter_v s[a] _ H1.out _).mono ?_
  rintro e w1 ⟨rfl, rfl⟩
  go_wp2_with fail
  refine (digit_v s[a] _ H2.out _).mono ?_
  rintro e w1 ⟨rfl, rfl⟩
  go_wp2_with fail
  refine (index_v _ s[a] z HZ.out _).mono ?_
  rintro e w1 ⟨rfl, rfl⟩
  go_wp2_with fail
  go_ret
  exact ⟨rfl, hb.out⟩
theorem way_quoted (s : ByteArray) (a : Nat) (ha : a < s.size) (h1 : Nam.letter s[a] = false) (h2 : dgt s[a] = false) (h3 : ¬ s[a] ∈ sgs)  (y : s[a].toNat = 34) (w : World) : Calls Tryd.prog 17 #[sp s a] w fun e w' => e = .returned (rd 33 s a) ∧ Below w.heap.size w w' := by
  unfold sp rd
  have hb := Lib.hid (((Below.refl _ w).alloc (Nat.le_refl _) (.cells #[.string s, .int .i64 (a : Int)] 48)))
  have h0 : ((a : Int) == (s.size : Int)) = false := by rw [beq_eq_false_iff_ne]; omega
  have h0' : (a : Int) < (s.size : Int) := by omega
  obtain ⟨z, hz⟩ : ∃ z, Lib.indexByte sgs s[a] = z := ⟨_, rfl⟩
  have hz0 : z < 0 := by rw [← hz]; exact sgs_out h3
  have HZ := Lib.hid hz
  have H1 := Lib.hid h1
  have H2 := Lib.hid h2
  have c34 : ((s[a].toNat : Int) == 34) = true := by rw [beq_iff_eq]; omega
  clear h1 h2 hz h3  y
  go_enter Tryd.func17, Tryd.ntmps17
  go_wp2_with fail
  refine (Nam.letter_v s[a] _ H1.out _).mono ?_
  rintro e w1 ⟨rfl, rfl⟩
  go_wp2_with fail
  refine (digit_v s[a] _ H2.out _).mono ?_
  rintro e w1 ⟨rfl, rfl⟩
  go_wp2_with fail
  refine (index_v _ s[a] z HZ.out _).mono ?_
  rintro e w1 ⟨rfl, rfl⟩
  go_wp2_with fail
  go_ret
  exact ⟨rfl, hb.out⟩
theorem way_vreg (s : ByteArray) (a : Nat) (ha : a < s.size) (h1 : Nam.letter s[a] = false) (h2 : dgt s[a] = false) (h3 : ¬ s[a] ∈ sgs) (n34 : s[a].toNat ≠ 34) (y : s[a].toNat = 37) (w : World) : Calls Tryd.prog 17 #[sp s a] w fun e w' => e = .returned (rd 34 s a) ∧ Below w.heap.size w w' := by
  unfold sp rd
  have hb := Lib.hid (((Below.refl _ w).alloc (Nat.le_refl _) (.cells #[.string s, .int .i64 (a : Int)] 48)))
  have h0 : ((a : Int) == (s.size : Int)) = false := by rw [beq_eq_false_iff_ne]; omega
  have h0' : (a : Int) < (s.size : Int) := by omega
  obtain ⟨z, hz⟩ : ∃ z, Lib.indexByte sgs s[a] = z := ⟨_, rfl⟩
  have hz0 : z < 0 := by rw [← hz]; exact sgs_out h3
  have HZ := Lib.hid hz
  have H1 := Lib.hid h1
  have H2 := Lib.hid h2
  have c34 : ((s[a].toNat : Int) == 34) = false := by rw [beq_eq_false_iff_ne]; omega
  have c37 : ((s[a].toNat : Int) == 37) = true := by rw [beq_iff_eq]; omega
  clear h1 h2 hz h3 n34 y
  go_enter Tryd.func17, Tryd.ntmps17
  go_wp2_with fail
  refine (Nam.letter_v s[a] _ H1.out _).mono ?_
  rintro e w1 ⟨rfl, rfl⟩
  go_wp2_with fail
  refine (digit_v s[a] _ H2.out _).mono ?_
  rintro e w1 ⟨rfl, rfl⟩
  go_wp2_with fail
  refine (index_v _ s[a] z HZ.out _).mono ?_
  rintro e w1 ⟨rfl, rfl⟩
  go_wp2_with fail
  go_ret
  exact ⟨rfl, hb.out⟩
theorem way_preg (s : ByteArray) (a : Nat) (ha : a < s.size) (h1 : Nam.letter s[a] = false) (h2 : dgt s[a] = false) (h3 : ¬ s[a] ∈ sgs) (n34 : s[a].toNat ≠ 34) (n37 : s[a].toNat ≠ 37) (y : s[a].toNat = 36) (w : World) : Calls Tryd.prog 17 #[sp s a] w fun e w' => e = .returned (rd 35 s a) ∧ Below w.heap.size w w' := by
  unfold sp rd
  have hb := Lib.hid (((Below.refl _ w).alloc (Nat.le_refl _) (.cells #[.string s, .int .i64 (a : Int)] 48)))
  have h0 : ((a : Int) == (s.size : Int)) = false := by rw [beq_eq_false_iff_ne]; omega
  have h0' : (a : Int) < (s.size : Int) := by omega
  obtain ⟨z, hz⟩ : ∃ z, Lib.indexByte sgs s[a] = z := ⟨_, rfl⟩
  have hz0 : z < 0 := by rw [← hz]; exact sgs_out h3
  have HZ := Lib.hid hz
  have H1 := Lib.hid h1
  have H2 := Lib.hid h2
  have c34 : ((s[a].toNat : Int) == 34) = false := by rw [beq_eq_false_iff_ne]; omega
  have c37 : ((s[a].toNat : Int) == 37) = false := by rw [beq_eq_false_iff_ne]; omega
  have c36 : ((s[a].toNat : Int) == 36) = true := by rw [beq_iff_eq]; omega
  clear h1 h2 hz h3 n34 n37 y
  go_enter Tryd.func17, Tryd.ntmps17
  go_wp2_with fail
  refine (Nam.letter_v s[a] _ H1.out _).mono ?_
  rintro e w1 ⟨rfl, rfl⟩
  go_wp2_with fail
  refine (digit_v s[a] _ H2.out _).mono ?_
  rintro e w1 ⟨rfl, rfl⟩
  go_wp2_with fail
  refine (index_v _ s[a] z HZ.out _).mono ?_
  rintro e w1 ⟨rfl, rfl⟩
  go_wp2_with fail
  go_ret
  exact ⟨rfl, hb.out⟩
theorem way_slot (s : ByteArray) (a : Nat) (ha : a < s.size) (h1 : Nam.letter s[a] = false) (h2 : dgt s[a] = false) (h3 : ¬ s[a] ∈ sgs) (n34 : s[a].toNat ≠ 34) (n37 : s[a].toNat ≠ 37) (n36 : s[a].toNat ≠ 36) (y : s[a].toNat = 35) (w : World) : Calls Tryd.prog 17 #[sp s a] w fun e w' => e = .returned (rd 36 s a) ∧ Below w.heap.size w w' := by
  unfold sp rd
  have hb := Lib.hid (((Below.refl _ w).alloc (Nat.le_refl _) (.cells #[.string s, .int .i64 (a : Int)] 48)))
  have h0 : ((a : Int) == (s.size : Int)) = false := by rw [beq_eq_false_iff_ne]; omega
  have h0' : (a : Int) < (s.size : Int) := by omega
  obtain ⟨z, hz⟩ : ∃ z, Lib.indexByte sgs s[a] = z := ⟨_, rfl⟩
  have hz0 : z < 0 := by rw [← hz]; exact sgs_out h3
  have HZ := Lib.hid hz
  have H1 := Lib.hid h1
  have H2 := Lib.hid h2
  have c34 : ((s[a].toNat : Int) == 34) = false := by rw [beq_eq_false_iff_ne]; omega
  have c37 : ((s[a].toNat : Int) == 37) = false := by rw [beq_eq_false_iff_ne]; omega
  have c36 : ((s[a].toNat : Int) == 36) = false := by rw [beq_eq_false_iff_ne]; omega
  have c35 : ((s[a].toNat : Int) == 35) = true := by rw [beq_iff_eq]; omega
  clear h1 h2 hz h3 n34 n37 n36 y
  go_enter Tryd.func17, Tryd.ntmps17
  go_wp2_with fail
  refine (Nam.letter_v s[a] _ H1.out _).mono ?_
  rintro e w1 ⟨rfl, rfl⟩
  go_wp2_with fail
  refine (digit_v s[a] _ H2.out _).mono ?_
  rintro e w1 ⟨rfl, rfl⟩
  go_wp2_with fail
  refine (index_v _ s[a] z HZ.out _).mono ?_
  rintro e w1 ⟨rfl, rfl⟩
  go_wp2_with fail
  go_ret
  exact ⟨rfl, hb.out⟩
theorem way_points (s : ByteArray) (a : Nat) (ha : a < s.size) (h1 : Nam.letter s[a] = false) (h2 : dgt s[a] = false) (h3 : ¬ s[a] ∈ sgs) (n34 : s[a].toNat ≠ 34) (n37 : s[a].toNat ≠ 37) (n36 : s[a].toNat ≠ 36) (n35 : s[a].toNat ≠ 35) (y : s[a].toNat = 46) (w : World) : Calls Tryd.prog 17 #[sp s a] w fun e w' => e = .returned (rd 37 s a) ∧ Below w.heap.size w w' := by
  unfold sp rd
  have hb := Lib.hid (((Below.refl _ w).alloc (Nat.le_refl _) (.cells #[.string s, .int .i64 (a : Int)] 48)))
  have h0 : ((a : Int) == (s.size : Int)) = false := by rw [beq_eq_false_iff_ne]; omega
  have h0' : (a : Int) < (s.size : Int) := by omega
  obtain ⟨z, hz⟩ : ∃ z, Lib.indexByte sgs s[a] = z := ⟨_, rfl⟩
  have hz0 : z < 0 := by rw [← hz]; exact sgs_out h3
  have HZ := Lib.hid hz
  have H1 := Lib.hid h1
  have H2 := Lib.hid h2
  have c34 : ((s[a].toNat : Int) == 34) = false := by rw [beq_eq_false_iff_ne]; omega
  have c37 : ((s[a].toNat : Int) == 37) = false := by rw [beq_eq_false_iff_ne]; omega
  have c36 : ((s[a].toNat : Int) == 36) = false := by rw [beq_eq_false_iff_ne]; omega
  have c35 : ((s[a].toNat : Int) == 35) = false := by rw [beq_eq_false_iff_ne]; omega
  have c46 : ((s[a].toNat : Int) == 46) = true := by rw [beq_iff_eq]; omega
  clear h1 h2 hz h3 n34 n37 n36 n35 y
  go_enter Tryd.func17, Tryd.ntmps17
  go_wp2_with fail
  refine (Nam.letter_v s[a] _ H1.out _).mono ?_
  rintro e w1 ⟨rfl, rfl⟩
  go_wp2_with fail
  refine (digit_v s[a] _ H2.out _).mono ?_
  rintro e w1 ⟨rfl, rfl⟩
  go_wp2_with fail
  refine (index_v _ s[a] z HZ.out _).mono ?_
  rintro e w1 ⟨rfl, rfl⟩
  go_wp2_with fail
  go_ret
  exact ⟨rfl, hb.out⟩
theorem way_none (s : ByteArray) (a : Nat) (ha : a < s.size) (h1 : Nam.letter s[a] = false) (h2 : dgt s[a] = false) (h3 : ¬ s[a] ∈ sgs) (n34 : s[a].toNat ≠ 34) (n37 : s[a].toNat ≠ 37) (n36 : s[a].toNat ≠ 36) (n35 : s[a].toNat ≠ 35) (n46 : s[a].toNat ≠ 46) (w : World) : Calls Tryd.prog 17 #[sp s a] w fun e w' => e = .returned (rd 38 s a) ∧ Below w.heap.size w w' := by
  unfold sp rd
  have hb := Lib.hid (((Below.refl _ w).alloc (Nat.le_refl _) (.cells #[.string s, .int .i64 (a : Int)] 48)))
  have h0 : ((a : Int) == (s.size : Int)) = false := by rw [beq_eq_false_iff_ne]; omega
  have h0' : (a : Int) < (s.size : Int) := by omega
  obtain ⟨z, hz⟩ : ∃ z, Lib.indexByte sgs s[a] = z := ⟨_, rfl⟩
  have hz0 : z < 0 := by rw [← hz]; exact sgs_out h3
  have HZ := Lib.hid hz
  have H1 := Lib.hid h1
  have H2 := Lib.hid h2
  have c34 : ((s[a].toNat : Int) == 34) = false := by rw [beq_eq_false_iff_ne]; omega
  have c37 : ((s[a].toNat : Int) == 37) = false := by rw [beq_eq_false_iff_ne]; omega
  have c36 : ((s[a].toNat : Int) == 36) = false := by rw [beq_eq_false_iff_ne]; omega
  have c35 : ((s[a].toNat : Int) == 35) = false := by rw [beq_eq_false_iff_ne]; omega
  have c46 : ((s[a].toNat : Int) == 46) = false := by rw [beq_eq_false_iff_ne]; omega
  clear h1 h2 hz h3 n34 n37 n36 n35 n46
  go_enter Tryd.func17, Tryd.ntmps17
  go_wp2_with fail
  refine (Nam.letter_v s[a] _ H1.out _).mono ?_
  rintro e w1 ⟨rfl, rfl⟩
  go_wp2_with fail
  refine (digit_v s[a] _ H2.out _).mono ?_
  rintro e w1 ⟨rfl, rfl⟩
  go_wp2_with fail
  refine (index_v _ s[a] z HZ.out _).mono ?_
  rintro e w1 ⟨rfl, rfl⟩
  go_wp2_with fail
  go_ret
  exact ⟨rfl, hb.out⟩
end Go.Proofs.YtmckplgbaalpbaaDoor.Lex
