/- The walk of the statement LinesTells: the lines, where each begins, and where a place is among them, is what the document's own answers say. -/
import Derived.Test.YtnmpaidllhijnaaWorks
import Derived.Test.YtnmpaidllhijnaaRefMark
namespace Go.Proofs.Ytnmpaidllhijnaa
open Go.ChangeShapes Go.WideShapes Go.RowKit
set_option linter.unusedVariables false

/-- The line and the column of a place, or none. -/
def SpotV (s : ByteArray) (p a b : Int) : Prop := ((p < 0 ∨ (s.size : Int) < p) ∧ a = 0 ∧ b = 0) ∨
  ∃ (k A B : Nat) (I : List (List UInt8)) (r : List UInt8), p = k ∧ k ≤ s.size ∧ Cut (s.data.toList.take k) I r ∧ I.length + 1 = A ∧ r.length + 1 = B ∧ a = A ∧ b = B
/-- The place as lines, or nothing. -/
def MarkV (s : ByteArray) (p : Int) (R : ByteArray) : Prop := ((p < 0 ∨ (s.size : Int) < p) ∧ R = ⟨#[]⟩) ∨
  ∃ (k A B : Nat) (I : List (List UInt8)) (r x : List UInt8) (J : List (List UInt8)), p = k ∧ k ≤ s.size ∧ Cut (s.data.toList.take k) I r ∧ rows s.data.toList = I ++ x :: J ∧ x.take r.length = r ∧ I.length + 1 = A ∧ r.length + 1 = B ∧
    markOf (Deci.txt (A : Int)) (Deci.txt (B : Int)) x (blank r) = R.data.toList
theorem place_in (l : List UInt8) (p : Nat) : ∃ I r x J, Cut (l.take p) I r ∧ rows l = I ++ x :: J ∧ x.take r.length = r := by
  obtain ⟨I, r, h⟩ := cut_of (l.take p)
  obtain ⟨q, J, e, _⟩ := h.on (l.drop p)
  rw [List.take_append_drop] at e
  exact ⟨I, r, r ++ q, J, h, e, by simp⟩
theorem spotV_of (s : ByteArray) (p : Int) : ∃ a b R, SpotV s p a b ∧ MarkV s p R := by
  by_cases h : p < 0 ∨ (s.size : Int) < p
  · exact ⟨0, 0, ⟨#[]⟩, .inl ⟨h, rfl, rfl⟩, .inl ⟨h, rfl⟩⟩
  · obtain ⟨k, rfl⟩ : ∃ k : Nat, p = k := ⟨p.toNat, by omega⟩
    obtain ⟨I, r, x, J, h1, h2, h3⟩ := place_in s.data.toList k
    exact ⟨_, _, ⟨(markOf (Deci.txt ((I.length + 1 : Nat) : Int)) (Deci.txt ((r.length + 1 : Nat) : Int)) x (blank r)).toArray⟩, .inr ⟨k, _, _, I, r, rfl, by omega, h1, rfl, rfl, rfl, rfl⟩, .inr ⟨k, _, _, I, r, x, J, rfl, by omega, h1, h2, h3, rfl, rfl, rfl⟩⟩
theorem below_of_same {w w' : World} (h : w = w') : Below w.heap.size w w' := by subst h; exact Below.refl _ _
theorem spot_any (s : ByteArray) (p a b : Int) (hs : s.size ≤ 1000000) (h : SpotV s p a b) (w : World) :
    Calls Try.prog 8 #[.string s, .int .i64 p] w fun e w' => e = .returned (.tuple #[.int .i64 a, .int .i64 b]) ∧ Below w.heap.size w w' := by
  rcases h with ⟨h, rfl, rfl⟩ | ⟨k, A, B, I, r, rfl, hk, hc, hA, hB, rfl, rfl⟩
  · exact (spot_none s p h w).mono fun e w' ⟨h1, h2⟩ => ⟨h1, below_of_same h2⟩
  · exact spot_v s k A B I r hk hs hc hA hB w
theorem refspot_any (s : ByteArray) (p a b : Int) (hs : s.size ≤ 1000000) (h : SpotV s p a b) (w : World) :
    Calls Try.prog 9 #[.string s, .int .i64 p] w fun e w' => e = .returned (.tuple #[.int .i64 a, .int .i64 b]) ∧ Below w.heap.size w w' := by
  rcases h with ⟨h, rfl, rfl⟩ | ⟨k, A, B, I, r, rfl, hk, hc, hA, hB, rfl, rfl⟩
  · exact (refspot_none s p h w).mono fun e w' ⟨h1, h2⟩ => ⟨h1, below_of_same h2⟩
  · exact refspot_v s k A B I r hk hs hc hA hB w
theorem mark_any (s : ByteArray) (p : Int) (R : ByteArray) (hs : s.size ≤ 1000000) (h : MarkV s p R) (w : World) :
    Calls Try.prog 13 #[.string s, .int .i64 p] w fun e w' => e = .returned (.string R) ∧ Below w.heap.size w w' := by
  rcases h with ⟨h, rfl⟩ | ⟨k, A, B, I, r, x, J, rfl, hk, hc, hx, hr, hA, hB, hR⟩
  · exact mark_none s p hs h w
  · exact mark_v s k A B I r x J R hk hs hc hx hr hA hB hR w
theorem refmark_any (s : ByteArray) (p : Int) (R : ByteArray) (hs : s.size ≤ 1000000) (h : MarkV s p R) (w : World) :
    Calls Try.prog 14 #[.string s, .int .i64 p] w fun e w' => e = .returned (.string R) ∧ Below w.heap.size w w' := by
  rcases h with ⟨h, rfl⟩ | ⟨k, A, B, I, r, x, J, rfl, hk, hc, hx, hr, hA, hB, hR⟩
  · exact refmark_none s p h w
  · exact refmark_v s k A B I r x J R hk hs hc hx hr hA hB hR w
theorem line_l (s : ByteArray) (n : Int) (x : List UInt8) (c : Bool) (y : ByteArray) (hs : s.size ≤ 1000000) (h : lineOf (rows s.data.toList) n = (x, c)) (hy : ByteArray.mk x.toArray = y) (w : World) :
    Calls Try.prog 10 #[.string s, .int .i64 n] w fun e w' => e = .returned (.tuple #[.string y, .bool c]) ∧ Below w.heap.size w w' := by subst hy; exact line_v s n x c hs h w
/-- What Starts hands back, its length by a letter. -/
theorem starts_l (s : ByteArray) (I : List (List UInt8)) (r : List UInt8) (N : Nat) (hs : s.size ≤ 1000000) (h : Cut s.data.toList I r) (hN : I.length + 1 = N) (w : World) :
    Calls Try.prog 11 #[.string s] w fun e w' => ∃ q c, e = .returned (.slice (some ⟨q, 0, none⟩) N c) ∧ (∀ i (hi : i < N), w'.cell? ⟨q, i, none⟩ = some (.int .i64 ((glue (I.take i)).length : Int))) ∧ Below w.heap.size w w' := by
  refine (starts_v s I r (begs I) hs h rfl w).mono ?_
  rintro e w' ⟨A, c, rfl, ho, hb⟩
  have hl : (begs I).length = N := by rw [begs_len]; exact hN
  unfold OwnN at ho
  rw [hl] at ho ⊢
  obtain ⟨q, cap, hv, _, _⟩ := ho.form (by omega)
  injection hv with h1 h2 h3
  subst h1; subst h3
  refine ⟨q, c, rfl, fun i hi => ?_, hb⟩
  rw [ho.cellAt i (by omega)]
  unfold nums
  rw [List.getElem?_map, begs_at I i (by omega)]; rfl
theorem glue_step (L : List (List UInt8)) (i : Nat) (h : i < L.length) : (glue (L.take (i + 1))).length = (glue (L.take i)).length + (L[i]).length + 1 := by
  rw [List.take_succ_eq_append_getElem h, glue_snoc]; simp; omega
theorem glue_le (l : List UInt8) (i : Nat) : (glue ((rows l).take i)).length ≤ l.length + 1 := by
  obtain ⟨I, r, h⟩ := cut_of l
  rw [h.told]
  have hl := h.len
  have : ∀ (L : List (List UInt8)) i, (glue (L.take i)).length ≤ (glue L).length := by
    intro L i
    conv => rhs; rw [← List.take_append_drop i L, glue_append, List.length_append]
    omega
  have := this (I ++ [r]) i
  rw [glue_snoc] at this
  simp at this; omega
set_option maxRecDepth 100000 in
set_option maxHeartbeats 4000000 in
theorem tells_in (s : ByteArray) (p n : Int) (hs : s.size ≤ 400) (k : Nat) (hk : n = (k : Int) + 1) (hkN : (k : Int) + 1 ≤ ((rows s.data.toList).length : Int)) (w : World) :
    Calls Try.prog 3 #[.string s, .int .i64 p, .int .i64 n] w fun e w' => e = .returned (.bool true) ∧ Below w.heap.size w w' := by
  have t0 : decide ((400 : Int) < (s.size : Int)) = false := by simp; omega
  have t0' : decide (400 < s.size) = false := by simp; omega
  have hs' : s.size ≤ 1000000 := by omega
  obtain ⟨a, b, R, hV, hM⟩ := spotV_of s p
  obtain ⟨I, r, hc⟩ := cut_of s.data.toList
  obtain ⟨L, hL⟩ : ∃ L, rows s.data.toList = L := ⟨_, rfl⟩
  obtain ⟨N, hN⟩ : ∃ N, L.length = N := ⟨_, rfl⟩
  have hLI : L = I ++ [r] := by rw [← hL, hc.told]
  have hIN : I.length + 1 = N := by rw [← hN, hLI, List.length_append]; rfl
  have hN1 : N ≤ 401 := by have := rows_len s.data.toList; rw [hL, hN, size_list] at this; omega
  have hgl : ∀ i, (glue (L.take i)).length ≤ 401 := fun i => by have := glue_le s.data.toList i; rw [hL, size_list] at this; omega
  have nn : ((N : Int) != (N : Int)) = false := by simp
  have hkL : k < L.length := by rw [hL] at hkN; omega
  obtain ⟨y, hy⟩ : ∃ y, ByteArray.mk (L[k]).toArray = y := ⟨_, rfl⟩
  obtain ⟨x, hx⟩ : ∃ x, L[k] = x := ⟨_, rfl⟩
  rw [hx] at hy
  have hl0 : lineOf (rows s.data.toList) n = (x, true) := by
    have e : L = L.take k ++ L[k] :: L.drop (k + 1) := by simp
    rw [hL, ← hx]
    conv => lhs; rw [e]
    exact lineOf_in _ _ _ _ (by rw [List.length_take]; omega)
  have hx' : L[k]? = some x := by rw [List.getElem?_eq_getElem hkL, hx]
  have hli := And.intro hl0 (And.intro hy hx')
  have u1 : decide (1 ≤ n) = true := by simp; omega
  have u2 : decide (n ≤ (N : Int)) = true := by simp; omega
  have v1 : 1 ≤ n := by omega
  have v2 : n ≤ 401 := by omega
  have e1 : n - 1 = (k : Int) := by omega
  have e2 : k < N := by omega
  have e3 : (k : Int) < (N : Int) := by omega
  have HK := Lib.hid hk
  clear hl0 hy hx hkL hx' hk hkN
  have HQ := Lib.hid (And.intro hs' (And.intro hV (And.intro hM (And.intro hc (And.intro hL (And.intro hN (And.intro hLI (And.intro hIN (And.intro hgl hli)))))))))
  clear hs' hV hM hc hL hN hLI hIN hgl hli hs
  go_enter Try.func3, Try.ntmps3
  go_wp2_with fail
  refine (all_v s L N HQ.out.1 HQ.out.2.2.2.2.1 HQ.out.2.2.2.2.2.1 w).mono ?_
  rintro e w1 ⟨g, c, rfl, ho, hb1⟩
  have B1 := Lib.hid (And.intro hb1 ho)
  clear hb1 ho
  go_wp2_with fail
  refine (spot_any s p a b HQ.out.1 HQ.out.2.1 w1).mono ?_
  rintro e w2 ⟨rfl, hb2⟩
  have B2 := Lib.hid (And.intro (step_B B1.out.1 hb2) (B1.out.2.below hb2))
  clear hb2
  go_wp2_with fail
  refine (refspot_any s p a b HQ.out.1 HQ.out.2.1 w2).mono ?_
  rintro e w3 ⟨rfl, hb3⟩
  have B3 := Lib.hid (And.intro (step_B B2.out.1 hb3) (B2.out.2.below hb3))
  clear hb3
  go_wp2_with fail
  refine (line_l s n x true y HQ.out.1 HQ.out.2.2.2.2.2.2.2.2.2.1 HQ.out.2.2.2.2.2.2.2.2.2.2.1 w3).mono ?_
  rintro e w4 ⟨rfl, hb4⟩
  have B4 := Lib.hid (And.intro (step_B B3.out.1 hb4) (B3.out.2.below hb4))
  clear hb4
  have d0 : w4.cell? ⟨g, k, none⟩ = some (.string y) := by
    obtain ⟨_, hy, hx'⟩ := HQ.out.2.2.2.2.2.2.2.2.2
    obtain ⟨hkL, hx⟩ := List.getElem?_eq_some_iff.1 hx'
    rw [B4.out.2.at k hkL, hx, hy]
  go_wp2_with fail
  clear d0
  refine (starts_l s I r N HQ.out.1 HQ.out.2.2.2.1 HQ.out.2.2.2.2.2.2.2.1 w4).mono ?_
  rintro e w5 ⟨q, c', rfl, hst, hb5⟩
  have B5 := Lib.hid (And.intro (step_B B4.out.1 hb5) (And.intro (B4.out.2.below hb5) hst))
  clear hb5 hst
  go_wp2_with fail
  go_loopg [17, 18] N (fun gk u v wr => ∃ (i fr : Nat), u = .int .i64 (fr : Int) ∧ v = .int .i64 (i : Int) ∧ w5 = wr ∧ i ≤ N ∧ fr ≤ 401 ∧ Hid (gk = N - i ∧ fr = (glue (L.take i)).length))
  case atStart => exact ⟨0, 0, rfl, rfl, rfl, by omega, by omega, rfl, by simp [glue]⟩
  case round =>
    obtain ⟨i, fr, rfl, rfl, rfl, hi, hfr, HH⟩ := hrel
    by_cases hlt : i < N
    · have t5 : decide (i < N) = true := by simpa using hlt
      have t6 : decide ((i : Int) < (N : Int)) = true := by simpa using hlt
      have hiL : i < L.length := by rw [HQ.out.2.2.2.2.2.1]; exact hlt
      obtain ⟨z, hz⟩ : ∃ z, ByteArray.mk (L[i]).toArray = z := ⟨_, rfl⟩
      have d1 : w5.cell? ⟨g, i, none⟩ = some (.string z) := by rw [B5.out.2.1.at i hiL, hz]
      have d2 : w5.cell? ⟨q, i, none⟩ = some (.int .i64 (fr : Int)) := by
        rw [B5.out.2.2 i hlt, HH.out.2, HQ.out.2.2.2.2.2.2.1, List.take_append_of_le_length (by have := HQ.out.2.2.2.2.2.2.2.1; omega)]
      have hstep : (glue (L.take (i + 1))).length = fr + z.size + 1 := by rw [glue_step L i hiL, ← hz, size_mk, ← HH.out.2]
      have z1 : fr + z.size + 1 ≤ 401 := by rw [← hstep]; exact HQ.out.2.2.2.2.2.2.2.2.1 (i + 1)
      have ff : ((fr : Int) != (fr : Int)) = false := by simp
      have HZ := Lib.hid hstep
      clear hstep hz hiL
      go_wp2_with fail
      go_roundg (N - (i + 1))
      case measure => have := HH.out.1; omega
      case rel => exact ⟨i + 1, fr + z.size + 1, by go_num, rfl, rfl, by omega, z1, rfl, HZ.out.symm⟩
    · have t5 : decide (i < N) = false := by simpa using hlt
      have t6 : decide ((i : Int) < (N : Int)) = false := by simp; omega
      go_wp2_with fail
      refine (count_v s N HQ.out.1 (by rw [HQ.out.2.2.2.2.1]; exact HQ.out.2.2.2.2.2.1) w5).mono ?_
      rintro e w6 ⟨rfl, hb6⟩
      have B6 := Lib.hid (step_B B5.out.1 hb6)
      clear hb6
      go_wp2_with fail
      refine (mark_any s p R HQ.out.1 HQ.out.2.2.1 w6).mono ?_
      rintro e w7 ⟨rfl, hb7⟩
      have B7 := Lib.hid (step_B B6.out hb7)
      clear hb7
      go_wp2_with fail
      refine (refmark_any s p R HQ.out.1 HQ.out.2.2.1 w7).mono ?_
      rintro e w8 ⟨rfl, hb8⟩
      have B8 := Lib.hid (step_B B7.out hb8)
      clear hb8
      go_wp2_with fail
      refine (works_v w8).mono ?_
      rintro e w9 ⟨rfl, hb9⟩
      have B9 := Lib.hid (step_B B8.out hb9)
      clear hb9
      go_wp2_with fail
      go_ret
      exact ⟨rfl, B9.out⟩
set_option maxRecDepth 100000 in
set_option maxHeartbeats 4000000 in
theorem tells_low (s : ByteArray) (p n : Int) (hs : s.size ≤ 400) (hn : n < 1) (w : World) :
    Calls Try.prog 3 #[.string s, .int .i64 p, .int .i64 n] w fun e w' => e = .returned (.bool true) ∧ Below w.heap.size w w' := by
  have t0 : decide ((400 : Int) < (s.size : Int)) = false := by simp; omega
  have t0' : decide (400 < s.size) = false := by simp; omega
  have hs' : s.size ≤ 1000000 := by omega
  obtain ⟨a, b, R, hV, hM⟩ := spotV_of s p
  obtain ⟨I, r, hc⟩ := cut_of s.data.toList
  obtain ⟨L, hL⟩ : ∃ L, rows s.data.toList = L := ⟨_, rfl⟩
  obtain ⟨N, hN⟩ : ∃ N, L.length = N := ⟨_, rfl⟩
  have hLI : L = I ++ [r] := by rw [← hL, hc.told]
  have hIN : I.length + 1 = N := by rw [← hN, hLI, List.length_append]; rfl
  have hN1 : N ≤ 401 := by have := rows_len s.data.toList; rw [hL, hN, size_list] at this; omega
  have hgl : ∀ i, (glue (L.take i)).length ≤ 401 := fun i => by have := glue_le s.data.toList i; rw [hL, size_list] at this; omega
  have nn : ((N : Int) != (N : Int)) = false := by simp
  have hl0 : lineOf (rows s.data.toList) n = ([], false) := lineOf_out _ _ (.inl hn)
  have hli := And.intro hl0 True.intro
  have u1 : decide (1 ≤ n) = false := by simp; omega
  clear hl0 hn
  have HQ := Lib.hid (And.intro hs' (And.intro hV (And.intro hM (And.intro hc (And.intro hL (And.intro hN (And.intro hLI (And.intro hIN (And.intro hgl hli)))))))))
  clear hs' hV hM hc hL hN hLI hIN hgl hli hs
  go_enter Try.func3, Try.ntmps3
  go_wp2_with fail
  refine (all_v s L N HQ.out.1 HQ.out.2.2.2.2.1 HQ.out.2.2.2.2.2.1 w).mono ?_
  rintro e w1 ⟨g, c, rfl, ho, hb1⟩
  have B1 := Lib.hid (And.intro hb1 ho)
  clear hb1 ho
  go_wp2_with fail
  refine (spot_any s p a b HQ.out.1 HQ.out.2.1 w1).mono ?_
  rintro e w2 ⟨rfl, hb2⟩
  have B2 := Lib.hid (And.intro (step_B B1.out.1 hb2) (B1.out.2.below hb2))
  clear hb2
  go_wp2_with fail
  refine (refspot_any s p a b HQ.out.1 HQ.out.2.1 w2).mono ?_
  rintro e w3 ⟨rfl, hb3⟩
  have B3 := Lib.hid (And.intro (step_B B2.out.1 hb3) (B2.out.2.below hb3))
  clear hb3
  go_wp2_with fail
  refine (line_l s n [] false ⟨#[]⟩ HQ.out.1 HQ.out.2.2.2.2.2.2.2.2.2.1 rfl w3).mono ?_
  rintro e w4 ⟨rfl, hb4⟩
  have B4 := Lib.hid (And.intro (step_B B3.out.1 hb4) (B3.out.2.below hb4))
  clear hb4
  go_wp2_with fail
  refine (starts_l s I r N HQ.out.1 HQ.out.2.2.2.1 HQ.out.2.2.2.2.2.2.2.1 w4).mono ?_
  rintro e w5 ⟨q, c', rfl, hst, hb5⟩
  have B5 := Lib.hid (And.intro (step_B B4.out.1 hb5) (And.intro (B4.out.2.below hb5) hst))
  clear hb5 hst
  go_wp2_with fail
  go_loopg [17, 18] N (fun gk u v wr => ∃ (i fr : Nat), u = .int .i64 (fr : Int) ∧ v = .int .i64 (i : Int) ∧ w5 = wr ∧ i ≤ N ∧ fr ≤ 401 ∧ Hid (gk = N - i ∧ fr = (glue (L.take i)).length))
  case atStart => exact ⟨0, 0, rfl, rfl, rfl, by omega, by omega, rfl, by simp [glue]⟩
  case round =>
    obtain ⟨i, fr, rfl, rfl, rfl, hi, hfr, HH⟩ := hrel
    by_cases hlt : i < N
    · have t5 : decide (i < N) = true := by simpa using hlt
      have t6 : decide ((i : Int) < (N : Int)) = true := by simpa using hlt
      have hiL : i < L.length := by rw [HQ.out.2.2.2.2.2.1]; exact hlt
      obtain ⟨z, hz⟩ : ∃ z, ByteArray.mk (L[i]).toArray = z := ⟨_, rfl⟩
      have d1 : w5.cell? ⟨g, i, none⟩ = some (.string z) := by rw [B5.out.2.1.at i hiL, hz]
      have d2 : w5.cell? ⟨q, i, none⟩ = some (.int .i64 (fr : Int)) := by
        rw [B5.out.2.2 i hlt, HH.out.2, HQ.out.2.2.2.2.2.2.1, List.take_append_of_le_length (by have := HQ.out.2.2.2.2.2.2.2.1; omega)]
      have hstep : (glue (L.take (i + 1))).length = fr + z.size + 1 := by rw [glue_step L i hiL, ← hz, size_mk, ← HH.out.2]
      have z1 : fr + z.size + 1 ≤ 401 := by rw [← hstep]; exact HQ.out.2.2.2.2.2.2.2.2.1 (i + 1)
      have ff : ((fr : Int) != (fr : Int)) = false := by simp
      have HZ := Lib.hid hstep
      clear hstep hz hiL
      go_wp2_with fail
      go_roundg (N - (i + 1))
      case measure => have := HH.out.1; omega
      case rel => exact ⟨i + 1, fr + z.size + 1, by go_num, rfl, rfl, by omega, z1, rfl, HZ.out.symm⟩
    · have t5 : decide (i < N) = false := by simpa using hlt
      have t6 : decide ((i : Int) < (N : Int)) = false := by simp; omega
      go_wp2_with fail
      refine (count_v s N HQ.out.1 (by rw [HQ.out.2.2.2.2.1]; exact HQ.out.2.2.2.2.2.1) w5).mono ?_
      rintro e w6 ⟨rfl, hb6⟩
      have B6 := Lib.hid (step_B B5.out.1 hb6)
      clear hb6
      go_wp2_with fail
      refine (mark_any s p R HQ.out.1 HQ.out.2.2.1 w6).mono ?_
      rintro e w7 ⟨rfl, hb7⟩
      have B7 := Lib.hid (step_B B6.out hb7)
      clear hb7
      go_wp2_with fail
      refine (refmark_any s p R HQ.out.1 HQ.out.2.2.1 w7).mono ?_
      rintro e w8 ⟨rfl, hb8⟩
      have B8 := Lib.hid (step_B B7.out hb8)
      clear hb8
      go_wp2_with fail
      refine (works_v w8).mono ?_
      rintro e w9 ⟨rfl, hb9⟩
      have B9 := Lib.hid (step_B B8.out hb9)
      clear hb9
      go_wp2_with fail
      go_ret
      exact ⟨rfl, B9.out⟩
set_option maxRecDepth 100000 in
set_option maxHeartbeats 4000000 in
theorem tells_high (s : ByteArray) (p n : Int) (hs : s.size ≤ 400) (hn0 : 1 ≤ n) (hn : ((rows s.data.toList).length : Int) < n) (w : World) :
    Calls Try.prog 3 #[.string s, .int .i64 p, .int .i64 n] w fun e w' => e = .returned (.bool true) ∧ Below w.heap.size w w' := by
  have t0 : decide ((400 : Int) < (s.size : Int)) = false := by simp; omega
  have t0' : decide (400 < s.size) = false := by simp; omega
  have hs' : s.size ≤ 1000000 := by omega
  obtain ⟨a, b, R, hV, hM⟩ := spotV_of s p
  obtain ⟨I, r, hc⟩ := cut_of s.data.toList
  obtain ⟨L, hL⟩ : ∃ L, rows s.data.toList = L := ⟨_, rfl⟩
  obtain ⟨N, hN⟩ : ∃ N, L.length = N := ⟨_, rfl⟩
  have hLI : L = I ++ [r] := by rw [← hL, hc.told]
  have hIN : I.length + 1 = N := by rw [← hN, hLI, List.length_append]; rfl
  have hN1 : N ≤ 401 := by have := rows_len s.data.toList; rw [hL, hN, size_list] at this; omega
  have hgl : ∀ i, (glue (L.take i)).length ≤ 401 := fun i => by have := glue_le s.data.toList i; rw [hL, size_list] at this; omega
  have nn : ((N : Int) != (N : Int)) = false := by simp
  have hl0 : lineOf (rows s.data.toList) n = ([], false) := lineOf_out _ _ (.inr hn)
  have hli := And.intro hl0 True.intro
  have u1 : decide (1 ≤ n) = true := by simp; omega
  have u2 : decide (n ≤ (N : Int)) = false := by rw [hL] at hn; simp; omega
  clear hl0 hn
  have HQ := Lib.hid (And.intro hs' (And.intro hV (And.intro hM (And.intro hc (And.intro hL (And.intro hN (And.intro hLI (And.intro hIN (And.intro hgl hli)))))))))
  clear hs' hV hM hc hL hN hLI hIN hgl hli hs
  go_enter Try.func3, Try.ntmps3
  go_wp2_with fail
  refine (all_v s L N HQ.out.1 HQ.out.2.2.2.2.1 HQ.out.2.2.2.2.2.1 w).mono ?_
  rintro e w1 ⟨g, c, rfl, ho, hb1⟩
  have B1 := Lib.hid (And.intro hb1 ho)
  clear hb1 ho
  go_wp2_with fail
  refine (spot_any s p a b HQ.out.1 HQ.out.2.1 w1).mono ?_
  rintro e w2 ⟨rfl, hb2⟩
  have B2 := Lib.hid (And.intro (step_B B1.out.1 hb2) (B1.out.2.below hb2))
  clear hb2
  go_wp2_with fail
  refine (refspot_any s p a b HQ.out.1 HQ.out.2.1 w2).mono ?_
  rintro e w3 ⟨rfl, hb3⟩
  have B3 := Lib.hid (And.intro (step_B B2.out.1 hb3) (B2.out.2.below hb3))
  clear hb3
  go_wp2_with fail
  refine (line_l s n [] false ⟨#[]⟩ HQ.out.1 HQ.out.2.2.2.2.2.2.2.2.2.1 rfl w3).mono ?_
  rintro e w4 ⟨rfl, hb4⟩
  have B4 := Lib.hid (And.intro (step_B B3.out.1 hb4) (B3.out.2.below hb4))
  clear hb4
  go_wp2_with fail
  refine (starts_l s I r N HQ.out.1 HQ.out.2.2.2.1 HQ.out.2.2.2.2.2.2.2.1 w4).mono ?_
  rintro e w5 ⟨q, c', rfl, hst, hb5⟩
  have B5 := Lib.hid (And.intro (step_B B4.out.1 hb5) (And.intro (B4.out.2.below hb5) hst))
  clear hb5 hst
  go_wp2_with fail
  go_loopg [17, 18] N (fun gk u v wr => ∃ (i fr : Nat), u = .int .i64 (fr : Int) ∧ v = .int .i64 (i : Int) ∧ w5 = wr ∧ i ≤ N ∧ fr ≤ 401 ∧ Hid (gk = N - i ∧ fr = (glue (L.take i)).length))
  case atStart => exact ⟨0, 0, rfl, rfl, rfl, by omega, by omega, rfl, by simp [glue]⟩
  case round =>
    obtain ⟨i, fr, rfl, rfl, rfl, hi, hfr, HH⟩ := hrel
    by_cases hlt : i < N
    · have t5 : decide (i < N) = true := by simpa using hlt
      have t6 : decide ((i : Int) < (N : Int)) = true := by simpa using hlt
      have hiL : i < L.length := by rw [HQ.out.2.2.2.2.2.1]; exact hlt
      obtain ⟨z, hz⟩ : ∃ z, ByteArray.mk (L[i]).toArray = z := ⟨_, rfl⟩
      have d1 : w5.cell? ⟨g, i, none⟩ = some (.string z) := by rw [B5.out.2.1.at i hiL, hz]
      have d2 : w5.cell? ⟨q, i, none⟩ = some (.int .i64 (fr : Int)) := by
        rw [B5.out.2.2 i hlt, HH.out.2, HQ.out.2.2.2.2.2.2.1, List.take_append_of_le_length (by have := HQ.out.2.2.2.2.2.2.2.1; omega)]
      have hstep : (glue (L.take (i + 1))).length = fr + z.size + 1 := by rw [glue_step L i hiL, ← hz, size_mk, ← HH.out.2]
      have z1 : fr + z.size + 1 ≤ 401 := by rw [← hstep]; exact HQ.out.2.2.2.2.2.2.2.2.1 (i + 1)
      have ff : ((fr : Int) != (fr : Int)) = false := by simp
      have HZ := Lib.hid hstep
      clear hstep hz hiL
      go_wp2_with fail
      go_roundg (N - (i + 1))
      case measure => have := HH.out.1; omega
      case rel => exact ⟨i + 1, fr + z.size + 1, by go_num, rfl, rfl, by omega, z1, rfl, HZ.out.symm⟩
    · have t5 : decide (i < N) = false := by simpa using hlt
      have t6 : decide ((i : Int) < (N : Int)) = false := by simp; omega
      go_wp2_with fail
      refine (count_v s N HQ.out.1 (by rw [HQ.out.2.2.2.2.1]; exact HQ.out.2.2.2.2.2.1) w5).mono ?_
      rintro e w6 ⟨rfl, hb6⟩
      have B6 := Lib.hid (step_B B5.out.1 hb6)
      clear hb6
      go_wp2_with fail
      refine (mark_any s p R HQ.out.1 HQ.out.2.2.1 w6).mono ?_
      rintro e w7 ⟨rfl, hb7⟩
      have B7 := Lib.hid (step_B B6.out hb7)
      clear hb7
      go_wp2_with fail
      refine (refmark_any s p R HQ.out.1 HQ.out.2.2.1 w7).mono ?_
      rintro e w8 ⟨rfl, hb8⟩
      have B8 := Lib.hid (step_B B7.out hb8)
      clear hb8
      go_wp2_with fail
      refine (works_v w8).mono ?_
      rintro e w9 ⟨rfl, hb9⟩
      have B9 := Lib.hid (step_B B8.out hb9)
      clear hb9
      go_wp2_with fail
      go_ret
      exact ⟨rfl, B9.out⟩
set_option maxRecDepth 100000 in
theorem tells_walk (s : ByteArray) (p n : Int) (w : World) :
    Calls Try.prog 3 #[.string s, .int .i64 p, .int .i64 n] w fun e w' => e = .returned (.bool true) ∧ Below w.heap.size w w' := by
  by_cases hs : s.size ≤ 400
  · by_cases h1 : n < 1
    · exact tells_low s p n hs h1 w
    · by_cases h2 : ((rows s.data.toList).length : Int) < n
      · exact tells_high s p n hs (by omega) h2 w
      · exact tells_in s p n hs (n.toNat - 1) (by omega) (by omega) w
  · have t0 : decide ((400 : Int) < (s.size : Int)) = true := by simp; omega
    have t0' : decide (400 < s.size) = true := by simp; omega
    clear hs
    go_enter Try.func3, Try.ntmps3
    go_wp2_with fail
    refine (works_v w).mono ?_
    rintro e w2 ⟨rfl, hb2⟩
    have B2 := Lib.hid hb2
    clear hb2
    go_wp2_with fail
    go_ret
    exact ⟨rfl, B2.out⟩
end Go.Proofs.Ytnmpaidllhijnaa
