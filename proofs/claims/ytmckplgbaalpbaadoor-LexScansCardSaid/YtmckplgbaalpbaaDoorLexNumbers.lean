/- The statement on numbers: any number from 0 on, of a register, a slot, or by itself, is told as a token of it, if it is not too great. -/
import Derived.Test.YtmckplgbaalpbaaDoorLexWorks
import Derived.Test.YtmckplgbaalpbaaDoorDeciRef
import Derived.Deep.RegionHeld3
namespace Go.Proofs.YtmckplgbaalpbaaDoor.Lex
open Go.ChangeShapes Go.WideShapes Go.RowKit
set_option linter.unusedVariables false
set_option maxRecDepth 20000

theorem add_run (a b c : ByteArray) (h : a.size + b.size ≤ 9223372036854775807) (hc : a ++ b = c) (W : World) : (Op.stringOp .add a b).run Tryd.prog W = .ok (.string c) W := by
  rw [run_string_add_sum W a b h, hc]
theorem stepS {w wr w1 : World} {b k : Nat} {v : Value} (h : wr.cell? ⟨b, k, none⟩ = some v ∧ Below w.heap.size w wr) (hb : Below wr.heap.size wr w1) : Hid (w1.cell? ⟨b, k, none⟩ = some v ∧ Below w.heap.size w w1) :=
  ⟨(hb.cell (p := ⟨b, k, none⟩) (World.block_lt_of_cell? _ _ h.1)).trans h.1, h.2.trans (hb.mono h.2.size)⟩
theorem txt_nat (u : Nat) : Deci.txt (u : Int) = Deci.digs u := by
  unfold Deci.txt
  rw [if_neg (by omega)]; rfl
theorem digs_size (u : Nat) (h : u < 9223372036854775808) : (Deci.digs u).length ≤ 19 := Deci.digs_le 18 u (by omega)
theorem num_works (n k : Int) (h : n < 0 ∨ k < 0 ∨ 4 < k) (w : World) (hg : Fau.Glob w) : Calls Tryd.prog 5 #[.int .i64 n, .int .i64 k] w fun e w' => e = .returned (.bool true) ∧ Below w.heap.size w w' := by
  have HG := Lib.hid hg
  have B0 := Lib.hid ((Below.refl _ w).alloc (Nat.le_refl _) (.cells #[.string ⟨#[]⟩, .string ⟨#[37]⟩, .string ⟨#[35]⟩, .string ⟨#[36, 103]⟩, .string ⟨#[36, 120]⟩] 9))
  clear hg
  by_cases h1 : n < 0
  · clear h
    go_enter Tryd.func5, Tryd.ntmps5
    go_wp2_with fail
    refine (works_v _ (HG.out.alloc _)).mono ?_
    rintro e w1 ⟨rfl, hb⟩
    have H1 := Lib.hid (B0.out.trans (hb.mono B0.out.size))
    clear hb
    go_wp2_with fail
    go_ret
    exact ⟨rfl, H1.out⟩
  · have h1' : 0 ≤ n := by omega
    by_cases h2 : k < 0
    · clear h h1
      go_enter Tryd.func5, Tryd.ntmps5
      go_wp2_with fail
      refine (works_v _ (HG.out.alloc _)).mono ?_
      rintro e w1 ⟨rfl, hb⟩
      have H1 := Lib.hid (B0.out.trans (hb.mono B0.out.size))
      clear hb
      go_wp2_with fail
      go_ret
      exact ⟨rfl, H1.out⟩
    · have h2' : 0 ≤ k := by omega
      have h3 : 4 < k := by omega
      clear h h1 h2
      go_enter Tryd.func5, Tryd.ntmps5
      go_wp2_with fail
      refine (works_v _ (HG.out.alloc _)).mono ?_
      rintro e w1 ⟨rfl, hb⟩
      have H1 := Lib.hid (B0.out.trans (hb.mono B0.out.size))
      clear hb
      go_wp2_with fail
      go_ret
      exact ⟨rfl, H1.out⟩
set_option maxHeartbeats 2000000 in
theorem num_0 (u : Nat) (hu : u < 9223372036854775808)  (w : World) (hg : Fau.Glob w) : Calls Tryd.prog 5 #[.int .i64 (u : Int), .int .i64 0] w fun e w' => e = .returned (.bool true) ∧ Below w.heap.size w w' := by
  have HG := Lib.hid hg
  have B0 := Lib.hid ((Below.refl _ w).alloc (Nat.le_refl _) (.cells #[.string ⟨#[]⟩, .string ⟨#[37]⟩, .string ⟨#[35]⟩, .string ⟨#[36, 103]⟩, .string ⟨#[36, 120]⟩] 9))
  have hl := digs_size u hu
  obtain ⟨l, hd⟩ : ∃ l, Deci.digs u = l := ⟨_, rfl⟩
  rw [hd] at hl
  obtain ⟨D, hD⟩ : ∃ D : ByteArray, (⟨l.toArray⟩ : ByteArray) = D := ⟨_, rfl⟩
  have hDl : D.data.toList = l := by rw [← hD]
  have hDs : D.size ≤ 19 := by rw [← Nam.len_list, hDl]; exact hl
  obtain ⟨X, hX⟩ : ∃ X : ByteArray, (⟨#[]⟩ : ByteArray) ++ D = X := ⟨_, rfl⟩
  have hadd := add_run ⟨#[]⟩ D X (by show 0 + D.size ≤ _; omega) hX
  have hXl : X.data.toList = [] ++ Deci.digs u := by rw [← hX, ByteArray.data_append, hd, ← hDl]; simp
  have hall := all_num (pre := []) (kind := 2) (cls := 0) (top := 9223372036854775808) (by decide) u hu
  rw [← hXl] at hall
  rw [if_neg (by omega)] at hall
  have hput : ∀ w : World, Calls Tryd.prog 13 #[.int .i64 (u : Int)] w fun e w' => e = .returned (.string D) ∧ Below w.heap.size w w' := fun w => by
    have := Deci.refput_v (u : Int) l (by rw [txt_nat]; exact hd) ⟨by omega, by omega⟩ w
    rw [hD] at this
    exact this
  have HP := Lib.hid (And.intro hput hall)
  have h0 : 0 ≤ (u : Int) := by omega
  have c0 : (w.alloc (.cells #[.string ⟨#[]⟩, .string ⟨#[37]⟩, .string ⟨#[35]⟩, .string ⟨#[36, 103]⟩, .string ⟨#[36, 120]⟩] 9)).cell? ⟨w.heap.size, 0, none⟩ = some (.string ⟨#[]⟩) := by simp
  skip
  clear hg hput hall hl hd hD hDl hDs hX hXl
  go_enter Tryd.func5, Tryd.ntmps5
  go_wp2_with fail
  go_region_held3 (fun W => W.cell? ⟨w.heap.size, 0, none⟩ = some (.string ⟨#[]⟩) ∧ Below w.heap.size w W)
    (first | exact ⟨c0, B0.out⟩ | exact ⟨c0, B0.out.drew⟩ | exact S2.out | exact S1.out)
    (first
      | (go_at_call 13; (refine (HP.out.1 _).mono ?_); rintro e w3 ⟨rfl, hb3⟩; have S1 := stepS (wr := (w.alloc (.cells #[.string ⟨#[]⟩, .string ⟨#[37]⟩, .string ⟨#[35]⟩, .string ⟨#[36, 103]⟩, .string ⟨#[36, 120]⟩] 9)).drew) ⟨c0, B0.out.drew⟩ hb3; clear hb3)
      | (go_at_call 7; (refine (all_v X _).mono ?_); rintro e w4 hP; obtain ⟨A, c, rfl, ho, hb4⟩ := hP.good HP.out.2; obtain ⟨g, rfl, hgl, hgs, hc⟩ := ho.form (Nat.zero_lt_succ _); have C4 := Lib.hid hc; have S2 := stepS S1.out hb4; clear hP hb4 ho hgl hgs hc))
  all_goals have c2 : w4.cell? ⟨g, 2, none⟩ = some (.int .i64 (u : Int)) := C4.out 0 2 (Nat.zero_lt_succ _) (by decide)
  all_goals have c3 : w4.cell? ⟨g, 3, none⟩ = some (.int .i64 0) := C4.out 0 3 (Nat.zero_lt_succ _) (by decide)
  all_goals have c4 : w4.cell? ⟨g, 4, none⟩ = some (.int .i64 0) := C4.out 0 4 (Nat.zero_lt_succ _) (by decide)
  all_goals go_wp2_with fail
  all_goals refine (works_v _ (HG.out.below S2.out.2 HG.out.pos)).mono ?_
  all_goals rintro e w6 ⟨rfl, hb6⟩
  all_goals have B6 := Lib.hid (S2.out.2.trans (hb6.mono S2.out.2.size))
  all_goals clear hb6
  all_goals go_wp2_with fail
  all_goals go_ret
  all_goals exact ⟨rfl, B6.out⟩
set_option maxHeartbeats 2000000 in
theorem num_1 (u : Nat) (hu : u < 9223372036854775808) (hm : u ≤ 2147483647) (w : World) (hg : Fau.Glob w) : Calls Tryd.prog 5 #[.int .i64 (u : Int), .int .i64 1] w fun e w' => e = .returned (.bool true) ∧ Below w.heap.size w w' := by
  have HG := Lib.hid hg
  have B0 := Lib.hid ((Below.refl _ w).alloc (Nat.le_refl _) (.cells #[.string ⟨#[]⟩, .string ⟨#[37]⟩, .string ⟨#[35]⟩, .string ⟨#[36, 103]⟩, .string ⟨#[36, 120]⟩] 9))
  have hl := digs_size u hu
  obtain ⟨l, hd⟩ : ∃ l, Deci.digs u = l := ⟨_, rfl⟩
  rw [hd] at hl
  obtain ⟨D, hD⟩ : ∃ D : ByteArray, (⟨l.toArray⟩ : ByteArray) = D := ⟨_, rfl⟩
  have hDl : D.data.toList = l := by rw [← hD]
  have hDs : D.size ≤ 19 := by rw [← Nam.len_list, hDl]; exact hl
  obtain ⟨X, hX⟩ : ∃ X : ByteArray, (⟨#[37]⟩ : ByteArray) ++ D = X := ⟨_, rfl⟩
  have hadd := add_run ⟨#[37]⟩ D X (by show 1 + D.size ≤ _; omega) hX
  have hXl : X.data.toList = [37] ++ Deci.digs u := by rw [← hX, ByteArray.data_append, hd, ← hDl]; simp
  have hall := all_num (pre := [37]) (kind := 4) (cls := 0) (top := 2147483647) (by decide) u hu
  rw [← hXl] at hall
  rw [if_neg (by omega)] at hall
  have hput : ∀ w : World, Calls Tryd.prog 13 #[.int .i64 (u : Int)] w fun e w' => e = .returned (.string D) ∧ Below w.heap.size w w' := fun w => by
    have := Deci.refput_v (u : Int) l (by rw [txt_nat]; exact hd) ⟨by omega, by omega⟩ w
    rw [hD] at this
    exact this
  have HP := Lib.hid (And.intro hput hall)
  have h0 : 0 ≤ (u : Int) := by omega
  have c0 : (w.alloc (.cells #[.string ⟨#[]⟩, .string ⟨#[37]⟩, .string ⟨#[35]⟩, .string ⟨#[36, 103]⟩, .string ⟨#[36, 120]⟩] 9)).cell? ⟨w.heap.size, 1, none⟩ = some (.string ⟨#[37]⟩) := by simp
  have hmi : (u : Int) ≤ 2147483647 := by omega
  clear hg hput hall hl hd hD hDl hDs hX hXl
  go_enter Tryd.func5, Tryd.ntmps5
  go_wp2_with fail
  go_region_held3 (fun W => W.cell? ⟨w.heap.size, 1, none⟩ = some (.string ⟨#[37]⟩) ∧ Below w.heap.size w W)
    (first | exact ⟨c0, B0.out⟩ | exact ⟨c0, B0.out.drew⟩ | exact S2.out | exact S1.out)
    (first
      | (go_at_call 13; (refine (HP.out.1 _).mono ?_); rintro e w3 ⟨rfl, hb3⟩; have S1 := stepS (wr := (w.alloc (.cells #[.string ⟨#[]⟩, .string ⟨#[37]⟩, .string ⟨#[35]⟩, .string ⟨#[36, 103]⟩, .string ⟨#[36, 120]⟩] 9)).drew) ⟨c0, B0.out.drew⟩ hb3; clear hb3)
      | (go_at_call 7; (refine (all_v X _).mono ?_); rintro e w4 hP; obtain ⟨A, c, rfl, ho, hb4⟩ := hP.good HP.out.2; obtain ⟨g, rfl, hgl, hgs, hc⟩ := ho.form (Nat.zero_lt_succ _); have C4 := Lib.hid hc; have S2 := stepS S1.out hb4; clear hP hb4 ho hgl hgs hc))
  all_goals have c2 : w4.cell? ⟨g, 2, none⟩ = some (.int .i64 (u : Int)) := C4.out 0 2 (Nat.zero_lt_succ _) (by decide)
  all_goals have c3 : w4.cell? ⟨g, 3, none⟩ = some (.int .i64 0) := C4.out 0 3 (Nat.zero_lt_succ _) (by decide)
  all_goals have c4 : w4.cell? ⟨g, 4, none⟩ = some (.int .i64 0) := C4.out 0 4 (Nat.zero_lt_succ _) (by decide)
  all_goals go_wp2_with fail
  all_goals refine (works_v _ (HG.out.below S2.out.2 HG.out.pos)).mono ?_
  all_goals rintro e w6 ⟨rfl, hb6⟩
  all_goals have B6 := Lib.hid (S2.out.2.trans (hb6.mono S2.out.2.size))
  all_goals clear hb6
  all_goals go_wp2_with fail
  all_goals go_ret
  all_goals exact ⟨rfl, B6.out⟩
set_option maxHeartbeats 2000000 in
theorem num_1_great (u : Nat) (hu : u < 9223372036854775808) (hm : 2147483647 < u) (w : World) (hg : Fau.Glob w) : Calls Tryd.prog 5 #[.int .i64 (u : Int), .int .i64 1] w fun e w' => e = .returned (.bool true) ∧ Below w.heap.size w w' := by
  have HG := Lib.hid hg
  have B0 := Lib.hid ((Below.refl _ w).alloc (Nat.le_refl _) (.cells #[.string ⟨#[]⟩, .string ⟨#[37]⟩, .string ⟨#[35]⟩, .string ⟨#[36, 103]⟩, .string ⟨#[36, 120]⟩] 9))
  have hl := digs_size u hu
  obtain ⟨l, hd⟩ : ∃ l, Deci.digs u = l := ⟨_, rfl⟩
  rw [hd] at hl
  obtain ⟨D, hD⟩ : ∃ D : ByteArray, (⟨l.toArray⟩ : ByteArray) = D := ⟨_, rfl⟩
  have hDl : D.data.toList = l := by rw [← hD]
  have hDs : D.size ≤ 19 := by rw [← Nam.len_list, hDl]; exact hl
  obtain ⟨X, hX⟩ : ∃ X : ByteArray, (⟨#[37]⟩ : ByteArray) ++ D = X := ⟨_, rfl⟩
  have hadd := add_run ⟨#[37]⟩ D X (by show 1 + D.size ≤ _; omega) hX
  have hXl : X.data.toList = [37] ++ Deci.digs u := by rw [← hX, ByteArray.data_append, hd, ← hDl]; simp
  have hall := all_num (pre := [37]) (kind := 4) (cls := 0) (top := 2147483647) (by decide) u hu
  rw [← hXl] at hall
  rw [if_pos (by omega)] at hall
  have hput : ∀ w : World, Calls Tryd.prog 13 #[.int .i64 (u : Int)] w fun e w' => e = .returned (.string D) ∧ Below w.heap.size w w' := fun w => by
    have := Deci.refput_v (u : Int) l (by rw [txt_nat]; exact hd) ⟨by omega, by omega⟩ w
    rw [hD] at this
    exact this
  have HP := Lib.hid (And.intro hput hall)
  have h0 : 0 ≤ (u : Int) := by omega
  have c0 : (w.alloc (.cells #[.string ⟨#[]⟩, .string ⟨#[37]⟩, .string ⟨#[35]⟩, .string ⟨#[36, 103]⟩, .string ⟨#[36, 120]⟩] 9)).cell? ⟨w.heap.size, 1, none⟩ = some (.string ⟨#[37]⟩) := by simp
  have hmi : (2147483647 : Int) < (u : Int) := by omega
  clear hg hput hall hl hd hD hDl hDs hX hXl
  go_enter Tryd.func5, Tryd.ntmps5
  go_wp2_with fail
  go_region_held3 (fun W => W.cell? ⟨w.heap.size, 1, none⟩ = some (.string ⟨#[37]⟩) ∧ Below w.heap.size w W)
    (first | exact ⟨c0, B0.out⟩ | exact ⟨c0, B0.out.drew⟩ | exact S2.out | exact S1.out)
    (first
      | (go_at_call 13; (refine (HP.out.1 _).mono ?_); rintro e w3 ⟨rfl, hb3⟩; have S1 := stepS (wr := (w.alloc (.cells #[.string ⟨#[]⟩, .string ⟨#[37]⟩, .string ⟨#[35]⟩, .string ⟨#[36, 103]⟩, .string ⟨#[36, 120]⟩] 9)).drew) ⟨c0, B0.out.drew⟩ hb3; clear hb3)
      | (go_at_call 7; (refine (all_v X _).mono ?_); rintro e w4 hP; obtain ⟨rfl, hb4⟩ := hP.bad HP.out.2 (by decide); have S2 := stepS S1.out hb4; clear hP hb4))
  all_goals go_wp2_with fail
  all_goals refine (Fau.of_v 2 0 _ (HG.out.below S2.out.2 HG.out.pos)).mono ?_
  all_goals rintro e w5 ⟨rfl, hb5⟩
  all_goals have B5 := Lib.hid (S2.out.2.trans (hb5.mono S2.out.2.size))
  all_goals clear hb5
  all_goals go_wp2_with fail
  all_goals refine (works_v _ (HG.out.below B5.out HG.out.pos)).mono ?_
  all_goals rintro e w6 ⟨rfl, hb6⟩
  all_goals have B6 := Lib.hid (B5.out.trans (hb6.mono B5.out.size))
  all_goals clear hb6
  all_goals go_wp2_with fail
  all_goals go_ret
  all_goals exact ⟨rfl, B6.out⟩
set_option maxHeartbeats 2000000 in
theorem num_2 (u : Nat) (hu : u < 9223372036854775808) (hm : u ≤ 2147483647) (w : World) (hg : Fau.Glob w) : Calls Tryd.prog 5 #[.int .i64 (u : Int), .int .i64 2] w fun e w' => e = .returned (.bool true) ∧ Below w.heap.size w w' := by
  have HG := Lib.hid hg
  have B0 := Lib.hid ((Below.refl _ w).alloc (Nat.le_refl _) (.cells #[.string ⟨#[]⟩, .string ⟨#[37]⟩, .string ⟨#[35]⟩, .string ⟨#[36, 103]⟩, .string ⟨#[36, 120]⟩] 9))
  have hl := digs_size u hu
  obtain ⟨l, hd⟩ : ∃ l, Deci.digs u = l := ⟨_, rfl⟩
  rw [hd] at hl
  obtain ⟨D, hD⟩ : ∃ D : ByteArray, (⟨l.toArray⟩ : ByteArray) = D := ⟨_, rfl⟩
  have hDl : D.data.toList = l := by rw [← hD]
  have hDs : D.size ≤ 19 := by rw [← Nam.len_list, hDl]; exact hl
  obtain ⟨X, hX⟩ : ∃ X : ByteArray, (⟨#[35]⟩ : ByteArray) ++ D = X := ⟨_, rfl⟩
  have hadd := add_run ⟨#[35]⟩ D X (by show 1 + D.size ≤ _; omega) hX
  have hXl : X.data.toList = [35] ++ Deci.digs u := by rw [← hX, ByteArray.data_append, hd, ← hDl]; simp
  have hall := all_num (pre := [35]) (kind := 6) (cls := 0) (top := 2147483647) (by decide) u hu
  rw [← hXl] at hall
  rw [if_neg (by omega)] at hall
  have hput : ∀ w : World, Calls Tryd.prog 13 #[.int .i64 (u : Int)] w fun e w' => e = .returned (.string D) ∧ Below w.heap.size w w' := fun w => by
    have := Deci.refput_v (u : Int) l (by rw [txt_nat]; exact hd) ⟨by omega, by omega⟩ w
    rw [hD] at this
    exact this
  have HP := Lib.hid (And.intro hput hall)
  have h0 : 0 ≤ (u : Int) := by omega
  have c0 : (w.alloc (.cells #[.string ⟨#[]⟩, .string ⟨#[37]⟩, .string ⟨#[35]⟩, .string ⟨#[36, 103]⟩, .string ⟨#[36, 120]⟩] 9)).cell? ⟨w.heap.size, 2, none⟩ = some (.string ⟨#[35]⟩) := by simp
  have hmi : (u : Int) ≤ 2147483647 := by omega
  clear hg hput hall hl hd hD hDl hDs hX hXl
  go_enter Tryd.func5, Tryd.ntmps5
  go_wp2_with fail
  go_region_held3 (fun W => W.cell? ⟨w.heap.size, 2, none⟩ = some (.string ⟨#[35]⟩) ∧ Below w.heap.size w W)
    (first | exact ⟨c0, B0.out⟩ | exact ⟨c0, B0.out.drew⟩ | exact S2.out | exact S1.out)
    (first
      | (go_at_call 13; (refine (HP.out.1 _).mono ?_); rintro e w3 ⟨rfl, hb3⟩; have S1 := stepS (wr := (w.alloc (.cells #[.string ⟨#[]⟩, .string ⟨#[37]⟩, .string ⟨#[35]⟩, .string ⟨#[36, 103]⟩, .string ⟨#[36, 120]⟩] 9)).drew) ⟨c0, B0.out.drew⟩ hb3; clear hb3)
      | (go_at_call 7; (refine (all_v X _).mono ?_); rintro e w4 hP; obtain ⟨A, c, rfl, ho, hb4⟩ := hP.good HP.out.2; obtain ⟨g, rfl, hgl, hgs, hc⟩ := ho.form (Nat.zero_lt_succ _); have C4 := Lib.hid hc; have S2 := stepS S1.out hb4; clear hP hb4 ho hgl hgs hc))
  all_goals have c2 : w4.cell? ⟨g, 2, none⟩ = some (.int .i64 (u : Int)) := C4.out 0 2 (Nat.zero_lt_succ _) (by decide)
  all_goals have c3 : w4.cell? ⟨g, 3, none⟩ = some (.int .i64 0) := C4.out 0 3 (Nat.zero_lt_succ _) (by decide)
  all_goals have c4 : w4.cell? ⟨g, 4, none⟩ = some (.int .i64 0) := C4.out 0 4 (Nat.zero_lt_succ _) (by decide)
  all_goals go_wp2_with fail
  all_goals refine (works_v _ (HG.out.below S2.out.2 HG.out.pos)).mono ?_
  all_goals rintro e w6 ⟨rfl, hb6⟩
  all_goals have B6 := Lib.hid (S2.out.2.trans (hb6.mono S2.out.2.size))
  all_goals clear hb6
  all_goals go_wp2_with fail
  all_goals go_ret
  all_goals exact ⟨rfl, B6.out⟩
set_option maxHeartbeats 2000000 in
theorem num_2_great (u : Nat) (hu : u < 9223372036854775808) (hm : 2147483647 < u) (w : World) (hg : Fau.Glob w) : Calls Tryd.prog 5 #[.int .i64 (u : Int), .int .i64 2] w fun e w' => e = .returned (.bool true) ∧ Below w.heap.size w w' := by
  have HG := Lib.hid hg
  have B0 := Lib.hid ((Below.refl _ w).alloc (Nat.le_refl _) (.cells #[.string ⟨#[]⟩, .string ⟨#[37]⟩, .string ⟨#[35]⟩, .string ⟨#[36, 103]⟩, .string ⟨#[36, 120]⟩] 9))
  have hl := digs_size u hu
  obtain ⟨l, hd⟩ : ∃ l, Deci.digs u = l := ⟨_, rfl⟩
  rw [hd] at hl
  obtain ⟨D, hD⟩ : ∃ D : ByteArray, (⟨l.toArray⟩ : ByteArray) = D := ⟨_, rfl⟩
  have hDl : D.data.toList = l := by rw [← hD]
  have hDs : D.size ≤ 19 := by rw [← Nam.len_list, hDl]; exact hl
  obtain ⟨X, hX⟩ : ∃ X : ByteArray, (⟨#[35]⟩ : ByteArray) ++ D = X := ⟨_, rfl⟩
  have hadd := add_run ⟨#[35]⟩ D X (by show 1 + D.size ≤ _; omega) hX
  have hXl : X.data.toList = [35] ++ Deci.digs u := by rw [← hX, ByteArray.data_append, hd, ← hDl]; simp
  have hall := all_num (pre := [35]) (kind := 6) (cls := 0) (top := 2147483647) (by decide) u hu
  rw [← hXl] at hall
  rw [if_pos (by omega)] at hall
  have hput : ∀ w : World, Calls Tryd.prog 13 #[.int .i64 (u : Int)] w fun e w' => e = .returned (.string D) ∧ Below w.heap.size w w' := fun w => by
    have := Deci.refput_v (u : Int) l (by rw [txt_nat]; exact hd) ⟨by omega, by omega⟩ w
    rw [hD] at this
    exact this
  have HP := Lib.hid (And.intro hput hall)
  have h0 : 0 ≤ (u : Int) := by omega
  have c0 : (w.alloc (.cells #[.string ⟨#[]⟩, .string ⟨#[37]⟩, .string ⟨#[35]⟩, .string ⟨#[36, 103]⟩, .string ⟨#[36, 120]⟩] 9)).cell? ⟨w.heap.size, 2, none⟩ = some (.string ⟨#[35]⟩) := by simp
  have hmi : (2147483647 : Int) < (u : Int) := by omega
  clear hg hput hall hl hd hD hDl hDs hX hXl
  go_enter Tryd.func5, Tryd.ntmps5
  go_wp2_with fail
  go_region_held3 (fun W => W.cell? ⟨w.heap.size, 2, none⟩ = some (.string ⟨#[35]⟩) ∧ Below w.heap.size w W)
    (first | exact ⟨c0, B0.out⟩ | exact ⟨c0, B0.out.drew⟩ | exact S2.out | exact S1.out)
    (first
      | (go_at_call 13; (refine (HP.out.1 _).mono ?_); rintro e w3 ⟨rfl, hb3⟩; have S1 := stepS (wr := (w.alloc (.cells #[.string ⟨#[]⟩, .string ⟨#[37]⟩, .string ⟨#[35]⟩, .string ⟨#[36, 103]⟩, .string ⟨#[36, 120]⟩] 9)).drew) ⟨c0, B0.out.drew⟩ hb3; clear hb3)
      | (go_at_call 7; (refine (all_v X _).mono ?_); rintro e w4 hP; obtain ⟨rfl, hb4⟩ := hP.bad HP.out.2 (by decide); have S2 := stepS S1.out hb4; clear hP hb4))
  all_goals go_wp2_with fail
  all_goals refine (Fau.of_v 2 0 _ (HG.out.below S2.out.2 HG.out.pos)).mono ?_
  all_goals rintro e w5 ⟨rfl, hb5⟩
  all_goals have B5 := Lib.hid (S2.out.2.trans (hb5.mono S2.out.2.size))
  all_goals clear hb5
  all_goals go_wp2_with fail
  all_goals refine (works_v _ (HG.out.below B5.out HG.out.pos)).mono ?_
  all_goals rintro e w6 ⟨rfl, hb6⟩
  all_goals have B6 := Lib.hid (B5.out.trans (hb6.mono B5.out.size))
  all_goals clear hb6
  all_goals go_wp2_with fail
  all_goals go_ret
  all_goals exact ⟨rfl, B6.out⟩
set_option maxHeartbeats 2000000 in
theorem num_3 (u : Nat) (hu : u < 9223372036854775808) (hm : u ≤ 2147483647) (w : World) (hg : Fau.Glob w) : Calls Tryd.prog 5 #[.int .i64 (u : Int), .int .i64 3] w fun e w' => e = .returned (.bool true) ∧ Below w.heap.size w w' := by
  have HG := Lib.hid hg
  have B0 := Lib.hid ((Below.refl _ w).alloc (Nat.le_refl _) (.cells #[.string ⟨#[]⟩, .string ⟨#[37]⟩, .string ⟨#[35]⟩, .string ⟨#[36, 103]⟩, .string ⟨#[36, 120]⟩] 9))
  have hl := digs_size u hu
  obtain ⟨l, hd⟩ : ∃ l, Deci.digs u = l := ⟨_, rfl⟩
  rw [hd] at hl
  obtain ⟨D, hD⟩ : ∃ D : ByteArray, (⟨l.toArray⟩ : ByteArray) = D := ⟨_, rfl⟩
  have hDl : D.data.toList = l := by rw [← hD]
  have hDs : D.size ≤ 19 := by rw [← Nam.len_list, hDl]; exact hl
  obtain ⟨X, hX⟩ : ∃ X : ByteArray, (⟨#[36, 103]⟩ : ByteArray) ++ D = X := ⟨_, rfl⟩
  have hadd := add_run ⟨#[36, 103]⟩ D X (by show 2 + D.size ≤ _; omega) hX
  have hXl : X.data.toList = [36, 103] ++ Deci.digs u := by rw [← hX, ByteArray.data_append, hd, ← hDl]; simp
  have hall := all_num (pre := [36, 103]) (kind := 5) (cls := 0) (top := 2147483647) (by decide) u hu
  rw [← hXl] at hall
  rw [if_neg (by omega)] at hall
  have hput : ∀ w : World, Calls Tryd.prog 13 #[.int .i64 (u : Int)] w fun e w' => e = .returned (.string D) ∧ Below w.heap.size w w' := fun w => by
    have := Deci.refput_v (u : Int) l (by rw [txt_nat]; exact hd) ⟨by omega, by omega⟩ w
    rw [hD] at this
    exact this
  have HP := Lib.hid (And.intro hput hall)
  have h0 : 0 ≤ (u : Int) := by omega
  have c0 : (w.alloc (.cells #[.string ⟨#[]⟩, .string ⟨#[37]⟩, .string ⟨#[35]⟩, .string ⟨#[36, 103]⟩, .string ⟨#[36, 120]⟩] 9)).cell? ⟨w.heap.size, 3, none⟩ = some (.string ⟨#[36, 103]⟩) := by simp
  have hmi : (u : Int) ≤ 2147483647 := by omega
  clear hg hput hall hl hd hD hDl hDs hX hXl
  go_enter Tryd.func5, Tryd.ntmps5
  go_wp2_with fail
  go_region_held3 (fun W => W.cell? ⟨w.heap.size, 3, none⟩ = some (.string ⟨#[36, 103]⟩) ∧ Below w.heap.size w W)
    (first | exact ⟨c0, B0.out⟩ | exact ⟨c0, B0.out.drew⟩ | exact S2.out | exact S1.out)
    (first
      | (go_at_call 13; (refine (HP.out.1 _).mono ?_); rintro e w3 ⟨rfl, hb3⟩; have S1 := stepS (wr := (w.alloc (.cells #[.string ⟨#[]⟩, .string ⟨#[37]⟩, .string ⟨#[35]⟩, .string ⟨#[36, 103]⟩, .string ⟨#[36, 120]⟩] 9)).drew) ⟨c0, B0.out.drew⟩ hb3; clear hb3)
      | (go_at_call 7; (refine (all_v X _).mono ?_); rintro e w4 hP; obtain ⟨A, c, rfl, ho, hb4⟩ := hP.good HP.out.2; obtain ⟨g, rfl, hgl, hgs, hc⟩ := ho.form (Nat.zero_lt_succ _); have C4 := Lib.hid hc; have S2 := stepS S1.out hb4; clear hP hb4 ho hgl hgs hc))
  all_goals have c2 : w4.cell? ⟨g, 2, none⟩ = some (.int .i64 (u : Int)) := C4.out 0 2 (Nat.zero_lt_succ _) (by decide)
  all_goals have c3 : w4.cell? ⟨g, 3, none⟩ = some (.int .i64 0) := C4.out 0 3 (Nat.zero_lt_succ _) (by decide)
  all_goals have c4 : w4.cell? ⟨g, 4, none⟩ = some (.int .i64 0) := C4.out 0 4 (Nat.zero_lt_succ _) (by decide)
  all_goals go_wp2_with fail
  all_goals refine (works_v _ (HG.out.below S2.out.2 HG.out.pos)).mono ?_
  all_goals rintro e w6 ⟨rfl, hb6⟩
  all_goals have B6 := Lib.hid (S2.out.2.trans (hb6.mono S2.out.2.size))
  all_goals clear hb6
  all_goals go_wp2_with fail
  all_goals go_ret
  all_goals exact ⟨rfl, B6.out⟩
set_option maxHeartbeats 2000000 in
theorem num_3_great (u : Nat) (hu : u < 9223372036854775808) (hm : 2147483647 < u) (w : World) (hg : Fau.Glob w) : Calls Tryd.prog 5 #[.int .i64 (u : Int), .int .i64 3] w fun e w' => e = .returned (.bool true) ∧ Below w.heap.size w w' := by
  have HG := Lib.hid hg
  have B0 := Lib.hid ((Below.refl _ w).alloc (Nat.le_refl _) (.cells #[.string ⟨#[]⟩, .string ⟨#[37]⟩, .string ⟨#[35]⟩, .string ⟨#[36, 103]⟩, .string ⟨#[36, 120]⟩] 9))
  have hl := digs_size u hu
  obtain ⟨l, hd⟩ : ∃ l, Deci.digs u = l := ⟨_, rfl⟩
  rw [hd] at hl
  obtain ⟨D, hD⟩ : ∃ D : ByteArray, (⟨l.toArray⟩ : ByteArray) = D := ⟨_, rfl⟩
  have hDl : D.data.toList = l := by rw [← hD]
  have hDs : D.size ≤ 19 := by rw [← Nam.len_list, hDl]; exact hl
  obtain ⟨X, hX⟩ : ∃ X : ByteArray, (⟨#[36, 103]⟩ : ByteArray) ++ D = X := ⟨_, rfl⟩
  have hadd := add_run ⟨#[36, 103]⟩ D X (by show 2 + D.size ≤ _; omega) hX
  have hXl : X.data.toList = [36, 103] ++ Deci.digs u := by rw [← hX, ByteArray.data_append, hd, ← hDl]; simp
  have hall := all_num (pre := [36, 103]) (kind := 5) (cls := 0) (top := 2147483647) (by decide) u hu
  rw [← hXl] at hall
  rw [if_pos (by omega)] at hall
  have hput : ∀ w : World, Calls Tryd.prog 13 #[.int .i64 (u : Int)] w fun e w' => e = .returned (.string D) ∧ Below w.heap.size w w' := fun w => by
    have := Deci.refput_v (u : Int) l (by rw [txt_nat]; exact hd) ⟨by omega, by omega⟩ w
    rw [hD] at this
    exact this
  have HP := Lib.hid (And.intro hput hall)
  have h0 : 0 ≤ (u : Int) := by omega
  have c0 : (w.alloc (.cells #[.string ⟨#[]⟩, .string ⟨#[37]⟩, .string ⟨#[35]⟩, .string ⟨#[36, 103]⟩, .string ⟨#[36, 120]⟩] 9)).cell? ⟨w.heap.size, 3, none⟩ = some (.string ⟨#[36, 103]⟩) := by simp
  have hmi : (2147483647 : Int) < (u : Int) := by omega
  clear hg hput hall hl hd hD hDl hDs hX hXl
  go_enter Tryd.func5, Tryd.ntmps5
  go_wp2_with fail
  go_region_held3 (fun W => W.cell? ⟨w.heap.size, 3, none⟩ = some (.string ⟨#[36, 103]⟩) ∧ Below w.heap.size w W)
    (first | exact ⟨c0, B0.out⟩ | exact ⟨c0, B0.out.drew⟩ | exact S2.out | exact S1.out)
    (first
      | (go_at_call 13; (refine (HP.out.1 _).mono ?_); rintro e w3 ⟨rfl, hb3⟩; have S1 := stepS (wr := (w.alloc (.cells #[.string ⟨#[]⟩, .string ⟨#[37]⟩, .string ⟨#[35]⟩, .string ⟨#[36, 103]⟩, .string ⟨#[36, 120]⟩] 9)).drew) ⟨c0, B0.out.drew⟩ hb3; clear hb3)
      | (go_at_call 7; (refine (all_v X _).mono ?_); rintro e w4 hP; obtain ⟨rfl, hb4⟩ := hP.bad HP.out.2 (by decide); have S2 := stepS S1.out hb4; clear hP hb4))
  all_goals go_wp2_with fail
  all_goals refine (Fau.of_v 2 0 _ (HG.out.below S2.out.2 HG.out.pos)).mono ?_
  all_goals rintro e w5 ⟨rfl, hb5⟩
  all_goals have B5 := Lib.hid (S2.out.2.trans (hb5.mono S2.out.2.size))
  all_goals clear hb5
  all_goals go_wp2_with fail
  all_goals refine (works_v _ (HG.out.below B5.out HG.out.pos)).mono ?_
  all_goals rintro e w6 ⟨rfl, hb6⟩
  all_goals have B6 := Lib.hid (B5.out.trans (hb6.mono B5.out.size))
  all_goals clear hb6
  all_goals go_wp2_with fail
  all_goals go_ret
  all_goals exact ⟨rfl, B6.out⟩
set_option maxHeartbeats 2000000 in
theorem num_4 (u : Nat) (hu : u < 9223372036854775808) (hm : u ≤ 2147483647) (w : World) (hg : Fau.Glob w) : Calls Tryd.prog 5 #[.int .i64 (u : Int), .int .i64 4] w fun e w' => e = .returned (.bool true) ∧ Below w.heap.size w w' := by
  have HG := Lib.hid hg
  have B0 := Lib.hid ((Below.refl _ w).alloc (Nat.le_refl _) (.cells #[.string ⟨#[]⟩, .string ⟨#[37]⟩, .string ⟨#[35]⟩, .string ⟨#[36, 103]⟩, .string ⟨#[36, 120]⟩] 9))
  have hl := digs_size u hu
  obtain ⟨l, hd⟩ : ∃ l, Deci.digs u = l := ⟨_, rfl⟩
  rw [hd] at hl
  obtain ⟨D, hD⟩ : ∃ D : ByteArray, (⟨l.toArray⟩ : ByteArray) = D := ⟨_, rfl⟩
  have hDl : D.data.toList = l := by rw [← hD]
  have hDs : D.size ≤ 19 := by rw [← Nam.len_list, hDl]; exact hl
  obtain ⟨X, hX⟩ : ∃ X : ByteArray, (⟨#[36, 120]⟩ : ByteArray) ++ D = X := ⟨_, rfl⟩
  have hadd := add_run ⟨#[36, 120]⟩ D X (by show 2 + D.size ≤ _; omega) hX
  have hXl : X.data.toList = [36, 120] ++ Deci.digs u := by rw [← hX, ByteArray.data_append, hd, ← hDl]; simp
  have hall := all_num (pre := [36, 120]) (kind := 5) (cls := 1) (top := 2147483647) (by decide) u hu
  rw [← hXl] at hall
  rw [if_neg (by omega)] at hall
  have hput : ∀ w : World, Calls Tryd.prog 13 #[.int .i64 (u : Int)] w fun e w' => e = .returned (.string D) ∧ Below w.heap.size w w' := fun w => by
    have := Deci.refput_v (u : Int) l (by rw [txt_nat]; exact hd) ⟨by omega, by omega⟩ w
    rw [hD] at this
    exact this
  have HP := Lib.hid (And.intro hput hall)
  have h0 : 0 ≤ (u : Int) := by omega
  have c0 : (w.alloc (.cells #[.string ⟨#[]⟩, .string ⟨#[37]⟩, .string ⟨#[35]⟩, .string ⟨#[36, 103]⟩, .string ⟨#[36, 120]⟩] 9)).cell? ⟨w.heap.size, 4, none⟩ = some (.string ⟨#[36, 120]⟩) := by simp
  have hmi : (u : Int) ≤ 2147483647 := by omega
  clear hg hput hall hl hd hD hDl hDs hX hXl
  go_enter Tryd.func5, Tryd.ntmps5
  go_wp2_with fail
  go_region_held3 (fun W => W.cell? ⟨w.heap.size, 4, none⟩ = some (.string ⟨#[36, 120]⟩) ∧ Below w.heap.size w W)
    (first | exact ⟨c0, B0.out⟩ | exact ⟨c0, B0.out.drew⟩ | exact S2.out | exact S1.out)
    (first
      | (go_at_call 13; (refine (HP.out.1 _).mono ?_); rintro e w3 ⟨rfl, hb3⟩; have S1 := stepS (wr := (w.alloc (.cells #[.string ⟨#[]⟩, .string ⟨#[37]⟩, .string ⟨#[35]⟩, .string ⟨#[36, 103]⟩, .string ⟨#[36, 120]⟩] 9)).drew) ⟨c0, B0.out.drew⟩ hb3; clear hb3)
      | (go_at_call 7; (refine (all_v X _).mono ?_); rintro e w4 hP; obtain ⟨A, c, rfl, ho, hb4⟩ := hP.good HP.out.2; obtain ⟨g, rfl, hgl, hgs, hc⟩ := ho.form (Nat.zero_lt_succ _); have C4 := Lib.hid hc; have S2 := stepS S1.out hb4; clear hP hb4 ho hgl hgs hc))
  all_goals have c2 : w4.cell? ⟨g, 2, none⟩ = some (.int .i64 (u : Int)) := C4.out 0 2 (Nat.zero_lt_succ _) (by decide)
  all_goals have c3 : w4.cell? ⟨g, 3, none⟩ = some (.int .i64 1) := C4.out 0 3 (Nat.zero_lt_succ _) (by decide)
  all_goals have c4 : w4.cell? ⟨g, 4, none⟩ = some (.int .i64 0) := C4.out 0 4 (Nat.zero_lt_succ _) (by decide)
  all_goals go_wp2_with fail
  all_goals refine (works_v _ (HG.out.below S2.out.2 HG.out.pos)).mono ?_
  all_goals rintro e w6 ⟨rfl, hb6⟩
  all_goals have B6 := Lib.hid (S2.out.2.trans (hb6.mono S2.out.2.size))
  all_goals clear hb6
  all_goals go_wp2_with fail
  all_goals go_ret
  all_goals exact ⟨rfl, B6.out⟩
set_option maxHeartbeats 2000000 in
theorem num_4_great (u : Nat) (hu : u < 9223372036854775808) (hm : 2147483647 < u) (w : World) (hg : Fau.Glob w) : Calls Tryd.prog 5 #[.int .i64 (u : Int), .int .i64 4] w fun e w' => e = .returned (.bool true) ∧ Below w.heap.size w w' := by
  have HG := Lib.hid hg
  have B0 := Lib.hid ((Below.refl _ w).alloc (Nat.le_refl _) (.cells #[.string ⟨#[]⟩, .string ⟨#[37]⟩, .string ⟨#[35]⟩, .string ⟨#[36, 103]⟩, .string ⟨#[36, 120]⟩] 9))
  have hl := digs_size u hu
  obtain ⟨l, hd⟩ : ∃ l, Deci.digs u = l := ⟨_, rfl⟩
  rw [hd] at hl
  obtain ⟨D, hD⟩ : ∃ D : ByteArray, (⟨l.toArray⟩ : ByteArray) = D := ⟨_, rfl⟩
  have hDl : D.data.toList = l := by rw [← hD]
  have hDs : D.size ≤ 19 := by rw [← Nam.len_list, hDl]; exact hl
  obtain ⟨X, hX⟩ : ∃ X : ByteArray, (⟨#[36, 120]⟩ : ByteArray) ++ D = X := ⟨_, rfl⟩
  have hadd := add_run ⟨#[36, 120]⟩ D X (by show 2 + D.size ≤ _; omega) hX
  have hXl : X.data.toList = [36, 120] ++ Deci.digs u := by rw [← hX, ByteArray.data_append, hd, ← hDl]; simp
  have hall := all_num (pre := [36, 120]) (kind := 5) (cls := 1) (top := 2147483647) (by decide) u hu
  rw [← hXl] at hall
  rw [if_pos (by omega)] at hall
  have hput : ∀ w : World, Calls Tryd.prog 13 #[.int .i64 (u : Int)] w fun e w' => e = .returned (.string D) ∧ Below w.heap.size w w' := fun w => by
    have := Deci.refput_v (u : Int) l (by rw [txt_nat]; exact hd) ⟨by omega, by omega⟩ w
    rw [hD] at this
    exact this
  have HP := Lib.hid (And.intro hput hall)
  have h0 : 0 ≤ (u : Int) := by omega
  have c0 : (w.alloc (.cells #[.string ⟨#[]⟩, .string ⟨#[37]⟩, .string ⟨#[35]⟩, .string ⟨#[36, 103]⟩, .string ⟨#[36, 120]⟩] 9)).cell? ⟨w.heap.size, 4, none⟩ = some (.string ⟨#[36, 120]⟩) := by simp
  have hmi : (2147483647 : Int) < (u : Int) := by omega
  clear hg hput hall hl hd hD hDl hDs hX hXl
  go_enter Tryd.func5, Tryd.ntmps5
  go_wp2_with fail
  go_region_held3 (fun W => W.cell? ⟨w.heap.size, 4, none⟩ = some (.string ⟨#[36, 120]⟩) ∧ Below w.heap.size w W)
    (first | exact ⟨c0, B0.out⟩ | exact ⟨c0, B0.out.drew⟩ | exact S2.out | exact S1.out)
    (first
      | (go_at_call 13; (refine (HP.out.1 _).mono ?_); rintro e w3 ⟨rfl, hb3⟩; have S1 := stepS (wr := (w.alloc (.cells #[.string ⟨#[]⟩, .string ⟨#[37]⟩, .string ⟨#[35]⟩, .string ⟨#[36, 103]⟩, .string ⟨#[36, 120]⟩] 9)).drew) ⟨c0, B0.out.drew⟩ hb3; clear hb3)
      | (go_at_call 7; (refine (all_v X _).mono ?_); rintro e w4 hP; obtain ⟨rfl, hb4⟩ := hP.bad HP.out.2 (by decide); have S2 := stepS S1.out hb4; clear hP hb4))
  all_goals go_wp2_with fail
  all_goals refine (Fau.of_v 2 0 _ (HG.out.below S2.out.2 HG.out.pos)).mono ?_
  all_goals rintro e w5 ⟨rfl, hb5⟩
  all_goals have B5 := Lib.hid (S2.out.2.trans (hb5.mono S2.out.2.size))
  all_goals clear hb5
  all_goals go_wp2_with fail
  all_goals refine (works_v _ (HG.out.below B5.out HG.out.pos)).mono ?_
  all_goals rintro e w6 ⟨rfl, hb6⟩
  all_goals have B6 := Lib.hid (B5.out.trans (hb6.mono B5.out.size))
  all_goals clear hb6
  all_goals go_wp2_with fail
  all_goals go_ret
  all_goals exact ⟨rfl, B6.out⟩
theorem num_all (n k : Int) (hn : Deci.fit n) (w : World) (hg : Fau.Glob w) : Calls Tryd.prog 5 #[.int .i64 n, .int .i64 k] w fun e w' => e = .returned (.bool true) ∧ Below w.heap.size w w' := by
  by_cases h : n < 0 ∨ k < 0 ∨ 4 < k
  · exact num_works n k h w hg
  · obtain ⟨u, rfl⟩ : ∃ u : Nat, n = (u : Int) := ⟨n.toNat, by omega⟩
    have hu : u < 9223372036854775808 := by have := hn.2; omega
    have ways : k = 0 ∨ k = 1 ∨ k = 2 ∨ k = 3 ∨ k = 4 := by omega
    rcases ways with rfl | rfl | rfl | rfl | rfl
    · exact num_0 u hu w hg
    · by_cases hm : u ≤ 2147483647
      · exact num_1 u hu hm w hg
      · exact num_1_great u hu (by omega) w hg
    · by_cases hm : u ≤ 2147483647
      · exact num_2 u hu hm w hg
      · exact num_2_great u hu (by omega) w hg
    · by_cases hm : u ≤ 2147483647
      · exact num_3 u hu hm w hg
      · exact num_3_great u hu (by omega) w hg
    · by_cases hm : u ≤ 2147483647
      · exact num_4 u hu hm w hg
      · exact num_4_great u hu (by omega) w hg
end Go.Proofs.YtmckplgbaalpbaaDoor.Lex
