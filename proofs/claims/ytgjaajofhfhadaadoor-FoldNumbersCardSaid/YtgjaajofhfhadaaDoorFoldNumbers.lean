/- The statement on numbers: any number is the value of its text, with parentheses about it or without; so deep, and no deeper. -/
import Derived.Test.YtgjaajofhfhadaaDoorFoldEnds
import Derived.Deep.LoopGhost
namespace Go.Proofs.YtgjaajofhfhadaaDoor.Fol
open Go.ChangeShapes Go.WideShapes Go.RowKit Lex
set_option linter.unusedVariables false
set_option maxRecDepth 20000

theorem data_of {s : ByteArray} {l : List UInt8} (h : s.data.toList = l) : s = ⟨l.toArray⟩ := by
  subst h
  cases s
  simp
theorem numbers_out (n k : Int) (h : k < 0 ∨ 60 < k) (w : World) (hg : Fau.Glob w) : Calls Tryd.prog 3 #[.int .i64 n, .int .i64 k] w fun e w' => e = .returned (.bool true) ∧ Below w.heap.size w w' := by
  have HG := Lib.hid hg
  clear hg
  by_cases h1 : k < 0
  · clear h
    go_enter Tryd.func3, Tryd.ntmps3
    go_wp2_with fail
    refine (works_v _ HG.out).mono ?_
    rintro e w1 ⟨rfl, hb⟩
    have H1 := Lib.hid hb
    clear hb
    go_wp2_with fail
    go_ret
    exact ⟨rfl, H1.out⟩
  · have h1' : 0 ≤ k := by omega
    have h2 : 60 < k := by omega
    clear h h1
    go_enter Tryd.func3, Tryd.ntmps3
    go_wp2_with fail
    refine (works_v _ HG.out).mono ?_
    rintro e w1 ⟨rfl, hb⟩
    have H1 := Lib.hid hb
    clear hb
    go_wp2_with fail
    go_ret
    exact ⟨rfl, H1.out⟩
theorem numbers_in (n : Int) (hn : fit n) (d : Nat) (hd : d ≤ 60) (w : World) (hg : Fau.Glob w) : Calls Tryd.prog 3 #[.int .i64 n, .int .i64 (d : Int)] w fun e w' => e = .returned (.bool true) ∧ Below w.heap.size w w' := by
  have HG := Lib.hid hg
  have HN := Lib.hid hn
  have d0 : (0 : Int) ≤ (d : Int) := by omega
  have d6 : (d : Int) ≤ 60 := by omega
  obtain ⟨l, hl⟩ : ∃ l, Deci.txt n = l := ⟨_, rfl⟩
  have hl0 : l = ptext (pnest n 0) := by rw [pnest_text, ← hl]; simp
  have HL := Lib.hid (And.intro hl hl0)
  clear hg hn hl hl0
  go_enter Tryd.func3, Tryd.ntmps3
  go_wp2_with fail
  refine (Deci.refput_v n l HL.out.1 HN.out _).mono ?_
  rintro e w1 ⟨rfl, hb⟩
  have B1 := Lib.hid hb
  clear hb
  go_wp2_with fail
  go_loopg [5, 6] (d - 0) (fun gk u x wr => ∃ (S : ByteArray) (i : Nat), u = .string S ∧ x = .int .i64 (i : Int) ∧ gk = d - i ∧ i ≤ d ∧ Hid (S.data.toList = ptext (pnest n i) ∧ wr = w1))
  case atStart => exact ⟨_, 0, rfl, rfl, rfl, Nat.zero_le _, HL.out.2, rfl⟩
  case round =>
    obtain ⟨S, i, rfl, rfl, hk, hi, HH⟩ := hrel
    obtain rfl := HH.out.2
    have hlen := pnest_len n HN.out i
    rw [← HH.out.1, Nam.len_list] at hlen
    by_cases hid : i < d
    · have hid' : (i : Int) < (d : Int) := by omega
      obtain ⟨p, hp⟩ : ∃ p, i + 1 = p := ⟨_, rfl⟩
      have ip : (i : Int) + 1 = (p : Int) := by omega
      obtain ⟨X, hX⟩ : ∃ X : ByteArray, (⟨#[40]⟩ : ByteArray) ++ S = X := ⟨_, rfl⟩
      have hXs : X.size = 1 + S.size := by rw [← hX, ByteArray.size_append]; rfl
      obtain ⟨Y, hY⟩ : ∃ Y : ByteArray, X ++ (⟨#[41]⟩ : ByteArray) = Y := ⟨_, rfl⟩
      have e1 := add_run ⟨#[40]⟩ S X (by show 1 + S.size ≤ _; omega) hX
      have e2 := add_run X ⟨#[41]⟩ Y (by show X.size + 1 ≤ _; omega) hY
      have hYl : Y.data.toList = ptext (pnest n p) := by rw [← hp, pnest_step, ← hY, ← hX, ByteArray.data_append, ByteArray.data_append, ← HH.out.1]; simp
      have HY := Lib.hid hYl
      have HP := Lib.hid hp
      clear hX hY hYl hXs hlen hp
      go_wp2_with fail
      go_roundg (d - p)
      case measure => have := HP.out; omega
      case rel => exact ⟨Y, p, rfl, rfl, rfl, by have := HP.out; omega, HY.out, rfl⟩
    · obtain rfl : i = d := by omega
      have HS := Lib.hid HH.out.1
      clear hlen hid hk hi HH
      by_cases h32 : i ≤ 32
      · have g32 : (i : Int) ≤ 32 := by omega
        have HI := Lib.hid h32
        clear h32
        go_wp2_with fail
        refine (pieces_v (pnest n i) S HS.out (pnest_good n HN.out i) (by have := pnest_len n HN.out i; have := HI.out; omega) _ _ (nest_val n HN.out i HI.out) _).mono ?_
        rintro e w2 ⟨rfl, hb⟩
        have B2 := Lib.hid (B1.out.trans (hb.mono B1.out.size))
        clear hb
        unfold resE
        go_wp2_with fail
        refine (works_v _ (HG.out.below B2.out HG.out.pos)).mono ?_
        rintro e w3 ⟨rfl, hb⟩
        have B3 := Lib.hid (B2.out.trans (hb.mono B2.out.size))
        clear hb
        go_wp2_with fail
        go_ret
        exact ⟨rfl, B3.out⟩
      · have g32 : (32 : Int) < (i : Int) := by omega
        have HI := Lib.hid h32
        clear h32
        go_wp2_with fail
        refine (pieces_v (pnest n i) S HS.out (pnest_good n HN.out i) (by have := pnest_len n HN.out i; omega) _ _ (nest_deep n i (by have := HI.out; omega)) _).mono ?_
        rintro e w2 ⟨rfl, hb⟩
        have B2 := Lib.hid (B1.out.trans (hb.mono B1.out.size))
        clear hb
        unfold resE
        go_wp2_with fail
        refine (Fau.of_v 21 32 _ (HG.out.below B2.out HG.out.pos)).mono ?_
        rintro e w3 ⟨rfl, hb⟩
        have B3 := Lib.hid (B2.out.trans (hb.mono B2.out.size))
        clear hb
        go_wp2_with fail
        refine (Fau.at_v 21 32 _ (HG.out.below B3.out HG.out.pos)).mono ?_
        rintro e w4 ⟨rfl, hb⟩
        have B4 := Lib.hid (B3.out.trans (hb.mono B3.out.size))
        clear hb
        go_wp2_with fail
        refine (works_v _ (HG.out.below B4.out HG.out.pos)).mono ?_
        rintro e w5 ⟨rfl, hb⟩
        have B5 := Lib.hid (B4.out.trans (hb.mono B4.out.size))
        clear hb
        go_wp2_with fail
        go_ret
        exact ⟨rfl, B5.out⟩
theorem numbers_v (n k : Int) (hn : fit n) (w : World) (hg : Fau.Glob w) : Calls Tryd.prog 3 #[.int .i64 n, .int .i64 k] w fun e w' => e = .returned (.bool true) ∧ Below w.heap.size w w' := by
  by_cases h : k < 0 ∨ 60 < k
  · exact numbers_out n k h w hg
  · obtain ⟨d, rfl⟩ : ∃ d : Nat, k = (d : Int) := ⟨k.toNat, by omega⟩
    exact numbers_in n hn d (by omega) w hg
end Go.Proofs.YtgjaajofhfhadaaDoor.Fol
