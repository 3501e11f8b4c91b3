/- What the program's And answers, and what set there is behind them. -/
import Derived.Test.YtgckoiepclgofaaDoorMerge
namespace Go.Proofs.YtgckoiepclgofaaDoor
open Go.ChangeShapes Go.WideShapes Go.RowKit
set_option linter.unusedVariables false


theorem made_39 (a b x : Nat) (ha : a < 18446744073709551616) (hb : b < 18446744073709551616) (hx : (a &&& b) = x) (w : World) :
    Calls Tryd.prog 39 #[.int .u64 (a : Int), .int .u64 (b : Int)] w fun e w' => e = .returned (.int .u64 (x : Int)) ∧ w' = w := by
  have hr : bits .and .u64 (a : Int) (b : Int) = (x : Int) := by rw [u64_and_nat a b ha hb, hx]
  clear hx
  go_enter Tryd.func39, Tryd.ntmps39
  go_wp2
  go_ret
  exact ⟨rfl, rfl⟩
set_option maxRecDepth 100000 in
set_option maxHeartbeats 2000000 in
theorem merge_39 (B p g p' g' : Nat) (bs cs T : List Bool) (hT : two andB bs cs = T) (hne : p' ≠ g ∧ g' ≠ g) (w : World) (h : SetAt B w p g bs) (h' : SetAt B w p' g' cs) :
    Calls Tryd.prog 37 #[.pointer (some ⟨p, 0, none⟩), .pointer (some ⟨p', 0, none⟩), .func (.func 39) #[] #[]] w (TwoP B p g bs T w) := by
  have hl : T.length = bs.length := by rw [← hT]; exact two_len _ _ _
  obtain ⟨m, hm⟩ : ∃ m, words bs.length = m := ⟨_, rfl⟩
  have hm5 : m ≤ 5 := by rw [← hm]; exact words_le h.small
  have c0 := h.slice
  rw [hm] at c0
  have HQ := Lib.hid (And.intro h (And.intro h' (And.intro hT (And.intro hne (And.intro hl hm)))))
  clear h h' hT hne hl hm
  go_enter Tryd.func37, Tryd.ntmps37
  go_wp2_with fail
  clear c0
  go_loopg [7, 21] m (fun gk v u wr => ∃ k : Nat, k + gk = m ∧ u = .int .i64 (k : Int) ∧ v = .bool (parts T bs k) ∧ Hid (SetAt B wr p g (mix T bs k) ∧ w.grownBy wr (some g)))
  case atStart => exact ⟨0, by omega, rfl, by rw [parts_zero], by rw [mix_zero]; exact HQ.out.1, World.grownBy.refl _ _⟩
  case round =>
    obtain ⟨k, hk, rfl, rfl, HH⟩ := hrel
    by_cases hlt : k < m
    · obtain ⟨h, h', hT, hne, hl, hm⟩ := HQ.out
      obtain ⟨hs, hg⟩ := HH.out
      have hs' : SetAt B wr p' g' cs := h'.kept hg (by simpa using hne.1) (by simpa using hne.2)
      obtain ⟨own, hown⟩ : ∃ z, word bs k = z := ⟨_, rfl⟩
      obtain ⟨oth, hoth⟩ : ∃ z, word cs k = z := ⟨_, rfl⟩
      obtain ⟨rm, hrm⟩ : ∃ z, room bs.length k = z := ⟨_, rfl⟩
      obtain ⟨x, hx⟩ : ∃ x, (own &&& oth) = x := ⟨_, rfl⟩
      obtain ⟨z, hz⟩ : ∃ z, word T k = z := ⟨_, rfl⟩
      have ol : own < 18446744073709551616 := by rw [← hown]; exact word_lt _ _
      have tl : oth < 18446744073709551616 := by rw [← hoth]; exact word_lt _ _
      have rl : rm < 18446744073709551616 := by rw [← hrm]; exact room_lt _ _
      have xl : x < 18446744073709551616 := by rw [← hx]; exact (show _ < 2 ^ 64 from Nat.and_lt_two_pow _ tl)
      have hzx : (x &&& rm) = z := by rw [← hx, ← hrm, ← hz, ← hT, ← hown, ← hoth]; exact and_word bs cs k
      have a1 : bits .and .u64 (x : Int) (rm : Int) = (z : Int) := by rw [u64_and_nat x rm xl rl, hzx]
      have d0 := hs.slice
      have d1 := hs.row.cell k (by rw [mix_len, hm]; exact hlt)
      have f1 := hs.row.free k
      rw [mix_len, hm] at d0
      rw [mix_word hl, if_neg (by omega), hown] at d1
      have hs2 := hs.mixed hl (by rw [hm]; exact hlt) hz
      have e0 := hs2.slice
      have e1 := hs2.row.cell k (by rw [mix_len, hm]; exact hlt)
      rw [mix_len, hm] at e0
      rw [mix_word hl, if_pos (by omega), hz] at e1
      have hg2 : w.grownBy (wr.setCell ⟨g, k, none⟩ (.int .u64 (z : Int))) (some g) := gtrans hg (gset _ _ _ _)
      have km : (k : Int) < (m : Int) := by omega
      have k0 : (0 : Int) ≤ (k : Int) := by omega
      have C35 := word_v k B p' g' cs oth hoth wr.drew hs'.drew
      have C36 := room_v k B p g (mix T bs k) rm (by rw [mix_len, hm]; exact hlt) (by rw [mix_len]; exact hrm) wr.drew hs.drew
      have CF := made_39 own oth x ol tl hx wr.drew
      have hps : parts T bs (k + 1) = (parts T bs k || (z != own)) := by rw [parts_succ, hz, hown]
      have HX := Lib.hid (And.intro hs2 (And.intro hg2 (And.intro hps (And.intro C35 (And.intro C36 CF)))))
      obtain ⟨nq, hnq⟩ : ∃ nq : Bool, ((z : Int) != (own : Int)) = nq := ⟨_, rfl⟩
      have hnq' : (z != own) = nq := by rw [← hnq, bne_cast]
      have HN := Lib.hid hnq'
      clear h h' hT hne hl hm hs hg hs' hown hoth hrm hx hz ol tl rl xl hzx hs2 hg2 C35 C36 CF hps hnq'
      obtain ⟨was, hwas⟩ : ∃ was, parts T bs k = was := ⟨_, rfl⟩
      rw [hwas]
      have HP := Lib.hid hwas
      clear hwas
      cases was
      · go_wp2_with fail
        refine wp_region_still_tail 16 (by kernel_rfl) (by kernel_rfl) ?_
        simp only [List.take_succ_cons, List.take_zero, List.drop_succ_cons, List.drop_zero]
        repeat still_step
        still_call HX.out.2.2.2.1
        repeat still_step
        still_call HX.out.2.2.2.2.2
        repeat still_step
        still_call HX.out.2.2.2.2.1
        repeat still_step
        refine wpStill_nil ?_
        go_wp2_with fail
        go_roundg (gk - 1)
        case measure => omega
        case rel =>
          refine ⟨k + 1, by omega, by go_num, ?_, HX.out.1.drew, gtrans HX.out.2.1 (gdrew _ _)⟩
          rw [HX.out.2.2.1, HP.out, HN.out]; rfl
      · go_wp2_with fail
        refine wp_region_still_tail 16 (by kernel_rfl) (by kernel_rfl) ?_
        simp only [List.take_succ_cons, List.take_zero, List.drop_succ_cons, List.drop_zero]
        repeat still_step
        still_call HX.out.2.2.2.1
        repeat still_step
        still_call HX.out.2.2.2.2.2
        repeat still_step
        still_call HX.out.2.2.2.2.1
        repeat still_step
        refine wpStill_nil ?_
        go_wp2_with fail
        go_roundg (gk - 1)
        case measure => omega
        case rel =>
          refine ⟨k + 1, by omega, by go_num, ?_, HX.out.1.drew, gtrans HX.out.2.1 (gdrew _ _)⟩
          rw [HX.out.2.2.1, HP.out]; rfl
    · obtain rfl : k = m := by omega
      have hge : ¬ (k : Int) < (k : Int) := by omega
      go_wp2_with fail
      go_ret
      obtain ⟨h, h', hT, hne, hl, hm⟩ := HQ.out
      have h1 := HH.out
      rw [mix_all hl hm] at h1
      refine ⟨?_, h1⟩
      rw [← parts_all hl, hm]; rfl
set_option maxRecDepth 100000 in
theorem and_v (B p g p' g' : Nat) (bs cs T : List Bool) (hT : two andB bs cs = T) (hne : p' ≠ g ∧ g' ≠ g) (w : World) (h : SetAt B w p g bs) (h' : SetAt B w p' g' cs) :
    Calls Tryd.prog 27 #[.pointer (some ⟨p, 0, none⟩), .pointer (some ⟨p', 0, none⟩)] w (TwoP B p g bs T w) := by
  have C := merge_39 B p g p' g' bs cs T hT hne w h h'
  have HC := Lib.hid C
  clear C h h' hT hne
  go_enter Tryd.func27, Tryd.ntmps27
  go_wp2_with fail
  refine HC.out.mono ?_
  rintro e w1 ⟨rfl, h1, h2⟩
  have H1 := Lib.hid (And.intro h1 h2)
  clear h1 h2
  go_wp2_with fail
  go_ret
  exact ⟨rfl, H1.out⟩
end Go.Proofs.YtgckoiepclgofaaDoor
