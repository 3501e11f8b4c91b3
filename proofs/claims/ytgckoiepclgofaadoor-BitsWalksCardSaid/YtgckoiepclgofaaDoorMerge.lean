/- What the program's Or, And and Minus answer, and what set there is behind them. -/
import Derived.Test.YtgckoiepclgofaaDoorChangeB
namespace Go.Proofs.YtgckoiepclgofaaDoor
open Go.ChangeShapes Go.WideShapes Go.RowKit
set_option linter.unusedVariables false

/-- The first k words of one set, and all behind them of another one. -/
def mix (T bs : List Bool) (k : Nat) : List Bool := (List.range bs.length).map fun i => if i < 64 * k then has T i else has bs i
theorem mix_len (T bs : List Bool) (k : Nat) : (mix T bs k).length = bs.length := by simp [mix]
theorem has_mix (T bs : List Bool) (k i : Nat) : has (mix T bs k) i = (decide (i < bs.length) && if i < 64 * k then has T i else has bs i) := by
  by_cases h : i < bs.length
  · rw [has_get (by rw [mix_len]; exact h)]; simp [mix, h]
  · rw [has_past (by rw [mix_len]; omega)]; simp [h]
theorem mix_zero (T bs : List Bool) : mix T bs 0 = bs := by
  refine has_ext (mix_len _ _ _) fun i hi => ?_
  rw [mix_len] at hi
  rw [has_mix]; simp [hi]
theorem mix_all {T bs : List Bool} (hl : T.length = bs.length) {m : Nat} (hm : words bs.length = m) : mix T bs m = T := by
  refine has_ext ((mix_len _ _ _).trans hl.symm) fun i hi => ?_
  rw [mix_len] at hi
  have : i < 64 * m := by rw [← hm]; unfold words; omega
  rw [has_mix]; simp [hi, this]
theorem mix_word {T bs : List Bool} (hl : T.length = bs.length) (k q : Nat) : word (mix T bs k) q = if q < k then word T q else word bs q := by
  by_cases h : q < k
  · rw [if_pos h]
    refine (word_is (word_lt _ _) fun j hj => ?_).symm
    rw [word_bit, has_mix, if_pos (by omega)]
    by_cases hi : 64 * q + j < bs.length
    · simp [hj, hi]
    · rw [has_past (bs := T) (by omega)]; simp [hi]
  · rw [if_neg h]
    refine (word_is (word_lt _ _) fun j hj => ?_).symm
    rw [word_bit, has_mix, if_neg (by omega)]
    by_cases hi : 64 * q + j < bs.length
    · simp [hj, hi]
    · rw [has_past (bs := bs) (by omega)]; simp
theorem bne_cast (a b : Nat) : ((a : Int) != (b : Int)) = (a != b) := by
  by_cases h : a = b
  · subst h; simp
  · have h2 : ¬ (a : Int) = (b : Int) := by omega
    rw [bne_iff_ne.2 h, bne_iff_ne.2 h2]
theorem SetAt.mixed {B : Nat} {w : World} {p g k z : Nat} {T bs : List Bool} (h : SetAt B w p g (mix T bs k)) (hl : T.length = bs.length) (hk : k < words bs.length) (hz : word T k = z) :
    SetAt B (w.setCell ⟨g, k, none⟩ (.int .u64 (z : Int))) p g (mix T bs (k + 1)) := by
  refine h.put (by rw [mix_len, mix_len]) k z (by rw [mix_len]; exact hk) (by rw [mix_word hl, if_pos (by omega), hz]) fun q _ hne => ?_
  rw [mix_word hl, mix_word hl]
  by_cases hq : q < k
  · rw [if_pos (by omega), if_pos hq]
  · rw [if_neg (by omega), if_neg hq]
/-- What Or, And or Minus hands back. -/
def TwoP (B p g : Nat) (bs T : List Bool) (w : World) (e : Ending) (w' : World) : Prop :=
  e = .returned (.bool (T != bs)) ∧ SetAt B w' p g T ∧ w.grownBy w' (some g)

theorem made_38 (a b x : Nat) (ha : a < 18446744073709551616) (hb : b < 18446744073709551616) (hx : (a ||| b) = x) (w : World) :
    Calls Tryd.prog 38 #[.int .u64 (a : Int), .int .u64 (b : Int)] w fun e w' => e = .returned (.int .u64 (x : Int)) ∧ w' = w := by
  have hr : bits .or .u64 (a : Int) (b : Int) = (x : Int) := by rw [u64_or_nat a b ha hb, hx]
  clear hx
  go_enter Tryd.func38, Tryd.ntmps38
  go_wp2
  go_ret
  exact ⟨rfl, rfl⟩
set_option maxRecDepth 100000 in
set_option maxHeartbeats 2000000 in
theorem merge_38 (B p g p' g' : Nat) (bs cs T : List Bool) (hT : two orB bs cs = T) (hne : p' ≠ g ∧ g' ≠ g) (w : World) (h : SetAt B w p g bs) (h' : SetAt B w p' g' cs) :
    Calls Tryd.prog 37 #[.pointer (some ⟨p, 0, none⟩), .pointer (some ⟨p', 0, none⟩), .func (.func 38) #[] #[]] w (TwoP B p g bs T w) := by
  have hl : T.length = bs.length := by rw [← hT]; exact two_len _ _ _
  obtain ⟨m, hm⟩ : ∃ m, words bs.length = m := ⟨_, rfl⟩
  have hm5 : m ≤ 5 := by rw [← hm]; exact words_le h.small
  have c0 := h.slice
  rw [hm] at c0
  have HQ := Lib.hid (And.intro h (And.intro h' (And.intro hT (And.intro hne (And.intro hl hm)))))
  clear h h' hT hne hl hm
  go_enter Tryd.func37, Tryd.ntmps37
  go_wp2_with fail
  clear c0
  go_loopg [7, 21] m (fun gk v u wr => ∃ k : Nat, k + gk = m ∧ u = .int .i64 (k : Int) ∧ v = .bool (parts T bs k) ∧ Hid (SetAt B wr p g (mix T bs k) ∧ w.grownBy wr (some g)))
  case atStart => exact ⟨0, by omega, rfl, by rw [parts_zero], by rw [mix_zero]; exact HQ.out.1, World.grownBy.refl _ _⟩
  case round =>
    obtain ⟨k, hk, rfl, rfl, HH⟩ := hrel
    by_cases hlt : k < m
    · obtain ⟨h, h', hT, hne, hl, hm⟩ := HQ.out
      obtain ⟨hs, hg⟩ := HH.out
      have hs' : SetAt B wr p' g' cs := h'.kept hg (by simpa using hne.1) (by simpa using hne.2)
      obtain ⟨own, hown⟩ : ∃ z, word bs k = z := ⟨_, rfl⟩
      obtain ⟨oth, hoth⟩ : ∃ z, word cs k = z := ⟨_, rfl⟩
      obtain ⟨rm, hrm⟩ : ∃ z, room bs.length k = z := ⟨_, rfl⟩
      obtain ⟨x, hx⟩ : ∃ x, (own ||| oth) = x := ⟨_, rfl⟩
      obtain ⟨z, hz⟩ : ∃ z, word T k = z := ⟨_, rfl⟩
      have ol : own < 18446744073709551616 := by rw [← hown]; exact word_lt _ _
      have tl : oth < 18446744073709551616 := by rw [← hoth]; exact word_lt _ _
      have rl : rm < 18446744073709551616 := by rw [← hrm]; exact room_lt _ _
      have xl : x < 18446744073709551616 := by rw [← hx]; exact (show _ < 2 ^ 64 from Nat.or_lt_two_pow ol tl)
      have hzx : (x &&& rm) = z := by rw [← hx, ← hrm, ← hz, ← hT, ← hown, ← hoth]; exact or_word bs cs k
      have a1 : bits .and .u64 (x : Int) (rm : Int) = (z : Int) := by rw [u64_and_nat x rm xl rl, hzx]
      have d0 := hs.slice
      have d1 := hs.row.cell k (by rw [mix_len, hm]; exact hlt)
      have f1 := hs.row.free k
      rw [mix_len, hm] at d0
      rw [mix_word hl, if_neg (by omega), hown] at d1
      have hs2 := hs.mixed hl (by rw [hm]; exact hlt) hz
      have e0 := hs2.slice
      have e1 := hs2.row.cell k (by rw [mix_len, hm]; exact hlt)
      rw [mix_len, hm] at e0
      rw [mix_word hl, if_pos (by omega), hz] at e1
      have hg2 : w.grownBy (wr.setCell ⟨g, k, none⟩ (.int .u64 (z : Int))) (some g) := gtrans hg (gset _ _ _ _)
      have km : (k : Int) < (m : Int) := by omega
      have k0 : (0 : Int) ≤ (k : Int) := by omega
      have C35 := word_v k B p' g' cs oth hoth wr.drew hs'.drew
      have C36 := room_v k B p g (mix T bs k) rm (by rw [mix_len, hm]; exact hlt) (by rw [mix_len]; exact hrm) wr.drew hs.drew
      have CF := made_38 own oth x ol tl hx wr.drew
      have hps : parts T bs (k + 1) = (parts T bs k || (z != own)) := by rw [parts_succ, hz, hown]
      have HX := Lib.hid (And.intro hs2 (And.intro hg2 (And.intro hps (And.intro C35 (And.intro C36 CF)))))
      obtain ⟨nq, hnq⟩ : ∃ nq : Bool, ((z : Int) != (own : Int)) = nq := ⟨_, rfl⟩
      have hnq' : (z != own) = nq := by rw [← hnq, bne_cast]
      have HN := Lib.hid hnq'
      clear h h' hT hne hl hm hs hg hs' hown hoth hrm hx hz ol tl rl xl hzx hs2 hg2 C35 C36 CF hps hnq'
      obtain ⟨was, hwas⟩ : ∃ was, parts T bs k = was := ⟨_, rfl⟩
      rw [hwas]
      have HP := Lib.hid hwas
      clear hwas
      cases was
      · go_wp2_with fail
        refine wp_region_still_tail 16 (by kernel_rfl) (by kernel_rfl) ?_
        simp only [List.take_succ_cons, List.take_zero, List.drop_succ_cons, List.drop_zero]
        repeat still_step
        still_call HX.out.2.2.2.1
        repeat still_step
        still_call HX.out.2.2.2.2.2
        repeat still_step
        still_call HX.out.2.2.2.2.1
        repeat still_step
        refine wpStill_nil ?_
        go_wp2_with fail
        go_roundg (gk - 1)
        case measure => omega
        case rel =>
          refine ⟨k + 1, by omega, by go_num, ?_, HX.out.1.drew, gtrans HX.out.2.1 (gdrew _ _)⟩
          rw [HX.out.2.2.1, HP.out, HN.out]; rfl
      · go_wp2_with fail
        refine wp_region_still_tail 16 (by kernel_rfl) (by kernel_rfl) ?_
        simp only [List.take_succ_cons, List.take_zero, List.drop_succ_cons, List.drop_zero]
        repeat still_step
        still_call HX.out.2.2.2.1
        repeat still_step
        still_call HX.out.2.2.2.2.2
        repeat still_step
        still_call HX.out.2.2.2.2.1
        repeat still_step
        refine wpStill_nil ?_
        go_wp2_with fail
        go_roundg (gk - 1)
        case measure => omega
        case rel =>
          refine ⟨k + 1, by omega, by go_num, ?_, HX.out.1.drew, gtrans HX.out.2.1 (gdrew _ _)⟩
          rw [HX.out.2.2.1, HP.out]; rfl
    · obtain rfl : k = m := by omega
      have hge : ¬ (k : Int) < (k : Int) := by omega
      go_wp2_with fail
      go_ret
      obtain ⟨h, h', hT, hne, hl, hm⟩ := HQ.out
      have h1 := HH.out
      rw [mix_all hl hm] at h1
      refine ⟨?_, h1⟩
      rw [← parts_all hl, hm]; rfl
set_option maxRecDepth 100000 in
theorem or_v (B p g p' g' : Nat) (bs cs T : List Bool) (hT : two orB bs cs = T) (hne : p' ≠ g ∧ g' ≠ g) (w : World) (h : SetAt B w p g bs) (h' : SetAt B w p' g' cs) :
    Calls Tryd.prog 21 #[.pointer (some ⟨p, 0, none⟩), .pointer (some ⟨p', 0, none⟩)] w (TwoP B p g bs T w) := by
  have C := merge_38 B p g p' g' bs cs T hT hne w h h'
  have HC := Lib.hid C
  clear C h h' hT hne
  go_enter Tryd.func21, Tryd.ntmps21
  go_wp2_with fail
  refine HC.out.mono ?_
  rintro e w1 ⟨rfl, h1, h2⟩
  have H1 := Lib.hid (And.intro h1 h2)
  clear h1 h2
  go_wp2_with fail
  go_ret
  exact ⟨rfl, H1.out⟩
end Go.Proofs.YtgckoiepclgofaaDoor
