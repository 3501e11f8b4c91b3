/- What the program's change does with what waits; and the small functions of a pile. -/
import Derived.Test.YthnpjaklcebgfaaInit
namespace Go.Proofs.Ythnpjaklcebgfaa
open Go.ChangeShapes Go.WideShapes Go.RowKit
set_option linter.unusedVariables false

/-- k places are gone through. -/
def chgd (l : List It) (v key : Int) (k : Nat) : List It := (l.take k).map (chg v key) ++ l.drop k
def cntd (l : List It) (v : Int) (k : Nat) : Nat := (l.take k).countP fun a => decide (a.2 = v)
theorem chgd_len (l : List It) (v key : Int) (k : Nat) : (chgd l v key k).length = l.length := by unfold chgd; simp; omega
theorem chgd_zero (l : List It) (v key : Int) : chgd l v key 0 = l := by simp [chgd]
theorem chgd_all (l : List It) (v key : Int) : chgd l v key l.length = l.map (chg v key) := by simp [chgd]
theorem chgd_at (l : List It) (v key : Int) (k : Nat) (h : k < l.length) : ia (chgd l v key k) k = ia l k := by
  unfold chgd ia
  have : ((l.take k).map (chg v key)).length = k := by simp; omega
  simp only [List.getD]
  rw [List.getElem?_append_right (by omega), this]
  simp
theorem chgd_ext {l : List It} {v key : Int} {k : Nat} {x : It} (h : k < l.length) (hx : chg v key (ia l k) = x) : chgd l v key (k + 1) = (chgd l v key k).set k x := by
  unfold chgd
  have e : ((l.take k).map (chg v key)).length = k := by simp; omega
  rw [List.take_succ_eq_append_getElem h, List.map_append, List.drop_eq_getElem_cons h, List.set_append_right _ _ (by omega), e]
  rw [ia_eq h] at hx
  rw [Nat.sub_self, List.set_cons_zero, List.map_cons, List.map_nil, hx, List.append_assoc, List.singleton_append]
theorem chgd_hit {l : List It} {v key : Int} {k : Nat} (h : k < l.length) (he : (ia l k).2 = v) : chgd l v key (k + 1) = (chgd l v key k).set k (key, (ia (chgd l v key k) k).2) := by
  rw [chgd_at l v key k h]
  exact chgd_ext h (by unfold chg; rw [if_pos he])
theorem chgd_miss {l : List It} {v key : Int} {k : Nat} (h : k < l.length) (he : (ia l k).2 ≠ v) : chgd l v key (k + 1) = chgd l v key k := by
  rw [chgd_ext h (x := ia l k) (by unfold chg; rw [if_neg he])]
  have hl : k < (chgd l v key k).length := by rw [chgd_len]; exact h
  rw [← chgd_at l v key k h, ia_eq hl]
  exact List.set_getElem_self hl
theorem cntd_hit {l : List It} {v : Int} {k : Nat} (h : k < l.length) (he : (ia l k).2 = v) : cntd l v (k + 1) = cntd l v k + 1 := by
  unfold cntd
  rw [ia_eq h] at he
  rw [List.take_succ_eq_append_getElem h, List.countP_append]
  simp [he]
theorem cntd_miss {l : List It} {v : Int} {k : Nat} (h : k < l.length) (he : (ia l k).2 ≠ v) : cntd l v (k + 1) = cntd l v k := by
  unfold cntd
  rw [ia_eq h] at he
  rw [List.take_succ_eq_append_getElem h, List.countP_append]
  simp [he]
theorem cntd_le (l : List It) (v : Int) (k : Nat) : cntd l v k ≤ k := by
  unfold cntd
  exact Nat.le_trans List.countP_le_length (List.length_take_le _ _)
def cnt (l : List It) (v : Int) : Nat := l.countP fun a => decide (a.2 = v)
theorem cntd_all (l : List It) (v : Int) : cntd l v l.length = cnt l v := by simp [cntd, cnt]
theorem cnt_le (l : List It) (v : Int) : cnt l v ≤ l.length := List.countP_le_length
set_option maxHeartbeats 1000000 in
theorem change_v (B q g cap : Nat) (l : List It) (v key : Int) (w : World) (h : PAt B w q g cap l) :
    Calls Try.prog 24 #[.pointer (some ⟨q, 0, none⟩), .int .i64 v, .int .i64 key] w fun e w' => e = .returned (.int .i64 (cnt l v : Nat)) ∧ PAt B w' q g cap (l.map (chg v key)) ∧ w.grownBy w' (some g) := by
  have hs := h.small
  obtain ⟨n, hn⟩ : ∃ n, l.length = n := ⟨_, rfl⟩
  have H0 := Lib.hid (And.intro h hn)
  have c0 := h.slice
  rw [hn] at hs c0
  clear h hn
  go_enter Try.func24, Try.ntmps24
  go_wp2_with fail
  clear c0
  go_loopg [7, 14] n (fun gk u1 u wr => ∃ k : Nat, k + gk = n ∧ u = .int .i64 (k : Int) ∧ u1 = .int .i64 ((cntd l v k : Nat) : Int) ∧ Hid (PAt B wr q g cap (chgd l v key k) ∧ w.grownBy wr (some g)))
  case atStart => exact ⟨0, by omega, rfl, rfl, by rw [chgd_zero]; exact H0.out.1, World.grownBy.refl _ _⟩
  case round =>
    obtain ⟨k, hk, rfl, rfl, HH⟩ := hrel
    obtain ⟨c, hc⟩ : ∃ c, cntd l v k = c := ⟨_, rfl⟩
    have hck : c ≤ k := by rw [← hc]; exact cntd_le _ _ _
    have HC := Lib.hid hc
    rw [hc]
    clear hc
    by_cases hlt : k < n
    · have hkl : k < l.length := by rw [H0.out.2]; exact hlt
      have hkl2 : k < (chgd l v key k).length := by rw [chgd_len]; exact hkl
      have c0 := HH.out.1.slice
      have k2 := HH.out.1.val hkl2
      have k1 := HH.out.1.key hkl2
      have f1 := HH.out.1.thaw (k * 2)
      rw [chgd_len, H0.out.2] at c0
      rw [chgd_at l v key k hkl] at k1 k2
      have HK := Lib.hid (And.intro hkl hkl2)
      obtain ⟨y, hy⟩ : ∃ y, (ia l k).2 = y := ⟨_, rfl⟩
      obtain ⟨x, hx⟩ : ∃ x, (ia l k).1 = x := ⟨_, rfl⟩
      rw [hy] at k2
      rw [hx] at k1
      have HY := Lib.hid hy
      have i1 : (k : Int) < (n : Int) := by omega
      clear hkl hkl2 hy hx
      by_cases he : y = v
      · subst he
        go_wp2_with fail
        go_roundg (gk - 1)
        case measure => omega
        case rel =>
          refine ⟨k + 1, by omega, by go_num, ?_, ?_, gtrans HH.out.2 (gset _ _ _ _)⟩
          · rw [cntd_hit HK.out.1 HY.out, HC.out]; go_num
          · rw [chgd_hit HK.out.1 HY.out]; exact HH.out.1.putKey HK.out.2 key
      · have e1 : (y == v) = false := by simpa using he
        go_wp2_with fail
        go_roundg (gk - 1)
        case measure => omega
        case rel =>
          refine ⟨k + 1, by omega, by go_num, ?_, ?_, HH.out.2⟩
          · rw [cntd_miss HK.out.1 (by rw [HY.out]; exact he), HC.out]
          · rw [chgd_miss HK.out.1 (by rw [HY.out]; exact he)]; exact HH.out.1
    · obtain rfl : k = n := by omega
      have hge : ¬ (k : Int) < (k : Int) := by omega
      go_wp2_with fail
      go_ret
      have h1 := HH.out.1
      have h2 := HC.out
      rw [← H0.out.2] at h1 h2
      rw [chgd_all] at h1
      rw [cntd_all] at h2
      exact ⟨by rw [h2]; rfl, h1, HH.out.2⟩
end Go.Proofs.Ythnpjaklcebgfaa
