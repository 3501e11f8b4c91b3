/- What the library's Init, Push and Pop do with what waits. -/
import Derived.Test.YthnpjaklcebgfaaDown
namespace Go.Proofs.Ythnpjaklcebgfaa
open Go.ChangeShapes Go.WideShapes Go.RowKit
set_option linter.unusedVariables false

theorem Laid.go {B q g cap : Nat} {l m k : List It} {w w1 w2 : World} (h : Laid B q g cap l w w1 m) (h2 : Laid B q g cap m w1 w2 k) : Laid B q g cap l w w2 k := ⟨h2.at_, h2.perm.trans h.perm, gtrans h.gr h2.gr⟩
set_option maxHeartbeats 1000000 in
theorem init_v (B q g cap : Nat) (l : List It) (w : World) (h : PAt B w q g cap l) :
    Calls Try.prog 19 #[.iface 47 (.pointer (some ⟨q, 0, none⟩))] w (UpP B q g cap l w) := by
  have hs := h.small
  have H0 := Lib.hid (show Laid B q g cap l w w l from ⟨h, List.Perm.refl _, World.grownBy.refl _ _⟩)
  obtain ⟨n, hn⟩ : ∃ n, l.length = n := ⟨_, rfl⟩
  have HN := Lib.hid hn
  rw [hn] at hs
  clear h hn
  have m1 := mLen ⟨q, 0, none⟩
  go_enter Try.func19, Try.ntmps19
  go_wp2_with fail
  refine (len_v B q g cap n l HN.out _ H0.out.at_).mono ?_
  rintro e w1 ⟨rfl, rfl⟩
  go_wp2_with fail
  go_loopg [3] (n + 1) (fun gk u wr => ∃ (k : Nat) (z : Int) (m : List It), k < gk ∧ k ≤ n ∧ z = (k : Int) - 1 ∧ u = .int .i64 z ∧ Hid (Laid B q g cap l w wr m ∧ Hp m n k))
  case atStart => exact ⟨n / 2, _, l, by omega, by omega, by omega, rfl, H0.out, Hp.none _ _ _ (Nat.le_refl _)⟩
  case round =>
    obtain ⟨k, z, m, hk, hkn, hz, rfl, HH⟩ := hrel
    cases k with
    | zero =>
      obtain rfl : z = -1 := by omega
      clear hz
      go_wp2_with fail
      go_end0
      exact ⟨m, rfl, HH.out.1, by rw [HN.out]; exact HH.out.2⟩
    | succ i =>
      obtain rfl : z = (i : Int) := by omega
      clear hz
      have hml : m.length = n := by rw [HH.out.1.perm.length_eq, HN.out]
      have HM := Lib.hid hml
      clear hml
      have hi0 : (0 : Int) ≤ (i : Int) := by omega
      go_wp2_with fail
      refine (down_v B q g cap i n i m (by rw [HM.out]; exact Nat.le_refl _) (by omega) HH.out.2.start (by by_cases i0 : i = 0; exact .inl i0; exact .inr (par_lt (by omega))) _ HH.out.1.at_).mono ?_
      rintro e w2 ⟨m2, r, rfl, hl2, hp2, _⟩
      have H2 := Lib.hid (And.intro hl2 hp2)
      clear hl2 hp2
      go_wp2_with fail
      go_roundg (i + 1)
      case measure => omega
      case rel => exact ⟨i, (i : Int) - 1, m2, by omega, by omega, rfl, rfl, HH.out.1.go H2.out.1, H2.out.2⟩
/-- What the heap's Push leaves. -/
def HPushP (B q g : Nat) (l : List It) (x : It) (w : World) (e : Ending) (w' : World) : Prop :=
  ∃ g' cap' m, e = .returned (.tuple #[]) ∧ PAt B w' q g' cap' m ∧ m.Perm (l ++ [x]) ∧ Hp m m.length 0 ∧ Kp q g w w' ∧ (g' = g ∨ w.heap.size ≤ g')
set_option maxHeartbeats 1000000 in
theorem hpush_v (B q g cap : Nat) (l : List It) (a b : Int) (hl : l.length < 1000) (hp : Hp l l.length 0) (w : World) (h : PAt B w q g cap l) (hB : B ≤ w.heap.size) :
    Calls Try.prog 21 #[.iface 47 (.pointer (some ⟨q, 0, none⟩)), .iface 51 (.agg #[.int .i64 a, .int .i64 b])] w (HPushP B q g l (a, b) w) := by
  have H0 := Lib.hid (And.intro h hp)
  obtain ⟨n, hn⟩ : ∃ n, l.length = n := ⟨_, rfl⟩
  have HN := Lib.hid hn
  rw [hn] at hl
  clear h hp hn
  have m1 := mLen ⟨q, 0, none⟩
  have m2 := mPush ⟨q, 0, none⟩
  go_enter Try.func21, Try.ntmps21
  go_wp2_with fail
  refine (push_v B q g cap l a b (by rw [HN.out]; exact hl) _ H0.out.1 hB).mono ?_
  rintro e w1 ⟨g', cap', rfl, hp1, hk1, hg1⟩
  have H1 := Lib.hid (And.intro hp1 (And.intro hk1 hg1))
  clear hp1 hk1 hg1
  go_wp2_with fail
  refine (len_v B q g' cap' (n + 1) (l ++ [(a, b)]) (by simp [HN.out]) _ H1.out.1).mono ?_
  rintro e w2 ⟨rfl, rfl⟩
  go_wp2_with fail
  refine (up_v B q g' cap' n (l ++ [(a, b)]) (by simp [HN.out]) (by have := H0.out.2.push (a, b); rw [← HN.out]; simpa using this) _ H1.out.1).mono ?_
  rintro e w3 ⟨m, rfl, hl3, hp3⟩
  have H3 := Lib.hid (And.intro hl3 hp3)
  clear hl3 hp3
  go_wp2_with fail
  go_end0
  refine ⟨g', cap', m, rfl, H3.out.1.at_, H3.out.1.perm, by rw [H3.out.1.perm.length_eq]; exact H3.out.2, H1.out.2.1.trans (Kp.of H3.out.1.gr (by simp)) H1.out.2.2, H1.out.2.2⟩
/-- What the heap's Pop leaves. -/
def HPopP (B q g cap : Nat) (l : List It) (w : World) (e : Ending) (w' : World) : Prop :=
  ∃ m, e = .returned (.iface 51 (.agg #[.int .i64 (ia l 0).1, .int .i64 (ia l 0).2])) ∧ PAt B w' q g cap m ∧ l.Perm (ia l 0 :: m) ∧ Hp m m.length 0 ∧ Kp q g w w'
theorem pop_perm {l m : List It} {n : Nat} (hl : l.length = n + 1) (hp : m.Perm l) (h : ia m n = ia l 0) : l.Perm (ia l 0 :: m.take n) := by
  have hm : m.length = n + 1 := by rw [hp.length_eq, hl]
  have e1 : m = m.take n ++ [ia m n] := by
    rw [ia_eq (by omega)]
    conv => lhs; rw [← List.take_append_drop n m]
    rw [List.drop_eq_getElem_cons (by omega), List.drop_eq_nil_of_le (by omega)]
  have e2 : m.Perm (ia m n :: m.take n) := by
    conv => lhs; rw [e1]
    exact List.perm_append_comm
  rw [h] at e2
  exact hp.symm.trans e2
set_option maxHeartbeats 1000000 in
theorem hpop_v (B q g cap n : Nat) (l : List It) (hl : l.length = n + 1) (hp : Hp l l.length 0) (w : World) (h : PAt B w q g cap l) :
    Calls Try.prog 22 #[.iface 47 (.pointer (some ⟨q, 0, none⟩))] w (HPopP B q g cap l w) := by
  have hs := h.small
  have H0 := Lib.hid (And.intro h (And.intro hp hl))
  rw [hl] at hs
  clear h hp hl
  have m1 := mLen ⟨q, 0, none⟩
  have m2 := mPop ⟨q, 0, none⟩
  have m3 := mSwap ⟨q, 0, none⟩
  go_enter Try.func22, Try.ntmps22
  go_wp2_with fail
  refine (len_v B q g cap (n + 1) l H0.out.2.2 _ H0.out.1).mono ?_
  rintro e w2 ⟨rfl, rfl⟩
  go_wp2_with fail
  refine (swap_v B q g cap 0 n l (by rw [H0.out.2.2]; omega) (by rw [H0.out.2.2]; omega) _ H0.out.1).mono ?_
  rintro e w3 ⟨rfl, hp3, hg3⟩
  have H3 := Lib.hid (And.intro hp3 hg3)
  clear hp3 hg3
  go_wp2_with fail
  refine (down_v B q g cap 0 n 0 (swp l 0 n) (by rw [swp_length, H0.out.2.2]; omega) (by omega) (by have := H0.out.2.1; rw [H0.out.2.2] at this; exact this.pop H0.out.2.2) (.inl rfl) _ H3.out.1).mono ?_
  rintro e w4 ⟨m, r, rfl, hl4, hp4, hf4⟩
  have H4 := Lib.hid (And.intro hl4 (And.intro hp4 hf4))
  clear hl4 hp4 hf4
  go_wp2_with fail
  have hml : m.length = n + 1 := by rw [H4.out.1.perm.length_eq, swp_length, H0.out.2.2]
  have hla : ia m n = ia l 0 := by
    rw [H4.out.2.2 n (Nat.le_refl _), ia_swp (by rw [H0.out.2.2]; omega) (by rw [H0.out.2.2]; omega), if_pos rfl]
  have HM := Lib.hid (And.intro hml hla)
  clear hml hla
  refine (popm_v B q g cap n m HM.out.1 (ia l 0).1 (ia l 0).2 HM.out.2 _ H4.out.1.at_).mono ?_
  rintro e w5 ⟨rfl, hp5, hg5⟩
  have H5 := Lib.hid (And.intro hp5 hg5)
  clear hp5 hg5
  go_wp2_with fail
  go_ret
  have hlt : (m.take n).length = n := by rw [List.length_take, HM.out.1]; omega
  refine ⟨m.take n, rfl, H5.out.1, pop_perm H0.out.2.2 (H4.out.1.perm.trans (swp_perm (by rw [H0.out.2.2]; omega) (by rw [H0.out.2.2]; omega))) HM.out.2, by rw [hlt]; exact H4.out.2.1.same (fun k hk => ia_take hk), ?_⟩
  have k1 : Kp q g w w3 := Kp.of H3.out.2 (by simp)
  have k2 : Kp q g w w4 := k1.trans (Kp.of H4.out.1.gr (by simp)) (.inl rfl)
  exact k2.trans (Kp.of H5.out.2 (by simp)) (.inl rfl)
end Go.Proofs.Ythnpjaklcebgfaa
