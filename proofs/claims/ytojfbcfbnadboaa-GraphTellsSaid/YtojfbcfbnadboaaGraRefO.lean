
/- The document's order of the blocks that are reached, walked. -/
import Derived.Test.YtojfbcfbnadboaaGraWalk
namespace Go.Proofs.Ytojfbcfbnadboaa.Gra
open Go.ChangeShapes Go.WideShapes Go.RowKit
set_option linter.unusedVariables false
set_option maxRecDepth 20000
set_option maxHeartbeats 4000000

theorem rorder_v (A : Option Addr) (n c : Nat) (s : Gr) (R : List Nat) (w : World) (h : IsGr w A n s) (hs : Ok s) (hn : n ≤ 1000000) (hR : IsLeft s R) :
    Calls Try.prog 22 #[.slice A n c] w fun e w' => (∃ B m d, e = .returned (.slice B m d) ∧ IsInts w' B m (nn R.reverse)) ∧ Below w.heap.size w w' := by
  by_cases h0 : n = 0
  · have hs0 : s = [] := List.eq_nil_of_length_eq_zero (by rw [h.1]; exact h0)
    have hr0 : R = [] := by
      rcases hR with ⟨_, h1⟩ | ⟨h1, _⟩
      · exact h1
      · rw [hs0] at h1; simp at h1
    have t0 : ((n : Int) == 0) = true := by rw [beq_iff_eq]; omega
    have HI := Lib.hid (show IsInts w none 0 (nn R.reverse) by rw [hr0]; exact ⟨rfl, by omega, .inl rfl⟩)
    clear h hs hR hs0 hr0 h0
    go_enter Try.func22, Try.ntmps22
    go_wp2_with fail
    go_ret
    exact ⟨⟨none, 0, 0, rfl, HI.out⟩, Below.refl _ _⟩
  · have t0 : ((n : Int) == 0) = false := by rw [beq_eq_false_iff_ne]; omega
    obtain ⟨sn1, out1, hk, hRe⟩ : ∃ sn1 out1, Wk s (nx s 0) ((List.replicate n false).set 0 true) [] sn1 out1 ∧ R = out1 ++ [0] := by
      rcases hR with ⟨h1, _⟩ | ⟨_, sn', h2⟩
      · rw [h1] at h; exact absurd h.1.symm h0
      · rw [h.1] at h2
        cases h2 with
        | skip k1 k2 => rw [at_rep] at k1; cases k1
        | go k1 k2 k3 => cases k3; exact ⟨_, _, k2, rfl⟩
    have H := Lib.hid (And.intro h (And.intro hs (And.intro hk hRe)))
    obtain ⟨i0, hi0, hz0, hz1, hz2⟩ := info_parts boInfo
    have I0 := Lib.hid (And.intro hi0 (And.intro hz0 (And.intro hz1 hz2)))
    clear h hs hR hk hRe hi0 hz0 hz1 hz2
    go_enter Try.func22, Try.ntmps22
    go_wp2_with (at_make; refine wpList_make_full _ rfl _ _ 42 rfl w.heap.size 4 i0 (.bool false) 1 Try.underlying42 I0.out.1 I0.out.2.1 I0.out.2.2.1 _ _ _ _ n rfl rfl rfl rfl (by rw [I0.out.2.2.2]; omega) (by unfold maxLen; omega) (Nat.le_refl _) ?_)
    intro w1 hown hgrow
    have HW := Lib.hid (show Wm w w1 w.heap.size (List.replicate n false) none 0 0 [] from ⟨(Below.refl _ w).grown hgrow (Nat.le_refl _) (by intro k hk; cases hk), bo_made hown, OwnL.nil, rfl, by intro e; cases e⟩)
    clear hown hgrow
    have HC := Lib.hid (rwalk_v A n c s w H.out.1 H.out.2.1 hn w.heap.size n 0 (List.replicate n false) [] none 0 0 w1 sn1 out1 HW.out (by omega) (by simp) (at_rep n 0) (by simp) (by omega) H.out.2.2.1)
    go_wp2_with fail
    refine HC.out.mono ?_
    rintro e w2 ⟨B, m, d, rfl, hw2⟩
    rw [← H.out.2.2.2] at hw2
    have hm : R.length = m := hw2.len
    have hin : IsInts w2 B m (nn R) := by
      have h1 := hw2.row.ints
      rw [nn_len, hm] at h1
      exact h1
    have hmx : m ≤ 9223372036854775807 := hin.2.1
    have hm2 : m ≤ 1000000 := by
      have h1 := H.out.2.2.1.len H.out.2.1 (by simp; exact H.out.1.1.symm) (fun k h => H.out.2.1 0 k h)
      have h2 := cnt_le sn1
      have h3 := H.out.2.2.1.le.1
      have h4 := set_cnt (sn := List.replicate n false) (j := 0) (by simp; omega) (at_rep n 0)
      rw [List.length_set, List.length_replicate] at h3
      rw [← hm, H.out.2.2.2, List.length_append]
      simp at h1 ⊢
      omega
    have HMx := Lib.hid hm2
    have H2 := Lib.hid (And.intro hw2.bel (And.intro hin hm))
    clear hm2
    clear hw2 hin hm
    have e2 : IntKind.i64.wrap ((m : Int) - 1) = (m : Int) - 1 := by rw [IntKind.wrap_i64]; omega
    go_wp2_with fail
    go_loopg [4, 5] m (fun gk q4 q5 wr => ∃ (k d' : Nat) (B' : Option Addr), k + gk = m ∧ q4 = .slice B' k d' ∧ q5 = .int .i64 ((m : Int) - 1 - (k : Int)) ∧ Hid (Below w2.heap.size w2 wr ∧ OwnL 3 1 intC w2.heap.size wr B' d' (nn (R.reverse.take k))))
    case atStart => exact ⟨0, 0, none, by omega, rfl, by simp, Lib.hid ⟨Below.refl _ _, OwnL.nil⟩⟩
    case round =>
      obtain ⟨k, d', B', hk, rfl, rfl, HK⟩ := hrel
      have hlk : (R.reverse.take k).length = k := by rw [List.length_take, List.length_reverse, H2.out.2.2]; omega
      have HL := Lib.hid hlk
      clear hlk
      by_cases hkm : k < m
      · have t1 : (m : Int) - 1 - (k : Int) ≥ 0 := by omega
        obtain ⟨t, ht⟩ : ∃ t : Nat, m = t + k + 1 := ⟨m - k - 1, by omega⟩
        have t2 : (m : Int) - 1 - (k : Int) = (t : Int) := by omega
        have t3 : (t : Int) < (m : Int) := by omega
        have t4 : IntKind.i64.wrap ((t : Int) - 1) = (m : Int) - 1 - ((k + 1 : Nat) : Int) := by rw [IntKind.wrap_i64]; omega
        rw [t2] at t1 ⊢
        obtain ⟨vb, vo, rfl, -, y, hy, v0⟩ := (H2.out.2.1.below HK.out.1).at (k := t) (by omega)
        obtain ⟨j, hj, rfl⟩ : ∃ j, R[t]? = some j ∧ y = (j : Int) := by
          unfold nn at hy
          rw [List.getElem?_map] at hy
          obtain ⟨j, h1, h2⟩ := Option.map_eq_some_iff.1 hy
          exact ⟨j, h1, h2.symm⟩
        have hjr : R.reverse[k]? = some j := by
          rw [List.getElem?_reverse (by rw [H2.out.2.2]; exact hkm), H2.out.2.2, ← hj]
          congr 1
          omega
        have HT := Lib.hid (show R.reverse.take (k + 1) = R.reverse.take k ++ [j] by rw [List.take_add_one, hjr]; rfl)
        obtain ⟨wn, hwn⟩ : ∃ wn, wr.alloc (.cells #[.int .i64 (j : Int)] 3) = wn := ⟨_, rfl⟩
        have mb := m_box wr _ 3 hwn
        have HP := Lib.hid (And.intro (HK.out.1.trans (mb.1.mono HK.out.1.size)) (HK.out.2.below mb.1))
        have Fn := Lib.hid mb.2
        have hsz : w2.heap.size ≤ wn.heap.size := HP.out.1.size
        have hmm : k ≤ 2000000 := by
          have h1 := HMx.out
          omega
        clear mb hy hj hjr t2 ht
        go_wp2_with (at_builtin; refine mapp1 (N := w2.heap.size) mInt rfl _ _ rfl ((nn_len _).trans HL.out) rfl HP.out.2 wr.heap.size (j : Int) rfl Fn.out hmm hsz ?_)
        intro g' c' wh ho hgr hat hlt2
        have HF := Lib.hid (And.intro (show Below w2.heap.size w2 wh from ⟨hgr.os.trans HP.out.1.os, hgr.tape.trans HP.out.1.tape, hgr.output.trans HP.out.1.output, Nat.le_trans HP.out.1.size hgr.size, fun q hq => (hgr.block q (Nat.lt_of_lt_of_le hq HP.out.1.size) (fun e => by
          have h1 := (HP.out.2.lo q (by rw [nn_len, HL.out]; exact e.symm)).1
          omega)).trans (HP.out.1.block q hq)⟩) ho)
        clear ho hgr hat hlt2
        go_wp2_with fail
        go_roundg (gk - 1)
        case measure => omega
        case rel => exact ⟨k + 1, c', _, by omega, rfl, by go_num, Lib.hid ⟨HF.out.1, by rw [HT.out, nn_app]; exact HF.out.2⟩⟩
      · obtain rfl : k = m := by omega
        have t1 : ¬ (k : Int) - 1 - (k : Int) ≥ 0 := by omega
        have HF := Lib.hid (show IsInts wr B' k (nn R.reverse) by
          have h1 := HK.out.2.ints
          rw [nn_len, HL.out] at h1
          rw [List.take_of_length_le (by rw [List.length_reverse, H2.out.2.2]; exact Nat.le_refl _)] at h1
          exact h1)
        go_wp2_with fail
        go_ret
        exact ⟨⟨B', k, ⟨d', rfl⟩, HF.out⟩, H2.out.1.trans (HK.out.1.mono H2.out.1.size)⟩
end Go.Proofs.Ytojfbcfbnadboaa.Gra
