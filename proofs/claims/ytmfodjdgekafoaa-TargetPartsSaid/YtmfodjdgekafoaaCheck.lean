/- What Check answers: the program's and the document's. -/
import Derived.Test.YtmfodjdgekafoaaData
import Derived.Deep.LoopGhost
namespace Go.Proofs.Ytmfodjdgekafoaa
open Go.ChangeShapes Go.WideShapes Go.RowKit
set_option linter.unusedVariables false
set_option maxRecDepth 20000

/-- Is one of a class's list wrong? -/
def badAt (r : Int) (l : List Int) (k : Nat) : Prop := l.getD k 0 < 0 ∨ r ≤ l.getD k 0 ∨ (0 < k ∧ l.getD k 0 ≤ l.getD (k - 1) 0)
def goodL (r : Int) (l : List Int) : Prop := ∀ k, k < l.length → ¬ badAt r l k
open Classical in
noncomputable def chkC (r : Int) (l : List Int) : Int := if 0 ≤ r ∧ r ≤ 16 then (if goodL r l then 0 else 45) else 2
theorem chk_out {r : Int} {l : List Int} (h : ¬ (0 ≤ r ∧ r ≤ 16)) : chkC r l = 2 := by unfold chkC; rw [if_neg h]
theorem chk_bad {r : Int} {l : List Int} (h : 0 ≤ r ∧ r ≤ 16) (k : Nat) (hk : k < l.length) (hb : badAt r l k) : chkC r l = 45 := by
  unfold chkC; rw [if_pos h, if_neg (fun e => e k hk hb)]
theorem chk_ok {r : Int} {l : List Int} (h : 0 ≤ r ∧ r ≤ 16) (hg : goodL r l) : chkC r l = 0 := by
  unfold chkC; rw [if_pos h, if_pos hg]
theorem chk_cases (r : Int) (l : List Int) : chkC r l = 0 ∨ chkC r l = 45 ∨ chkC r l = 2 := by
  unfold chkC; split
  · split <;> simp
  · simp
theorem getD_of {l : List Int} {k : Nat} {y : Int} (h : l[k]? = some y) : l.getD k 0 = y := by rw [List.getD_eq_getElem?_getD, h]; rfl
set_option maxHeartbeats 1000000 in
theorem checkC_v (r : Int) (A : Option Addr) (n c : Nat) (l : List Int) (w : World) (h : IsInts w A n l) :
    Calls Try.prog 22 #[.int .i64 r, .slice A n c] w fun e w' => e = .returned (.int .i64 (chkC r l)) ∧ w = w' := by
  have hm := h.2.1
  have H0 := Lib.hid h
  clear h
  obtain ⟨b, hb⟩ : ∃ b, (decide (0 ≤ r) && decide (r ≤ 16)) = b := ⟨_, rfl⟩
  cases hbb : b
  · subst hbb
    have hn : ¬ (0 ≤ r ∧ r ≤ 16) := by rw [← Bool.decide_and, decide_eq_false_iff_not] at hb; exact hb
    rw [chk_out hn]
    have HB := Lib.hid hb
    clear hn hb
    go_enter Try.func22, Try.ntmps22
    go_wp2_with fail
    refine (up_v r 16 false HB.out _).mono ?_
    rintro e w1 ⟨rfl, rfl⟩
    go_wp2_with fail
    go_ret
    exact ⟨rfl, rfl⟩
  subst hbb
  have hn : 0 ≤ r ∧ r ≤ 16 := by rw [← Bool.decide_and, decide_eq_true_iff] at hb; exact hb
  have HB := Lib.hid (And.intro hb hn)
  clear hn hb
  go_enter Try.func22, Try.ntmps22
  go_wp2_with fail
  refine (up_v r 16 true HB.out.1 _).mono ?_
  rintro e w1 ⟨rfl, rfl⟩
  go_wp2_with fail
  go_loopg [12] n (fun gk u wr => ∃ k : Nat, k + gk = n ∧ u = .int .i64 (k : Int) ∧ Hid (wr = w ∧ ∀ j, j < k → ¬ badAt r l j))
  case atStart => exact ⟨0, by omega, rfl, rfl, fun j hj => by omega⟩
  case round =>
    obtain ⟨k, hk, rfl, HH⟩ := hrel
    obtain rfl := HH.out.1
    by_cases hlt : k < n
    · obtain ⟨g, o, hA, hb, y, hy, c0⟩ := H0.out.at hlt
      have HA := Lib.hid hA
      have HY := Lib.hid (And.intro hy (And.intro (getD_of hy) hlt))
      subst hA
      clear hy hb
      have i1 : (k : Int) < (n : Int) := by omega
      obtain ⟨b, hbb⟩ : ∃ b, (decide (0 ≤ y) && decide (y < r)) = b := ⟨_, rfl⟩
      have HBB := Lib.hid hbb
      clear hbb
      cases b
      · have HX := Lib.hid (chk_bad (l := l) HB.out.2 k (by have := H0.out.1; omega) (by
          have h1 := HBB.out
          rw [← Bool.decide_and, decide_eq_false_iff_not] at h1
          unfold badAt; rw [HY.out.2.1]; omega))
        go_wp2_with fail
        refine (below_v y r false HBB.out _).mono ?_
        rintro e w1 ⟨rfl, rfl⟩
        go_wp2_with fail
        go_ret
        exact ⟨by rw [HX.out]; rfl, rfl⟩
      · cases k with
        | zero =>
          have HX : Hid (¬ badAt r l 0) := Lib.hid (by
            have h1 := HBB.out
            rw [← Bool.decide_and, decide_eq_true_iff] at h1
            unfold badAt; rw [HY.out.2.1]; omega)
          rw [Nat.add_zero] at c0
          go_wp2_with fail
          refine (below_v y r true HBB.out _).mono ?_
          rintro e w1 ⟨rfl, rfl⟩
          go_wp2_with fail
          go_roundg (gk - 1)
          case measure => omega
          case rel => exact ⟨1, by omega, by go_num, rfl, fun j hj => by
            have e : j = 0 := by omega
            rw [e]; exact HX.out⟩
        | succ q =>
          obtain ⟨g', o', hA', _, y', hy', c1⟩ := H0.out.at (k := q) (by omega)
          injection hA' with hA'
          injection hA' with e1 e2
          subst e1; subst e2
          have e3 : ((q + 1 : Nat) : Int) - 1 = (q : Int) := by omega
          have e4 : ((q : Int) + 1) - 1 = (q : Int) := by omega
          have hq0 : 0 < (q : Int) + 1 := by omega
          have HY' := Lib.hid (getD_of hy')
          clear hy'
          cases hle : decide (y ≤ y')
          · have HX : Hid (¬ badAt r l (q + 1)) := Lib.hid (by
              have h1 := HBB.out
              rw [← Bool.decide_and, decide_eq_true_iff] at h1
              rw [decide_eq_false_iff_not] at hle
              unfold badAt; rw [HY.out.2.1, Nat.add_sub_cancel, HY'.out]; omega)
            go_wp2_with fail
            refine (below_v y r true HBB.out _).mono ?_
            rintro e w1 ⟨rfl, rfl⟩
            go_wp2_with fail
            go_roundg (gk - 1)
            case measure => omega
            case rel => exact ⟨q + 1 + 1, by omega, by go_num, rfl, fun j hj => by
              rcases Nat.lt_or_ge j (q + 1) with h4 | h4
              · exact HH.out.2 j h4
              · obtain rfl : j = q + 1 := by omega
                exact HX.out⟩
          · have HX := Lib.hid (chk_bad (l := l) HB.out.2 (q + 1) (by have := H0.out.1; omega) (by
              rw [decide_eq_true_iff] at hle
              unfold badAt; rw [HY.out.2.1, Nat.add_sub_cancel, HY'.out]; omega))
            go_wp2_with fail
            refine (below_v y r true HBB.out _).mono ?_
            rintro e w1 ⟨rfl, rfl⟩
            go_wp2_with fail
            go_ret
            exact ⟨by rw [HX.out]; rfl, rfl⟩
    · obtain rfl : k = n := by omega
      have hge : ¬ (k : Int) < (k : Int) := by omega
      have HX := Lib.hid (chk_ok HB.out.2 (fun j hj => HH.out.2 j (by have := H0.out.1; omega)))
      go_wp2_with fail
      go_ret
      exact ⟨by rw [HX.out]; rfl, rfl⟩
/-- What is wrong with a target. -/
noncomputable def chkT (i : Tgt) : Int := if chkC i.r0 i.c0 = 0 then (if chkC i.r1 i.c1 = 0 then (if 0 ≤ i.slots ∧ i.slots ≤ 4096 then 0 else 2) else chkC i.r1 i.c1) else chkC i.r0 i.c0
theorem chkT_r0 {i : Tgt} (h : ¬ chkC i.r0 i.c0 = 0) : chkT i = chkC i.r0 i.c0 := by unfold chkT; rw [if_neg h]
theorem chkT_r1 {i : Tgt} (h0 : chkC i.r0 i.c0 = 0) (h : ¬ chkC i.r1 i.c1 = 0) : chkT i = chkC i.r1 i.c1 := by unfold chkT; rw [if_pos h0, if_neg h]
theorem chkT_ok {i : Tgt} (h0 : chkC i.r0 i.c0 = 0) (h1 : chkC i.r1 i.c1 = 0) (h : 0 ≤ i.slots ∧ i.slots ≤ 4096) : chkT i = 0 := by unfold chkT; rw [if_pos h0, if_pos h1, if_pos h]
theorem chkT_no {i : Tgt} (h0 : chkC i.r0 i.c0 = 0) (h1 : chkC i.r1 i.c1 = 0) (h : ¬ (0 ≤ i.slots ∧ i.slots ≤ 4096)) : chkT i = 2 := by unfold chkT; rw [if_pos h0, if_pos h1, if_neg h]
theorem chkT_at {i : Tgt} (c : Nat) (hc : c < 2) (hb : ∀ j, j < c → chkC (i.r j) (i.c j) = 0) (h : ¬ chkC (i.r c) (i.c c) = 0) : chkT i = chkC (i.r c) (i.c c) := by
  have : c = 0 ∨ c = 1 := by omega
  rcases this with rfl | rfl
  · exact chkT_r0 h
  · exact chkT_r1 (hb 0 (by omega)) h
set_option maxHeartbeats 1000000 in
theorem check_v (i : Tgt) (r : TgtV) (w : World) (h : IsTgt w i r) :
    Calls Try.prog 7 #[.agg (tgtR i r)] w fun e w' => e = .returned (.int .i64 (chkT i)) ∧ Below w.heap.size w w' := by
  have B0 : Below w.heap.size w (w.alloc (.cells (tgtR i r) 26)) := (Below.refl _ w).alloc (Nat.le_refl _) _
  have D := Lib.hid (And.intro (h.below B0) (And.intro B0 (heap_alloc_new w (.cells (tgtR i r) 26))))
  clear h B0
  obtain ⟨wa, hwa⟩ : ∃ wa, w.alloc (.cells (tgtR i r) 26) = wa := ⟨_, rfl⟩
  rw [hwa] at D
  obtain ⟨cs, hcs⟩ : ∃ cs, tgtR i r = cs := ⟨_, rfl⟩
  have HCS := Lib.hid hcs
  rw [hcs] at hwa D ⊢
  clear hcs
  go_enter Try.func7, Try.ntmps7
  go_wp2_with fail
  clear hwa
  go_loopg [5] 2 (fun gk u wr => ∃ c : Nat, c + gk = 2 ∧ u = .int .i64 (c : Int) ∧ Hid ((∃ n, wr = wa.drewN n) ∧ ∀ j, j < c → chkC (i.r j) (i.c j) = 0))
  case atStart => exact ⟨0, by omega, rfl, ⟨0, rfl⟩, fun j hj => by omega⟩
  case round =>
    obtain ⟨c, hk, rfl, HH⟩ := hrel
    obtain ⟨nd, hnd⟩ := HH.out.1
    have BW := Lib.hid (show Below wa.heap.size wa wr from hnd ▸ below_drewN wa nd)
    by_cases hlt : c < 2
    · have i1 : (c : Int) < 2 := by omega
      have hbox := kept_box D.out.2.2 BW.out
      have k0 : wr.cell? ⟨w.heap.size, c, none⟩ = some (.int .i64 (i.r c)) := (cell_in hbox c).trans (by rw [← HCS.out]; exact tgt_r i r c hlt)
      have k1 : wr.cell? ⟨w.heap.size, 2 + c, none⟩ = some (.slice (r.a c) (r.n c) (r.m c)) := (cell_in hbox (2 + c)).trans (by rw [← HCS.out]; exact tgt_c i r c hlt)
      have hin := (D.out.1.below BW.out).ints c
      obtain ⟨a, ha⟩ : ∃ a, r.a c = a := ⟨_, rfl⟩
      obtain ⟨n, hn⟩ : ∃ n, r.n c = n := ⟨_, rfl⟩
      obtain ⟨m, hm⟩ : ∃ m, r.m c = m := ⟨_, rfl⟩
      obtain ⟨x, hx⟩ : ∃ x, i.r c = x := ⟨_, rfl⟩
      obtain ⟨l, hl⟩ : ∃ l, i.c c = l := ⟨_, rfl⟩
      have HX := Lib.hid (And.intro hx hl)
      rw [ha, hn, hm] at k1
      rw [ha, hn, hl] at hin
      rw [hx] at k0
      have HI := Lib.hid hin
      obtain ⟨z, hz⟩ : ∃ z, chkC x l = z := ⟨_, rfl⟩
      have HZ := Lib.hid hz
      have hnd2 := Lib.hid hnd
      clear ha hn hm hx hl hin hz hbox hnd
      go_wp2_with fail
      go_quiet ((go_at_call 22; exact Calls.quiet_of_same ((checkC_v x a n m l _ (HI.out.below (below_drewN _ _))).mono fun e w' h => ⟨h.1.trans (by rw [HZ.out]), h.2.symm⟩)))
      by_cases hz : z = 0
      · subst hz
        go_wp2_with fail
        go_roundg (gk - 1)
        case measure => omega
        case rel => exact ⟨c + 1, by omega, by go_num, ⟨nd + _, by rw [← World.drewN_drewN, ← hnd2.out]⟩, fun j hj => by
          rcases Nat.lt_or_ge j c with h4 | h4
          · exact HH.out.2 j h4
          · have e : j = c := by omega
            rw [e, HX.out.1, HX.out.2, HZ.out]⟩
      · have hz' : (z == 0) = false := by rw [beq_eq_false_iff_ne]; exact hz
        have hz2 : (z != 0) = true := by rw [bne, hz']; rfl
        have HT := Lib.hid (chkT_at c hlt HH.out.2 (by rw [HX.out.1, HX.out.2, HZ.out]; exact hz))
        go_wp2_with fail
        go_ret
        exact ⟨by rw [HT.out, HX.out.1, HX.out.2, HZ.out]; rfl, D.out.2.1.trans ((Below.drewQ BW.out _).mono D.out.2.1.size)⟩
    · obtain rfl : c = 2 := by omega
      have hbox := kept_box D.out.2.2 BW.out
      have k4 : wr.cell? ⟨w.heap.size, 4, none⟩ = some (.int .i64 i.slots) := (cell_in hbox 4).trans (by rw [← HCS.out]; rfl)
      obtain ⟨x, hx⟩ : ∃ x, i.slots = x := ⟨_, rfl⟩
      have HX := Lib.hid hx
      rw [hx] at k4
      have h0 := HH.out.2 0 (by omega)
      have h1 := HH.out.2 1 (by omega)
      obtain ⟨b, hb⟩ : ∃ b, (decide (0 ≤ x) && decide (x ≤ 4096)) = b := ⟨_, rfl⟩
      have HB := Lib.hid hb
      cases b
      · have HT := Lib.hid (chkT_no h0 h1 (by rw [hx]; rw [← Bool.decide_and, decide_eq_false_iff_not] at hb; exact hb))
        clear hb hx hbox h0 h1 hnd
        go_wp2_with fail
        refine (up_v x 4096 false HB.out _).mono ?_
        rintro e w1 ⟨rfl, rfl⟩
        go_wp2_with fail
        go_ret
        exact ⟨by rw [HT.out]; rfl, D.out.2.1.trans (BW.out.mono D.out.2.1.size)⟩
      · have HT := Lib.hid (chkT_ok h0 h1 (by rw [hx]; rw [← Bool.decide_and, decide_eq_true_iff] at hb; exact hb))
        clear hb hx hbox h0 h1 hnd
        go_wp2_with fail
        refine (up_v x 4096 true HB.out _).mono ?_
        rintro e w1 ⟨rfl, rfl⟩
        go_wp2_with fail
        go_ret
        exact ⟨by rw [HT.out]; rfl, D.out.2.1.trans (BW.out.mono D.out.2.1.size)⟩
end Go.Proofs.Ytmfodjdgekafoaa
