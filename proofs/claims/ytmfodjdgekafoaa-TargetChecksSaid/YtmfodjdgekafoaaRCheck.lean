/- What the document's Check answers. -/
import Derived.Test.YtmfodjdgekafoaaCheck
namespace Go.Proofs.Ytmfodjdgekafoaa
open Go.ChangeShapes Go.WideShapes Go.RowKit
set_option linter.unusedVariables false
set_option maxRecDepth 20000

set_option maxHeartbeats 4000000 in
theorem rcheck_v (i : Tgt) (r : TgtV) (w : World) (h : IsTgt w i r) :
    Calls Try.prog 8 #[.agg (tgtR i r)] w fun e w' => e = .returned (.int .i64 (chkT i)) ∧ Below w.heap.size w w' := by
  have B0 : Below w.heap.size w (w.alloc (.cells (tgtR i r) 26)) := (Below.refl _ w).alloc (Nat.le_refl _) _
  have D := Lib.hid (And.intro (h.below B0) (And.intro B0 (heap_alloc_new w (.cells (tgtR i r) 26))))
  clear h B0
  obtain ⟨wa, hwa⟩ : ∃ wa, w.alloc (.cells (tgtR i r) 26) = wa := ⟨_, rfl⟩
  rw [hwa] at D
  obtain ⟨cs, hcs⟩ : ∃ cs, tgtR i r = cs := ⟨_, rfl⟩
  have HCS := Lib.hid hcs
  rw [hcs] at hwa D ⊢
  clear hcs
  go_enter Try.func8, Try.ntmps8
  go_wp2_with fail
  clear hwa
  go_loopg [3] 2 (fun gk u wr => ∃ c : Nat, c + gk = 2 ∧ u = .int .i64 (c : Int) ∧ Hid ((∃ n, wr = wa.drewN n) ∧ ∀ j, j < c → chkC (i.r j) (i.c j) = 0))
  case atStart => exact ⟨0, by omega, rfl, ⟨0, rfl⟩, fun j hj => by omega⟩
  case round =>
    obtain ⟨c, hk, rfl, HH⟩ := hrel
    obtain ⟨nd, hnd⟩ := HH.out.1
    have BW := Lib.hid (show Below wa.heap.size wa wr from hnd ▸ below_drewN wa nd)
    by_cases hlt : c < 2
    · have i1 : (c : Int) < 2 := by omega
      have hbox := kept_box D.out.2.2 BW.out
      have k0 : wr.cell? ⟨w.heap.size, c, none⟩ = some (.int .i64 (i.r c)) := (cell_in hbox c).trans (by rw [← HCS.out]; exact tgt_r i r c hlt)
      have k1 : wr.cell? ⟨w.heap.size, 2 + c, none⟩ = some (.slice (r.a c) (r.n c) (r.m c)) := (cell_in hbox (2 + c)).trans (by rw [← HCS.out]; exact tgt_c i r c hlt)
      have hin := D.out.1.ints c
      obtain ⟨a, ha⟩ : ∃ a, r.a c = a := ⟨_, rfl⟩
      obtain ⟨n, hn⟩ : ∃ n, r.n c = n := ⟨_, rfl⟩
      obtain ⟨m, hm⟩ : ∃ m, r.m c = m := ⟨_, rfl⟩
      obtain ⟨x, hx⟩ : ∃ x, i.r c = x := ⟨_, rfl⟩
      obtain ⟨l, hl⟩ : ∃ l, i.c c = l := ⟨_, rfl⟩
      have HX := Lib.hid (And.intro hx hl)
      rw [ha, hn, hm] at k1
      rw [ha, hn, hl] at hin
      rw [hx] at k0
      have hnm := hin.2.1
      have HI := Lib.hid hin
      have HND := Lib.hid hnd
      have HAT := Lib.hid (fun (hz : ¬ chkC x l = 0) => show chkT i = chkC x l from by
        rw [← hx, ← hl] at hz ⊢; exact chkT_at c hlt HH.out.2 hz)
      clear ha hn hm hx hl hin hbox hnd
      have hcs2 := HI.out.1
      have HL := Lib.hid hcs2
      clear hcs2
      cases hx0 : decide (x < 0)
      case true =>
        have HO := Lib.hid (chk_out (r := x) (l := l) (by rw [decide_eq_true_iff] at hx0; omega))
        clear k1
        go_wp2_with fail
        go_ret
        exact ⟨by rw [HAT.out (by rw [HO.out]; decide), HO.out]; rfl, D.out.2.1.trans (BW.out.mono D.out.2.1.size)⟩
      cases hx1 : decide (16 < x)
      case true =>
        have HO := Lib.hid (chk_out (r := x) (l := l) (by rw [decide_eq_true_iff] at hx1; omega))
        clear k1
        go_wp2_with fail
        go_ret
        exact ⟨by rw [HAT.out (by rw [HO.out]; decide), HO.out]; rfl, D.out.2.1.trans (BW.out.mono D.out.2.1.size)⟩
      have hx2 : 0 ≤ x ∧ x ≤ 16 := by rw [decide_eq_false_iff_not] at hx0 hx1; omega
      have HX2 := Lib.hid hx2
      clear hx2
      go_wp2_with fail
      clear k0 k1 hx0 hx1
      go_loopg [5] n (fun gk u wr => ∃ k : Nat, k + gk = n ∧ u = .int .i64 (k : Int) ∧ Hid ((∃ n, wr = wa.drewN n) ∧ ∀ j, j < k → ¬ badAt x l j))
      case atStart => exact ⟨0, by omega, rfl, ⟨nd, HND.out⟩, fun j hj => by omega⟩
      case round =>
        clear BW HND
        obtain ⟨k, hk, rfl, HK⟩ := hrel
        obtain ⟨nd2, hnd⟩ := HK.out.1
        have BW := Lib.hid (show Below wa.heap.size wa wr from hnd ▸ below_drewN wa nd2)
        have HND := Lib.hid hnd
        clear hnd
        have hbox := kept_box D.out.2.2 BW.out
        have k0 : wr.cell? ⟨w.heap.size, c, none⟩ = some (.int .i64 x) := (cell_in hbox c).trans (by rw [← HCS.out, ← HX.out.1]; exact tgt_r i r c hlt)
        by_cases hlk : k < n
        · obtain ⟨g, o, hA, hgl, y, hy, c0⟩ := (HI.out.below BW.out).at hlk
          have HY := Lib.hid (And.intro hy (And.intro (getD_of hy) hlk))
          have i2 : (k : Int) < (n : Int) := by omega
          have HIW := Lib.hid (HI.out.below BW.out)
          subst hA
          clear hy hgl hbox
          cases hy0 : decide (y < 0)
          case true =>
            have HO := Lib.hid (chk_bad (l := l) HX2.out k (by have := HL.out; omega) (by
              rw [decide_eq_true_iff] at hy0
              unfold badAt; rw [HY.out.2.1]; omega))
            go_wp2_with fail
            go_quiet (fail)
            go_wp2_with fail
            go_ret
            exact ⟨by rw [HAT.out (by rw [HO.out]; decide), HO.out]; rfl, D.out.2.1.trans ((Below.drewQ BW.out _).mono D.out.2.1.size)⟩
          cases hy1 : decide (x ≤ y)
          case true =>
            have HO := Lib.hid (chk_bad (l := l) HX2.out k (by have := HL.out; omega) (by
              rw [decide_eq_true_iff] at hy1
              unfold badAt; rw [HY.out.2.1]; omega))
            go_wp2_with fail
            go_quiet (fail)
            go_wp2_with fail
            go_ret
            exact ⟨by rw [HAT.out (by rw [HO.out]; decide), HO.out]; rfl, D.out.2.1.trans ((Below.drewQ BW.out _).mono D.out.2.1.size)⟩
          cases k with
          | zero =>
            have HO : Hid (¬ badAt x l 0) := Lib.hid (by
              rw [decide_eq_false_iff_not] at hy0 hy1
              unfold badAt; rw [HY.out.2.1]; omega)
            rw [Nat.add_zero] at c0
            go_wp2_with fail
            go_quiet (fail)
            go_wp2_with fail
            go_roundg (gk - 1)
            case measure => omega
            case rel => exact ⟨1, by omega, by go_num, ⟨nd2 + _, by rw [← World.drewN_drewN, ← HND.out]⟩, fun j hj => by
              have e : j = 0 := by omega
              rw [e]; exact HO.out⟩
          | succ q =>
            obtain ⟨g', o', hA', _, y', hy', c1⟩ := HIW.out.at (k := q) (by omega)
            injection hA' with hA'
            injection hA' with e1 e2
            subst e1; subst e2
            have e3 : ((q + 1 : Nat) : Int) - 1 = (q : Int) := by omega
            have e4 : ((q : Int) + 1) - 1 = (q : Int) := by omega
            have e5 : IntKind.i64.wrap (q : Int) = (q : Int) := IntWalk.i64_in _ (by omega)
            have e6 : ((q : Int) + 1).toNat = q + 1 := by omega
            have hq0 : 0 < (q : Int) + 1 := by omega
            have HY' := Lib.hid (getD_of hy')
            clear hy'
            cases hle : decide (y ≤ y')
            · have HO : Hid (¬ badAt x l (q + 1)) := Lib.hid (by
                rw [decide_eq_false_iff_not] at hy0 hy1 hle
                unfold badAt; rw [HY.out.2.1, Nat.add_sub_cancel, HY'.out]; omega)
              go_wp2_with fail
              go_quiet (fail)
              go_wp2_with fail
              go_roundg (gk - 1)
              case measure => omega
              case rel => exact ⟨q + 1 + 1, by omega, by go_num, ⟨nd2 + _, by rw [← World.drewN_drewN, ← HND.out]⟩, fun j hj => by
                rcases Nat.lt_or_ge j (q + 1) with h4 | h4
                · exact HK.out.2 j h4
                · have e : j = q + 1 := by omega
                  rw [e]; exact HO.out⟩
            · have HO := Lib.hid (chk_bad (l := l) HX2.out (q + 1) (by have := HL.out; omega) (by
                rw [decide_eq_true_iff] at hle
                unfold badAt; rw [HY.out.2.1, Nat.add_sub_cancel, HY'.out]; omega))
              go_wp2_with fail
              go_quiet (fail)
              go_wp2_with fail
              go_ret
              exact ⟨by rw [HAT.out (by rw [HO.out]; decide), HO.out]; rfl, D.out.2.1.trans ((Below.drewQ BW.out _).mono D.out.2.1.size)⟩
        · obtain rfl : k = n := by omega
          have hge : ¬ (k : Int) < (k : Int) := by omega
          have HO := Lib.hid (chk_ok HX2.out (fun j hj => HK.out.2 j (by have := HL.out; omega)))
          go_wp2_with fail
          go_roundg (2 - c - 1)
          case measure => omega
          case rel => exact ⟨c + 1, by omega, by go_num, ⟨nd2, HND.out⟩, fun j hj => by
            rcases Nat.lt_or_ge j c with h4 | h4
            · exact HH.out.2 j h4
            · have e : j = c := by omega
              rw [e, HX.out.1, HX.out.2, HO.out]⟩
    · obtain rfl : c = 2 := by omega
      have hbox := kept_box D.out.2.2 BW.out
      have k4 : wr.cell? ⟨w.heap.size, 4, none⟩ = some (.int .i64 i.slots) := (cell_in hbox 4).trans (by rw [← HCS.out]; rfl)
      obtain ⟨x, hx⟩ : ∃ x, i.slots = x := ⟨_, rfl⟩
      rw [hx] at k4
      have h0 := HH.out.2 0 (by omega)
      have h1 := HH.out.2 1 (by omega)
      cases hx0 : decide (x < 0)
      case true =>
        have HT := Lib.hid (chkT_no h0 h1 (by rw [decide_eq_true_iff] at hx0; omega))
        clear hx hbox h0 h1 hnd
        go_wp2_with fail
        go_ret
        exact ⟨by rw [HT.out]; rfl, D.out.2.1.trans (BW.out.mono D.out.2.1.size)⟩
      cases hx1 : decide (4096 < x)
      case true =>
        have HT := Lib.hid (chkT_no h0 h1 (by rw [decide_eq_true_iff] at hx1; omega))
        clear hx hbox h0 h1 hnd
        go_wp2_with fail
        go_ret
        exact ⟨by rw [HT.out]; rfl, D.out.2.1.trans (BW.out.mono D.out.2.1.size)⟩
      · have HT := Lib.hid (chkT_ok h0 h1 (by rw [decide_eq_false_iff_not] at hx0 hx1; omega))
        clear hx hbox h0 h1 hnd
        go_wp2_with fail
        go_ret
        exact ⟨by rw [HT.out]; rfl, D.out.2.1.trans (BW.out.mono D.out.2.1.size)⟩
end Go.Proofs.Ytmfodjdgekafoaa
