
/- The document's lists of where blocks go on, walked. -/
import Derived.Test.YtojfbcfbnadboaaGraRefS
import Derived.Test.YtojfbcfbnadboaaGraJn
import Derived.Deep.RegionWith
import Derived.Deep.Upon
namespace Go.Proofs.Ytojfbcfbnadboaa.Gra
open Go.ChangeShapes Go.WideShapes Go.RowKit
set_option linter.unusedVariables false
set_option maxRecDepth 20000
set_option maxHeartbeats 2000000

theorem Sc.hot {w W W' : World} {A : Option Addr} {n c : Nat} {rows : List Il} {B : Option Addr} {m d : Nat} {l : List Nat} (h : Sc w W A n c rows B m d l) {g c' : Nat} {P : World → Prop} (f : Frz (mv2 (.slice A n c) (.slice B m d)) W P) (hg : W.grownBy W' (Value.ownBlock (.slice B m d))) (hat : Value.ownBlock (.slice B m d) = some g ∨ g = W.heap.size) :
    Frz (mv2 (.slice A n c) (.slice (some ⟨g, 0, none⟩) (m + 1) c')) W' P := by
  refine f.go (grown_mv hg fun k e => .inr e) (fun k hk => ?_)
  rcases hk with e | e
  · exact .inl (.inl e)
  · have e : g = k := by injection e
    subst e
    exact hat.elim (fun e => .inl (.inr e)) (fun e => .inr (by omega))
theorem Sc.lt {w W : World} {A : Option Addr} {n c : Nat} {rows : List Il} {B : Option Addr} {m d : Nat} {l : List Nat} (h : Sc w W A n c rows B m d l) (k : Nat) (hk : mv2 (.slice A n c) (.slice B m d) k) : k < W.heap.size := by
  rcases hk with e | e
  · exact (h.row.lo k (by rw [h.rl]; exact e)).2
  · exact (h.cur.lo k (by rw [nn_len, h.cl]; exact e)).2
def endB (x : Blk) : Bool := match x.code.getLast? with | none => false | some z => isEnd z.op
theorem endB_nil {x : Blk} (h : x.code.length = 0) : endB x = false := by unfold endB; rw [List.eq_nil_of_length_eq_zero h]; rfl
theorem endB_at {x : Blk} {m : Nat} {z : Ins} (hl : x.code.length = m + 1) (hz : x.code[m]? = some z) : endB x = isEnd z.op := by
  unfold endB
  rw [List.getLast?_eq_getElem?, hl, Nat.add_sub_cancel, hz]
theorem labs_no {x : Blk} (h : endB x = false) : labs x = [] := by
  unfold endB at h
  unfold labs
  cases hx : x.code.getLast? with
  | none => rfl
  | some z =>
    rw [hx] at h
    unfold isEnd at h
    exact if_neg (of_decide_eq_false h)
theorem labs_yes {x : Blk} (h : endB x = true) : ∃ m, x.code.length = m + 1 := by
  cases hl : x.code.length with
  | zero => rw [endB_nil hl] at h; cases h
  | succ m => exact ⟨m, rfl⟩
theorem Sc.ints {w W : World} {A : Option Addr} {n c : Nat} {rows : List Il} {B : Option Addr} {m d : Nat} {l : List Nat} (h : Sc w W A n c rows B m d l) : IsInts W B m (nn l) := by
  have h1 := h.cur.ints
  rw [nn_len, h.cl] at h1
  exact h1
theorem rsucc_v (f : Fun) (v : FunV) (w : World) (hI : IsFun w f v) (hbn : f.blocks.length ≤ 1000000) :
    Calls Try.prog 10 #[.agg (funR f v)] w fun e w' => (∃ A n c, e = .returned (.slice A n c) ∧ IsGr w' A n (sucs f.blocks)) ∧ Below w.heap.size w w' := by
  obtain ⟨w0, hw0⟩ : ∃ w0, w.alloc (.cells (funR f v) 26) = w0 := ⟨_, rfl⟩
  have nb := m_box w _ 26 hw0
  have HI := Lib.hid (And.intro (hI.below nb.1) nb)
  have HL := Lib.hid (And.intro hbn trivial)
  obtain ⟨machine, name, regs, params, blocks⟩ := f
  obtain ⟨ra, rn, rc, pa, pn, pc, ba, bn, bc, R⟩ := v
  have hlen : bn ≤ 9223372036854775807 := hI.blocks.2.1
  unfold funR at hw0 ⊢
  dsimp only at hw0 ⊢
  clear nb hI hbn
  go_enter Try.func10, Try.ntmps10
  go_wp2_with fail
  try rw [hw0]
  clear hw0
  go_loopg [3, 4] bn (fun gk q3 q4 wr => ∃ (k c : Nat) (A : Option Addr) (rows : List Il), k + gk = bn ∧ q3 = .slice A k c ∧ q4 = .int .i64 (k : Int) ∧ Hid (Sc w0 wr A k c rows none 0 0 [] ∧ rows.map (·.l) = (sucs blocks).take k))
  case atStart => exact ⟨0, 0, none, [], by omega, rfl, rfl, Lib.hid ⟨Sc.start (Below.refl _ _), rfl⟩⟩
  case round =>
    obtain ⟨k, c, A, rows, hk, rfl, rfl, HS⟩ := hrel
    have hbx := kept_box HI.out.2.2 HS.out.1.bel
    obtain ⟨⟨x0, x1, x2, x3, x4⟩, -⟩ := mbox5 hbx
    dsimp only at x0 x1 x2 x3 x4
    clear hbx
    by_cases hlt : k < bn
    · have hbk := HI.out.1.blocks.below HS.out.1.bel
      dsimp only at hbk
      obtain ⟨bb, oo, rfl, -, x, hx, hB, -, -, -, d3⟩ := hbk.at hlt
      clear hbk
      have t1 : (k : Int) < (bn : Int) := by omega
      have hx0 : IsBlk w0 x (R k) := by
        obtain ⟨_, _, _, _, y, hy, h2, _⟩ := (show IsBlks w0 _ bn R blocks from HI.out.1.blocks).at hlt
        rw [hx] at hy
        injection hy with hy
        rw [hy]
        exact h2
      have HX := Lib.hid (And.intro hx hx0)
      have hkk : k ≤ 1000000 := by
        have h1 := HL.out.1
        have h2 : blocks.length = bn := HI.out.1.blocks.1
        omega
      obtain ⟨⟨ia, il, ic, ka, kn, kc, Rk⟩, hRk⟩ : ∃ r, R k = r := ⟨_, rfl⟩
      have HR := Lib.hid hRk
      rw [hRk] at d3 hB
      dsimp only at d3
      have hc := hB.code
      dsimp only at hc
      have hcl : x.code.length = kn := hc.1
      have hcm : kn ≤ 9223372036854775807 := hc.2.1
      have HC := Lib.hid hc
      clear hx hx0 hB hRk hc
      obtain ⟨br, hbr⟩ : ∃ br, endB x = br := ⟨_, rfl⟩
      have HBr := Lib.hid hbr
      clear hbr
      go_upto_region 7 with fail
      go_cut [45] from 7 to 77 (fun s45 wc => s45 = .bool br ∧ wr = wc)
      case first =>
        by_cases hz : kn = 0
        · have hz2 : ¬ (kn : Int) > 0 := by omega
          have hb : br = false := by rw [← HBr.out]; exact endB_nil (by omega)
          subst hb
          clear hz hcl
          go_wp2_with fail
          go_meet
          case rel => exact ⟨rfl, rfl⟩
        · obtain ⟨mm, hm⟩ : ∃ mm, kn = mm + 1 := ⟨kn - 1, by omega⟩
          have hz2 : (kn : Int) > 0 := by omega
          obtain ⟨b2, o2, rfl, -, z, hz3, hin, d4, d5, d6, d7, d8, d9, d10, d11, d12, d13⟩ := HC.out.at (k := mm) (by omega)
          obtain ⟨op, ⟨dk, dc, dn, dt⟩, args, nm, off, labels, cs⟩ := z
          obtain ⟨⟨aa, an, ac, la, ln, lc, ca, cn, cc⟩, hR⟩ : ∃ q, Rk mm = q := ⟨_, rfl⟩
          rw [hR] at d9 d12 d13 hin
          dsimp only at d4 d5 d6 d7 d8 d9 d10 d11 d12 d13
          have e1 : (kn : Int) - 1 = (mm : Int) := by omega
          have e2 : IntKind.i64.wrap (mm : Int) = (mm : Int) := by rw [IntKind.wrap_i64]; omega
          have e3 : (mm : Int) < (kn : Int) := by omega
          have e4 : mm < kn := by omega
          have HLs := Lib.hid (show br = isEnd op by rw [← HBr.out, endB_at (m := mm) (by omega) hz3])
          clear hR hz3 hin hz hm hcl
          by_cases h20 : op ≥ 20
          · by_cases h23 : op ≤ 23
            · have hb : br = true := by rw [HLs.out]; unfold isEnd; simp; omega
              subst hb
              go_wp2_with fail
              go_meet
              case rel => exact ⟨rfl, rfl⟩
            · have hb : br = false := by rw [HLs.out]; unfold isEnd; simp; omega
              subst hb
              go_wp2_with fail
              go_meet
              case rel => exact ⟨rfl, rfl⟩
          · have hb : br = false := by rw [HLs.out]; unfold isEnd; simp; omega
            subst hb
            go_wp2_with fail
            go_meet
            case rel => exact ⟨rfl, rfl⟩
      obtain ⟨rfl, hwc⟩ := hcut
      subst hwc
      go_upto_if 45 with fail
      go_cut [5] from 7 to 77 (fun s5 wc => ∃ (B : Option Addr) (m d : Nat), s5 = .slice B m d ∧ Hid (Sc w0 wc A k c rows B m d (sucN blocks (labs x))))
      case first =>
        cases br with
        | false =>
          have HZ := Lib.hid (labs_no HBr.out)
          clear hcl
          go_wp2_with fail
          go_meet
          case rel => exact ⟨none, 0, 0, rfl, Lib.hid (by rw [HZ.out]; exact HS.out.1)⟩
        | true =>
          obtain ⟨mm, hmm⟩ := labs_yes HBr.out
          have hm : kn = mm + 1 := by omega
          obtain ⟨b2, o2, rfl, -, z, hz3, hin, d4, d5, d6, d7, d8, d9, d10, d11, d12, d13⟩ := HC.out.at (k := mm) (by omega)
          obtain ⟨op, ⟨dk, dc, dn, dt⟩, args, nm, off, labels, cs⟩ := z
          obtain ⟨⟨aa, an, ac, la, ln, lc, ca, cn, cc⟩, hR⟩ : ∃ q, Rk mm = q := ⟨_, rfl⟩
          rw [hR] at d9 d12 d13 hin
          dsimp only at d4 d5 d6 d7 d8 d9 d10 d11 d12 d13
          have e1 : (kn : Int) - 1 = (mm : Int) := by omega
          have e2 : IntKind.i64.wrap (mm : Int) = (mm : Int) := by rw [IntKind.wrap_i64]; omega
          have e3 : (mm : Int) < (kn : Int) := by omega
          have e4 : mm < kn := by omega
          have HE := Lib.hid (show labs x = labels by rw [labs_last hmm hz3, ← endB_at hmm hz3, HBr.out, if_pos rfl])
          have hin0 : IsStrs w0 la ln labels := by
            have h1 := HX.out.2
            rw [HR.out] at h1
            obtain ⟨_, _, _, _, y, hy, h2, _⟩ := h1.code.at (k := mm) (by show mm < kn; omega)
            rw [hz3] at hy
            injection hy with hy
            rw [← hy] at h2
            dsimp only at h2
            rw [hR] at h2
            exact h2.labels
          have HN := Lib.hid hin0
          clear hin0
          clear hR hz3 hin hm hmm
          obtain ⟨w1, hw1⟩ : ∃ w1, wr.alloc (.cells #[.int .i64 0, .int .i64 0, .int .i64 0, .int .i64 0, .int .i64 0, .slice none 0 0, .string ⟨#[]⟩, .int .i64 0, .slice none 0 0, .slice none 0 0] 66) = w1 := ⟨_, rfl⟩
          have n1 := m_box wr _ 66 hw1
          obtain ⟨w2, hw2⟩ : ∃ w2, mset10 w1 wr.heap.size (.int .i64 op) (.int .i64 dk) (.int .i64 dc) (.int .i64 dn) (.int .i64 dt) (.slice aa an ac) (.string nm) (.int .i64 off) (.slice la ln lc) (.slice ca cn cc) = w2 := ⟨_, rfl⟩
          have b2' : Below wr.heap.size wr w2 := by rw [← hw2]; exact mset10_below n1.1 (Nat.le_refl _)
          have g2 : w2.heap[wr.heap.size]? = some (.cells #[.int .i64 op, .int .i64 dk, .int .i64 dc, .int .i64 dn, .int .i64 dt, .slice aa an ac, .string nm, .int .i64 off, .slice la ln lc, .slice ca cn cc] 66 (0, 0)) := by rw [← hw2]; exact mset10_heap n1.2
          have HW := Lib.hid (And.intro (HS.out.1.below b2') (frz_box (M := mv2 (.slice A k c) (.slice none 0 0)) g2 (fun h => by have := HS.out.1.lt _ h; omega)))
          obtain ⟨⟨f0, f1, f2, f3, f4, f5, f6, f7, f8, f9⟩, g0', g1', g2', g3', g4', g5', g6', g7', g8', g9'⟩ := mbox10 n1.2
          unfold mset10 at hw2
          clear n1 b2' g2 hcl
          go_wp2_with fail

          try rw [hw2]
          clear f0 f1 f2 f3 f4 f5 f6 f7 f8 f9 g0' g1' g2' g3' g4' g5' g6' g7' g8' g9' hw1 hw2 d4 d5 d6 d7 d8 d9 d10 d11 d12 d13 x0 x1 x2 x3 x4 d3
          have hln : ln ≤ 9223372036854775807 := HN.out.2.1
          go_loopg [5, 8] ln (fun gj q5 q8 wi => ∃ (j m d : Nat) (B : Option Addr), j + gj = ln ∧ q5 = .slice B m d ∧ q8 = .int .i64 (j : Int) ∧ Hid (Sc w0 wi A k c rows B m d (sucN blocks (labels.take j)) ∧ Frz (mv2 (.slice A k c) (.slice B m d)) wi (fun W => W.heap[wr.heap.size]? = some (.cells #[.int .i64 op, .int .i64 dk, .int .i64 dc, .int .i64 dn, .int .i64 dt, .slice aa an ac, .string nm, .int .i64 off, .slice la ln lc, .slice ca cn cc] 66 (0, 0)))))
          case atStart => exact ⟨0, 0, 0, none, by omega, rfl, rfl, Lib.hid HW.out⟩
          case round =>
            obtain ⟨j, m, d, B, hj, rfl, rfl, HJ⟩ := hrel
            obtain ⟨⟨i0, i1, i2, i3, i4, i5, i6, i7, i8, i9⟩, -⟩ := mbox10 HJ.out.2.here
            have hbx := kept_box HI.out.2.2 HJ.out.1.bel
            obtain ⟨⟨x0, x1, x2, x3, x4⟩, -⟩ := mbox5 hbx
            dsimp only at x0 x1 x2 x3 x4
            clear hbx
            by_cases hjl : j < ln
            · have t2 : (j : Int) < (ln : Int) := by omega
              obtain ⟨sb, so, rfl, -, u, hu, s0⟩ := (HN.out.below HJ.out.1.bel).at hjl
              have HU := Lib.hid hu
              clear hu
              have hfi := fndI_eq blocks u
              obtain ⟨z, hz⟩ : ∃ z, fndI blocks u = z := ⟨_, rfl⟩
              rw [hz] at hfi
              have HRF := Lib.hid (show Calls Try.prog 40 #[.agg #[.bool machine, .string name, .slice ra rn rc, .slice pa pn pc, .slice (some ⟨bb, oo, none⟩) bn bc], .string u] wr.drew (fun e w' => e = .returned (.int .i64 z) ∧ Below wr.drew.heap.size wr.drew w') from hz ▸ rfind_v ⟨machine, name, regs, params, blocks⟩ ⟨ra, rn, rc, pa, pn, pc, some ⟨bb, oo, none⟩, bn, bc, R⟩ u wr.drew (HI.out.1.below HJ.out.1.bel.drew))
              clear hz
              go_upto_region 12 with fail
              go_region_with (go_at_call 40; (refine HRF.out.mono ?_); rintro e w3 ⟨rfl, hb⟩; have H3 := Lib.hid (show Below wr.heap.size wr w3 from (Below.refl _ wr).drew.trans hb); clear hb)
              all_goals
                have HK := Lib.hid (And.intro (HJ.out.1.below H3.out) (HJ.out.2.keep (Mv.of H3.out)))
                have HT := Lib.hid (sucN_take (bs := blocks) HU.out)
                clear x0 x1 x2 x3 x4 s0 i0 i1 i2 i3 i4 i5 i6 i7 i8 i9
                rcases hfi with ⟨rfl, hfn⟩ | ⟨jj, rfl, hfn⟩
                · go_wp2_with fail
                  go_roundg (gk - 1)
                  case measure => omega
                  case rel => exact ⟨j + 1, m, d, B, by omega, rfl, by go_num, Lib.hid ⟨by rw [HT.out, hfn, addN_none]; exact HK.out.1, HK.out.2⟩⟩
                · have HFn := Lib.hid hfn
                  have t3 : (jj : Int) ≥ 0 := by omega
                  clear hfn
                  go_wp2_with fail
                  obtain ⟨bq, hbq⟩ : ∃ bq, decide ((jj : Int) ∈ nn (sucN blocks (labels.take j))) = bq := ⟨_, rfl⟩
                  have HBq := Lib.hid hbq
                  refine (hbq ▸ rin_v B m d (nn (sucN blocks (labels.take j))) (jj : Int) w3 HK.out.1.ints).mono ?_
                  rintro e w4 ⟨rfl, rfl⟩
                  clear hbq
                  cases bq with
                  | true =>
                    have hin := (nn_mem _ _).1 (of_decide_eq_true HBq.out)
                    go_wp2_with fail
                    go_roundg (gk - 1)
                    case measure => omega
                    case rel => exact ⟨j + 1, m, d, B, by omega, rfl, by go_num, Lib.hid ⟨by rw [HT.out, HFn.out, addN_in hin]; exact HK.out.1, HK.out.2⟩⟩
                  | false =>
                    have hout := Lib.hid (fun h => of_decide_eq_false HBq.out ((nn_mem (sucN blocks (labels.take j)) jj).2 h))
                    obtain ⟨wn, hwn⟩ : ∃ wn, w3.alloc (.cells #[.int .i64 (jj : Int)] 3) = wn := ⟨_, rfl⟩
                    have mb := m_box w3 _ 3 hwn
                    have HP := Lib.hid (And.intro (HK.out.1.below mb.1) (HK.out.2.keep (Mv.of mb.1)))
                    have Fn := Lib.hid mb.2
                    have hsz : w0.heap.size ≤ wn.heap.size := HP.out.1.bel.size
                    have hmm : m ≤ 2000000 := by
                      have h1 := HP.out.1.cl
                      have h2 := sucN_few blocks (labels.take j)
                      have h3 := HL.out.1
                      omega
                    clear mb
                    go_wp2_with (at_builtin; refine mapp1 (N := w0.heap.size) mInt rfl _ _ rfl ((nn_len _).trans HP.out.1.cl) rfl HP.out.1.cur w3.heap.size (jj : Int) rfl Fn.out hmm hsz ?_)
                    intro g' c' wh ho hgr hat hlt2
                    have HF := Lib.hid (And.intro (HP.out.1.grow ho hgr hat) (HP.out.1.hot (c' := c') HP.out.2 hgr hat))
                    clear ho hgr hat hlt2
                    go_wp2_with fail
                    go_roundg (gk - 1)
                    case measure => omega
                    case rel => exact ⟨j + 1, m + 1, c', _, by omega, rfl, by go_num, Lib.hid ⟨by rw [HT.out, HFn.out, addN_new hout.out]; exact HF.out.1, HF.out.2⟩⟩
            · obtain rfl : j = ln := by omega
              have t2 : ¬ (j : Int) < (j : Int) := by omega
              go_wp2_with fail
              go_meet
              case rel => exact ⟨B, m, d, rfl, Lib.hid (by
                have h1 := HJ.out.1
                rw [List.take_of_length_le (Nat.le_of_eq HN.out.1)] at h1
                rw [HE.out]
                exact h1)⟩
      obtain ⟨B, m, d, rfl, HD⟩ := hcut
      obtain ⟨wn, hwn⟩ : ∃ wn, wc.alloc (.cells #[.slice B m d] 37) = wn := ⟨_, rfl⟩
      have nn := m_box wc _ 37 hwn
      have HN := Lib.hid (HD.out.below nn.1)
      have Fn := Lib.hid nn.2
      have hsz : w0.heap.size ≤ wn.heap.size := HN.out.bel.size
      clear nn x0 x1 x2 x3 x4 d3 hcl
      go_wp2_with (at_builtin; refine mapp1 (N := w0.heap.size) gIl rfl _ _ rfl HN.out.rl rfl HN.out.row wc.heap.size (⟨B, m, d, sucN blocks (labs x)⟩ : Il) rfl Fn.out (by omega) hsz ?_)
      intro g' c' wh ho hgr hat hlt2
      have HF := Lib.hid (HN.out.done ho hgr hat)
      clear ho hgr hat hlt2
      go_wp2_with fail
      go_roundg (gk - 1)
      case measure => omega
      case rel => exact ⟨k + 1, c', _, _, by omega, rfl, by go_num, Lib.hid ⟨HF.out, by
        rw [List.map_append, HS.out.2, List.take_add_one]
        unfold sucs
        rw [List.getElem?_map, HX.out.1]
        rfl⟩⟩
    · obtain rfl : k = bn := by omega
      have HB1 := Lib.hid (show blocks.length = k from HI.out.1.blocks.1)
      have t1 : ¬ (k : Int) < (k : Int) := by omega
      go_wp2_with fail
      go_ret
      refine ⟨⟨A, k, ⟨c, rfl⟩, ?_⟩, HI.out.2.1.trans (HS.out.1.bel.mono HI.out.2.1.size)⟩
      have h1 := OwnL.gr HS.out.1.row HS.out.1.fz.here
      rw [HS.out.1.rl, HS.out.2, List.take_of_length_le (by rw [sucs_len]; exact Nat.le_of_eq HB1.out)] at h1
      exact h1
end Go.Proofs.Ytojfbcfbnadboaa.Gra
