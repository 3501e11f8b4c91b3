
/- The program's graph is made. -/
import Derived.Test.YtojfbcfbnadboaaGraGm
import Derived.Test.YtojfbcfbnadboaaGraLab
import Derived.Test.YtojfbcfbnadboaaGraRefS
import Derived.Test.YtojfbcfbnadboaaGraZ
import Derived.Test.YtojfbcfbnadboaaMakZ
import Derived.Deep.CutRange
import Derived.Deep.Upon
namespace Go.Proofs.Ytojfbcfbnadboaa.Gra
open Go.ChangeShapes Go.WideShapes Go.RowKit Par
set_option linter.unusedVariables false
set_option maxRecDepth 20000
set_option maxHeartbeats 4000000

theorem kept_grown {W W' : World} {p : Nat} {o : Obj} {row : Option Nat} (h : W.heap[p]? = some o) (hg : W.grownBy W' none) : W'.heap[p]? = some o := (hg.block p (Array.getElem?_eq_some_iff.1 h).1 (by simp)).trans h
theorem grown_below {W W' : World} (h : W.grownBy W' none) : Below W.heap.size W W' := ⟨h.os, h.tape, h.output, h.size, fun k hk => h.block k hk (by simp)⟩
/-- Whatever was made first: the graph has no step yet. -/
theorem Gm.start {w0 wd wa wb wp : World} {n gA gB : Nat} (h0 : Below w0.heap.size w0 wd) (h1 : Below wd.heap.size wd wa) (h2 : Below wa.heap.size wa wb) (h3 : Below wb.heap.size wb wp)
    (hA : RC wb gA n (fun _ => ⟨none, 0, 0, []⟩)) (hB : RC wb gB n (fun _ => ⟨none, 0, 0, []⟩)) (la : wd.heap.size ≤ gA) (lb : wd.heap.size ≤ gB) (hab : gA ≠ gB)
    (hp : wp.heap[wb.heap.size]? = some (.cells #[.slice (some ⟨gA, 0, none⟩) n n, .slice (some ⟨gB, 0, none⟩) n n] 69 (0, 0))) : Gm w0 wp wb.heap.size gA gB n (fun _ => ⟨none, 0, 0, []⟩) := by
  have s0 := h0.size
  have s1 := h1.size
  have s2 := h2.size
  have ga := hA.lt
  have gb := hB.lt
  have hlt := (Array.getElem?_eq_some_iff.1 hp).1
  have b := ((h0.trans (h1.mono h0.size)).trans (h2.mono (by omega))).trans (h3.mono (by omega))
  exact ⟨b, hp, hA.below h3, hB.below h3, Fam.start (by
    intro h hh
    rcases List.mem_cons.1 hh with rfl | hh
    · exact hlt
    · rcases List.mem_cons.1 hh with rfl | hh
      · omega
      · rw [List.mem_singleton] at hh; omega), by omega, by omega, by omega, hab, by omega, by omega⟩
theorem Gm.from {w w0 W : World} {p gA gB n : Nat} {v : Nat → Il} (h : Gm w0 W p gA gB n v) (hb : Below w.heap.size w w0) : Gm w W p gA gB n v := by
  have hs := hb.size
  exact ⟨hb.trans (h.bel.mono hs), h.box, h.a, h.b, ⟨fun k hk => (h.f.own k hk).less hs, h.f.len, h.f.hd, h.f.far, h.f.ap⟩, Nat.le_trans hs h.lp, Nat.le_trans hs h.la, Nat.le_trans hs h.lb, h.ab, h.pa, h.pb⟩
theorem new_v (f : Fun) (v : FunV) (w : World) (hI : IsFun w f v) (hbn : f.blocks.length ≤ 300) :
    Calls Try.prog 9 #[.agg (funR f v)] w fun e w' => (∃ p gA gB u, e = .returned (.pointer (some ⟨p, 0, none⟩)) ∧ Gm w w' p gA gB f.blocks.length u ∧ (∀ k, k < f.blocks.length → (u k).l = nx (sucs f.blocks) k) ∧ ∀ t, t < f.blocks.length → (u (f.blocks.length + t)).l = preds (sucs f.blocks) t) ∧ Below w.heap.size w w' := by
  obtain ⟨w1, hw1⟩ : ∃ w1, w.alloc (.cells (funR f v) 26) = w1 := ⟨_, rfl⟩
  have nb := m_box w _ 26 hw1
  have HI := Lib.hid (And.intro (hI.below nb.1) nb)
  obtain ⟨machine, name, regs, params, blocks⟩ := f
  obtain ⟨ra, rn, rc, pa, pn, pc, ba, bn, bc, R⟩ := v
  have hlen : bn ≤ 9223372036854775807 := hI.blocks.2.1
  have hbl : blocks.length = bn := hI.blocks.1
  dsimp only at hbn ⊢
  rw [hbl] at hbn ⊢
  have HL := Lib.hid hbl
  have hbox : w1.heap[w.heap.size]? = some (.cells #[.bool machine, .string name, .slice ra rn rc, .slice pa pn pc, .slice ba bn bc] 26 (0, 0)) := nb.2
  obtain ⟨⟨x0, x1, x2, x3, x4⟩, -⟩ := mbox5 hbox
  obtain ⟨i0, hi0, hz0, hz1, hz2⟩ := info_parts ilInfo
  have I0 := Lib.hid (And.intro hi0 (And.intro hz0 (And.intro hz1 hz2)))
  have HX := Lib.hid hbox
  unfold funR at hw1 ⊢
  dsimp only at hw1 ⊢
  clear nb hI hbl hi0 hz0 hz1 hz2 hbox
  go_enter Try.func9, Try.ntmps9
  go_upto_region 1 with fail
  try rw [hw1]
  clear hw1
  go_cut [3] from 8 to 17 (fun s3 wc => ∃ p gA gB, s3 = .pointer (some ⟨p, 0, none⟩) ∧ Hid (Gm w1 wc p gA gB bn (fun _ => ⟨none, 0, 0, []⟩)))
  case first =>
      clear x0 x1 x2 x3 x4
      refine region_z 1000 (fun W => W.heap[w.heap.size]? = some (.cells #[.bool machine, .string name, .slice ra rn rc, .slice pa pn pc, .slice ba bn bc] 26 (0, 0))) (by kernel_rfl) ?_
      obtain ⟨wd, hwd⟩ : ∃ wd, w1.drew = wd := ⟨_, rfl⟩
      have HD := Lib.hid (show Below w1.heap.size w1 wd ∧ wd.heap[w.heap.size]? = some (.cells #[.bool machine, .string name, .slice ra rn rc, .slice pa pn pc, .slice ba bn bc] 26 (0, 0)) from hwd ▸ ⟨(Below.refl _ w1).drew, HX.out⟩)
      have HS := Lib.hid HD.out.2
      rw [hwd]
      clear hwd
      refine anyS_take (i := 0) (v := _) rfl (by kernel_rfl) (fun _ _ _ h => h) (Or.inl ⟨by rfl, by intro W hSw; obtain ⟨x0, x1, x2, x3, x4⟩ := (mbox5 hSw).1; go_simp; try with_reducible rfl⟩) HS.out ?_
      try simp only [Act.put, List.getElem_toArray, List.getElem_cons_zero, List.getElem_cons_succ, List.setIfInBounds_toArray, List.set_cons_zero, List.set_cons_succ]
      refine anyS_take (i := 1) (v := _) rfl (by kernel_rfl) (fun _ _ _ h => h) (Or.inl ⟨by rfl, by intro W hSw; obtain ⟨x0, x1, x2, x3, x4⟩ := (mbox5 hSw).1; go_simp; try with_reducible rfl⟩) HS.out ?_
      try simp only [Act.put, List.getElem_toArray, List.getElem_cons_zero, List.getElem_cons_succ, List.setIfInBounds_toArray, List.set_cons_zero, List.set_cons_succ]
      refine anyS_take (i := 2) (v := _) rfl (by kernel_rfl) (fun _ _ _ h => h) (Or.inl ⟨by rfl, by intro W hSw; obtain ⟨x0, x1, x2, x3, x4⟩ := (mbox5 hSw).1; go_simp; try with_reducible rfl⟩) HS.out ?_
      try simp only [Act.put, List.getElem_toArray, List.getElem_cons_zero, List.getElem_cons_succ, List.setIfInBounds_toArray, List.set_cons_zero, List.set_cons_succ]
      refine anyS_take (i := 4) (v := _) rfl (by kernel_rfl) (fun _ _ _ h => h) (Or.inl ⟨by rfl, by intro W hSw; obtain ⟨x0, x1, x2, x3, x4⟩ := (mbox5 hSw).1; go_simp; try with_reducible rfl⟩) HS.out ?_
      try simp only [Act.put, List.getElem_toArray, List.getElem_cons_zero, List.getElem_cons_succ, List.setIfInBounds_toArray, List.set_cons_zero, List.set_cons_succ]
      refine anyS_take (i := 5) (v := _) rfl (by kernel_rfl) (fun _ _ _ h => h) (Or.inl ⟨by rfl, by intro W hSw; obtain ⟨x0, x1, x2, x3, x4⟩ := (mbox5 hSw).1; go_simp; try with_reducible rfl⟩) HS.out ?_
      try simp only [Act.put, List.getElem_toArray, List.getElem_cons_zero, List.getElem_cons_succ, List.setIfInBounds_toArray, List.set_cons_zero, List.set_cons_succ]
      refine anyS_take (i := 6) (v := _) rfl (by kernel_rfl) (fun _ _ _ h => h) (Or.inl ⟨by rfl, by intro W hSw; obtain ⟨x0, x1, x2, x3, x4⟩ := (mbox5 hSw).1; go_simp; try with_reducible rfl⟩) HS.out ?_
      try simp only [Act.put, List.getElem_toArray, List.getElem_cons_zero, List.getElem_cons_succ, List.setIfInBounds_toArray, List.set_cons_zero, List.set_cons_succ]
      refine anyZ_two (i := 3) (j := 7) (by kernel_rfl) ?_ ?_
      · refine ⟨_, rfl, fun K hK => ?_⟩
        rw [if_pos (by rfl)]
        refine make_wp wd _ _ 31 rfl w1.heap.size 37 i0 (.slice none 0 0) 1 Try.underlying31 I0.out.1 I0.out.2.1 I0.out.2.2.1 _ _ _ _ bn rfl rfl rfl rfl (by rw [I0.out.2.2.2]; omega) (by unfold maxLen; omega) HD.out.1.size ?_
        intro wa howa hga
        have HA := Lib.hid (And.intro (rc_made (by rw [Nat.mul_one] at howa; exact howa)) (And.intro hga (howa.lt wd.heap.size rfl)))
        clear howa hga
        try simp only [Act.put]
        refine hK.out _ _ (fun _ => kept_grown (row := none) HD.out.2 HA.out.2.1) ?_
        clear hK K
        try simp only [Act.put, List.getElem_toArray, List.getElem_cons_zero, List.getElem_cons_succ, List.setIfInBounds_toArray, List.set_cons_zero, List.set_cons_succ]
        refine anyZ_one (i := 7) (by kernel_rfl) rfl (fun K hK => ?_)
        rw [if_pos (by rfl)]
        refine make_wp wa _ _ 31 rfl w1.heap.size 37 i0 (.slice none 0 0) 1 Try.underlying31 I0.out.1 I0.out.2.1 I0.out.2.2.1 _ _ _ _ bn rfl rfl rfl rfl (by rw [I0.out.2.2.2]; omega) (by unfold maxLen; omega) (Nat.le_trans HD.out.1.size HA.out.2.1.size) ?_
        intro wb howb hgb
        have HB := Lib.hid (And.intro (rc_made (by rw [Nat.mul_one] at howb; exact howb)) (And.intro hgb (howb.lt wa.heap.size rfl)))
        clear howb hgb
        try simp only [Act.put]
        refine hK.out _ _ (fun _ => kept_grown (row := none) (kept_grown (row := none) HD.out.2 HA.out.2.1) HB.out.2.1) ?_
        clear hK K
        try simp only [Act.put, List.getElem_toArray, List.getElem_cons_zero, List.getElem_cons_succ, List.setIfInBounds_toArray, List.set_cons_zero, List.set_cons_succ]
        refine anyZ_one (i := 8) (by kernel_rfl) rfl (fun K hK => ?_)
        go_simp
        refine hK.out _ _ (fun _ => kept_grown (row := none) (kept_grown (row := none) HD.out.2 HA.out.2.1) HB.out.2.1) ?_
        clear hK K
        try simp only [Act.put, List.getElem_toArray, List.getElem_cons_zero, List.getElem_cons_succ, List.setIfInBounds_toArray, List.set_cons_zero, List.set_cons_succ]
        refine anyZ_one (i := 9) (by kernel_rfl) rfl (fun K hK => ?_)
        obtain ⟨wp, hwp⟩ : ∃ wp, wb.alloc (.cells #[.slice (some ⟨wd.heap.size, 0, none⟩) bn bn, .slice (some ⟨wa.heap.size, 0, none⟩) bn bn] 69) = wp := ⟨_, rfl⟩
        have mb := m_box wb _ 69 hwp
        have HP := Lib.hid mb
        clear mb
        go_simp
        try rw [hwp]
        clear hwp
        refine hK.out _ _ (fun _ => kept_box (kept_grown (row := none) (kept_grown (row := none) HD.out.2 HA.out.2.1) HB.out.2.1) HP.out.1) ?_
        clear hK K
        try simp only [Act.put, List.getElem_toArray, List.getElem_cons_zero, List.getElem_cons_succ, List.setIfInBounds_toArray, List.set_cons_zero, List.set_cons_succ]
        refine anyZ_one (i := 10) (by kernel_rfl) rfl (fun K hK => ?_)
        go_simp
        refine hK.out _ _ (fun _ => kept_box (kept_grown (row := none) (kept_grown (row := none) HD.out.2 HA.out.2.1) HB.out.2.1) HP.out.1) ?_
        clear hK K
        try simp only [Act.put, List.getElem_toArray, List.getElem_cons_zero, List.getElem_cons_succ, List.setIfInBounds_toArray, List.set_cons_zero, List.set_cons_succ]
        refine anyZ_done (by kernel_rfl) ?_ _
        go_wp2_with fail
        go_meet
        case rel => exact ⟨_, _, _, rfl, Lib.hid (Gm.start HD.out.1 (grown_below HA.out.2.1) (grown_below HB.out.2.1) HP.out.1 (HA.out.1.grown HB.out.2.1 (by simp)) (HB.out.1) (Nat.le_refl _) (HA.out.2.1.size) (by have := HA.out.2.2.2; omega) HP.out.2)⟩
      · refine ⟨_, rfl, fun K hK => ?_⟩
        rw [if_pos (by rfl)]
        refine make_wp wd _ _ 31 rfl w1.heap.size 37 i0 (.slice none 0 0) 1 Try.underlying31 I0.out.1 I0.out.2.1 I0.out.2.2.1 _ _ _ _ bn rfl rfl rfl rfl (by rw [I0.out.2.2.2]; omega) (by unfold maxLen; omega) HD.out.1.size ?_
        intro wa howa hga
        have HA := Lib.hid (And.intro (rc_made (by rw [Nat.mul_one] at howa; exact howa)) (And.intro hga (howa.lt wd.heap.size rfl)))
        clear howa hga
        try simp only [Act.put]
        refine hK.out _ _ (fun _ => kept_grown (row := none) HD.out.2 HA.out.2.1) ?_
        clear hK K
        try simp only [Act.put, List.getElem_toArray, List.getElem_cons_zero, List.getElem_cons_succ, List.setIfInBounds_toArray, List.set_cons_zero, List.set_cons_succ]
        refine anyZ_one (i := 3) (by kernel_rfl) rfl (fun K hK => ?_)
        rw [if_pos (by rfl)]
        refine make_wp wa _ _ 31 rfl w1.heap.size 37 i0 (.slice none 0 0) 1 Try.underlying31 I0.out.1 I0.out.2.1 I0.out.2.2.1 _ _ _ _ bn rfl rfl rfl rfl (by rw [I0.out.2.2.2]; omega) (by unfold maxLen; omega) (Nat.le_trans HD.out.1.size HA.out.2.1.size) ?_
        intro wb howb hgb
        have HB := Lib.hid (And.intro (rc_made (by rw [Nat.mul_one] at howb; exact howb)) (And.intro hgb (howb.lt wa.heap.size rfl)))
        clear howb hgb
        try simp only [Act.put]
        refine hK.out _ _ (fun _ => kept_grown (row := none) (kept_grown (row := none) HD.out.2 HA.out.2.1) HB.out.2.1) ?_
        clear hK K
        try simp only [Act.put, List.getElem_toArray, List.getElem_cons_zero, List.getElem_cons_succ, List.setIfInBounds_toArray, List.set_cons_zero, List.set_cons_succ]
        refine anyZ_one (i := 8) (by kernel_rfl) rfl (fun K hK => ?_)
        go_simp
        refine hK.out _ _ (fun _ => kept_grown (row := none) (kept_grown (row := none) HD.out.2 HA.out.2.1) HB.out.2.1) ?_
        clear hK K
        try simp only [Act.put, List.getElem_toArray, List.getElem_cons_zero, List.getElem_cons_succ, List.setIfInBounds_toArray, List.set_cons_zero, List.set_cons_succ]
        refine anyZ_one (i := 9) (by kernel_rfl) rfl (fun K hK => ?_)
        obtain ⟨wp, hwp⟩ : ∃ wp, wb.alloc (.cells #[.slice (some ⟨wa.heap.size, 0, none⟩) bn bn, .slice (some ⟨wd.heap.size, 0, none⟩) bn bn] 69) = wp := ⟨_, rfl⟩
        have mb := m_box wb _ 69 hwp
        have HP := Lib.hid mb
        clear mb
        go_simp
        try rw [hwp]
        clear hwp
        refine hK.out _ _ (fun _ => kept_box (kept_grown (row := none) (kept_grown (row := none) HD.out.2 HA.out.2.1) HB.out.2.1) HP.out.1) ?_
        clear hK K
        try simp only [Act.put, List.getElem_toArray, List.getElem_cons_zero, List.getElem_cons_succ, List.setIfInBounds_toArray, List.set_cons_zero, List.set_cons_succ]
        refine anyZ_one (i := 10) (by kernel_rfl) rfl (fun K hK => ?_)
        go_simp
        refine hK.out _ _ (fun _ => kept_box (kept_grown (row := none) (kept_grown (row := none) HD.out.2 HA.out.2.1) HB.out.2.1) HP.out.1) ?_
        clear hK K
        try simp only [Act.put, List.getElem_toArray, List.getElem_cons_zero, List.getElem_cons_succ, List.setIfInBounds_toArray, List.set_cons_zero, List.set_cons_succ]
        refine anyZ_done (by kernel_rfl) ?_ _
        go_wp2_with fail
        go_meet
        case rel => exact ⟨_, _, _, rfl, Lib.hid (Gm.start HD.out.1 (grown_below HA.out.2.1) (grown_below HB.out.2.1) HP.out.1 (HB.out.1) (HA.out.1.grown HB.out.2.1 (by simp)) (HA.out.2.1.size) (Nat.le_refl _) (by have := HA.out.2.2.2; omega) HP.out.2)⟩
  obtain ⟨p, gA, gB, rfl, HG⟩ := hcut
  have hbx := kept_box HX.out HG.out.bel
  obtain ⟨⟨x0, x1, x2, x3, x4⟩, -⟩ := mbox5 hbx
  clear hbx
  have HC := Lib.hid HG.out.bel
  go_wp2_with fail
  clear x0 x1 x2 x3 x4
  go_loopg [21] bn (fun gk q wr => ∃ (k : Nat) (u : Nat → Il), k + gk = bn ∧ q = .int .i64 (k : Int) ∧ Hid (Gm w1 wr p gA gB bn u ∧ JI bn k (fun k => (u k).l) (fun t => (u (bn + t)).l) ∧ (k < bn → (u k).l = []) ∧ ∀ t, t < k → (u t).l = nx (sucs blocks) t))
  case atStart => exact ⟨0, _, by omega, rfl, Lib.hid ⟨HG.out, JI.start (fun _ _ => rfl) (fun _ _ => rfl), fun _ => rfl, fun t ht => by omega⟩⟩
  case round =>
    obtain ⟨k, u, hk, rfl, HK⟩ := hrel
    by_cases hlt : k < bn
    · obtain ⟨b, o, rfl, hb, x, hx, hbk, d0, d1, d2, d3⟩ := (HI.out.1.blocks.below HK.out.1.bel).at hlt
      have t1 : (k : Int) < (bn : Int) := by omega
      have HXx := Lib.hid hx
      have hb1 : IsBlk w1 x (R k) := by
        obtain ⟨_, _, _, _, y, hy, h2, _⟩ := (show IsBlks w1 _ bn R blocks from HI.out.1.blocks).at hlt
        rw [hx] at hy
        injection hy with hy
        rw [hy]
        exact h2
      obtain ⟨lab, edge, ins, code⟩ := x
      obtain ⟨⟨ia, il, ic, ka, kn, kc, Rk⟩, hRk⟩ : ∃ r, R k = r := ⟨_, rfl⟩
      have hbk : IsBlk wr ⟨lab, edge, ins, code⟩ ⟨ia, il, ic, ka, kn, kc, Rk⟩ := by rw [← hRk]; exact hbk
      rw [hRk] at hb1
      have HBk := Lib.hid hb1
      clear hb1
      dsimp only at d2 d3
      rw [hRk] at d2 d3
      dsimp only at d0 d1 d2 d3
      obtain ⟨w2, hw2⟩ : ∃ w2, wr.alloc (.cells #[.string ⟨#[]⟩, .bool false, .slice none 0 0, .slice none 0 0] 61) = w2 := ⟨_, rfl⟩
      have n1 := m_box wr _ 61 hw2
      obtain ⟨w3, hw3⟩ : ∃ w3, mset4 w2 wr.heap.size (.string lab) (.bool edge) (.slice ia il ic) (.slice ka kn kc) = w3 := ⟨_, rfl⟩
      have b2 : Below wr.heap.size wr w3 := by rw [← hw3]; exact mset4_below n1.1 (Nat.le_refl _)
      have h2 : w3.heap[wr.heap.size]? = some (.cells #[.string lab, .bool edge, .slice ia il ic, .slice ka kn kc] 61 (0, 0)) := by rw [← hw3]; exact mset4_heap n1.2
      have HB := Lib.hid (And.intro (HK.out.1.below b2) (hbk.below b2))
      have HC := Lib.hid (labels_v ⟨lab, edge, ins, code⟩ ⟨ia, il, ic, ka, kn, kc, Rk⟩ w3 HB.out.2)
      obtain ⟨⟨e0, e1, e2, e3⟩, f0, f1, f2, f3⟩ := mbox4 n1.2
      obtain ⟨⟨g0, g1, g2, g3⟩, _⟩ := mbox4 h2
      unfold mset4 at hw3
      unfold blkR at HC
      dsimp only at HC
      clear hx hRk n1 b2 h2 hbk
      go_wp2_with fail
      try rw [hw3]
      clear d0 d1 d2 d3 e0 e1 e2 e3 f0 f1 f2 f3 hw2 hw3
      refine HC.out.mono ?_
      rintro e w4 ⟨⟨la, ln, lc, rfl, hls0⟩, hb4⟩
      have hls : IsStrs w1 la ln (labs (⟨lab, edge, ins, code⟩ : Blk)) := hls0 w1 HBk.out
      clear g0 g1 g2 g3
      have hln : ln ≤ 9223372036854775807 := hls.2.1
      have HLs := Lib.hid (And.intro hls (And.intro (HB.out.1.below hb4) (show (labs (⟨lab, edge, ins, code⟩ : Blk)).length = ln from hls.1)))
      obtain ⟨ll, hll⟩ : ∃ ll, labs (⟨lab, edge, ins, code⟩ : Blk) = ll := ⟨_, rfl⟩
      rw [hll] at HLs
      have HLL := Lib.hid (show nx (sucs blocks) k = sucN blocks ll by rw [sucs_at HXx.out, hll])
      clear hls hls0 hb4 hll
      go_wp2_with fail
      go_loopg [29] ln (fun gk q wr2 => ∃ (j : Nat) (u : Nat → Il), j + gk = ln ∧ q = .int .i64 (j : Int) ∧ Hid (Gm w1 wr2 p gA gB bn u ∧ JI bn k (fun k => (u k).l) (fun t => (u (bn + t)).l) ∧ (u k).l = sucN blocks (ll.take j) ∧ ∀ t, t < k → (u t).l = nx (sucs blocks) t))
      case atStart => exact ⟨0, u, by omega, rfl, Lib.hid ⟨HLs.out.2.1, HK.out.2.1, by rw [HK.out.2.2.1 hlt]; rfl, HK.out.2.2.2⟩⟩
      case round =>
        obtain ⟨j, u2, hj, rfl, HJ⟩ := hrel
        by_cases hjl : j < ln
        · obtain ⟨b5, o5, rfl, -, lu, hlu, s0⟩ := (HLs.out.1.below HJ.out.1.bel).at hjl
          have t2 : (j : Int) < (ln : Int) := by omega
          have hbx := kept_box HX.out HJ.out.1.bel
          obtain ⟨⟨x0, x1, x2, x3, x4⟩, -⟩ := mbox5 hbx
          have HF := Lib.hid (find_v ⟨machine, name, regs, params, blocks⟩ ⟨ra, rn, rc, pa, pn, pc, some ⟨b, o, none⟩, bn, bc, R⟩ lu wr (HI.out.1.below HJ.out.1.bel))
          have HT := Lib.hid (sucN_take (bs := blocks) hlu)
          have hfi := fndI_eq blocks lu
          unfold funR at HF
          dsimp only at HF
          obtain ⟨z, hz⟩ : ∃ z, fndI blocks lu = z := ⟨_, rfl⟩
          rw [hz] at HF hfi
          have HFi := Lib.hid hfi
          clear hz hfi hlu hbx
          go_wp2_with fail
          clear x0 x1 x2 x3 x4 s0
          refine HF.out.mono ?_
          rintro e w5 ⟨rfl, hb5⟩
          have HG5 := Lib.hid (HJ.out.1.below hb5)
          clear hb5
          rcases HFi.out with ⟨rfl, hfn⟩ | ⟨jj, rfl, hfn⟩
          · have HFn := Lib.hid hfn
            clear hfn
            go_wp2_with fail
            refine (join_out w5 p k (-1) (by omega)).mono ?_
            rintro e w6 ⟨rfl, rfl⟩
            go_wp2_with fail
            go_roundg (gk - 1)
            case measure => omega
            case rel => exact ⟨j + 1, u2, by omega, by go_num, Lib.hid ⟨HG5.out, HJ.out.2.1, by rw [HT.out, HFn.out, addN_none]; exact HJ.out.2.2.1, HJ.out.2.2.2⟩⟩
          · have HFn := Lib.hid hfn
            have hjn : jj < bn := by rw [← HL.out]; exact fnd_lt hfn
            clear hfn
            by_cases hin : jj ∈ (u2 k).l
            · have HC5 := Lib.hid (join_in w1 w5 p gA gB bn k jj u2 HG5.out hlt hin)
              have HE := Lib.hid (show sucN blocks (ll.take (j + 1)) = sucN blocks (ll.take j) by rw [HT.out, HFn.out, addN_in (by rw [← HJ.out.2.2.1]; exact hin)])
              clear hin
              go_wp2_with fail
              refine HC5.out.mono ?_
              rintro e w6 ⟨rfl, rfl⟩
              go_wp2_with fail
              go_roundg (gk - 1)
              case measure => omega
              case rel => exact ⟨j + 1, u2, by omega, by go_num, Lib.hid ⟨HG5.out, HJ.out.2.1, by rw [HE.out]; exact HJ.out.2.2.1, HJ.out.2.2.2⟩⟩
            · have hm1 : (u2 k).l.length ≤ 1000 := by
                rw [HJ.out.2.2.1]
                have := sucN_few blocks (ll.take j)
                have := HL.out
                omega
              have hm2 : (u2 (bn + jj)).l.length ≤ 1000 := by
                have h1 := HJ.out.2.1.pr jj hjn
                try dsimp only at h1
                rw [h1]
                have := List.length_filter_le (fun k => decide (jj ∈ (u2 k).l)) (List.range bn)
                rw [List.length_range] at this
                omega
              have HC5 := Lib.hid (join_new w1 w5 p gA gB bn k jj u2 HG5.out hlt hjn hin hm1 hm2)
              have HE := Lib.hid (show sucN blocks (ll.take (j + 1)) = sucN blocks (ll.take j) ++ [jj] by rw [HT.out, HFn.out, addN_new (by rw [← HJ.out.2.2.1]; exact hin)])
              have HN := Lib.hid hin
              clear hin hm1 hm2
              go_wp2_with fail
              refine HC5.out.mono ?_
              rintro e w6 ⟨rfl, u3, hg3, hu3⟩
              have H3 := Lib.hid (And.intro hg3 hu3)
              clear hg3 hu3
              go_wp2_with fail
              go_roundg (gk - 1)
              case measure => omega
              case rel => exact ⟨j + 1, u3, by omega, by go_num, Lib.hid ⟨H3.out.1, HJ.out.2.1.add hlt HN.out hjn (fun q hq => by
                show (u3 q).l = _
                rw [H3.out.2 q]
                by_cases e1 : q = k
                · rw [if_pos e1, if_pos e1]
                · rw [if_neg e1, if_neg e1, if_neg (by omega)]) (fun q hq => by
                show (u3 (bn + q)).l = _
                rw [H3.out.2 (bn + q), if_neg (by omega)]
                by_cases e1 : q = jj
                · rw [if_pos (by omega), if_pos e1]
                · rw [if_neg (by omega), if_neg e1]), by rw [HE.out, H3.out.2 k, if_pos rfl, HJ.out.2.2.1], fun q hq => by rw [H3.out.2 q, if_neg (by omega), if_neg (by omega)]; exact HJ.out.2.2.2 q hq⟩⟩
        · obtain rfl : j = ln := by omega
          have t2 : ¬ (j : Int) < (j : Int) := by omega
          have HE := Lib.hid (show (u2 k).l = nx (sucs blocks) k by
            rw [HLL.out]
            have h1 := HJ.out.2.2.1
            rw [List.take_of_length_le (Nat.le_of_eq HLs.out.2.2)] at h1
            exact h1)
          go_wp2_with fail
          go_roundg (bn - k - 1)
          case measure => omega
          case rel => exact ⟨k + 1, u2, by omega, by go_num, Lib.hid ⟨HJ.out.1, HJ.out.2.1.next, fun h => HJ.out.2.1.hi (k + 1) (by omega) h, fun q hq => by
            by_cases e : q = k
            · rw [e]; exact HE.out
            · exact HJ.out.2.2.2 q (by omega)⟩⟩
    · obtain rfl : k = bn := by omega
      have t1 : ¬ (k : Int) < (k : Int) := by omega
      go_wp2_with fail
      go_ret
      exact ⟨⟨p, rfl, gA, gB, u, HK.out.1.from HI.out.2.1, HK.out.2.2.2, fun t ht => by
        have h1 := HK.out.2.1.pr t ht
        try dsimp only at h1
        rw [h1]
        unfold preds
        rw [sucs_len, HL.out]
        exact List.filter_congr fun q hq => by rw [HK.out.2.2.2 q (List.mem_range.1 hq)]⟩, HI.out.2.1.trans (HK.out.1.bel.mono HI.out.2.1.size)⟩
end Go.Proofs.Ytojfbcfbnadboaa.Gra
