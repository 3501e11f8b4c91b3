/- What the document's own answer for two sets together is. -/
import Derived.Test.YtgckoiepclgofaaDoorTwo
import Derived.Deep.RegionHeld3
namespace Go.Proofs.YtgckoiepclgofaaDoor
open Go.ChangeShapes Go.WideShapes Go.RowKit
set_option linter.unusedVariables false


set_option maxRecDepth 100000 in
set_option maxHeartbeats 4000000 in
theorem rtwo_2 (ga gb n m ca cb : Nat) (bs cs T : List Bool) (hn : bs.length = n) (hm : cs.length = m) (hT : two andB bs cs = T) (w : World) (ha : Bl w ga bs) (hb : Bl w gb cs) :
    Calls Tryd.prog 26 #[.int .i64 2, .agg #[.slice (some ⟨ga, 0, none⟩) n ca], .agg #[.slice (some ⟨gb, 0, none⟩) m cb]] w (RTwoP bs T n w) := by
  have hl : T.length = n := by rw [← hT, two_len, hn]
  have hn3 : n ≤ 300 := by rw [← hn]; exact ha.small
  have HQ := Lib.hid (And.intro hn (And.intro hm (And.intro hT (And.intro ha (And.intro hb hl)))))
  clear hn hm hT ha hb hl
  go_enter Tryd.func26, Tryd.ntmps26
  go_wp2_with fail
  refine (rnew_nat n hn3 _).mono ?_
  rintro e w1 ⟨g8, c8, rfl, hlo, hB8, hg1⟩
  have s1 : TwoL w (w1.alloc (.cells #[.slice (some ⟨g8, 0, none⟩) n c8] 29)) ga gb n m ca cb g8 w1.heap.size c8 T 0 := by
    have x0 := Boxed.new w 29 (.slice (some ⟨ga, 0, none⟩) n ca)
    have x1 := Boxed.new (w.alloc (.cells #[.slice (some ⟨ga, 0, none⟩) n ca] 29)) 29 (.slice (some ⟨gb, 0, none⟩) m cb)
    have x2 := Boxed.new ((w.alloc (.cells #[.slice (some ⟨ga, 0, none⟩) n ca] 29)).alloc (.cells #[.slice (some ⟨gb, 0, none⟩) m cb] 29)) 29 (.slice none 0 0)
    simp only [World.size_alloc] at x1 x2 hlo
    refine ⟨(((x0.alloc _).alloc _).kept hg1 (by simp)).alloc _, ((x1.alloc _).kept hg1 (by simp)).alloc _, (x2.kept hg1 (by simp)).alloc _, Boxed.new _ _ _, hlo, ?_, gtrans (gtrans (gtrans (galloc _ _ _) (gtrans (galloc _ _ _) (galloc _ _ _))) hg1) (galloc _ _ _)⟩
    rw [pre_zero HQ.out.2.2.2.2.2]; exact hB8.grow (galloc _ _ _)
  have H1 := Lib.hid s1
  clear s1 hlo hB8 hg1
  go_wp2_with fail
  obtain ⟨b8, hb8⟩ : ∃ b8, w1.heap.size = b8 := ⟨_, rfl⟩
  rw [hb8] at H1 ⊢
  go_loopg [9, 10] n (fun gk v u wr => ∃ k : Nat, k + gk = n ∧ u = .int .i64 (k : Int) ∧ v = .bool (differ T bs k) ∧ Hid (TwoL w wr ga gb n m ca cb g8 b8 c8 T k))
  case atStart => exact ⟨0, by omega, rfl, by rw [differ_zero], H1.out⟩
  case round =>
    obtain ⟨k, hk, rfl, rfl, HH⟩ := hrel
    have e0 := HH.out.b0.cell
    by_cases hlt : k < n
    · have e1 := HH.out.b1.cell
      obtain ⟨hn, hm, hT, ha, hb, hl⟩ := HQ.out
      have e2 := (ha.grow HH.out.gr).cell k (by omega)
      obtain ⟨x, hx⟩ : ∃ x, has bs k = x := ⟨_, rfl⟩
      obtain ⟨y, hy⟩ : ∃ y, has cs k = y := ⟨_, rfl⟩
      obtain ⟨z, hz⟩ : ∃ z, has T k = z := ⟨_, rfl⟩
      have hzz : andB x y = z := by rw [← hz, ← hT, has_two, ← hx, ← hy]; simp; intro hh; omega
      have hyI : hasI cs (k : Int) = y := by unfold hasI; simp [hy]
      rw [hx] at e2
      have kn : (k : Int) < (n : Int) := by omega
      have k0 : (0 : Int) ≤ (k : Int) := by omega
      have hdf : differ T bs (k + 1) = (differ T bs k || (z != x)) := by rw [differ_succ, hz, hx]
      have HX := Lib.hid (And.intro hm (And.intro hb (And.intro hyI (And.intro hz (And.intro hl hdf)))))
      clear hn hm hT ha hb hl hx hy hz hyI hdf
      go_wp2_with fail
      go_region_held3 (fun W => W.cell? ⟨w.heap.size, 0, none⟩ = some (.slice (some ⟨ga, 0, none⟩) n ca) ∧ W.cell? ⟨w.heap.size + 1, 0, none⟩ = some (.slice (some ⟨gb, 0, none⟩) m cb) ∧ W.cell? ⟨ga, k, none⟩ = some (.bool x))
        (first | exact ⟨e0, e1, e2⟩ | exact S1.out.1)
        ((go_at_call 15; (refine (rhas_w (k : Int) gb m cb cs y HX.out.1 HX.out.2.2.1 _ (HX.out.2.1.grow (gtrans HH.out.gr (gdrew _ _)))).mono ?_); rintro e w2 ⟨rfl, hg2⟩;
          have S1 := Lib.hid (And.intro (And.intro ((HH.out.grow (gtrans (gdrew _ _) hg2)).b0.cell) (And.intro ((HH.out.grow (gtrans (gdrew _ _) hg2)).b1.cell) ((hg2.cell (w := wr.drew) (a := ⟨ga, k, none⟩) e2 (by simp))))) (HH.out.grow (gtrans (gdrew _ _) hg2))); clear hg2))
      obtain ⟨_, ho⟩ := S1.out
      have f0 := ho.b8.cell
      have f1 := ho.row.cell k (by rw [pre_len, HX.out.2.2.2.2.1]; exact hlt)
      have f2 := ho.row.free k
      have hp := ho.put (by rw [HX.out.2.2.2.2.1]; exact hlt) HX.out.2.2.2.1
      have f3 := hp.b8.cell
      have f4 := hp.row.cell k (by rw [pre_len, HX.out.2.2.2.2.1]; exact hlt)
      rw [has_pre, HX.out.2.2.2.1] at f4
      simp only [Nat.lt_add_one, decide_true, Bool.true_and] at f4
      obtain ⟨was, hwas⟩ : ∃ was, differ T bs k = was := ⟨_, rfl⟩
      have hnx := HX.out.2.2.2.2.2
      rw [hwas] at hnx ⊢
      have HP := Lib.hid (And.intro hp hnx)
      clear ho hp hnx hwas S1 HX HH e0 e1 e2
      cases x <;> cases y <;> simp [andB] at hzz <;> subst hzz <;> cases was
      all_goals go_wp2_with fail
      all_goals go_roundg (gk - 1)
      all_goals first | omega | (refine ⟨k + 1, by omega, by go_num, ?_, HP.out.1⟩; rw [HP.out.2]; rfl)
    · obtain rfl : k = n := by omega
      have hge : ¬ (k : Int) < (k : Int) := by omega
      have e8 := HH.out.b8.cell
      have e6 := HH.out.b2.cell
      have f6 := HH.out.b2.frozen
      have hr := (HH.out.b2.set (.slice (some ⟨g8, 0, none⟩) k c8)).cell
      go_wp2_with fail
      refine bodyPost_ret (v := .tuple #[.agg #[.slice (some ⟨g8, 0, none⟩) k c8], .bool (differ T bs k)]) (by simp [results, Tryd.f26, go_sem, hr]) rfl ?_
      obtain ⟨hn, hm, hT, ha, hb, hl⟩ := HQ.out
      have hd := differ_all (T := T) (bs := bs) (by omega)
      rw [hn] at hd
      refine ⟨g8, c8, by rw [hd], ?_, ?_, by have := HH.out.lo; omega⟩
      · have h1 := HH.out.row
        rw [pre_all hl] at h1
        exact h1.kept (gset _ _ _ _) (by have := HH.out.lo; simp; omega)
      · exact gnew HH.out.gr (gset _ _ _ _) (by omega)

set_option maxRecDepth 100000 in
set_option maxHeartbeats 4000000 in
theorem rtwo_3 (ga gb n m ca cb : Nat) (bs cs T : List Bool) (hn : bs.length = n) (hm : cs.length = m) (hT : two lessB bs cs = T) (w : World) (ha : Bl w ga bs) (hb : Bl w gb cs) :
    Calls Tryd.prog 26 #[.int .i64 3, .agg #[.slice (some ⟨ga, 0, none⟩) n ca], .agg #[.slice (some ⟨gb, 0, none⟩) m cb]] w (RTwoP bs T n w) := by
  have hl : T.length = n := by rw [← hT, two_len, hn]
  have hn3 : n ≤ 300 := by rw [← hn]; exact ha.small
  have HQ := Lib.hid (And.intro hn (And.intro hm (And.intro hT (And.intro ha (And.intro hb hl)))))
  clear hn hm hT ha hb hl
  go_enter Tryd.func26, Tryd.ntmps26
  go_wp2_with fail
  refine (rnew_nat n hn3 _).mono ?_
  rintro e w1 ⟨g8, c8, rfl, hlo, hB8, hg1⟩
  have s1 : TwoL w (w1.alloc (.cells #[.slice (some ⟨g8, 0, none⟩) n c8] 29)) ga gb n m ca cb g8 w1.heap.size c8 T 0 := by
    have x0 := Boxed.new w 29 (.slice (some ⟨ga, 0, none⟩) n ca)
    have x1 := Boxed.new (w.alloc (.cells #[.slice (some ⟨ga, 0, none⟩) n ca] 29)) 29 (.slice (some ⟨gb, 0, none⟩) m cb)
    have x2 := Boxed.new ((w.alloc (.cells #[.slice (some ⟨ga, 0, none⟩) n ca] 29)).alloc (.cells #[.slice (some ⟨gb, 0, none⟩) m cb] 29)) 29 (.slice none 0 0)
    simp only [World.size_alloc] at x1 x2 hlo
    refine ⟨(((x0.alloc _).alloc _).kept hg1 (by simp)).alloc _, ((x1.alloc _).kept hg1 (by simp)).alloc _, (x2.kept hg1 (by simp)).alloc _, Boxed.new _ _ _, hlo, ?_, gtrans (gtrans (gtrans (galloc _ _ _) (gtrans (galloc _ _ _) (galloc _ _ _))) hg1) (galloc _ _ _)⟩
    rw [pre_zero HQ.out.2.2.2.2.2]; exact hB8.grow (galloc _ _ _)
  have H1 := Lib.hid s1
  clear s1 hlo hB8 hg1
  go_wp2_with fail
  obtain ⟨b8, hb8⟩ : ∃ b8, w1.heap.size = b8 := ⟨_, rfl⟩
  rw [hb8] at H1 ⊢
  go_loopg [9, 10] n (fun gk v u wr => ∃ k : Nat, k + gk = n ∧ u = .int .i64 (k : Int) ∧ v = .bool (differ T bs k) ∧ Hid (TwoL w wr ga gb n m ca cb g8 b8 c8 T k))
  case atStart => exact ⟨0, by omega, rfl, by rw [differ_zero], H1.out⟩
  case round =>
    obtain ⟨k, hk, rfl, rfl, HH⟩ := hrel
    have e0 := HH.out.b0.cell
    by_cases hlt : k < n
    · have e1 := HH.out.b1.cell
      obtain ⟨hn, hm, hT, ha, hb, hl⟩ := HQ.out
      have e2 := (ha.grow HH.out.gr).cell k (by omega)
      obtain ⟨x, hx⟩ : ∃ x, has bs k = x := ⟨_, rfl⟩
      obtain ⟨y, hy⟩ : ∃ y, has cs k = y := ⟨_, rfl⟩
      obtain ⟨z, hz⟩ : ∃ z, has T k = z := ⟨_, rfl⟩
      have hzz : lessB x y = z := by rw [← hz, ← hT, has_two, ← hx, ← hy]; simp; intro hh; omega
      have hyI : hasI cs (k : Int) = y := by unfold hasI; simp [hy]
      rw [hx] at e2
      have kn : (k : Int) < (n : Int) := by omega
      have k0 : (0 : Int) ≤ (k : Int) := by omega
      have hdf : differ T bs (k + 1) = (differ T bs k || (z != x)) := by rw [differ_succ, hz, hx]
      have HX := Lib.hid (And.intro hm (And.intro hb (And.intro hyI (And.intro hz (And.intro hl hdf)))))
      clear hn hm hT ha hb hl hx hy hz hyI hdf
      go_wp2_with fail
      go_region_held3 (fun W => W.cell? ⟨w.heap.size, 0, none⟩ = some (.slice (some ⟨ga, 0, none⟩) n ca) ∧ W.cell? ⟨w.heap.size + 1, 0, none⟩ = some (.slice (some ⟨gb, 0, none⟩) m cb) ∧ W.cell? ⟨ga, k, none⟩ = some (.bool x))
        (first | exact ⟨e0, e1, e2⟩ | exact S1.out.1)
        ((go_at_call 15; (refine (rhas_w (k : Int) gb m cb cs y HX.out.1 HX.out.2.2.1 _ (HX.out.2.1.grow (gtrans HH.out.gr (gdrew _ _)))).mono ?_); rintro e w2 ⟨rfl, hg2⟩;
          have S1 := Lib.hid (And.intro (And.intro ((HH.out.grow (gtrans (gdrew _ _) hg2)).b0.cell) (And.intro ((HH.out.grow (gtrans (gdrew _ _) hg2)).b1.cell) ((hg2.cell (w := wr.drew) (a := ⟨ga, k, none⟩) e2 (by simp))))) (HH.out.grow (gtrans (gdrew _ _) hg2))); clear hg2))
      obtain ⟨_, ho⟩ := S1.out
      have f0 := ho.b8.cell
      have f1 := ho.row.cell k (by rw [pre_len, HX.out.2.2.2.2.1]; exact hlt)
      have f2 := ho.row.free k
      have hp := ho.put (by rw [HX.out.2.2.2.2.1]; exact hlt) HX.out.2.2.2.1
      have f3 := hp.b8.cell
      have f4 := hp.row.cell k (by rw [pre_len, HX.out.2.2.2.2.1]; exact hlt)
      rw [has_pre, HX.out.2.2.2.1] at f4
      simp only [Nat.lt_add_one, decide_true, Bool.true_and] at f4
      obtain ⟨was, hwas⟩ : ∃ was, differ T bs k = was := ⟨_, rfl⟩
      have hnx := HX.out.2.2.2.2.2
      rw [hwas] at hnx ⊢
      have HP := Lib.hid (And.intro hp hnx)
      clear ho hp hnx hwas S1 HX HH e0 e1 e2
      cases x <;> cases y <;> simp [lessB] at hzz <;> subst hzz <;> cases was
      all_goals go_wp2_with fail
      all_goals go_roundg (gk - 1)
      all_goals first | omega | (refine ⟨k + 1, by omega, by go_num, ?_, HP.out.1⟩; rw [HP.out.2]; rfl)
    · obtain rfl : k = n := by omega
      have hge : ¬ (k : Int) < (k : Int) := by omega
      have e8 := HH.out.b8.cell
      have e6 := HH.out.b2.cell
      have f6 := HH.out.b2.frozen
      have hr := (HH.out.b2.set (.slice (some ⟨g8, 0, none⟩) k c8)).cell
      go_wp2_with fail
      refine bodyPost_ret (v := .tuple #[.agg #[.slice (some ⟨g8, 0, none⟩) k c8], .bool (differ T bs k)]) (by simp [results, Tryd.f26, go_sem, hr]) rfl ?_
      obtain ⟨hn, hm, hT, ha, hb, hl⟩ := HQ.out
      have hd := differ_all (T := T) (bs := bs) (by omega)
      rw [hn] at hd
      refine ⟨g8, c8, by rw [hd], ?_, ?_, by have := HH.out.lo; omega⟩
      · have h1 := HH.out.row
        rw [pre_all hl] at h1
        exact h1.kept (gset _ _ _ _) (by have := HH.out.lo; simp; omega)
      · exact gnew HH.out.gr (gset _ _ _ _) (by omega)
end Go.Proofs.YtgckoiepclgofaaDoor
