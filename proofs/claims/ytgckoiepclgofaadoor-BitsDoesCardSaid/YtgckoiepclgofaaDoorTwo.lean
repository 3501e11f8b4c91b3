/- What the document's own answer for two sets together is. -/
import Derived.Test.YtgckoiepclgofaaDoorRefB
import Derived.Deep.RegionHeld3
namespace Go.Proofs.YtgckoiepclgofaaDoor
open Go.ChangeShapes Go.WideShapes Go.RowKit
set_option linter.unusedVariables false

/-- The first k of T, nothing behind them. -/
def pre (T : List Bool) (k : Nat) : List Bool := (List.range T.length).map fun j => decide (j < k) && has T j
theorem pre_len (T : List Bool) (k : Nat) : (pre T k).length = T.length := by simp [pre]
theorem has_pre (T : List Bool) (k j : Nat) : has (pre T k) j = (decide (j < k) && has T j) := by
  by_cases h : j < T.length
  · rw [has_get (by rw [pre_len]; exact h)]; simp [pre]
  · rw [has_past (by rw [pre_len]; omega), has_past (bs := T) (by omega)]; simp
theorem pre_zero {T : List Bool} {n : Nat} (h : T.length = n) : pre T 0 = List.replicate n false := by
  refine has_ext (by rw [pre_len, h]; simp) fun i hi => ?_
  rw [has_pre, has_none]; simp
theorem pre_all {T : List Bool} {n : Nat} (h : T.length = n) : pre T n = T := by
  refine has_ext (pre_len _ _) fun i hi => ?_
  rw [pre_len] at hi
  rw [has_pre]; simp; intro h1; omega
theorem pre_set {T : List Bool} {k : Nat} (h : k < T.length) : (pre T k).set k (has T k) = pre T (k + 1) := by
  refine has_ext (by rw [List.length_set, pre_len, pre_len]) fun i hi => ?_
  rw [List.length_set, pre_len] at hi
  rw [has_set _ _ _ (by rw [pre_len]; exact h), has_pre, has_pre]
  by_cases e : i = k
  · subst e; simp
  · rw [if_neg e]
    by_cases h1 : i < k
    · have h2 : i < k + 1 := by omega
      simp [h1, h2]
    · have h2 : ¬ i < k + 1 := by omega
      simp [h1, h2]
theorem Bl.put {w : World} {g : Nat} {bs : List Bool} (h : Bl w g bs) (k : Nat) (hk : k < bs.length) (b : Bool) : Bl (w.setCell ⟨g, k, none⟩ (.bool b)) g (bs.set k b) := by
  refine ⟨Nat.lt_of_lt_of_le h.lt (gset w g k (.bool b)).size, by rw [List.length_set]; exact h.small, fun q hq => ?_, fun q => by rw [World.frozen?_setCell]; exact h.free q⟩
  rw [List.length_set] at hq
  rw [has_set _ _ _ hk]
  by_cases e : q = k
  · subst e
    rw [if_pos rfl]
    exact World.cell?_setCell_same' _ _ _ (by rw [h.cell q hq]; rfl)
  · rw [if_neg e, World.cell?_setCell_other _ _ _ _ (by simp), h.cell q hq]
/-- What the document's Two hands back. -/
def RTwoP (bs T : List Bool) (n : Nat) (w : World) (e : Ending) (w' : World) : Prop :=
  ∃ g c, e = .returned (.tuple #[.agg #[.slice (some ⟨g, 0, none⟩) n c], .bool (T != bs)]) ∧ Bl w' g T ∧ w.grownBy w' none ∧ w.heap.size ≤ g
/-- What holds in the loop. -/
structure TwoL (w wr : World) (ga gb n m ca cb g8 b8 c8 : Nat) (T : List Bool) (k : Nat) : Prop where
  b0 : Boxed wr w.heap.size 29 (.slice (some ⟨ga, 0, none⟩) n ca)
  b1 : Boxed wr (w.heap.size + 1) 29 (.slice (some ⟨gb, 0, none⟩) m cb)
  b2 : Boxed wr (w.heap.size + 1 + 1) 29 (.slice none 0 0)
  b8 : Boxed wr b8 29 (.slice (some ⟨g8, 0, none⟩) n c8)
  lo : w.heap.size + 1 + 1 + 1 ≤ g8
  row : Bl wr g8 (pre T k)
  gr : w.grownBy wr none
theorem TwoL.ne {w wr : World} {ga gb n m ca cb g8 b8 c8 k : Nat} {T : List Bool} (h : TwoL w wr ga gb n m ca cb g8 b8 c8 T k) (hp : 0 < T.length) : b8 ≠ g8 := by
  intro e
  have h1 := h.row.cell 0 (by rw [pre_len]; exact hp)
  have h2 := h.b8.cell
  rw [e, h1] at h2; cases h2
theorem TwoL.grow {w wr w1 : World} {ga gb n m ca cb g8 b8 c8 k : Nat} {T : List Bool} (h : TwoL w wr ga gb n m ca cb g8 b8 c8 T k) (hg : wr.grownBy w1 none) : TwoL w w1 ga gb n m ca cb g8 b8 c8 T k :=
  ⟨h.b0.kept hg (by simp), h.b1.kept hg (by simp), h.b2.kept hg (by simp), h.b8.kept hg (by simp), h.lo, h.row.grow hg, gtrans h.gr hg⟩
theorem TwoL.put {w wr : World} {ga gb n m ca cb g8 b8 c8 k : Nat} {T : List Bool} {z : Bool} (h : TwoL w wr ga gb n m ca cb g8 b8 c8 T k) (hk : k < T.length) (hz : has T k = z) :
    TwoL w (wr.setCell ⟨g8, k, none⟩ (.bool z)) ga gb n m ca cb g8 b8 c8 T (k + 1) := by
  have hg := gset wr g8 k (.bool z)
  have hlo := h.lo
  have hne := h.ne (by omega)
  refine ⟨h.b0.kept hg (by simp; omega), h.b1.kept hg (by simp; omega), h.b2.kept hg (by simp; omega), h.b8.kept hg (by simpa using hne), h.lo, ?_, gnew h.gr hg (by omega)⟩
  have := h.row.put k (by rw [pre_len]; exact hk) z
  rw [← hz, pre_set hk] at this
  rw [← hz]; exact this
theorem rhas_w (i : Int) (g n c : Nat) (bs : List Bool) (y : Bool) (hn : bs.length = n) (hy : hasI bs i = y) (w : World) (h : Bl w g bs) :
    Calls Tryd.prog 15 #[.agg #[.slice (some ⟨g, 0, none⟩) n c], .int .i64 i] w fun e w' => e = .returned (.bool y) ∧ w.grownBy w' none := by
  rw [← hy]; exact rhas_v i g n c bs hn w h

set_option maxRecDepth 100000 in
set_option maxHeartbeats 4000000 in
theorem rtwo_1 (ga gb n m ca cb : Nat) (bs cs T : List Bool) (hn : bs.length = n) (hm : cs.length = m) (hT : two orB bs cs = T) (w : World) (ha : Bl w ga bs) (hb : Bl w gb cs) :
    Calls Tryd.prog 26 #[.int .i64 1, .agg #[.slice (some ⟨ga, 0, none⟩) n ca], .agg #[.slice (some ⟨gb, 0, none⟩) m cb]] w (RTwoP bs T n w) := by
  have hl : T.length = n := by rw [← hT, two_len, hn]
  have hn3 : n ≤ 300 := by rw [← hn]; exact ha.small
  have HQ := Lib.hid (And.intro hn (And.intro hm (And.intro hT (And.intro ha (And.intro hb hl)))))
  clear hn hm hT ha hb hl
  go_enter Tryd.func26, Tryd.ntmps26
  go_wp2_with fail
  refine (rnew_nat n hn3 _).mono ?_
  rintro e w1 ⟨g8, c8, rfl, hlo, hB8, hg1⟩
  have s1 : TwoL w (w1.alloc (.cells #[.slice (some ⟨g8, 0, none⟩) n c8] 29)) ga gb n m ca cb g8 w1.heap.size c8 T 0 := by
    have x0 := Boxed.new w 29 (.slice (some ⟨ga, 0, none⟩) n ca)
    have x1 := Boxed.new (w.alloc (.cells #[.slice (some ⟨ga, 0, none⟩) n ca] 29)) 29 (.slice (some ⟨gb, 0, none⟩) m cb)
    have x2 := Boxed.new ((w.alloc (.cells #[.slice (some ⟨ga, 0, none⟩) n ca] 29)).alloc (.cells #[.slice (some ⟨gb, 0, none⟩) m cb] 29)) 29 (.slice none 0 0)
    simp only [World.size_alloc] at x1 x2 hlo
    refine ⟨(((x0.alloc _).alloc _).kept hg1 (by simp)).alloc _, ((x1.alloc _).kept hg1 (by simp)).alloc _, (x2.kept hg1 (by simp)).alloc _, Boxed.new _ _ _, hlo, ?_, gtrans (gtrans (gtrans (galloc _ _ _) (gtrans (galloc _ _ _) (galloc _ _ _))) hg1) (galloc _ _ _)⟩
    rw [pre_zero HQ.out.2.2.2.2.2]; exact hB8.grow (galloc _ _ _)
  have H1 := Lib.hid s1
  clear s1 hlo hB8 hg1
  go_wp2_with fail
  obtain ⟨b8, hb8⟩ : ∃ b8, w1.heap.size = b8 := ⟨_, rfl⟩
  rw [hb8] at H1 ⊢
  go_loopg [9, 10] n (fun gk v u wr => ∃ k : Nat, k + gk = n ∧ u = .int .i64 (k : Int) ∧ v = .bool (differ T bs k) ∧ Hid (TwoL w wr ga gb n m ca cb g8 b8 c8 T k))
  case atStart => exact ⟨0, by omega, rfl, by rw [differ_zero], H1.out⟩
  case round =>
    obtain ⟨k, hk, rfl, rfl, HH⟩ := hrel
    have e0 := HH.out.b0.cell
    by_cases hlt : k < n
    · have e1 := HH.out.b1.cell
      obtain ⟨hn, hm, hT, ha, hb, hl⟩ := HQ.out
      have e2 := (ha.grow HH.out.gr).cell k (by omega)
      obtain ⟨x, hx⟩ : ∃ x, has bs k = x := ⟨_, rfl⟩
      obtain ⟨y, hy⟩ : ∃ y, has cs k = y := ⟨_, rfl⟩
      obtain ⟨z, hz⟩ : ∃ z, has T k = z := ⟨_, rfl⟩
      have hzz : orB x y = z := by rw [← hz, ← hT, has_two, ← hx, ← hy]; simp; intro hh; omega
      have hyI : hasI cs (k : Int) = y := by unfold hasI; simp [hy]
      rw [hx] at e2
      have kn : (k : Int) < (n : Int) := by omega
      have k0 : (0 : Int) ≤ (k : Int) := by omega
      have hdf : differ T bs (k + 1) = (differ T bs k || (z != x)) := by rw [differ_succ, hz, hx]
      have HX := Lib.hid (And.intro hm (And.intro hb (And.intro hyI (And.intro hz (And.intro hl hdf)))))
      clear hn hm hT ha hb hl hx hy hz hyI hdf
      go_wp2_with fail
      go_region_held3 (fun W => W.cell? ⟨w.heap.size, 0, none⟩ = some (.slice (some ⟨ga, 0, none⟩) n ca) ∧ W.cell? ⟨w.heap.size + 1, 0, none⟩ = some (.slice (some ⟨gb, 0, none⟩) m cb) ∧ W.cell? ⟨ga, k, none⟩ = some (.bool x))
        (first | exact ⟨e0, e1, e2⟩ | exact S1.out.1)
        ((go_at_call 15; (refine (rhas_w (k : Int) gb m cb cs y HX.out.1 HX.out.2.2.1 _ (HX.out.2.1.grow (gtrans HH.out.gr (gdrew _ _)))).mono ?_); rintro e w2 ⟨rfl, hg2⟩;
          have S1 := Lib.hid (And.intro (And.intro ((HH.out.grow (gtrans (gdrew _ _) hg2)).b0.cell) (And.intro ((HH.out.grow (gtrans (gdrew _ _) hg2)).b1.cell) ((hg2.cell (w := wr.drew) (a := ⟨ga, k, none⟩) e2 (by simp))))) (HH.out.grow (gtrans (gdrew _ _) hg2))); clear hg2))
      obtain ⟨_, ho⟩ := S1.out
      have f0 := ho.b8.cell
      have f1 := ho.row.cell k (by rw [pre_len, HX.out.2.2.2.2.1]; exact hlt)
      have f2 := ho.row.free k
      have hp := ho.put (by rw [HX.out.2.2.2.2.1]; exact hlt) HX.out.2.2.2.1
      have f3 := hp.b8.cell
      have f4 := hp.row.cell k (by rw [pre_len, HX.out.2.2.2.2.1]; exact hlt)
      rw [has_pre, HX.out.2.2.2.1] at f4
      simp only [Nat.lt_add_one, decide_true, Bool.true_and] at f4
      obtain ⟨was, hwas⟩ : ∃ was, differ T bs k = was := ⟨_, rfl⟩
      have hnx := HX.out.2.2.2.2.2
      rw [hwas] at hnx ⊢
      have HP := Lib.hid (And.intro hp hnx)
      clear ho hp hnx hwas S1 HX HH e0 e1 e2
      cases x <;> cases y <;> simp [orB] at hzz <;> subst hzz <;> cases was
      all_goals go_wp2_with fail
      all_goals go_roundg (gk - 1)
      all_goals first | omega | (refine ⟨k + 1, by omega, by go_num, ?_, HP.out.1⟩; rw [HP.out.2]; rfl)
    · obtain rfl : k = n := by omega
      have hge : ¬ (k : Int) < (k : Int) := by omega
      have e8 := HH.out.b8.cell
      have e6 := HH.out.b2.cell
      have f6 := HH.out.b2.frozen
      have hr := (HH.out.b2.set (.slice (some ⟨g8, 0, none⟩) k c8)).cell
      go_wp2_with fail
      refine bodyPost_ret (v := .tuple #[.agg #[.slice (some ⟨g8, 0, none⟩) k c8], .bool (differ T bs k)]) (by simp [results, Tryd.f26, go_sem, hr]) rfl ?_
      obtain ⟨hn, hm, hT, ha, hb, hl⟩ := HQ.out
      have hd := differ_all (T := T) (bs := bs) (by omega)
      rw [hn] at hd
      refine ⟨g8, c8, by rw [hd], ?_, ?_, by have := HH.out.lo; omega⟩
      · have h1 := HH.out.row
        rw [pre_all hl] at h1
        exact h1.kept (gset _ _ _ _) (by have := HH.out.lo; simp; omega)
      · exact gnew HH.out.gr (gset _ _ _ _) (by omega)
end Go.Proofs.YtgckoiepclgofaaDoor
