/- The walk of the statement BitsWalks. -/
import Derived.Test.YtgckoiepclgofaaDoorWorks
namespace Go.Proofs.YtgckoiepclgofaaDoor
open Go.ChangeShapes Go.WideShapes Go.RowKit
set_option linter.unusedVariables false
attribute [local go_sem] Oper.semAt_some

theorem Ints.grow {w w' : World} {A : Option Addr} {l : List Int} (h : Ints w A l) (hg : w.grownBy w' none) : Ints w' A l := h.kept hg (by simp)
/-- How many are wanted. -/
def kOf (most : Int) : Nat := (max most 1).toNat
theorem low_pre (bs : List Bool) (a : Nat) : ∀ d, low bs a <+: low bs (a + d)
  | 0 => List.prefix_refl _
  | d + 1 => by
    refine (low_pre bs a d).trans ?_
    show low bs (a + d) <+: low bs (a + d + 1)
    cases h : has bs (a + d)
    · rw [low_miss h]; exact List.prefix_refl _
    · rw [low_hit h]; exact List.prefix_append _ _
theorem low_take {bs : List Bool} {x : Nat} (hx : has bs x = true) {k : Nat} (hk : (low bs (x + 1)).length = k) : low bs (x + 1) = (all bs).take k := by
  have h := has_lt hx
  obtain ⟨d, hd⟩ : ∃ d, bs.length = x + 1 + d := ⟨bs.length - (x + 1), by omega⟩
  have hp := low_pre bs (x + 1) d
  rw [← hd] at hp
  rw [← hk]
  exact List.prefix_iff_eq_take.1 hp
theorem all_take {bs : List Bool} {most : Int} (h : all bs = [] ∨ ((all bs).length : Int) < most) : all bs = (all bs).take (kOf most) := by
  rcases h with h | h
  · rw [h]; simp
  · rw [List.take_of_length_le]; unfold kOf; omega
theorem stop_len {bs : List Bool} {x : Nat} {most : Int} (hx : has bs x = true) (h : low bs x = [] ∨ ((low bs x).length : Int) < most) (h2 : most ≤ ((low bs (x + 1)).length : Int)) : (low bs (x + 1)).length = kOf most := by
  rw [low_hit hx] at h2 ⊢
  simp only [List.length_append, List.length_singleton] at h2 ⊢
  unfold kOf
  rcases h with h | h
  · rw [h] at h2 ⊢; simp at h2 ⊢; omega
  · omega
theorem low_sorted (bs : List Bool) (i : Nat) : (low bs i).Pairwise (· < ·) := List.pairwise_lt_range.filter _
/-- Where the walk stands behind the loop over the set: the set, the two boxes, and the block for what is deferred. -/
structure Wl (w W : World) (p g D N1 : Nat) (bs : List Bool) (most : Int) (A : Option Addr) (c : Nat) (got : List Nat) : Prop where
  set : SetAt (w.heap.size + 1) W p g bs
  glob : Glob W
  bm : Boxed W w.heap.size 3 (.int .i64 most)
  bg : Boxed W N1 33 (.slice A got.length c)
  own : OwnN N1 W A c got
  gr : w.grownBy W none
  late : W.heap[D]? = some (.deferred (some []))
  lo : w.heap.size ≤ D
theorem Wl.grow {w W W' : World} {p g D N1 : Nat} {bs : List Bool} {most : Int} {A : Option Addr} {c : Nat} {got : List Nat} (h : Wl w W p g D N1 bs most A c got) (hg : W.grownBy W' none) : Wl w W' p g D N1 bs most A c got :=
  ⟨h.set.grow hg, h.glob.grow hg, h.bm.kept hg (by simp), h.bg.kept hg (by simp), h.own.grow hg, gtrans h.gr hg, (hg.block D (Array.getElem?_eq_some_iff.1 h.late).1 (by simp)).trans h.late, h.lo⟩
theorem ints_take {w : World} {A : Option Addr} {t : List Nat} {k : Nat} (h : Ints w A (t.map fun n : Nat => (n : Int))) : Ints w A ((t.take k).map fun n : Nat => (n : Int)) := by
  rcases h with h | ⟨b, o, hA, hb, hc⟩
  · refine .inl ?_
    rw [List.map_eq_nil_iff] at h
    rw [h]; simp
  · refine .inr ⟨b, o, hA, hb, fun j hj => ?_⟩
    have hj2 : j < t.length := by simp at hj; omega
    rw [hc j (by simpa using hj2)]
    simp
theorem bool_geq (x y : Nat) (h : x < y) : decide ((y : Int) ≤ (x : Int)) = false := by rw [decide_eq_false_iff_not]; omega
theorem walks_big (n most : Int) (A : Option Addr) (M c : Nat) (h : decide (300 < n) = true ∨ (decide (300 < n) = false ∧ decide ((40 : Int) < (M : Int)) = true)) (w : World) (hG : Glob w) :
    Calls Tryd.prog 4 #[.int .i64 n, .slice A M c, .int .i64 most] w fun e w' => e = .returned (.bool true) ∧ w.grownBy w' none := by
  have HC := Lib.hid (works_v (w.alloc (.cells #[.int .i64 most] 3)) (hG.grow (galloc _ _ _)))
  clear hG
  rcases h with h | ⟨h, h2⟩
  · go_enter Tryd.func4, Tryd.ntmps4
    go_wp2_with fail
    refine HC.out.mono ?_
    rintro e w1 ⟨rfl, h1⟩
    have H1 := Lib.hid h1
    clear h1
    go_wp2_with fail
    go_ret
    exact ⟨rfl, gtrans (galloc _ _ _) H1.out⟩
  · have h3 : (40 : Int) < (M : Int) := by simpa using h2
    have h4 : decide (40 < M) = true := by simp; omega
    go_enter Tryd.func4, Tryd.ntmps4
    go_wp2_with fail
    refine HC.out.mono ?_
    rintro e w1 ⟨rfl, h1⟩
    have H1 := Lib.hid h1
    clear h1
    go_wp2_with fail
    go_ret
    exact ⟨rfl, gtrans (galloc _ _ _) H1.out⟩
set_option maxRecDepth 100000 in
set_option maxHeartbeats 4000000 in
theorem walks_small (n most : Int) (N : Nat) (hN : n.toNat = N) (hn : n ≤ 300) (A : Option Addr) (M c : Nat) (l : List Int) (hM : l.length = M) (hM2 : M ≤ 40) (w : World) (hl : Ints w A l) (hG : Glob w) :
    Calls Tryd.prog 4 #[.int .i64 n, .slice A M c, .int .i64 most] w fun e w' => e = .returned (.bool true) ∧ w.grownBy w' none := by
  refine (callsIn_wide (n := 3)).1 ?_
  have hfn := func_nil
  obtain ⟨i0, hi0, hz0, hz1, hz2⟩ := info_parts info3
  have I0 := Lib.hid (And.intro hi0 (And.intro hz0 (And.intro hz1 hz2)))
  clear hi0 hz0 hz1 hz2
  have d1 : decide (300 < n) = false := by simp; omega
  have d2 : decide (40 < M) = false := by simp; omega
  have d3 : decide ((40 : Int) < (M : Int)) = false := by simp; omega
  have HQ := Lib.hid (And.intro hN (And.intro hn (And.intro hM (And.intro hl hG))))
  clear hN hn hM hl hG
  refine callsIn_of_wp_marks Tryd.func4 rfl trivial ?_ rfl
  simp only [Tryd.ntmps4, List.size_toArray, List.length_cons, List.length_nil, Nat.reduceAdd, Nat.reduceSub, Array.replicate_succ, Array.replicate_zero, List.push_toArray, List.append_toArray, List.nil_append, List.cons_append]
  gi_wp2_with fail
  refine ⟨trivial, (callsIn_wide.2 (of_v n N HQ.out.1 HQ.out.2.1 A M c l HQ.out.2.2.1 (by omega) _ (HQ.out.2.2.2.1.grow (galloc _ _ none)))).mono ?_⟩
  rintro e w1 ⟨p, g, rfl, hs, hg⟩
  obtain ⟨bs, hbs⟩ : ∃ bs, puts (List.replicate N false) l = bs := ⟨_, rfl⟩
  rw [hbs] at hs
  clear hbs
  have H1 := Lib.hid (And.intro hs hg)
  clear hs hg
  gi_wp2_with fail
  refine ⟨trivial, (callsIn_wide.2 (all_func p _)).mono ?_⟩
  rintro e w2 ⟨rfl, rfl⟩
  gi_wp2_with fail
  have bO := Boxed.new w1 33 (.slice none 0 0)
  have hB0 : Below w1.heap.size w1 (w1.alloc (.cells #[.slice none 0 0] 33)) := (Below.refl _ w1).alloc (Nat.le_refl _) _
  have hwg : w.grownBy w1 none := gtrans (galloc _ _ _) H1.out.2
  have bM : Boxed w1 w.heap.size 3 (.int .i64 most) := (Boxed.new w 3 (.int .i64 most)).kept H1.out.2 (by simp)
  have hN01 : w.heap.size < w1.heap.size := bM.lt
  have hS1 : SetAt (w.heap.size + 1) w1 p g bs := by have := H1.out.1; simp only [World.size_alloc] at this; exact this
  have hG1 : Glob w1 := HQ.out.2.2.2.2.grow hwg
  have hSet : ∀ W, Below w1.heap.size w1 W → SetAt (w.heap.size + 1) W p g bs ∧ Glob W := fun W hb => ⟨hS1.below hb hS1.lt hS1.row.lt, hG1.below hb hG1.1⟩
  have hs3 := hS1.small
  refine range_v (w.heap.size + 1) p g bs rfl
    (fun s W => (∃ v, Boxed W w1.heap.size 33 v ∧ W.ownsRow w1.heap.size 3 1 v s.length (nums s) ∧ True) ∧ Below w1.heap.size w1 W ∧ (s = [] ∨ (s.length : Int) < most))
    (fun cc s W => (∃ v, Boxed W w1.heap.size 33 v ∧ W.ownsRow w1.heap.size 3 1 v s.length (nums s) ∧ True) ∧ Below w1.heap.size w1 W ∧ (cc = .exit 0 ∧ s.length = kOf most))
    (OwnFrom.and (Own.from (holdsRow_own w1.heap.size w1.heap.size 33 3 1 (fun s => s.length) (fun s => nums s) (fun s v => True)) _) (OwnFrom.and (ownFrom_below (Nat.le_refl _) (by simp)) (fun _ _ _ _ hs _ _ => hs)))
    (fun cc => OwnFrom.and (Own.from (holdsRow_own w1.heap.size w1.heap.size 33 3 1 (fun s => s.length) (fun s => nums s) (fun s v => True)) _) (OwnFrom.and (ownFrom_below (Nat.le_refl _) (by simp)) (fun _ _ _ _ hs _ _ => hs)))
    (fun s W hW => hSet W hW.2.1)
    ⟨⟨_, bO, World.ownsRow_nil _ _ _ _, trivial⟩, hB0, .inl rfl⟩
    (fun x => { tmps := #[.int .i64 n, .slice A M c, .int .i64 most, undef, undef, .pointer (some ⟨w.heap.size, 0, none⟩), .bool false, .pointer (some ⟨p, 0, none⟩), .pointer (some ⟨w1.heap.size, 0, none⟩), .func (.func 34) #[.pointer (some ⟨p, 0, none⟩)] #[], .int .i64 (x : Int), undef, undef, undef, .int .i64 n, .bool false, .bool false, .slice A M c, .int .i64 (M : Int), .bool false, .bool false, undef, .int .i64 n, .slice A M c, .pointer (some ⟨p, 0, none⟩), .pointer (some ⟨p, 0, none⟩), .func (.func 34) #[.pointer (some ⟨p, 0, none⟩)] #[], .func (.func 34) #[.pointer (some ⟨p, 0, none⟩)] #[], .bool false, .func (.func 34) #[.pointer (some ⟨p, 0, none⟩)] #[], .int .i64 (x : Int), undef, undef, undef, undef, undef, undef, undef, undef, undef, undef, undef, undef, undef, undef, undef, undef, undef, undef, undef, undef, undef, undef, undef, undef, undef, undef, undef, undef, undef, undef, undef, undef, undef, undef, undef, undef, undef, undef, undef, undef, undef], defers := [] }) ?assign ?body ?done ?stop
  case assign =>
    intro l x W K hK
    gi_wp2_with fail
    exact hK
  case body =>
    rintro l x W hx ⟨⟨v, hv, hrow, _⟩, hB, hlen⟩
    have hc := hv.cell
    have hcm : W.cell? ⟨w.heap.size, 0, none⟩ = some (.int .i64 most) := (hB.cell (p := ⟨w.heap.size, 0, none⟩) hN01).trans bM.cell
    have hpl : (low bs x).length ≤ x := low_len _ _
    have hxl := has_lt hx
    have HL := Lib.hid hlen
    have HX := Lib.hid hx
    clear hlen hx
    by_cases hmo : most ≤ ((low bs x).length : Int) + 1
    · have t1 : decide (most ≤ ((low bs x).length : Int) + 1) = true := by simpa using hmo
      gi_wp2_with (gi_at_builtin; refine wpListIn_append_own _ rfl _ _ 33 rfl w1.heap.size 3 i0 (.int .i64 0) 1 8 Tryd.underlying33 I0.out.1 I0.out.2.1 I0.out.2.2.1 I0.out.2.2.2 rfl (by decide) _ _ _ rfl (hrow.alloc _) ⟨W.heap.size, 0, none⟩ 1 1 [.int .i64 (x : Int)] rfl rfl (cell_one_new _ _ _) (by simp [Value.oneCell']) (by unfold maxLen; omega) (by omega) (by have := hB.size; simp; omega) ?_; intro v' w3 hown' hgrow _; obtain ⟨g', cap', rfl⟩ := ownsRow_succ hown'; obtain ⟨hv1, hv2, hr2, hk2, hb2⟩ := hv.appended (by decide) hrow hB.size (Nat.le_refl _) hown' hgrow; have hc1 := hv1.cell; have hf1 := hv1.frozen; have hc2 := hv2.cell; have hm2 := (hb2.cell (p := ⟨w.heap.size, 0, none⟩) hN01).trans hcm)
      refine ⟨hk2.from _, ⟨_, hv2, by rw [low_hit HX.out, nums_snoc]; simpa using hr2⟩, hB.trans hb2, rfl, ?_⟩
      exact stop_len HX.out HL.out (by rw [low_hit HX.out]; simpa using hmo)
    · have t1 : decide (most ≤ ((low bs x).length : Int) + 1) = false := by simpa using hmo
      gi_wp2_with (gi_at_builtin; refine wpListIn_append_own _ rfl _ _ 33 rfl w1.heap.size 3 i0 (.int .i64 0) 1 8 Tryd.underlying33 I0.out.1 I0.out.2.1 I0.out.2.2.1 I0.out.2.2.2 rfl (by decide) _ _ _ rfl (hrow.alloc _) ⟨W.heap.size, 0, none⟩ 1 1 [.int .i64 (x : Int)] rfl rfl (cell_one_new _ _ _) (by simp [Value.oneCell']) (by unfold maxLen; omega) (by omega) (by have := hB.size; simp; omega) ?_; intro v' w3 hown' hgrow _; obtain ⟨g', cap', rfl⟩ := ownsRow_succ hown'; obtain ⟨hv1, hv2, hr2, hk2, hb2⟩ := hv.appended (by decide) hrow hB.size (Nat.le_refl _) hown' hgrow; have hc1 := hv1.cell; have hf1 := hv1.frozen; have hc2 := hv2.cell; have hm2 := (hb2.cell (p := ⟨w.heap.size, 0, none⟩) hN01).trans hcm)
      refine ⟨hk2.from _, trivial, ⟨_, hv2, by rw [low_hit HX.out, nums_snoc]; simpa using hr2⟩, hB.trans hb2, .inr ?_⟩
      rw [low_hit HX.out]; simp; omega
  case done =>
    rintro D W hD ⟨⟨v, hv, hrow, _⟩, hB, hlen⟩ hK
    obtain ⟨A3, c3, rfl⟩ := own_form hrow
    have hw : Wl w W p g D w1.heap.size bs most A3 c3 (all bs) := ⟨(hSet W hB).1, (hSet W hB).2, by have := hB.block w.heap.size hN01; exact this.trans bM, hv, hrow, gtrans hwg (below_grown hB), hK, by have := hwg.size; simp at hD; omega⟩
    have hsor := low_sorted bs bs.length
    have hgl := low_len bs bs.length
    have htake := all_take hlen
    obtain ⟨got, hgot⟩ : ∃ got, (all bs) = got := ⟨_, rfl⟩
    change (all bs).Pairwise (· < ·) at hsor; change (all bs).length ≤ bs.length at hgl; conv at htake => lhs; rw [hgot]
    rw [hgot] at hw hsor hgl hlen
    obtain ⟨G, hG⟩ : ∃ G, got.length = G := ⟨_, rfl⟩
    have hnum : G = 0 ∨ (G : Int) < most := hlen.elim (fun h => .inl (by rw [← hG, h]; rfl)) (fun h => .inr (by rw [← hG]; exact h))
    have H2 := Lib.hid hw
    have HS := Lib.hid hsor
    have HG := Lib.hid hG
    have hG3 : G ≤ 300 := by omega
    have HT := Lib.hid htake
    clear hw hSet bO hB0 hK hB hD hv hrow hlen hwg bM hS1 hG1 hsor hgl hgot htake 
    gi_wp2_with fail
    refine ⟨trivial, (callsIn_wide.2 (list_v _ p g bs _ H2.out.set H2.out.glob)).mono ?_⟩
    rintro e w4 ⟨A4, c4, rfl, ho4, hg4⟩
    have hw4 := H2.out.grow hg4
    have cm := hw4.bm.cell
    have cg := hw4.bg.cell
    rw [HG.out] at cg
    have hint := ints_take (k := kOf most) ho4.ints
    rw [← HT.out] at hint
    obtain ⟨L, hL⟩ : ∃ L, (all bs).length = L := ⟨_, rfl⟩
    have hL3 : L ≤ 300 := by rw [← hL]; exact Nat.le_trans (all_len bs) hs3
    have hGL : G = min (kOf most) L := by rw [← HG.out, HT.out, List.length_take, hL]
    have hcap : L ≤ c4 ∧ (0 < L → ∃ g4, A4 = some ⟨g4, 0, none⟩) := by
      rcases ho4.2 with ⟨e, h0⟩ | ⟨g4, cap, cur, e, _, _, hh⟩
      · rw [← hL]; exact ⟨by omega, by omega⟩
      · simp only [Value.slice.injEq] at e
        exact ⟨by rw [← hL, e.2.2]; exact hh.1, fun _ => ⟨g4, e.1⟩⟩
    rw [hL] at *
    have HI := Lib.hid hint
    have H4 := Lib.hid (And.intro hw4 ho4)
    clear hw4 ho4 hg4 H2 hint
    unfold kOf at hGL
    have hLG : L = G := by omega
    clear hGL
    subst hLG
    by_cases hm1 : most < 1
    · have f1 : ¬ (1 : Int) < (L : Int) := by omega
      have f2 : decide ((1 : Int) < (L : Int)) = false := by simp; omega
      have f3 : decide (1 < L) = false := by simp; omega
      clear hnum hcap
      gi_wp2_with fail
      refine wpIn_wide.2 ?_
      go_loopg [13] L (fun gk u wr => ∃ k : Nat, 1 ≤ k ∧ k ≤ L + 1 ∧ gk = L + 1 - k ∧ u = .int .i64 (k : Int) ∧ Hid (w4.grownBy wr none))
      case atStart => exact ⟨1, by omega, by omega, by omega, rfl, World.grownBy.refl _ _⟩
      case round =>
        obtain ⟨k, hk1, hk2, hk3, rfl, HH⟩ := hrel
        have cg2 := (H4.out.1.grow HH.out).bg.cell
        rw [HG.out] at cg2
        by_cases hlt : k < L
        · obtain ⟨q, hq⟩ : ∃ q, k = q + 1 := ⟨k - 1, by omega⟩
          have ho := (H4.out.1.grow HH.out).own.ints
          rcases ho with h0 | ⟨b3, o3, rfl, hb3, hc3⟩
          · have := congrArg List.length h0; rw [List.length_map, HG.out] at this; simp at this; omega
          have d0 := hc3 q (by rw [List.length_map, HG.out]; omega)
          have d1 := hc3 k (by rw [List.length_map, HG.out]; omega)
          obtain ⟨x, hx⟩ : ∃ x, got[q]'(by rw [HG.out]; omega) = x := ⟨_, rfl⟩
          obtain ⟨y, hy⟩ : ∃ y, got[k]'(by rw [HG.out]; omega) = y := ⟨_, rfl⟩
          rw [List.getElem_map, hx] at d0
          rw [List.getElem_map, hy] at d1
          have hxy : x < y := by
            rw [← hx, ← hy]
            exact List.pairwise_iff_getElem.1 HS.out q k (by rw [HG.out]; omega) (by rw [HG.out]; omega) (by omega)
          have t1 := bool_geq x y hxy
          have t2 : decide (y ≤ x) = false := by simp; omega
          have e1 : (k : Int) - 1 = (q : Int) := by omega
          have e2 : IntKind.i64.wrap ((k : Int) - 1) = (q : Int) := by rw [IntWalk.i64_in _ (by omega)]; exact e1
          have e3 : IntKind.i64.wrap (q : Int) = (q : Int) := IntWalk.i64_in _ (by omega)
          have b1 : (q : Int) < (L : Int) := by omega
          have b2 : (k : Int) < (L : Int) := by omega
          have b3' : (0 : Int) ≤ (q : Int) := by omega
          have b4 : (0 : Int) ≤ (k : Int) := by omega
          clear hc3 hx hy hxy hq hb3
          go_wp2_with fail
          go_quiet (fail)
          go_wp2_with fail
          go_roundg (gk - 1)
          case measure => omega
          case rel => exact ⟨k + 1, by omega, by omega, by omega, by go_num, gtrans HH.out (drewN_grown _ _ _)⟩
        · have hge : ¬ (k : Int) < (L : Int) := by omega
          go_wp2_with fail
          refine wpIn_wide.2 ?_
          go_wp2_with fail
          refine (rsame_v _ _ L _ _ (got.map fun n : Nat => (n : Int)) (by rw [List.length_map, HG.out]) (by omega) _ ((H4.out.1.grow HH.out).own.ints) (HI.out.grow HH.out)).mono ?_
          rintro e w5 ⟨rfl, hg5⟩
          have H5 := Lib.hid (H4.out.1.grow (gtrans HH.out hg5))
          clear hg5
          go_wp2_with fail
          refine (works_v w5 H5.out.glob).mono ?_
          rintro e w6 ⟨rfl, hg6⟩
          have H6 := Lib.hid (H5.out.grow hg6)
          clear hg6
          go_wp2_with fail
          refine ⟨by simp, .inl ⟨_, _, rfl, run_takeDeferred H6.out.late, ?_⟩⟩
          exact ⟨_, results_tmp rfl _ _ _, rfl, gnew H6.out.gr (grownBy_putObj' _ _ _) H6.out.lo⟩
    · have f1 : ¬ most < (L : Int) := by omega
      have f2 : decide (most < (L : Int)) = false := by simp; omega
      clear hnum hcap
      gi_wp2_with fail
      refine wpIn_wide.2 ?_
      go_loopg [13] L (fun gk u wr => ∃ k : Nat, 1 ≤ k ∧ k ≤ L + 1 ∧ gk = L + 1 - k ∧ u = .int .i64 (k : Int) ∧ Hid (w4.grownBy wr none))
      case atStart => exact ⟨1, by omega, by omega, by omega, rfl, World.grownBy.refl _ _⟩
      case round =>
        obtain ⟨k, hk1, hk2, hk3, rfl, HH⟩ := hrel
        have cg2 := (H4.out.1.grow HH.out).bg.cell
        rw [HG.out] at cg2
        by_cases hlt : k < L
        · obtain ⟨q, hq⟩ : ∃ q, k = q + 1 := ⟨k - 1, by omega⟩
          have ho := (H4.out.1.grow HH.out).own.ints
          rcases ho with h0 | ⟨b3, o3, rfl, hb3, hc3⟩
          · have := congrArg List.length h0; rw [List.length_map, HG.out] at this; simp at this; omega
          have d0 := hc3 q (by rw [List.length_map, HG.out]; omega)
          have d1 := hc3 k (by rw [List.length_map, HG.out]; omega)
          obtain ⟨x, hx⟩ : ∃ x, got[q]'(by rw [HG.out]; omega) = x := ⟨_, rfl⟩
          obtain ⟨y, hy⟩ : ∃ y, got[k]'(by rw [HG.out]; omega) = y := ⟨_, rfl⟩
          rw [List.getElem_map, hx] at d0
          rw [List.getElem_map, hy] at d1
          have hxy : x < y := by
            rw [← hx, ← hy]
            exact List.pairwise_iff_getElem.1 HS.out q k (by rw [HG.out]; omega) (by rw [HG.out]; omega) (by omega)
          have t1 := bool_geq x y hxy
          have t2 : decide (y ≤ x) = false := by simp; omega
          have e1 : (k : Int) - 1 = (q : Int) := by omega
          have e2 : IntKind.i64.wrap ((k : Int) - 1) = (q : Int) := by rw [IntWalk.i64_in _ (by omega)]; exact e1
          have e3 : IntKind.i64.wrap (q : Int) = (q : Int) := IntWalk.i64_in _ (by omega)
          have b1 : (q : Int) < (L : Int) := by omega
          have b2 : (k : Int) < (L : Int) := by omega
          have b3' : (0 : Int) ≤ (q : Int) := by omega
          have b4 : (0 : Int) ≤ (k : Int) := by omega
          clear hc3 hx hy hxy hq hb3
          go_wp2_with fail
          go_quiet (fail)
          go_wp2_with fail
          go_roundg (gk - 1)
          case measure => omega
          case rel => exact ⟨k + 1, by omega, by omega, by omega, by go_num, gtrans HH.out (drewN_grown _ _ _)⟩
        · have hge : ¬ (k : Int) < (L : Int) := by omega
          go_wp2_with fail
          refine wpIn_wide.2 ?_
          go_wp2_with fail
          refine (rsame_v _ _ L _ _ (got.map fun n : Nat => (n : Int)) (by rw [List.length_map, HG.out]) (by omega) _ ((H4.out.1.grow HH.out).own.ints) (HI.out.grow HH.out)).mono ?_
          rintro e w5 ⟨rfl, hg5⟩
          have H5 := Lib.hid (H4.out.1.grow (gtrans HH.out hg5))
          clear hg5
          go_wp2_with fail
          refine (works_v w5 H5.out.glob).mono ?_
          rintro e w6 ⟨rfl, hg6⟩
          have H6 := Lib.hid (H5.out.grow hg6)
          clear hg6
          go_wp2_with fail
          refine ⟨by simp, .inl ⟨_, _, rfl, run_takeDeferred H6.out.late, ?_⟩⟩
          exact ⟨_, results_tmp rfl _ _ _, rfl, gnew H6.out.gr (grownBy_putObj' _ _ _) H6.out.lo⟩
  case stop =>
    rintro D c x W hD hx ⟨⟨v, hv, hrow, _⟩, hB, rfl, hlen⟩ hK
    obtain ⟨A3, c3, rfl⟩ := own_form hrow
    have hw : Wl w W p g D w1.heap.size bs most A3 c3 (low bs (x + 1)) := ⟨(hSet W hB).1, (hSet W hB).2, by have := hB.block w.heap.size hN01; exact this.trans bM, hv, hrow, gtrans hwg (below_grown hB), hK, by have := hwg.size; simp at hD; omega⟩
    have hsor := low_sorted bs (x + 1)
    have hgl := low_len bs (x + 1)
    have htake := low_take hx hlen
    have hxl := has_lt hx
    obtain ⟨got, hgot⟩ : ∃ got, (low bs (x + 1)) = got := ⟨_, rfl⟩
    rw [hgot] at hw hsor hgl hlen htake
    obtain ⟨G, hG⟩ : ∃ G, got.length = G := ⟨_, rfl⟩
    have hnum : G = (max most 1).toNat := by rw [← hG, hlen]; rfl
    have H2 := Lib.hid hw
    have HS := Lib.hid hsor
    have HG := Lib.hid hG
    have hG3 : G ≤ 300 := by omega
    have HT := Lib.hid htake
    clear hw hSet bO hB0 hK hB hD hv hrow hlen hwg bM hS1 hG1 hsor hgl hgot htake hx hxl
    gi_wp2_with fail
    refine ⟨trivial, (callsIn_wide.2 (list_v _ p g bs _ H2.out.set H2.out.glob)).mono ?_⟩
    rintro e w4 ⟨A4, c4, rfl, ho4, hg4⟩
    have hw4 := H2.out.grow hg4
    have cm := hw4.bm.cell
    have cg := hw4.bg.cell
    rw [HG.out] at cg
    have hint := ints_take (k := kOf most) ho4.ints
    rw [← HT.out] at hint
    obtain ⟨L, hL⟩ : ∃ L, (all bs).length = L := ⟨_, rfl⟩
    have hL3 : L ≤ 300 := by rw [← hL]; exact Nat.le_trans (all_len bs) hs3
    have hGL : G = min (kOf most) L := by rw [← HG.out, HT.out, List.length_take, hL]
    have hcap : L ≤ c4 ∧ (0 < L → ∃ g4, A4 = some ⟨g4, 0, none⟩) := by
      rcases ho4.2 with ⟨e, h0⟩ | ⟨g4, cap, cur, e, _, _, hh⟩
      · rw [← hL]; exact ⟨by omega, by omega⟩
      · simp only [Value.slice.injEq] at e
        exact ⟨by rw [← hL, e.2.2]; exact hh.1, fun _ => ⟨g4, e.1⟩⟩
    rw [hL] at *
    have HI := Lib.hid hint
    have H4 := Lib.hid (And.intro hw4 ho4)
    clear hw4 ho4 hg4 H2 hint
    unfold kOf at hGL
    by_cases hm1 : most < 1
    · obtain rfl : G = 1 := by omega
      by_cases hcut : 1 < L
      · have f1 : (1 : Int) < (L : Int) := by omega
        have f2 : decide ((1 : Int) < (L : Int)) = true := by simp; omega
        have f3 : decide (1 < L) = true := by simp; omega
        obtain ⟨hc1, hc2⟩ := hcap
        obtain ⟨g4, rfl⟩ := hc2 (by omega)
        have f4 : 1 ≤ c4 := by omega
        have f5 : (1 : Int) ≤ (c4 : Int) := by omega
        have f6 : ¬ c4 = 0 := by omega
        clear hnum hGL hc1 hc2
        gi_wp2_with fail
        refine wpIn_wide.2 ?_
        go_loopg [13] 1 (fun gk u wr => ∃ k : Nat, 1 ≤ k ∧ k ≤ 1 + 1 ∧ gk = 1 + 1 - k ∧ u = .int .i64 (k : Int) ∧ Hid (w4.grownBy wr none))
        case atStart => exact ⟨1, by omega, by omega, by omega, rfl, World.grownBy.refl _ _⟩
        case round =>
          obtain ⟨k, hk1, hk2, hk3, rfl, HH⟩ := hrel
          have cg2 := (H4.out.1.grow HH.out).bg.cell
          rw [HG.out] at cg2
          by_cases hlt : k < 1
          · exfalso; omega
          · have hge : ¬ (k : Int) < (1 : Int) := by omega
            go_wp2_with fail
            refine wpIn_wide.2 ?_
            go_wp2_with fail
            refine (rsame_v _ _ 1 _ _ (got.map fun n : Nat => (n : Int)) (by rw [List.length_map, HG.out]) (by omega) _ ((H4.out.1.grow HH.out).own.ints) (HI.out.grow HH.out)).mono ?_
            rintro e w5 ⟨rfl, hg5⟩
            have H5 := Lib.hid (H4.out.1.grow (gtrans HH.out hg5))
            clear hg5
            go_wp2_with fail
            refine (works_v w5 H5.out.glob).mono ?_
            rintro e w6 ⟨rfl, hg6⟩
            have H6 := Lib.hid (H5.out.grow hg6)
            clear hg6
            go_wp2_with fail
            refine ⟨by simp, .inl ⟨_, _, rfl, run_takeDeferred H6.out.late, ?_⟩⟩
            exact ⟨_, results_tmp rfl _ _ _, rfl, gnew H6.out.gr (grownBy_putObj' _ _ _) H6.out.lo⟩
      · obtain rfl : L = 1 := by omega
        have f1 : ¬ (1 : Int) < (1 : Int) := by omega
        clear hnum hGL hcap
        gi_wp2_with fail
        refine wpIn_wide.2 ?_
        go_loopg [13] 1 (fun gk u wr => ∃ k : Nat, 1 ≤ k ∧ k ≤ 1 + 1 ∧ gk = 1 + 1 - k ∧ u = .int .i64 (k : Int) ∧ Hid (w4.grownBy wr none))
        case atStart => exact ⟨1, by omega, by omega, by omega, rfl, World.grownBy.refl _ _⟩
        case round =>
          obtain ⟨k, hk1, hk2, hk3, rfl, HH⟩ := hrel
          have cg2 := (H4.out.1.grow HH.out).bg.cell
          rw [HG.out] at cg2
          by_cases hlt : k < 1
          · exfalso; omega
          · have hge : ¬ (k : Int) < (1 : Int) := by omega
            go_wp2_with fail
            refine wpIn_wide.2 ?_
            go_wp2_with fail
            refine (rsame_v _ _ 1 _ _ (got.map fun n : Nat => (n : Int)) (by rw [List.length_map, HG.out]) (by omega) _ ((H4.out.1.grow HH.out).own.ints) (HI.out.grow HH.out)).mono ?_
            rintro e w5 ⟨rfl, hg5⟩
            have H5 := Lib.hid (H4.out.1.grow (gtrans HH.out hg5))
            clear hg5
            go_wp2_with fail
            refine (works_v w5 H5.out.glob).mono ?_
            rintro e w6 ⟨rfl, hg6⟩
            have H6 := Lib.hid (H5.out.grow hg6)
            clear hg6
            go_wp2_with fail
            refine ⟨by simp, .inl ⟨_, _, rfl, run_takeDeferred H6.out.late, ?_⟩⟩
            exact ⟨_, results_tmp rfl _ _ _, rfl, gnew H6.out.gr (grownBy_putObj' _ _ _) H6.out.lo⟩
    · obtain rfl : most = (G : Int) := by omega
      by_cases hcut : G < L
      · have f1 : (G : Int) < (L : Int) := by omega
        have f2 : decide ((G : Int) < (L : Int)) = true := by simp; omega
        have f3 : decide (G < L) = true := by simp; omega
        obtain ⟨hc1, hc2⟩ := hcap
        obtain ⟨g4, rfl⟩ := hc2 (by omega)
        have f4 : G ≤ c4 := by omega
        have f5 : (G : Int) ≤ (c4 : Int) := by omega
        have f6 : ¬ c4 = 0 := by omega
        clear hnum hGL hc1 hc2
        gi_wp2_with fail
        refine wpIn_wide.2 ?_
        go_loopg [13] G (fun gk u wr => ∃ k : Nat, 1 ≤ k ∧ k ≤ G + 1 ∧ gk = G + 1 - k ∧ u = .int .i64 (k : Int) ∧ Hid (w4.grownBy wr none))
        case atStart => exact ⟨1, by omega, by omega, by omega, rfl, World.grownBy.refl _ _⟩
        case round =>
          obtain ⟨k, hk1, hk2, hk3, rfl, HH⟩ := hrel
          have cg2 := (H4.out.1.grow HH.out).bg.cell
          rw [HG.out] at cg2
          by_cases hlt : k < G
          · obtain ⟨q, hq⟩ : ∃ q, k = q + 1 := ⟨k - 1, by omega⟩
            have ho := (H4.out.1.grow HH.out).own.ints
            rcases ho with h0 | ⟨b3, o3, rfl, hb3, hc3⟩
            · have := congrArg List.length h0; rw [List.length_map, HG.out] at this; simp at this; omega
            have d0 := hc3 q (by rw [List.length_map, HG.out]; omega)
            have d1 := hc3 k (by rw [List.length_map, HG.out]; omega)
            obtain ⟨x, hx⟩ : ∃ x, got[q]'(by rw [HG.out]; omega) = x := ⟨_, rfl⟩
            obtain ⟨y, hy⟩ : ∃ y, got[k]'(by rw [HG.out]; omega) = y := ⟨_, rfl⟩
            rw [List.getElem_map, hx] at d0
            rw [List.getElem_map, hy] at d1
            have hxy : x < y := by
              rw [← hx, ← hy]
              exact List.pairwise_iff_getElem.1 HS.out q k (by rw [HG.out]; omega) (by rw [HG.out]; omega) (by omega)
            have t1 := bool_geq x y hxy
            have t2 : decide (y ≤ x) = false := by simp; omega
            have e1 : (k : Int) - 1 = (q : Int) := by omega
            have e2 : IntKind.i64.wrap ((k : Int) - 1) = (q : Int) := by rw [IntWalk.i64_in _ (by omega)]; exact e1
            have e3 : IntKind.i64.wrap (q : Int) = (q : Int) := IntWalk.i64_in _ (by omega)
            have b1 : (q : Int) < (G : Int) := by omega
            have b2 : (k : Int) < (G : Int) := by omega
            have b3' : (0 : Int) ≤ (q : Int) := by omega
            have b4 : (0 : Int) ≤ (k : Int) := by omega
            clear hc3 hx hy hxy hq hb3
            go_wp2_with fail
            go_quiet (fail)
            go_wp2_with fail
            go_roundg (gk - 1)
            case measure => omega
            case rel => exact ⟨k + 1, by omega, by omega, by omega, by go_num, gtrans HH.out (drewN_grown _ _ _)⟩
          · have hge : ¬ (k : Int) < (G : Int) := by omega
            go_wp2_with fail
            refine wpIn_wide.2 ?_
            go_wp2_with fail
            refine (rsame_v _ _ G _ _ (got.map fun n : Nat => (n : Int)) (by rw [List.length_map, HG.out]) (by omega) _ ((H4.out.1.grow HH.out).own.ints) (HI.out.grow HH.out)).mono ?_
            rintro e w5 ⟨rfl, hg5⟩
            have H5 := Lib.hid (H4.out.1.grow (gtrans HH.out hg5))
            clear hg5
            go_wp2_with fail
            refine (works_v w5 H5.out.glob).mono ?_
            rintro e w6 ⟨rfl, hg6⟩
            have H6 := Lib.hid (H5.out.grow hg6)
            clear hg6
            go_wp2_with fail
            refine ⟨by simp, .inl ⟨_, _, rfl, run_takeDeferred H6.out.late, ?_⟩⟩
            exact ⟨_, results_tmp rfl _ _ _, rfl, gnew H6.out.gr (grownBy_putObj' _ _ _) H6.out.lo⟩
      · obtain rfl : L = G := by omega
        have f1 : ¬ (L : Int) < (L : Int) := by omega
        clear hnum hGL hcap
        gi_wp2_with fail
        refine wpIn_wide.2 ?_
        go_loopg [13] L (fun gk u wr => ∃ k : Nat, 1 ≤ k ∧ k ≤ L + 1 ∧ gk = L + 1 - k ∧ u = .int .i64 (k : Int) ∧ Hid (w4.grownBy wr none))
        case atStart => exact ⟨1, by omega, by omega, by omega, rfl, World.grownBy.refl _ _⟩
        case round =>
          obtain ⟨k, hk1, hk2, hk3, rfl, HH⟩ := hrel
          have cg2 := (H4.out.1.grow HH.out).bg.cell
          rw [HG.out] at cg2
          by_cases hlt : k < L
          · obtain ⟨q, hq⟩ : ∃ q, k = q + 1 := ⟨k - 1, by omega⟩
            have ho := (H4.out.1.grow HH.out).own.ints
            rcases ho with h0 | ⟨b3, o3, rfl, hb3, hc3⟩
            · have := congrArg List.length h0; rw [List.length_map, HG.out] at this; simp at this; omega
            have d0 := hc3 q (by rw [List.length_map, HG.out]; omega)
            have d1 := hc3 k (by rw [List.length_map, HG.out]; omega)
            obtain ⟨x, hx⟩ : ∃ x, got[q]'(by rw [HG.out]; omega) = x := ⟨_, rfl⟩
            obtain ⟨y, hy⟩ : ∃ y, got[k]'(by rw [HG.out]; omega) = y := ⟨_, rfl⟩
            rw [List.getElem_map, hx] at d0
            rw [List.getElem_map, hy] at d1
            have hxy : x < y := by
              rw [← hx, ← hy]
              exact List.pairwise_iff_getElem.1 HS.out q k (by rw [HG.out]; omega) (by rw [HG.out]; omega) (by omega)
            have t1 := bool_geq x y hxy
            have t2 : decide (y ≤ x) = false := by simp; omega
            have e1 : (k : Int) - 1 = (q : Int) := by omega
            have e2 : IntKind.i64.wrap ((k : Int) - 1) = (q : Int) := by rw [IntWalk.i64_in _ (by omega)]; exact e1
            have e3 : IntKind.i64.wrap (q : Int) = (q : Int) := IntWalk.i64_in _ (by omega)
            have b1 : (q : Int) < (L : Int) := by omega
            have b2 : (k : Int) < (L : Int) := by omega
            have b3' : (0 : Int) ≤ (q : Int) := by omega
            have b4 : (0 : Int) ≤ (k : Int) := by omega
            clear hc3 hx hy hxy hq hb3
            go_wp2_with fail
            go_quiet (fail)
            go_wp2_with fail
            go_roundg (gk - 1)
            case measure => omega
            case rel => exact ⟨k + 1, by omega, by omega, by omega, by go_num, gtrans HH.out (drewN_grown _ _ _)⟩
          · have hge : ¬ (k : Int) < (L : Int) := by omega
            go_wp2_with fail
            refine wpIn_wide.2 ?_
            go_wp2_with fail
            refine (rsame_v _ _ L _ _ (got.map fun n : Nat => (n : Int)) (by rw [List.length_map, HG.out]) (by omega) _ ((H4.out.1.grow HH.out).own.ints) (HI.out.grow HH.out)).mono ?_
            rintro e w5 ⟨rfl, hg5⟩
            have H5 := Lib.hid (H4.out.1.grow (gtrans HH.out hg5))
            clear hg5
            go_wp2_with fail
            refine (works_v w5 H5.out.glob).mono ?_
            rintro e w6 ⟨rfl, hg6⟩
            have H6 := Lib.hid (H5.out.grow hg6)
            clear hg6
            go_wp2_with fail
            refine ⟨by simp, .inl ⟨_, _, rfl, run_takeDeferred H6.out.late, ?_⟩⟩
            exact ⟨_, results_tmp rfl _ _ _, rfl, gnew H6.out.gr (grownBy_putObj' _ _ _) H6.out.lo⟩
end Go.Proofs.YtgckoiepclgofaaDoor
