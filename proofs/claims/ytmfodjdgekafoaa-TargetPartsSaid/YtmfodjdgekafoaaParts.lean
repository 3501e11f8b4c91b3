/- The statement on parts: of a target with which nothing is wrong each register of a class is kept by calls, or spoilt, and not both. -/
import Derived.Test.YtmfodjdgekafoaaWorks
namespace Go.Proofs.Ytmfodjdgekafoaa
open Go.ChangeShapes Go.WideShapes Go.RowKit
set_option linter.unusedVariables false
set_option maxRecDepth 20000

theorem fields28 : Try.prog.underlying 28 = some (.struct (Try.prog.fieldsOf 28)) := by kernel_rfl
theorem held28 : Try.prog.stoodInHeld 28 = false := by kernel_rfl
theorem part28_0 (k c n : Int) (w : World) : (part 3 #[.int .i64 k, .int .i64 c, .int .i64 n] 0).run Try.prog w = .ok (.int .i64 k) w := by kernel_rfl
theorem part28_1 (k c n : Int) (w : World) : (part 3 #[.int .i64 k, .int .i64 c, .int .i64 n] 1).run Try.prog w = .ok (.int .i64 c) w := by kernel_rfl
theorem part28_2 (k c n : Int) (w : World) : (part 3 #[.int .i64 k, .int .i64 c, .int .i64 n] 2).run Try.prog w = .ok (.int .i64 n) w := by kernel_rfl
theorem names28 : (Try.prog.fieldsOf 28).toList.map (fun f => (f.name, f.type, f.offset)) = [("Kind", 3, 0), ("Class", 3, 1), ("N", 3, 2)] := by kernel_rfl
theorem eqf28 (k c n k' c' n' : Int) (w : World) (d : Nat) (fs : List Field) (h : fs.map (fun f => (f.name, f.type, f.offset)) = [("Kind", 3, 0), ("Class", 3, 1), ("N", 3, 2)]) :
    (Op.eqFields (d + 1) #[.int .i64 k, .int .i64 c, .int .i64 n] #[.int .i64 k', .int .i64 c', .int .i64 n'] fs).run Try.prog w = .ok (k == k' && (c == c' && (n == n'))) w := by
  obtain ⟨f0, f1, f2, rfl⟩ : ∃ f0 f1 f2, fs = [f0, f1, f2] := by
    have hl : fs.length = 3 := by have := congrArg List.length h; simpa using this
    match fs, hl with
    | [f0, f1, f2], _ => exact ⟨f0, f1, f2, rfl⟩
  simp only [List.map_cons, List.map_nil, List.cons.injEq, Prod.mk.injEq] at h
  obtain ⟨⟨a0, b0, d0⟩, ⟨a1, b1, d1⟩, ⟨a2, b2, d2⟩, _⟩ := h
  simp [Op.eqFields, a0, b0, d0, a1, b1, d1, a2, b2, d2, part28_0, part28_1, part28_2, run_equalIn_int _ _ _ _ _ _ _ Try.underlying3, Result.andThen]
  clear a0 b0 d0 a1 b1 d1 a2 b2 d2
  cases h0 : k == k' <;> cases h1 : c == c' <;> cases h2 : n == n' <;> simp_all
theorem eqIn28 (k c n k' c' n' : Int) (r : Bool) (hr : (k == k' && (c == c' && n == n')) = r) (W : World) : (Op.equalIn 10000 28 (.agg #[.int .i64 k, .int .i64 c, .int .i64 n]) (.agg #[.int .i64 k', .int .i64 c', .int .i64 n'])).run Try.prog W = .ok r W := by
  rw [run_equalIn_struct W (P := Try.prog) 9999 28 _ _ fields28 held28, eqf28 k c n k' c' n' W 9998 _ names28, hr]
theorem eql28 (k c n k' c' n' : Int) (r : Bool) (hr : (k == k' && (c == c' && n == n')) = r) (W : World) : (binOp .eql 28 (.agg #[.int .i64 k, .int .i64 c, .int .i64 n]) (.agg #[.int .i64 k', .int .i64 c', .int .i64 n'])).run Try.prog W = .ok (.bool r) W := by
  rw [run_eql_struct, eqIn28 k c n k' c' n' r hr W]; rfl
theorem good_ge {r : Int} {l : List Int} (hg : goodL r l) : ∀ k, k < l.length → (k : Int) ≤ l.getD k 0 := by
  intro k
  induction k with
  | zero => intro h; have := hg 0 h; unfold badAt at this; omega
  | succ k ih =>
    intro h
    have h1 := ih (by omega)
    have h2 := hg (k + 1) h
    unfold badAt at h2
    rw [Nat.add_sub_cancel] at h2
    omega
theorem good_len {r : Int} {l : List Int} (h0 : 0 ≤ r) (hg : goodL r l) : (l.length : Int) ≤ r := by
  by_cases h : l.length = 0
  · omega
  · have h1 := good_ge hg (l.length - 1) (by omega)
    have h2 := hg (l.length - 1) (by omega)
    unfold badAt at h2
    omega
theorem good_mem {r : Int} {l : List Int} (hg : goodL r l) : ∀ y ∈ l, 0 ≤ y ∧ y < r := by
  intro y hy
  obtain ⟨k, hk, e⟩ := List.getElem_of_mem hy
  have h := hg k hk
  unfold badAt at h
  rw [getD_of (List.getElem?_eq_getElem hk), e] at h
  omega
theorem chk_zero {r : Int} {l : List Int} (h : chkC r l = 0) : (0 ≤ r ∧ r ≤ 16) ∧ goodL r l := by
  unfold chkC at h
  by_cases h1 : 0 ≤ r ∧ r ≤ 16
  · rw [if_pos h1] at h
    by_cases h2 : goodL r l
    · exact ⟨h1, h2⟩
    · rw [if_neg h2] at h; omega
  · rw [if_neg h1] at h; omega
theorem chkT_zero {i : Tgt} (h : chkT i = 0) (c : Nat) (hc : c < 2) : chkC (i.r c) (i.c c) = 0 := by
  unfold chkT at h
  by_cases h0 : chkC i.r0 i.c0 = 0
  · rw [if_pos h0] at h
    by_cases h1 : chkC i.r1 i.c1 = 0
    · have : c = 0 ∨ c = 1 := by omega
      rcases this with rfl | rfl
      · exact h0
      · exact h1
    · rw [if_neg h1] at h; exact absurd h h1
  · rw [if_neg h0] at h; exact absurd h h0
structure SpP (l : List (Nat × Int)) (w : World) (e : Ending) (w' : World) : Prop where
  out : ∃ A c, e = .returned (.slice A l.length c) ∧ IsLocs w' A l.length l ∧ Below w.heap.size w w'
theorem sp_mem (i : Tgt) (c : Nat) (hc : c < 2) (q : Int) : (c, q) ∈ spAll i ↔ q ∈ i.c c := by
  unfold spAll spl
  have : c = 0 ∨ c = 1 := by omega
  rcases this with rfl | rfl <;> simp
theorem kept_q (l : List Int) (N q : Nat) (h : q < N) : decide ((q : Int) ∈ keptN l N) = !decide ((q : Int) ∈ l) := by
  have := kept_mem l N (q : Int)
  by_cases hq : (q : Int) ∈ l
  · rw [decide_eq_true hq, decide_eq_false (fun e => (this.1 e).2.2 hq)]; rfl
  · rw [decide_eq_false hq, decide_eq_true (this.2 ⟨by omega, by omega, hq⟩)]; rfl
theorem spB_c (i : Tgt) (c : Nat) (hc : c < 2) (q : Int) : spB i 2 (c : Int) q = decide (q ∈ i.c c) := by
  have : c = 0 ∨ c = 1 := by omega
  unfold spB
  rw [if_pos rfl]
  rcases this with rfl | rfl
  · rw [if_pos (by rfl)]; rfl
  · rw [if_neg (by decide), if_pos (by rfl)]; rfl
set_option maxHeartbeats 4000000 in
theorem parts_no (i : Tgt) (r : TgtV) (cl below : Int) (w : World) (h : IsTgt w i r) (z : Int) (hz : chkT i = z) (hno : (z != 0) = true ∨ ((z != 0) = false ∧ (cl < 0 ∨ (¬ cl < 0 ∧ cl > 1)))) :
    Calls Try.prog 4 #[.agg (tgtR i r), .int .i64 cl, .int .i64 below] w fun e w' => e = .returned (.bool true) ∧ Below w.heap.size w w' := by
  have B0 : Below w.heap.size w (w.alloc (.cells (tgtR i r) 26)) := (Below.refl _ w).alloc (Nat.le_refl _) _
  have HI := Lib.hid (h.below B0)
  have D := Lib.hid (And.intro B0 (And.intro (show w.heap.size ≤ (w.alloc (.cells (tgtR i r) 26)).heap.size by simp) (heap_alloc_new w (.cells (tgtR i r) 26))))
  clear h B0
  obtain ⟨wa, hwa⟩ : ∃ wa, w.alloc (.cells (tgtR i r) 26) = wa := ⟨_, rfl⟩
  rw [hwa] at D HI
  have C8 : ∀ W, Below wa.heap.size wa W → Calls Try.prog 8 #[.agg (tgtR i r)] W fun e w' => e = .returned (.int .i64 z) ∧ Below W.heap.size W w' := fun W hB => by rw [← hz]; exact rcheck_v i r W (HI.out.below hB)
  have K2 : ∀ W, Calls Try.prog 15 #[.agg (tgtR i r), .int .i64 2, .int .i64 9] W (KeptP [] W) := fun W => kept_no i r 2 9 (by decide) W
  have K1 : ∀ W, Calls Try.prog 15 #[.agg (tgtR i r), .int .i64 (-1), .int .i64 9] W (KeptP [] W) := fun W => kept_no i r (-1) 9 (by decide) W
  have CC := Lib.hid (And.intro C8 (And.intro K2 K1))
  clear C8 K2 K1 hz
  have hcell : ∀ W, Below wa.heap.size wa W → W.heap[w.heap.size]? = some (.cells (tgtR i r) 26 (0, 0)) := fun W hb => kept_box D.out.2.2 hb
  have HC := Lib.hid hcell
  clear hcell
  obtain ⟨r0, r1, c0, c1, sl⟩ := i
  obtain ⟨a0, n0, m0, a1, n1, m1⟩ := r
  unfold tgtR at D CC HC hwa ⊢
  dsimp only at D CC HC hwa ⊢
  rcases hno with h0 | ⟨h0, h1 | ⟨h1, h2⟩⟩
  all_goals
    obtain ⟨t0, t1, t2, t3, t4⟩ := tgt_cells D.out.2.2
    go_enter Try.func4, Try.ntmps4
    go_wp2_with fail
    refine (CC.out.1 _ (Below.refl _ _)).mono ?_
    rintro e w1 ⟨rfl, hb⟩
    have B1 := Lib.hid hb
    clear hb
    obtain ⟨t0, t1, t2, t3, t4⟩ := tgt_cells (HC.out _ B1.out)
    go_wp2_with fail
    refine (CC.out.2.1 _).mono ?_
    rintro e w2 ⟨⟨A2, c2, rfl, _, hb⟩⟩
    have B2 := Lib.hid (B1.out.trans (hb.mono B1.out.size))
    clear hb
    obtain ⟨t0, t1, t2, t3, t4⟩ := tgt_cells (HC.out _ B2.out)
    go_wp2_with fail
    refine (CC.out.2.2 _).mono ?_
    rintro e w3 ⟨⟨A3, c3, rfl, _, hb⟩⟩
    have B3 := Lib.hid (B2.out.trans (hb.mono B2.out.size))
    clear hb
    go_wp2_with fail
    refine (works_v _).mono ?_
    rintro e w4 ⟨rfl, hb⟩
    have B4 := Lib.hid (B3.out.trans (hb.mono B3.out.size))
    clear hb
    go_wp2_with fail
    go_ret
    exact ⟨rfl, D.out.1.trans (B4.out.mono D.out.2.1)⟩
set_option maxHeartbeats 4000000 in
theorem parts_ok (i : Tgt) (r : TgtV) (c : Nat) (hc : c < 2) (below : Int) (w : World) (h : IsTgt w i r) (hz : chkT i = 0) :
    Calls Try.prog 4 #[.agg (tgtR i r), .int .i64 (c : Int), .int .i64 below] w fun e w' => e = .returned (.bool true) ∧ Below w.heap.size w w' := by
  have B0 : Below w.heap.size w (w.alloc (.cells (tgtR i r) 26)) := (Below.refl _ w).alloc (Nat.le_refl _) _
  have HI := Lib.hid (h.below B0)
  have D := Lib.hid (And.intro B0 (And.intro (show w.heap.size ≤ (w.alloc (.cells (tgtR i r) 26)).heap.size by simp) (heap_alloc_new w (.cells (tgtR i r) 26))))
  clear h B0
  obtain ⟨wa, hwa⟩ : ∃ wa, w.alloc (.cells (tgtR i r) 26) = wa := ⟨_, rfl⟩
  rw [hwa] at D HI
  obtain ⟨⟨hr0, hr1⟩, hg⟩ := chk_zero (chkT_zero hz c hc)
  have hg0 := chk_zero (chkT_zero hz 0 (by omega))
  have hg1 := chk_zero (chkT_zero hz 1 (by omega))
  have hL0 : i.c0.length ≤ 16 := by have := good_len hg0.1.1 hg0.2; have : ((i.c 0).length : Int) ≤ i.r 0 := this; have : i.r 0 ≤ 16 := hg0.1.2; have : (i.c 0).length = i.c0.length := rfl; omega
  have hL1 : i.c1.length ≤ 16 := by have := good_len hg1.1.1 hg1.2; have : ((i.c 1).length : Int) ≤ i.r 1 := this; have : i.r 1 ≤ 16 := hg1.1.2; have : (i.c 1).length = i.c1.length := rfl; omega
  have hn : (i.c c).length ≤ 16 := by have := good_len hr0 hg; omega
  have hlm : ∀ y ∈ i.c c, 0 ≤ y ∧ y ≤ 16 := fun y hy => by have := good_mem hg y hy; omega
  obtain ⟨N, hN⟩ : ∃ N : Nat, (N : Int) = max 0 (min (i.r c) below) := ⟨(max 0 (min (i.r c) below)).toNat, by omega⟩
  have C8 : ∀ W, Below wa.heap.size wa W → Calls Try.prog 8 #[.agg (tgtR i r)] W fun e w' => e = .returned (.int .i64 0) ∧ Below W.heap.size W w' := fun W hB => by rw [← hz]; exact rcheck_v i r W (HI.out.below hB)
  have C15 : ∀ W, Below wa.heap.size wa W → Calls Try.prog 15 #[.agg (tgtR i r), .int .i64 (c : Int), .int .i64 below] W (KeptP (keptN (i.c c) N) W) := fun W hB => kept_v i r c hc below W (HI.out.below hB) hr0 hr1 hlm hn N hN
  have C16 : ∀ W, Below wa.heap.size wa W → Calls Try.prog 16 #[.agg (tgtR i r)] W (SpP (spAll i) W) := fun W hB => (spoilt_v i r W (HI.out.below hB) (by omega) (by omega)).mono fun e w' h => ⟨h.out⟩
  have C11 : ∀ W (q : Nat) (b : Bool), decide ((q : Int) ∈ i.c c) = b → Below wa.heap.size wa W → Calls Try.prog 11 #[.agg (tgtR i r), .agg #[.int .i64 2, .int .i64 (c : Int), .int .i64 (q : Int)]] W fun e w' => e = .returned (.bool b) ∧ Below W.heap.size W w' := fun W q b hb hB => spoils_v i r 2 (c : Int) (q : Int) W (HI.out.below hB) b (by rw [spB_c i c hc]; exact hb)
  have k0 : ∀ W, Below wa.heap.size wa W → W.cell? ⟨w.heap.size, c, none⟩ = some (.int .i64 (i.r c)) := fun W hb => (cell_in (kept_box D.out.2.2 hb) c).trans (tgt_r i r c hc)
  have CC := Lib.hid (And.intro C8 (And.intro C15 (And.intro C16 (And.intro C11 k0))))
  have HC := Lib.hid (show ∀ W, Below wa.heap.size wa W → W.heap[w.heap.size]? = some (.cells (tgtR i r) 26 (0, 0)) from fun W hb => kept_box D.out.2.2 hb)
  obtain ⟨KL, hKL⟩ : ∃ KL, keptN (i.c c) N = KL := ⟨_, rfl⟩
  obtain ⟨SA, hSA⟩ : ∃ SA, spAll i = SA := ⟨_, rfl⟩
  have HK := Lib.hid (show (∀ q, q < N → decide ((q : Int) ∈ KL) = !decide ((q : Int) ∈ i.c c)) ∧ KL = keptN (i.c c) N ∧ (∀ q, q ≤ N → (keptN (i.c c) q).length ≤ q) from by rw [← hKL]; exact ⟨fun q hq => kept_q _ N q hq, rfl, fun q _ => kept_len _ q⟩)
  have HSA := Lib.hid (show spAll i = SA ∧ SA.length = r.n0 + r.n1 ∧ SA.length ≤ 32 ∧ (∀ q : Int, (c, q) ∈ SA ↔ q ∈ i.c c) from by
    have e : SA.length = i.c0.length + i.c1.length := by
      rw [← hSA]; show (((i.c 0).map _) ++ ((i.c 1).map _)).length = _
      rw [List.length_append, List.length_map, List.length_map]; rfl
    refine ⟨hSA, by rw [e, HI.out.c0.1, HI.out.c1.1], by omega, fun q => by rw [← hSA]; exact sp_mem i c hc q⟩)
  obtain ⟨l, hl⟩ : ∃ l, i.c c = l := ⟨_, rfl⟩
  obtain ⟨x, hx⟩ : ∃ x, i.r c = x := ⟨_, rfl⟩
  rw [hKL, hSA] at CC
  rw [hl] at CC HK HSA
  rw [hx] at CC hN hr0 hr1
  have HN := Lib.hid hN
  have hn01 : r.n0 ≤ 16 ∧ r.n1 ≤ 16 := by rw [← HI.out.c0.1, ← HI.out.c1.1]; exact ⟨hL0, hL1⟩
  have hNs : N ≤ 16 := by omega
  clear C8 C15 C16 C11 k0 hg hg0 hg1 hL0 hL1 hn hlm hN hKL hSA hl hx hz HI
  obtain ⟨n0, hn0⟩ : ∃ n, r.n0 = n := ⟨_, rfl⟩
  obtain ⟨n1, hn1⟩ : ∃ n, r.n1 = n := ⟨_, rfl⟩
  obtain ⟨a0, ha0⟩ : ∃ n, r.a0 = n := ⟨_, rfl⟩
  obtain ⟨a1, ha1⟩ : ∃ n, r.a1 = n := ⟨_, rfl⟩
  obtain ⟨m0, hm0⟩ : ∃ n, r.m0 = n := ⟨_, rfl⟩
  obtain ⟨m1, hm1⟩ : ∃ n, r.m1 = n := ⟨_, rfl⟩
  have HC2 := Lib.hid (show ∀ W, Below wa.heap.size wa W → W.cell? ⟨w.heap.size, 2, none⟩ = some (.slice a0 n0 m0) ∧ W.cell? ⟨w.heap.size, 3, none⟩ = some (.slice a1 n1 m1) from fun W hb => by
    rw [← hn0, ← hn1, ← ha0, ← ha1, ← hm0, ← hm1]; exact ⟨cell_in (HC.out W hb) 2, cell_in (HC.out W hb) 3⟩)
  rw [hn0, hn1] at HSA hn01
  obtain ⟨cs, hcs⟩ : ∃ cs, tgtR i r = cs := ⟨_, rfl⟩
  have hcz : cs.size = 5 := by rw [← hcs]; rfl
  rw [hcs] at CC HC D hwa ⊢
  obtain ⟨v0, v1, v2, v3, v4, hv⟩ : ∃ v0 v1 v2 v3 v4, cs = #[v0, v1, v2, v3, v4] := by
    rw [← hcs]; exact ⟨_, _, _, _, _, rfl⟩
  rw [hv] at CC HC D hwa ⊢
  have HC5 := Lib.hid (show ∀ W, Below wa.heap.size wa W → W.cell? ⟨w.heap.size, 0, none⟩ = some v0 ∧ W.cell? ⟨w.heap.size, 1, none⟩ = some v1 ∧ W.cell? ⟨w.heap.size, 2, none⟩ = some v2 ∧ W.cell? ⟨w.heap.size, 3, none⟩ = some v3 ∧ W.cell? ⟨w.heap.size, 4, none⟩ = some v4 from fun W hb => ⟨cell_in (HC.out W hb) 0, cell_in (HC.out W hb) 1, cell_in (HC.out W hb) 2, cell_in (HC.out W hb) 3, cell_in (HC.out W hb) 4⟩)
  clear hn0 hn1 ha0 ha1 hm0 hm1 hcs hcz hv
  have hc0 : (0 : Int) ≤ (c : Int) := by omega
  have hc1 : (c : Int) < 2 := by omega
  have hc2 : ¬ (c : Int) < 0 := by omega
  have hc3 : ¬ (c : Int) > 1 := by omega
  obtain ⟨t0, t1, t2, t3, t4⟩ := HC5.out wa (Below.refl _ _)
  go_enter Try.func4, Try.ntmps4
  go_wp2_with fail
  clear hwa
  refine (CC.out.1 _ (Below.refl _ _)).mono ?_
  rintro e w1 ⟨rfl, hb⟩
  have B1 := Lib.hid hb
  clear hb
  obtain ⟨t0, t1, t2, t3, t4⟩ := HC5.out _ B1.out
  go_wp2_with fail
  refine (CC.out.2.1 _ B1.out).mono ?_
  rintro e w2 ⟨⟨A2, c2, rfl, hi2, hb⟩⟩
  have B2 := Lib.hid (B1.out.trans (hb.mono B1.out.size))
  have HI2 := Lib.hid hi2
  clear hb hi2
  obtain ⟨t0, t1, t2, t3, t4⟩ := HC5.out _ B2.out
  go_wp2_with fail
  refine (CC.out.2.2.1 _ B2.out).mono ?_
  rintro e w3 ⟨⟨A3, c3, rfl, hi3, hb⟩⟩
  have B3 := Lib.hid (B2.out.trans (hb.mono B2.out.size))
  have HI3 := Lib.hid hi3
  have HI2' := Lib.hid (HI2.out.below hb)
  clear hb hi3 HI2
  obtain ⟨KN, hKN⟩ : ∃ KN, KL.length = KN := ⟨_, rfl⟩
  obtain ⟨SN, hSN⟩ : ∃ SN, SA.length = SN := ⟨_, rfl⟩
  have HKN := Lib.hid hKN
  have HSN := Lib.hid (show SN = n0 + n1 ∧ SN ≤ 32 from by rw [← hSN]; exact ⟨HSA.out.2.1, HSA.out.2.2.1⟩)
  have hKs : KN ≤ 16 := by rw [← hKN, HK.out.2.1]; have := HK.out.2.2 N (Nat.le_refl _); omega
  have hSs : SN ≤ 32 := HSN.out.2
  rw [hKN] at HI2' ⊢
  rw [hSN] at HI3 ⊢
  clear hKN hSN t0 t1 t2 t3 t4
  go_wp2_with fail
  go_loopg [9, 10] N (fun gk u v wr => ∃ (q L : Nat), q + gk = N ∧ u = .int .i64 (L : Int) ∧ v = .int .i64 (q : Int) ∧ Hid ((keptN l q).length = L ∧ Below w3.heap.size w3 wr))
  case atStart => exact ⟨0, 0, by omega, rfl, rfl, rfl, Below.refl _ _⟩
  case round =>
    obtain ⟨q, L, hq, rfl, rfl, HQ⟩ := hrel
    have BW := Lib.hid (B3.out.trans (HQ.out.2.mono B3.out.size))
    have kc := CC.out.2.2.2.2 wr BW.out
    have hLq : L ≤ q := by rw [← HQ.out.1]; exact HK.out.2.2 q (by omega)
    by_cases hlq : q < N
    · have i1 : (q : Int) < x := by have := HN.out; omega
      have i2 : (q : Int) < below := by have := HN.out; omega
      have hq16 : q ≤ 16 := by omega
      go_wp2_with fail
      go_loopg [11, 12] SN (fun gk u v wr => ∃ (j : Nat) (b : Bool), j + gk = SN ∧ u = .bool b ∧ v = .int .i64 (j : Int) ∧ Hid (b = decide ((c, (q : Int)) ∈ SA.take j) ∧ Below w3.heap.size w3 wr))
      case atStart => exact ⟨0, false, by omega, rfl, rfl, by simp, HQ.out.2⟩
      case round =>
        obtain ⟨j, b, hj, rfl, rfl, HJ⟩ := hrel
        clear BW kc
        have BW := Lib.hid (B3.out.trans (HJ.out.2.mono B3.out.size))
        by_cases hlj : j < SN
        · obtain ⟨g, o, hA, hg, y, hy, d0, d1, d2⟩ := (HI3.out.below HJ.out.2).at hlj
          have i3 : (j : Int) < (SN : Int) := by omega
          subst hA
          have htk : SA.take (j + 1) = SA.take j ++ [y] := by rw [List.take_add_one, hy]; rfl
          have HT := Lib.hid htk
          clear hy htk
          obtain ⟨y1, y2⟩ := y
          dsimp only at d1 d2
          obtain ⟨be, hbe⟩ : ∃ be : Bool, ((2 : Int) == 2 && ((y1 : Int) == (c : Int) && y2 == (q : Int))) = be := ⟨_, rfl⟩
          have e1 := eql28 2 (y1 : Int) y2 2 (c : Int) (q : Int) be hbe
          have HBE := Lib.hid (show be = decide ((c, (q : Int)) = (y1, y2)) from by
            rw [← hbe, Bool.eq_iff_iff]
            simp only [Bool.and_eq_true, beq_iff_eq, decide_eq_true_eq, Prod.mk.injEq]
            constructor
            · rintro ⟨_, a, b⟩; exact ⟨by omega, b.symm⟩
            · rintro ⟨a, b⟩; exact ⟨trivial, by omega, b.symm⟩)
          clear hbe
          cases b
          all_goals
            go_wp2_with fail
            go_roundg (gk - 1)
            case measure => omega
            case rel =>
              refine ⟨j + 1, _, by omega, rfl, by go_num, ?_, HJ.out.2⟩
              rw [HT.out]
              have := HJ.out.1
              simp only [List.mem_append, List.mem_singleton]
              first
                | (rw [HBE.out, Bool.eq_iff_iff]; simp only [decide_eq_true_eq]; have h2 : ¬ (c, (q : Int)) ∈ SA.take j := of_decide_eq_false this.symm; exact ⟨.inr, fun h => h.resolve_left h2⟩)
                | (have h2 : (c, (q : Int)) ∈ SA.take j := of_decide_eq_true this.symm; exact (decide_eq_true (.inl h2)).symm)
        · obtain rfl : j = SN := by omega
          have hge : ¬ (j : Int) < (j : Int) := by omega
          obtain ⟨bb, hbb⟩ : ∃ bb, decide ((q : Int) ∈ l) = bb := ⟨_, rfl⟩
          have hb1 : b = bb := by
            rw [HJ.out.1, ← hbb]
            have hlen : SA.length = j := (HI3.out.1)
            rw [List.take_of_length_le (by omega)]
            have := HSA.out.2.2.2 (q : Int)
            rw [Bool.eq_iff_iff]; simp only [decide_eq_true_eq]; exact this
          have HBB := Lib.hid hbb
          have HKQ := Lib.hid (show decide ((q : Int) ∈ KL) = !bb from by rw [HK.out.1 q hlq, hbb])
          subst hb1
          clear hbb
          obtain ⟨t0, t1, t2, t3, t4⟩ := HC5.out _ BW.out
          cases hb : b
          all_goals
            subst hb
            go_wp2_with fail
            refine (in_v A2 KN c2 KL (q : Int) _ (HI2'.out.below HJ.out.2) _ HKQ.out).mono ?_
            rintro e w5 ⟨rfl, rfl⟩
            go_wp2_with fail
            refine (CC.out.2.2.2.1 _ q _ HBB.out BW.out).mono ?_
            rintro e w6 ⟨rfl, hb6⟩
            have B6 := Lib.hid (HJ.out.2.trans (hb6.mono HJ.out.2.size))
            clear hb6
            go_wp2_with fail
            go_roundg (N - q - 1)
            case measure => omega
            case rel =>
              first
                | exact ⟨q + 1, L + 1, by omega, by go_num, by go_num, by
                    have h2 : ¬ (q : Int) ∈ l := of_decide_eq_false HBB.out
                    show (if (q : Int) ∈ l then keptN l q else keptN l q ++ [(q : Int)]).length = _
                    rw [if_neg h2, List.length_append, HQ.out.1]; rfl, B6.out⟩
                | exact ⟨q + 1, L, by omega, rfl, by go_num, by
                    have h2 : (q : Int) ∈ l := of_decide_eq_true HBB.out
                    show (if (q : Int) ∈ l then keptN l q else keptN l q ++ [(q : Int)]).length = _
                    rw [if_pos h2, HQ.out.1], B6.out⟩
    · obtain rfl : q = N := by omega
      have hL : KN = L := by rw [← HKN.out, HK.out.2.1]; exact HQ.out.1
      have HL := Lib.hid hL
      obtain ⟨t2, t3⟩ := HC2.out _ BW.out
      have hS1 : (SN : Int) = (n0 : Int) + (n1 : Int) := by have := HSN.out.1; omega
      have hn0' : n0 ≤ 16 := hn01.1
      have hn1' : n1 ≤ 16 := hn01.2
      by_cases hx : (q : Int) < x
      · have hbl : ¬ (q : Int) < below := by have := HN.out; omega
        subst hL
        go_wp2_with fail
        refine (works_v _).mono ?_
        rintro e w7 ⟨rfl, hb⟩
        have B7 := Lib.hid (BW.out.trans (hb.mono BW.out.size))
        clear hb
        go_wp2_with fail
        go_ret
        exact ⟨rfl, D.out.1.trans (B7.out.mono D.out.2.1)⟩
      · subst hL
        go_wp2_with fail
        refine (works_v _).mono ?_
        rintro e w7 ⟨rfl, hb⟩
        have B7 := Lib.hid (BW.out.trans (hb.mono BW.out.size))
        clear hb
        go_wp2_with fail
        go_ret
        exact ⟨rfl, D.out.1.trans (B7.out.mono D.out.2.1)⟩
theorem parts_v (i : Tgt) (r : TgtV) (cl below : Int) (w : World) (h : IsTgt w i r) :
    Calls Try.prog 4 #[.agg (tgtR i r), .int .i64 cl, .int .i64 below] w fun e w' => e = .returned (.bool true) ∧ Below w.heap.size w w' := by
  by_cases hz : chkT i = 0
  · by_cases h1 : cl < 0
    · exact parts_no i r cl below w h _ rfl (.inr ⟨by rw [hz]; rfl, .inl h1⟩)
    by_cases h2 : cl > 1
    · exact parts_no i r cl below w h _ rfl (.inr ⟨by rw [hz]; rfl, .inr ⟨h1, h2⟩⟩)
    obtain ⟨c, rfl⟩ : ∃ c : Nat, cl = (c : Int) := ⟨cl.toNat, by omega⟩
    exact parts_ok i r c (by omega) below w h hz
  · exact parts_no i r cl below w h _ rfl (.inl (by rw [bne, beq_eq_false_iff_ne.2 hz]; rfl))
end Go.Proofs.Ytmfodjdgekafoaa
