/- What Spoils answers: the program's and the document's; what slices.Contains and In answer. -/
import Derived.Test.YtmfodjdgekafoaaHas
import Derived.Deep.RegionHeld3
import Derived.Deep.RegionWith
namespace Go.Proofs.Ytmfodjdgekafoaa
open Go.ChangeShapes Go.WideShapes Go.RowKit
set_option linter.unusedVariables false
set_option maxRecDepth 20000

def firstAt (q : Int) : Nat → List Int → Int
  | _, [] => -1
  | m, a :: l => if a = q then (m : Int) else firstAt q (m + 1) l
theorem firstAt_hit (q : Int) (l : List Int) (m k : Nat) (hx : l[k]? = some q) (hn : ∀ (j : Nat), j < k → l[j]? ≠ some q) : firstAt q m l = ((m + k : Nat) : Int) := by
  induction l generalizing m k with
  | nil => simp at hx
  | cons a l ih =>
    cases k with
    | zero =>
      simp only [List.getElem?_cons_zero, Option.some.injEq] at hx
      unfold firstAt; rw [if_pos hx]; rfl
    | succ k =>
      have h0 := hn 0 (by omega)
      simp only [List.getElem?_cons_zero, ne_eq, Option.some.injEq] at h0
      unfold firstAt
      rw [if_neg h0, ih (m + 1) k (by simpa using hx) (fun j hj => by have := hn (j + 1) (by omega); simpa using this)]
      congr 1; omega
theorem firstAt_miss (q : Int) (l : List Int) (m : Nat) (hn : ∀ (j : Nat), l[j]? ≠ some q) : firstAt q m l = -1 := by
  induction l generalizing m with
  | nil => rfl
  | cons a l ih =>
    have h0 := hn 0
    simp only [List.getElem?_cons_zero, ne_eq, Option.some.injEq] at h0
    unfold firstAt
    rw [if_neg h0]
    exact ih (m + 1) (fun j => by have := hn (j + 1); simpa using this)
theorem firstAt_in (q : Int) (l : List Int) (m : Nat) : decide (0 ≤ firstAt q m l) = decide (q ∈ l) := by
  induction l generalizing m with
  | nil => simp [firstAt]
  | cons a l ih =>
    unfold firstAt
    by_cases h : a = q
    · rw [if_pos h]; subst h; simp
    · rw [if_neg h, ih (m + 1)]
      congr 1
      simp only [List.mem_cons, eq_iff_iff]
      exact ⟨.inr, fun e => e.resolve_left (fun e => h e.symm)⟩
set_option maxHeartbeats 1000000 in
theorem index_v (A : Option Addr) (n c : Nat) (l : List Int) (q : Int) (w : World) (h : IsInts w A n l) : Calls Try.prog 30 #[.slice A n c, .int .i64 q] w fun e w' => e = .returned (.int .i64 (firstAt q 0 l)) ∧ w = w' := by
  have hm := h.2.1
  have H0 := Lib.hid h
  clear h
  go_enter Try.func30, Try.ntmps30
  go_wp2_with fail
  go_loopg [8] n (fun gk u wr => ∃ k : Nat, k + gk = n ∧ u = .int .i64 (k : Int) ∧ Hid (wr = w ∧ ∀ (j : Nat), j < k → l[j]? ≠ some q))
  case atStart => exact ⟨0, by omega, rfl, rfl, fun j hj => by omega⟩
  case round =>
    obtain ⟨k, hk, rfl, HH⟩ := hrel
    obtain rfl := HH.out.1
    by_cases hlt : k < n
    · obtain ⟨b, o, rfl, hb, y, hy, c0⟩ := H0.out.at hlt
      have i1 : (k : Int) < (n : Int) := by omega
      by_cases hq : q = y
      · subst hq
        have HX := Lib.hid (firstAt_hit q l 0 k hy HH.out.2)
        clear hy
        go_wp2_with fail
        go_ret
        exact ⟨by rw [HX.out, Nat.zero_add]; rfl, rfl⟩
      · have RR : Hid (∀ (j : Nat), j < k + 1 → l[j]? ≠ some q) := Lib.hid (fun j hj h2 => by
          rcases Nat.lt_or_ge j k with h4 | h4
          · exact HH.out.2 j h4 h2
          · have e : j = k := by omega
            rw [e, hy] at h2; injection h2 with h2; exact hq h2.symm)
        clear hy
        go_wp2_with fail
        go_roundg (gk - 1)
        case measure => omega
        case rel => exact ⟨k + 1, by omega, by go_num, rfl, RR.out⟩
    · obtain rfl : k = n := by omega
      have hge : ¬ (k : Int) < (k : Int) := by omega
      have HX := Lib.hid (firstAt_miss q l 0 (fun j hj => HH.out.2 j (by have := (List.getElem?_eq_some_iff.1 hj).1; have := H0.out.1; omega) hj))
      go_wp2_with fail
      go_ret
      exact ⟨by rw [HX.out]; rfl, rfl⟩
theorem contains_v (A : Option Addr) (n c : Nat) (l : List Int) (q : Int) (w : World) (h : IsInts w A n l) (b : Bool) (hb : decide (q ∈ l) = b) : Calls Try.prog 26 #[.slice A n c, .int .i64 q] w fun e w' => e = .returned (.bool b) ∧ w = w' := by
  obtain ⟨z, hz⟩ : ∃ z, firstAt q 0 l = z := ⟨_, rfl⟩
  have hzb : decide (0 ≤ z) = b := by rw [← hz, firstAt_in, hb]
  have H := Lib.hid (And.intro h hz)
  clear h hz hb
  cases b
  all_goals
    go_enter Try.func26, Try.ntmps26
    go_wp2_with fail
    refine (index_v A n c l q w H.out.1).mono ?_
    rw [H.out.2]
    rintro e w1 ⟨rfl, rfl⟩
    go_wp2_with fail
    go_ret
    exact ⟨rfl, rfl⟩
set_option maxHeartbeats 1000000 in
theorem in_v (A : Option Addr) (n c : Nat) (l : List Int) (q : Int) (w : World) (h : IsInts w A n l) (b : Bool) (hb : decide (q ∈ l) = b) : Calls Try.prog 17 #[.slice A n c, .int .i64 q] w fun e w' => e = .returned (.bool b) ∧ w = w' := by
  have hm := h.2.1
  have H0 := Lib.hid h
  have HB := Lib.hid hb
  clear h hb
  go_enter Try.func17, Try.ntmps17
  go_wp2_with fail
  go_loopg [5] n (fun gk u wr => ∃ k : Nat, k + gk = n ∧ u = .int .i64 (k : Int) ∧ Hid (wr = w ∧ ∀ (j : Nat) (y : Int), j < k → l[j]? = some y → ¬ y = q))
  case atStart => exact ⟨0, by omega, rfl, rfl, fun j y hj => by omega⟩
  case round =>
    obtain ⟨k, hk, rfl, HH⟩ := hrel
    obtain rfl := HH.out.1
    by_cases hlt : k < n
    · obtain ⟨g, o, rfl, hg, y, hy, c0⟩ := H0.out.at hlt
      have i1 : (k : Int) < (n : Int) := by omega
      by_cases hq : y = q
      · subst hq
        have HX := Lib.hid (List.mem_of_getElem? hy)
        clear hy
        go_wp2_with fail
        go_ret
        exact ⟨by rw [← HB.out, decide_eq_true HX.out]; rfl, rfl⟩
      · have RR : Hid (∀ (j : Nat) (z : Int), j < k + 1 → l[j]? = some z → ¬ z = q) := Lib.hid (fun j z hj h2 => by
          rcases Nat.lt_or_ge j k with h4 | h4
          · exact HH.out.2 j z h4 h2
          · obtain rfl : j = k := by omega
            rw [hy] at h2; injection h2 with h2; subst h2; exact hq)
        clear hy
        go_wp2_with fail
        go_roundg (gk - 1)
        case measure => omega
        case rel => exact ⟨k + 1, by omega, by go_num, rfl, RR.out⟩
    · obtain rfl : k = n := by omega
      have hge : ¬ (k : Int) < (k : Int) := by omega
      have HX := Lib.hid (show ¬ q ∈ l from fun hm => by
        obtain ⟨j, hj, e⟩ := List.getElem_of_mem hm
        exact HH.out.2 j l[j] (by have := H0.out.1; omega) (List.getElem?_eq_getElem hj) e)
      go_wp2_with fail
      go_ret
      exact ⟨by rw [← HB.out, decide_eq_false HX.out]; rfl, rfl⟩
/-- Does a call spoil a place? -/
def spB (i : Tgt) (k c n : Int) : Bool := if k = 2 then (if c = 0 then decide (n ∈ i.c0) else if c = 1 then decide (n ∈ i.c1) else false) else false
theorem sp_cells {W : World} {P : Nat} {r0 r1 sl k c n : Int} {a0 a1 : Option Addr} {n0 m0 n1 m1 : Nat} (h : W.heap[P]? = some (.cells #[.int .i64 r0, .int .i64 r1, .slice a0 n0 m0, .slice a1 n1 m1, .int .i64 sl] 26 (0, 0))) (h' : W.heap[P + 1]? = some (.cells #[.int .i64 k, .int .i64 c, .int .i64 n] 28 (0, 0))) :
    W.cell? ⟨P, 0, none⟩ = some (.int .i64 r0) ∧ W.cell? ⟨P, 1, none⟩ = some (.int .i64 r1) ∧ W.cell? ⟨P, 2, none⟩ = some (.slice a0 n0 m0) ∧ W.cell? ⟨P, 3, none⟩ = some (.slice a1 n1 m1) ∧ W.cell? ⟨P, 4, none⟩ = some (.int .i64 sl) ∧ W.cell? ⟨P + 1, 0, none⟩ = some (.int .i64 k) ∧ W.cell? ⟨P + 1, 1, none⟩ = some (.int .i64 c) ∧ W.cell? ⟨P + 1, 2, none⟩ = some (.int .i64 n) :=
  ⟨cell_in h 0, cell_in h 1, cell_in h 2, cell_in h 3, cell_in h 4, cell_in h' 0, cell_in h' 1, cell_in h' 2⟩
set_option maxHeartbeats 1000000 in
theorem spoils_r0 (i : Tgt) (r : TgtV) (n : Int) (w : World) (h : IsTgt w i r) (b : Bool) (hb : decide (n ∈ i.c0) = b) :
    Calls Try.prog 11 #[.agg (tgtR i r), .agg #[.int .i64 2, .int .i64 0, .int .i64 n]] w fun e w' => e = .returned (.bool b) ∧ Below w.heap.size w w' := by
  have B0 : Below w.heap.size w ((w.alloc (.cells (tgtR i r) 26)).alloc (.cells #[.int .i64 2, .int .i64 0, .int .i64 n] 28)) := ((Below.refl _ w).alloc (Nat.le_refl _) _).alloc (by simp) _
  have D := Lib.hid (And.intro (h.below B0) (And.intro B0 (And.intro (show w.heap.size ≤ ((w.alloc (.cells (tgtR i r) 26)).alloc (.cells #[.int .i64 2, .int .i64 0, .int .i64 n] 28)).heap.size by simp; omega) (box_two w (.cells (tgtR i r) 26) (.cells #[.int .i64 2, .int .i64 0, .int .i64 n] 28)))))
  clear h B0
  obtain ⟨r0, r1, c0, c1, sl⟩ := i
  obtain ⟨a0, n0, m0, a1, n1, m1⟩ := r
  unfold tgtR at D ⊢
  dsimp only at D hb ⊢
  obtain ⟨wa, hwa⟩ : ∃ wa, (w.alloc (.cells #[.int .i64 r0, .int .i64 r1, .slice a0 n0 m0, .slice a1 n1 m1, .int .i64 sl] 26)).alloc (.cells #[.int .i64 2, .int .i64 0, .int .i64 n] 28) = wa := ⟨_, rfl⟩
  rw [hwa] at D
  have HI := Lib.hid D.out.1
  have HB := Lib.hid hb
  clear hb
  obtain ⟨t0, t1, t2, t3, t4⟩ := tgt_cells D.out.2.2.2.1
  obtain ⟨l0, l1, l2⟩ := loc_cells D.out.2.2.2.2
  go_enter Try.func11, Try.ntmps11
  go_wp2_with fail
  clear hwa
  go_region_held3 (fun W => W.cell? ⟨w.heap.size, 0, none⟩ = some (.int .i64 r0) ∧ W.cell? ⟨w.heap.size, 1, none⟩ = some (.int .i64 r1) ∧ W.cell? ⟨w.heap.size, 2, none⟩ = some (.slice a0 n0 m0) ∧ W.cell? ⟨w.heap.size, 3, none⟩ = some (.slice a1 n1 m1) ∧ W.cell? ⟨w.heap.size, 4, none⟩ = some (.int .i64 sl) ∧ W.cell? ⟨w.heap.size + 1, 0, none⟩ = some (.int .i64 2) ∧ W.cell? ⟨w.heap.size + 1, 1, none⟩ = some (.int .i64 0) ∧ W.cell? ⟨w.heap.size + 1, 2, none⟩ = some (.int .i64 n))
    (first | exact S1.out | exact ⟨t0, t1, t2, t3, t4, l0, l1, l2⟩)
    (first | (go_at_call 26; (refine Calls.mono (contains_v _ _ _ _ n w1 (HI.out.below B1.out).c0 b HB.out) ?_); rintro e w2 ⟨rfl, rfl⟩) | (go_at_call 24; (refine Calls.mono (reg_v 2 0 n true (by decide) wa.drew) ?_); rintro e w1 ⟨rfl, hb1⟩; have S1 := Lib.hid (sp_cells (kept_box (w := wa.drew) D.out.2.2.2.1 hb1) (kept_box (w := wa.drew) D.out.2.2.2.2 hb1)); have B1 := Lib.hid (show Below wa.heap.size wa w1 from (below_drewN wa 1).trans hb1); clear hb1))
  go_wp2_with fail
  go_ret
  exact ⟨rfl, D.out.2.1.trans (B1.out.mono D.out.2.2.1)⟩
set_option maxHeartbeats 1000000 in
theorem spoils_r1 (i : Tgt) (r : TgtV) (n : Int) (w : World) (h : IsTgt w i r) (b : Bool) (hb : decide (n ∈ i.c1) = b) :
    Calls Try.prog 11 #[.agg (tgtR i r), .agg #[.int .i64 2, .int .i64 1, .int .i64 n]] w fun e w' => e = .returned (.bool b) ∧ Below w.heap.size w w' := by
  have B0 : Below w.heap.size w ((w.alloc (.cells (tgtR i r) 26)).alloc (.cells #[.int .i64 2, .int .i64 1, .int .i64 n] 28)) := ((Below.refl _ w).alloc (Nat.le_refl _) _).alloc (by simp) _
  have D := Lib.hid (And.intro (h.below B0) (And.intro B0 (And.intro (show w.heap.size ≤ ((w.alloc (.cells (tgtR i r) 26)).alloc (.cells #[.int .i64 2, .int .i64 1, .int .i64 n] 28)).heap.size by simp; omega) (box_two w (.cells (tgtR i r) 26) (.cells #[.int .i64 2, .int .i64 1, .int .i64 n] 28)))))
  clear h B0
  obtain ⟨r0, r1, c0, c1, sl⟩ := i
  obtain ⟨a0, n0, m0, a1, n1, m1⟩ := r
  unfold tgtR at D ⊢
  dsimp only at D hb ⊢
  obtain ⟨wa, hwa⟩ : ∃ wa, (w.alloc (.cells #[.int .i64 r0, .int .i64 r1, .slice a0 n0 m0, .slice a1 n1 m1, .int .i64 sl] 26)).alloc (.cells #[.int .i64 2, .int .i64 1, .int .i64 n] 28) = wa := ⟨_, rfl⟩
  rw [hwa] at D
  have HI := Lib.hid D.out.1
  have HB := Lib.hid hb
  clear hb
  obtain ⟨t0, t1, t2, t3, t4⟩ := tgt_cells D.out.2.2.2.1
  obtain ⟨l0, l1, l2⟩ := loc_cells D.out.2.2.2.2
  go_enter Try.func11, Try.ntmps11
  go_wp2_with fail
  clear hwa
  go_region_held3 (fun W => W.cell? ⟨w.heap.size, 0, none⟩ = some (.int .i64 r0) ∧ W.cell? ⟨w.heap.size, 1, none⟩ = some (.int .i64 r1) ∧ W.cell? ⟨w.heap.size, 2, none⟩ = some (.slice a0 n0 m0) ∧ W.cell? ⟨w.heap.size, 3, none⟩ = some (.slice a1 n1 m1) ∧ W.cell? ⟨w.heap.size, 4, none⟩ = some (.int .i64 sl) ∧ W.cell? ⟨w.heap.size + 1, 0, none⟩ = some (.int .i64 2) ∧ W.cell? ⟨w.heap.size + 1, 1, none⟩ = some (.int .i64 1) ∧ W.cell? ⟨w.heap.size + 1, 2, none⟩ = some (.int .i64 n))
    (first | exact S1.out | exact ⟨t0, t1, t2, t3, t4, l0, l1, l2⟩)
    (first | (go_at_call 26; (refine Calls.mono (contains_v _ _ _ _ n w1 (HI.out.below B1.out).c1 b HB.out) ?_); rintro e w2 ⟨rfl, rfl⟩) | (go_at_call 24; (refine Calls.mono (reg_v 2 1 n true (by decide) wa.drew) ?_); rintro e w1 ⟨rfl, hb1⟩; have S1 := Lib.hid (sp_cells (kept_box (w := wa.drew) D.out.2.2.2.1 hb1) (kept_box (w := wa.drew) D.out.2.2.2.2 hb1)); have B1 := Lib.hid (show Below wa.heap.size wa w1 from (below_drewN wa 1).trans hb1); clear hb1))
  go_wp2_with fail
  go_ret
  exact ⟨rfl, D.out.2.1.trans (B1.out.mono D.out.2.2.1)⟩
set_option maxHeartbeats 1000000 in
theorem spoils_no (i : Tgt) (r : TgtV) (k c n : Int) (w : World) (h : IsTgt w i r) (hr : regB k c = false) (b : Bool) (hb : false = b) :
    Calls Try.prog 11 #[.agg (tgtR i r), .agg #[.int .i64 k, .int .i64 c, .int .i64 n]] w fun e w' => e = .returned (.bool b) ∧ Below w.heap.size w w' := by
  have B0 : Below w.heap.size w ((w.alloc (.cells (tgtR i r) 26)).alloc (.cells #[.int .i64 k, .int .i64 c, .int .i64 n] 28)) := ((Below.refl _ w).alloc (Nat.le_refl _) _).alloc (by simp) _
  have D := Lib.hid (And.intro (h.below B0) (And.intro B0 (And.intro (show w.heap.size ≤ ((w.alloc (.cells (tgtR i r) 26)).alloc (.cells #[.int .i64 k, .int .i64 c, .int .i64 n] 28)).heap.size by simp; omega) (box_two w (.cells (tgtR i r) 26) (.cells #[.int .i64 k, .int .i64 c, .int .i64 n] 28)))))
  clear h B0
  obtain ⟨r0, r1, c0, c1, sl⟩ := i
  obtain ⟨a0, n0, m0, a1, n1, m1⟩ := r
  unfold tgtR at D ⊢
  dsimp only at D hb ⊢
  obtain ⟨wa, hwa⟩ : ∃ wa, (w.alloc (.cells #[.int .i64 r0, .int .i64 r1, .slice a0 n0 m0, .slice a1 n1 m1, .int .i64 sl] 26)).alloc (.cells #[.int .i64 k, .int .i64 c, .int .i64 n] 28) = wa := ⟨_, rfl⟩
  rw [hwa] at D
  have HI := Lib.hid D.out.1
  replace hb := hb.symm
  subst hb
  have HR := Lib.hid hr
  clear hr
  obtain ⟨t0, t1, t2, t3, t4⟩ := tgt_cells D.out.2.2.2.1
  obtain ⟨l0, l1, l2⟩ := loc_cells D.out.2.2.2.2
  go_enter Try.func11, Try.ntmps11
  go_wp2_with fail
  clear hwa
  (first | go_region_with ((go_at_call 24; refine (reg_v k c n false HR.out _).mono ?_; rintro e w1 ⟨rfl, hb1⟩; have B1 := Lib.hid (show Below wa.heap.size wa w1 from (below_drewN wa 1).trans hb1); clear hb1)) | fail)
  all_goals
    go_wp2_with fail
    go_ret
    exact ⟨rfl, D.out.2.1.trans (B1.out.mono D.out.2.2.1)⟩
theorem spoils_v (i : Tgt) (r : TgtV) (k c n : Int) (w : World) (h : IsTgt w i r) (b : Bool) (hb : spB i k c n = b) :
    Calls Try.prog 11 #[.agg (tgtR i r), .agg #[.int .i64 k, .int .i64 c, .int .i64 n]] w fun e w' => e = .returned (.bool b) ∧ Below w.heap.size w w' := by
  unfold spB at hb
  by_cases h2 : k = 2
  · rw [if_pos h2] at hb
    subst h2
    by_cases h0 : c = 0
    · rw [if_pos h0] at hb; subst h0; exact spoils_r0 i r n w h b hb
    by_cases h1 : c = 1
    · rw [if_neg h0, if_pos h1] at hb; subst h1; exact spoils_r1 i r n w h b hb
    rw [if_neg h0, if_neg h1] at hb
    exact spoils_no i r 2 c n w h (by unfold regB; rw [← Bool.decide_and, ← Bool.decide_and, decide_eq_false_iff_not]; omega) b hb
  rw [if_neg h2] at hb
  exact spoils_no i r k c n w h (by unfold regB; rw [decide_eq_false h2]; rfl) b hb
set_option maxHeartbeats 1000000 in
theorem rspoils_r0 (i : Tgt) (r : TgtV) (n : Int) (w : World) (h : IsTgt w i r) (b : Bool) (hb : decide (n ∈ i.c0) = b) :
    Calls Try.prog 12 #[.agg (tgtR i r), .agg #[.int .i64 2, .int .i64 0, .int .i64 n]] w fun e w' => e = .returned (.bool b) ∧ Below w.heap.size w w' := by
  have B0 : Below w.heap.size w ((w.alloc (.cells (tgtR i r) 26)).alloc (.cells #[.int .i64 2, .int .i64 0, .int .i64 n] 28)) := ((Below.refl _ w).alloc (Nat.le_refl _) _).alloc (by simp) _
  have D := Lib.hid (And.intro (h.below B0) (And.intro B0 (And.intro (show w.heap.size ≤ ((w.alloc (.cells (tgtR i r) 26)).alloc (.cells #[.int .i64 2, .int .i64 0, .int .i64 n] 28)).heap.size by simp; omega) (box_two w (.cells (tgtR i r) 26) (.cells #[.int .i64 2, .int .i64 0, .int .i64 n] 28)))))
  clear h B0
  obtain ⟨r0, r1, c0, c1, sl⟩ := i
  obtain ⟨a0, n0, m0, a1, n1, m1⟩ := r
  unfold tgtR at D ⊢
  dsimp only at D hb ⊢
  obtain ⟨wa, hwa⟩ : ∃ wa, (w.alloc (.cells #[.int .i64 r0, .int .i64 r1, .slice a0 n0 m0, .slice a1 n1 m1, .int .i64 sl] 26)).alloc (.cells #[.int .i64 2, .int .i64 0, .int .i64 n] 28) = wa := ⟨_, rfl⟩
  rw [hwa] at D
  have hm := D.out.1.c0.2.1
  dsimp only at hm
  have HB := Lib.hid hb
  clear hb
  obtain ⟨t0, t1, t2, t3, t4⟩ := tgt_cells D.out.2.2.2.1
  obtain ⟨l0, l1, l2⟩ := loc_cells D.out.2.2.2.2
  go_enter Try.func12, Try.ntmps12
  go_wp2_with fail
  clear hwa
  clear t0 t1 t2 t3 t4 l0 l1 l2
  go_loopg [5] n0 (fun gk u wr => ∃ k : Nat, k + gk = n0 ∧ u = .int .i64 (k : Int) ∧ Hid ((∃ nd, wr = wa.drewN nd) ∧ ∀ (j : Nat) (y : Int), j < k → c0[j]? = some y → ¬ y = n))
  case atStart => exact ⟨0, by omega, rfl, ⟨0, rfl⟩, fun j y hj => by omega⟩
  case round =>
    obtain ⟨k, hk, rfl, HH⟩ := hrel
    obtain ⟨nd, hnd⟩ := HH.out.1
    have B1 := Lib.hid (show Below wa.heap.size wa wr from hnd ▸ below_drewN wa nd)
    have HND := Lib.hid hnd
    obtain ⟨t0, t1, t2, t3, t4⟩ := tgt_cells (kept_box D.out.2.2.2.1 B1.out)
    obtain ⟨l0, l1, l2⟩ := loc_cells (kept_box D.out.2.2.2.2 B1.out)
    have H0 := Lib.hid (D.out.1.below B1.out).c0
    clear hnd
    by_cases hlt : k < n0
    · obtain ⟨g, o, hA, hg, y, hy, c0'⟩ := H0.out.at hlt
      dsimp only at hA
      subst hA
      have i1 : (k : Int) < (n0 : Int) := by omega
      cases hq : y == n
      · have hq2 : ¬ y = n := by rw [beq_eq_false_iff_ne] at hq; exact hq
        have RR : Hid (∀ (j : Nat) (z : Int), j < k + 1 → c0[j]? = some z → ¬ z = n) := Lib.hid (fun j z hj h2 => by
          rcases Nat.lt_or_ge j k with h4 | h4
          · exact HH.out.2 j z h4 h2
          · obtain rfl : j = k := by omega
            rw [hy] at h2; injection h2 with h2; subst h2; exact hq2)
        clear hy hq2
        go_wp2_with fail
        go_quiet (fail)
        go_wp2_with fail
        go_roundg (gk - 1)
        case measure => omega
        case rel => exact ⟨k + 1, by omega, by go_num, ⟨nd + _, by rw [← World.drewN_drewN, ← HND.out]⟩, RR.out⟩
      · have hq2 : y = n := by simpa using hq
        subst hq2
        have HX := Lib.hid (List.mem_of_getElem? hy)
        clear hy
        go_wp2_with fail
        go_quiet (fail)
        go_wp2_with fail
        go_ret
        exact ⟨by rw [← HB.out, decide_eq_true HX.out]; rfl, D.out.2.1.trans ((Below.drewQ B1.out _).mono D.out.2.2.1)⟩
    · obtain rfl : k = n0 := by omega
      have hge : ¬ (k : Int) < (k : Int) := by omega
      have HX := Lib.hid (show ¬ n ∈ c0 from fun hm => by
        obtain ⟨j, hj, e⟩ := List.getElem_of_mem hm
        exact HH.out.2 j c0[j] (by have := H0.out.1; dsimp only at this; omega) (List.getElem?_eq_getElem hj) e)
      go_wp2_with fail
      go_ret
      exact ⟨by rw [← HB.out, decide_eq_false HX.out]; rfl, D.out.2.1.trans (B1.out.mono D.out.2.2.1)⟩
set_option maxHeartbeats 1000000 in
theorem rspoils_r1 (i : Tgt) (r : TgtV) (n : Int) (w : World) (h : IsTgt w i r) (b : Bool) (hb : decide (n ∈ i.c1) = b) :
    Calls Try.prog 12 #[.agg (tgtR i r), .agg #[.int .i64 2, .int .i64 1, .int .i64 n]] w fun e w' => e = .returned (.bool b) ∧ Below w.heap.size w w' := by
  have B0 : Below w.heap.size w ((w.alloc (.cells (tgtR i r) 26)).alloc (.cells #[.int .i64 2, .int .i64 1, .int .i64 n] 28)) := ((Below.refl _ w).alloc (Nat.le_refl _) _).alloc (by simp) _
  have D := Lib.hid (And.intro (h.below B0) (And.intro B0 (And.intro (show w.heap.size ≤ ((w.alloc (.cells (tgtR i r) 26)).alloc (.cells #[.int .i64 2, .int .i64 1, .int .i64 n] 28)).heap.size by simp; omega) (box_two w (.cells (tgtR i r) 26) (.cells #[.int .i64 2, .int .i64 1, .int .i64 n] 28)))))
  clear h B0
  obtain ⟨r0, r1, c0, c1, sl⟩ := i
  obtain ⟨a0, n0, m0, a1, n1, m1⟩ := r
  unfold tgtR at D ⊢
  dsimp only at D hb ⊢
  obtain ⟨wa, hwa⟩ : ∃ wa, (w.alloc (.cells #[.int .i64 r0, .int .i64 r1, .slice a0 n0 m0, .slice a1 n1 m1, .int .i64 sl] 26)).alloc (.cells #[.int .i64 2, .int .i64 1, .int .i64 n] 28) = wa := ⟨_, rfl⟩
  rw [hwa] at D
  have hm := D.out.1.c1.2.1
  dsimp only at hm
  have HB := Lib.hid hb
  clear hb
  obtain ⟨t0, t1, t2, t3, t4⟩ := tgt_cells D.out.2.2.2.1
  obtain ⟨l0, l1, l2⟩ := loc_cells D.out.2.2.2.2
  go_enter Try.func12, Try.ntmps12
  go_wp2_with fail
  clear hwa
  clear t0 t1 t2 t3 t4 l0 l1 l2
  go_loopg [5] n1 (fun gk u wr => ∃ k : Nat, k + gk = n1 ∧ u = .int .i64 (k : Int) ∧ Hid ((∃ nd, wr = wa.drewN nd) ∧ ∀ (j : Nat) (y : Int), j < k → c1[j]? = some y → ¬ y = n))
  case atStart => exact ⟨0, by omega, rfl, ⟨0, rfl⟩, fun j y hj => by omega⟩
  case round =>
    obtain ⟨k, hk, rfl, HH⟩ := hrel
    obtain ⟨nd, hnd⟩ := HH.out.1
    have B1 := Lib.hid (show Below wa.heap.size wa wr from hnd ▸ below_drewN wa nd)
    have HND := Lib.hid hnd
    obtain ⟨t0, t1, t2, t3, t4⟩ := tgt_cells (kept_box D.out.2.2.2.1 B1.out)
    obtain ⟨l0, l1, l2⟩ := loc_cells (kept_box D.out.2.2.2.2 B1.out)
    have H0 := Lib.hid (D.out.1.below B1.out).c1
    clear hnd
    by_cases hlt : k < n1
    · obtain ⟨g, o, hA, hg, y, hy, c0'⟩ := H0.out.at hlt
      dsimp only at hA
      subst hA
      have i1 : (k : Int) < (n1 : Int) := by omega
      cases hq : y == n
      · have hq2 : ¬ y = n := by rw [beq_eq_false_iff_ne] at hq; exact hq
        have RR : Hid (∀ (j : Nat) (z : Int), j < k + 1 → c1[j]? = some z → ¬ z = n) := Lib.hid (fun j z hj h2 => by
          rcases Nat.lt_or_ge j k with h4 | h4
          · exact HH.out.2 j z h4 h2
          · obtain rfl : j = k := by omega
            rw [hy] at h2; injection h2 with h2; subst h2; exact hq2)
        clear hy hq2
        go_wp2_with fail
        go_quiet (fail)
        go_wp2_with fail
        go_roundg (gk - 1)
        case measure => omega
        case rel => exact ⟨k + 1, by omega, by go_num, ⟨nd + _, by rw [← World.drewN_drewN, ← HND.out]⟩, RR.out⟩
      · have hq2 : y = n := by simpa using hq
        subst hq2
        have HX := Lib.hid (List.mem_of_getElem? hy)
        clear hy
        go_wp2_with fail
        go_quiet (fail)
        go_wp2_with fail
        go_ret
        exact ⟨by rw [← HB.out, decide_eq_true HX.out]; rfl, D.out.2.1.trans ((Below.drewQ B1.out _).mono D.out.2.2.1)⟩
    · obtain rfl : k = n1 := by omega
      have hge : ¬ (k : Int) < (k : Int) := by omega
      have HX := Lib.hid (show ¬ n ∈ c1 from fun hm => by
        obtain ⟨j, hj, e⟩ := List.getElem_of_mem hm
        exact HH.out.2 j c1[j] (by have := H0.out.1; dsimp only at this; omega) (List.getElem?_eq_getElem hj) e)
      go_wp2_with fail
      go_ret
      exact ⟨by rw [← HB.out, decide_eq_false HX.out]; rfl, D.out.2.1.trans (B1.out.mono D.out.2.2.1)⟩
set_option maxHeartbeats 1000000 in
theorem rspoils_n (i : Tgt) (r : TgtV) (k c n : Int) (w : World) (h : IsTgt w i r) (hr : (k == 2) = false ∨ ((c == 0) = false ∧ (c == 1) = false)) (b : Bool) (hb : false = b) :
    Calls Try.prog 12 #[.agg (tgtR i r), .agg #[.int .i64 k, .int .i64 c, .int .i64 n]] w fun e w' => e = .returned (.bool b) ∧ Below w.heap.size w w' := by
  have B0 : Below w.heap.size w ((w.alloc (.cells (tgtR i r) 26)).alloc (.cells #[.int .i64 k, .int .i64 c, .int .i64 n] 28)) := ((Below.refl _ w).alloc (Nat.le_refl _) _).alloc (by simp) _
  have D := Lib.hid (And.intro (h.below B0) (And.intro B0 (And.intro (show w.heap.size ≤ ((w.alloc (.cells (tgtR i r) 26)).alloc (.cells #[.int .i64 k, .int .i64 c, .int .i64 n] 28)).heap.size by simp; omega) (box_two w (.cells (tgtR i r) 26) (.cells #[.int .i64 k, .int .i64 c, .int .i64 n] 28)))))
  clear h B0
  obtain ⟨r0, r1, c0, c1, sl⟩ := i
  obtain ⟨a0, n0, m0, a1, n1, m1⟩ := r
  unfold tgtR at D ⊢
  dsimp only at D hb ⊢
  obtain ⟨wa, hwa⟩ : ∃ wa, (w.alloc (.cells #[.int .i64 r0, .int .i64 r1, .slice a0 n0 m0, .slice a1 n1 m1, .int .i64 sl] 26)).alloc (.cells #[.int .i64 k, .int .i64 c, .int .i64 n] 28) = wa := ⟨_, rfl⟩
  rw [hwa] at D
  replace hb := hb.symm
  subst hb
  obtain ⟨t0, t1, t2, t3, t4⟩ := tgt_cells D.out.2.2.2.1
  obtain ⟨l0, l1, l2⟩ := loc_cells D.out.2.2.2.2
  have B1 := Lib.hid (Below.refl wa.heap.size wa)
  rcases hr with d0 | ⟨d0, d1⟩
  · have d0' : (k != 2) = true := by rw [bne, d0]; rfl
    go_enter Try.func12, Try.ntmps12
    go_wp2_with fail
    go_ret
    exact ⟨rfl, D.out.2.1⟩
  · have d0' : (c != 0) = true := by rw [bne, d0]; rfl
    have d1' : (c != 1) = true := by rw [bne, d1]; rfl
    cases dk : k != 2
    all_goals
      go_enter Try.func12, Try.ntmps12
      go_wp2_with fail
      go_ret
      exact ⟨rfl, D.out.2.1⟩
theorem rspoils_v (i : Tgt) (r : TgtV) (k c n : Int) (w : World) (h : IsTgt w i r) (b : Bool) (hb : spB i k c n = b) :
    Calls Try.prog 12 #[.agg (tgtR i r), .agg #[.int .i64 k, .int .i64 c, .int .i64 n]] w fun e w' => e = .returned (.bool b) ∧ Below w.heap.size w w' := by
  unfold spB at hb
  by_cases h2 : k = 2
  · rw [if_pos h2] at hb
    subst h2
    by_cases h0 : c = 0
    · rw [if_pos h0] at hb; subst h0; exact rspoils_r0 i r n w h b hb
    by_cases h1 : c = 1
    · rw [if_neg h0, if_pos h1] at hb; subst h1; exact rspoils_r1 i r n w h b hb
    rw [if_neg h0, if_neg h1] at hb
    exact rspoils_n i r 2 c n w h (.inr ⟨by rw [beq_eq_false_iff_ne]; exact h0, by rw [beq_eq_false_iff_ne]; exact h1⟩) b hb
  rw [if_neg h2] at hb
  exact rspoils_n i r k c n w h (.inl (by rw [beq_eq_false_iff_ne]; exact h2)) b hb
end Go.Proofs.Ytmfodjdgekafoaa
