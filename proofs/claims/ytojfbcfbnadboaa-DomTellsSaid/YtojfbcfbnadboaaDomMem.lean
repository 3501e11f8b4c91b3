
/- Numbers in a block of the call's own, stored one by one; slices.Repeat at one number; where two places meet. -/
import Derived.Test.YtojfbcfbnadboaaGraRow
import Derived.Test.YtojfbcfbnadboaaGraZ
import Derived.Test.YtojfbcfbnadboaaDomA
import Derived.Test.YtojfbcfbnadboaaShelf2
import Derived.Laws.CopyOwn
import Derived.StillTailTactics
import Derived.Deep.CutRange
namespace Go.Proofs.Ytojfbcfbnadboaa.Gra
open Go.ChangeShapes Go.WideShapes Go.RowKit Par
set_option linter.unusedVariables false
set_option maxRecDepth 20000
set_option maxHeartbeats 2000000

structure Ir (W : World) (g n : Nat) (v : Nat → Int) : Prop where
  lt : g < W.heap.size
  cell : ∀ k, k < n → W.cell? ⟨g, k, none⟩ = some (.int .i64 (v k))
  free : ∀ k, W.frozen? ⟨g, k, none⟩ = false
theorem Ir.grown {W W' : World} {g n : Nat} {v : Nat → Int} {row : Option Nat} (h : Ir W g n v) (hg : W.grownBy W' row) (hne : row ≠ some g) : Ir W' g n v :=
  ⟨Nat.lt_of_lt_of_le h.lt hg.size, fun k hk => (hg.cell_far ⟨g, k, none⟩ h.lt (fun e => hne e.symm)).trans (h.cell k hk), fun k => (hg.frozen_far ⟨g, k, none⟩ h.lt (fun e => hne e.symm)).trans (h.free k)⟩
theorem Ir.below {W W' : World} {g n : Nat} {v : Nat → Int} (h : Ir W g n v) (hb : Below W.heap.size W W') : Ir W' g n v :=
  h.grown (row := none) ⟨hb.os, hb.tape, hb.output, hb.size, fun k hk _ => hb.block k hk⟩ (by simp)
theorem Ir.put {W : World} {g n i : Nat} {v : Nat → Int} (h : Ir W g n v) (hi : i < n) (x : Int) : Ir (W.setCell ⟨g, i, none⟩ (.int .i64 x)) g n (upd v i x) := by
  refine ⟨by simpa [World.setCell] using h.lt, fun j hj => ?_, fun j => by rw [World.frozen?_setCell]; exact h.free j⟩
  by_cases e : j = i
  · subst e
    rw [World.cell?_setCell_same (h := h.cell j hi), upd_same]
  · rw [World.cell?_setCell_other (h := by intro q; injection q with _ q; exact e q.symm), h.cell j hj, upd_else _ _ e]
theorem Ir.other {W : World} {g n b o : Nat} {v : Nat → Int} (h : Ir W g n v) (hb : b ≠ g) (x : Value) : Ir (W.setCell ⟨b, o, none⟩ x) g n v :=
  ⟨by simpa [World.setCell] using h.lt, fun j hj => by rw [World.cell?_setCell_other (h := by intro q; injection q with q _; exact hb q)]; exact h.cell j hj, fun j => by rw [World.frozen?_setCell]; exact h.free j⟩
theorem Ir.congr {W : World} {g n : Nat} {v u : Nat → Int} (h : Ir W g n v) (he : ∀ k, k < n → v k = u k) : Ir W g n u :=
  ⟨h.lt, fun k hk => by rw [← he k hk]; exact h.cell k hk, h.free⟩
theorem ir_made {N : Nat} {w : World} {g n : Nat} (h : w.ownsRow N 3 1 (.slice (some ⟨g, 0, none⟩) n n) n (madeCells #[Value.int .i64 0] n).toList) : Ir w g n (fun _ => 0) := by
  have h1 := h.lt g rfl
  exact ⟨h1.2, fun k hk => by rw [h.cellAt k (by omega), toList_madeCells_one, List.getElem?_replicate, if_pos hk], fun k => h.frozenAt k⟩
theorem Ir.ints {W : World} {g n : Nat} {v : Nat → Int} (h : Ir W g n v) (hn : n ≤ 9223372036854775807) : IsInts W (some ⟨g, 0, none⟩) n ((List.range n).map v) := by
  refine ⟨by simp, hn, .inr ⟨g, 0, rfl, h.lt, fun k hk => ?_⟩⟩
  rw [Nat.zero_add]
  simp at hk
  rw [h.cell k hk]
  simp
theorem intInfo : (Try.prog.info? 3).map (fun i => (i.zero, i.size, i.bytes)) = some (some (.int .i64 0), 1, 8) := by kernel_rfl
/-- The same number in a row of cells. -/
def fillV (v : Nat → Int) (o q : Nat) (x : Int) : Nat → Int := fun j => if o ≤ j ∧ j < o + q then x else v j
theorem Ir.fill {g n : Nat} {x : Int} : ∀ (q o : Nat) (W : World) (v : Nat → Int), Ir W g n v → o + q ≤ n → Ir (W.setCells g o (List.replicate q (.int .i64 x))) g n (fillV v o q x) ∧ ∀ B a, B ≤ g → Below B a W → Below B a (W.setCells g o (List.replicate q (.int .i64 x)))
  | 0, o, W, v, h, _ => ⟨h.congr fun k hk => by unfold fillV; rw [if_neg (by omega)], fun _ _ _ hb => hb⟩
  | q + 1, o, W, v, h, hq => by
    rw [List.replicate_succ]
    show Ir ((W.setCell ⟨g, o, none⟩ (.int .i64 x)).setCells g (o + 1) _) g n _ ∧ _
    obtain ⟨h1, h2⟩ := Ir.fill q (o + 1) (W.setCell ⟨g, o, none⟩ (.int .i64 x)) (upd v o x) (h.put (by omega) x) (by omega)
    refine ⟨h1.congr fun k hk => ?_, fun B a hB hb => h2 B a hB (hb.setCell (p := ⟨g, o, none⟩) hB _)⟩
    unfold fillV
    by_cases e : k = o
    · subst e
      rw [if_neg (by omega), upd_same, if_pos (by omega)]
    · rw [upd_else _ _ e]
      by_cases e2 : o + 1 ≤ k ∧ k < o + 1 + q
      · rw [if_pos e2, if_pos (by omega)]
      · rw [if_neg e2, if_neg (by omega)]
theorem fill_copy {W : World} {g n c o q : Nat} {v : Nat → Int} {a : Addr} {x : Int} {dL sL sc : Nat} {ty : TypeId} (h : Ir W g n v) (hoq : o + q ≤ n) (hq : q = Nat.min sL dL) (hs : ∀ j, j < q → W.cell? (a.add j) = some (.int .i64 x)) :
    (Builtin.copy_ #[37, 37] ty #[.slice (some ⟨g, o, none⟩) dL c, .slice (some a) sL sc]).run Try.prog W = .ok (goInt q) (W.setCells g o (List.replicate q (.int .i64 x))) := by
  have h1 := run_copy_cells (P := Try.prog) W 37 37 ty 3 g o dL c a sL sc (List.replicate q (.int .i64 x)) Try.underlying37 (by kernel_rfl) (by rw [List.length_replicate]; exact hq) (fun j u hu => by
    rw [List.getElem?_replicate] at hu
    split at hu
    · injection hu with hu
      subst hu
      exact hs j (by assumption)
    · cases hu) (fun j hj => by
    rw [List.length_replicate] at hj
    rw [h.cell (o + j) (by omega)]
    rfl) (fun j _ => h.free _) (fun u hu => by rw [List.eq_of_mem_replicate hu]; rfl)
  rw [List.length_replicate] at h1
  exact h1
/-- copy, where its run is known. -/
theorem copy_list {P : Program} (w : World) {ops : Array Oper} {rest : List Oper} {o : Oper} {a : Act} {Q : Exit → Act → World → Prop} (hgd : o.guard = none) (d s : Operand) (t t' : TypeId)
    (ho : o.op = .call { callee := .builtin .copy, args := #[d, s], argTypes := #[t, t'] }) (v u : Value) (hd : a.eval d = v) (hs : a.eval s = u) {v' : Value} {w' : World}
    (hr : (Builtin.copy_ #[t, t'] o.type #[v, u]).run P w = .ok v' w') (h : wpList P ops Q rest (a.put o.dst v') w') : wpList P ops Q (o :: rest) a w := by
  refine wpList_plain hgd fun K hK => ?_
  unfold Oper.wp
  simp [execOp, ho, resolve, invoke, builtin, hd, hs, hr, Result.andThen]
  exact hK _ _ h
theorem copy_wp {P : Program} (w : World) {o : Oper} {a : Act} {K : Act → World → Prop} {Q : Exit → Act → World → Prop} (d s : Operand) (t t' : TypeId)
    (ho : o.op = .call { callee := .builtin .copy, args := #[d, s], argTypes := #[t, t'] }) (v u : Value) (hd : a.eval d = v) (hs : a.eval s = u) {v' : Value} {w' : World}
    (hr : (Builtin.copy_ #[t, t'] o.type #[v, u]).run P w = .ok v' w') (h : K (a.put o.dst v') w') : o.wp P a w K Q := by
  unfold Oper.wp
  simp [execOp, ho, resolve, invoke, builtin, hd, hs, hr, Result.andThen]
  exact h
/-- slices.Repeat of one number. -/
theorem repeat_v (b n : Nat) (x : Int) (w : World) (hb : w.heap[b]? = some (.cells #[.int .i64 x] 3 (0, 0))) (hn : n ≤ 1000) :
    Calls Try.prog 54 #[.slice (some ⟨b, 0, none⟩) 1 1, .int .i64 (n : Int)] w fun e w' => (∃ g, e = .returned (.slice (some ⟨g, 0, none⟩) n n) ∧ Ir w' g n (fun _ => x) ∧ w.heap.size ≤ g) ∧ Below w.heap.size w w' := by
  have c0 : w.cell? ⟨b, 0, none⟩ = some (.int .i64 x) := cell_i hb 0
  have HC := Lib.hid c0
  obtain ⟨i0, hi0, hz0, hz1, hz2⟩ := info_parts intInfo
  have I0 := Lib.hid (And.intro hi0 (And.intro hz0 (And.intro hz1 hz2)))
  clear hi0 hz0 hz1 hz2 c0
  have h1 : ¬ (n : Int) < 0 := by omega
  have HM := Lib.hid (Try.bits_Mul 1 n (by omega) (by omega) w)
  rw [Nat.one_mul, Nat.div_eq_of_lt (show n < 18446744073709551616 by omega), Nat.mod_eq_of_lt (show n < 18446744073709551616 by omega)] at HM
  have q1 : IntKind.u64.wrap (n : Int) = (n : Int) := by rw [IntKind.wrap_u64]; omega
  have q2 : IntKind.i64.wrap (n : Int) = (n : Int) := by rw [IntKind.wrap_i64]; omega
  have q3 : ¬ (n : Int) > 9223372036854775807 := by omega
  go_enter Try.func54, Try.ntmps54
  go_wp2_with fail
  refine HM.out.mono ?_
  rintro e w1 ⟨rfl, rfl⟩
  go_wp2_with (at_make; refine wpList_make_full _ rfl _ _ 37 rfl w1.heap.size 3 i0 (.int .i64 0) 1 Try.underlying37 I0.out.1 I0.out.2.1 I0.out.2.2.1 _ _ _ _ n rfl rfl rfl rfl (by rw [I0.out.2.2.2]; omega) (by unfold maxLen; omega) (Nat.le_refl _) ?_)
  intro w2 hown hgrow
  have HB := Lib.hid (And.intro (ir_made hown) ((Below.refl _ w1).grown hgrow (Nat.le_refl _) (by intro k hk; cases hk)))
  clear hown hgrow
  obtain ⟨g, hg⟩ : ∃ g, w1.heap.size = g := ⟨_, rfl⟩
  by_cases h0 : n = 0
  · subst h0
    have hr : ∀ ty, (Builtin.copy_ #[37, 37] ty #[.slice (some ⟨w1.heap.size, 0, none⟩) 0 0, .slice (some ⟨b, 0, none⟩) 1 1]).run Try.prog w2 = .ok (goInt 0) w2 := fun ty => run_copy_none w2 _ _ ty 3 _ _ 0 0 1 1 Try.underlying37 (by kernel_rfl) rfl
    clear hg
    go_wp2_with (at_builtin; refine copy_list _ rfl _ _ 37 37 rfl _ _ rfl rfl (hr _) ?_)
    go_loopg [8] 0 (fun gk s8 wr => s8 = .int .i64 0 ∧ wr = w2)
    case atStart => exact ⟨rfl, rfl⟩
    case round =>
      obtain ⟨rfl, rfl⟩ := hrel
      have t1 : ¬ ((0 : Nat) : Int) < ((0 : Nat) : Int) := by omega
      go_wp2_with fail
      go_ret
      exact ⟨⟨_, rfl, HB.out.1.congr (fun k hk => by omega), Nat.le_refl _⟩, HB.out.2⟩
  · have hr : ∀ ty, (Builtin.copy_ #[37, 37] ty #[.slice (some ⟨w1.heap.size, 0, none⟩) n n, .slice (some ⟨b, 0, none⟩) 1 1]).run Try.prog w2 = .ok (goInt 1) (w2.setCells w1.heap.size 0 (List.replicate 1 (.int .i64 x))) := fun ty => fill_copy (q := 1) HB.out.1 (by omega) (Nat.min_eq_left (by omega)).symm (fun j hj => by
      have : j = 0 := by omega
      subst this
      exact (HB.out.2.cell (p := ⟨b, 0, none⟩) (Array.getElem?_eq_some_iff.1 hb).1).trans HC.out)
    obtain ⟨w3, hw3⟩ : ∃ w3, w2.setCells w1.heap.size 0 (List.replicate 1 (.int .i64 x)) = w3 := ⟨_, rfl⟩
    have hfill := Ir.fill (x := x) (n := n) (g := w1.heap.size) 1 0 w2 _ HB.out.1 (by omega)
    rw [hw3] at hr hfill
    have H3 := Lib.hid (show Ir w3 w1.heap.size n (fun j => if j < 1 then x else 0) ∧ Below w1.heap.size w1 w3 from ⟨hfill.1.congr (fun k hk => by unfold fillV; by_cases e : k < 1 <;> simp [e]), hfill.2 _ _ (Nat.le_refl _) HB.out.2⟩)
    clear hg hfill hw3
    go_wp2_with (at_builtin; refine copy_list _ rfl _ _ 37 37 rfl _ _ rfl rfl (hr _) ?_)
    clear hr
    go_loopg [8] n (fun gk s8 wr => ∃ k : Nat, (n ≤ k + gk ∧ k ≤ n) ∧ 0 < k ∧ s8 = .int .i64 (k : Int) ∧ Hid (Ir wr w1.heap.size n (fun j => if j < k then x else 0) ∧ Below w1.heap.size w1 wr))
    case atStart => exact ⟨1, by omega, by omega, rfl, H3⟩
    case round =>
      obtain ⟨k, hk, hk0, rfl, HK⟩ := hrel
      by_cases hkn : k < n
      · have t1 : (k : Int) < (n : Int) := by omega
        have t2 : (k : Int) ≤ (n : Int) := by omega
        have hnk : ¬ n = k := by omega
        have hnk2 : n ≠ k := by omega
        go_wp2_with fail
        refine region_z 1000 (fun W => True) (by kernel_rfl) ?_
        obtain ⟨wd, hwd⟩ : ∃ wd, wr.drew = wd := ⟨_, rfl⟩
        have HD := Lib.hid (show Ir wd w1.heap.size n (fun j => if j < k then x else 0) ∧ Below w1.heap.size w1 wd from hwd ▸ ⟨HK.out.1.below ((Below.refl _ wr).drew), HK.out.2.drew⟩)
        rw [hwd]
        clear hwd
        refine anyS_take (i := 0) (v := _) rfl (by kernel_rfl) (fun _ _ _ h => h) (Or.inl ⟨by rfl, by intro W hSw; go_simp; try with_reducible rfl⟩) trivial ?_
        try simp only [Act.put, List.getElem_toArray, List.getElem_cons_zero, List.setIfInBounds_toArray, List.set_cons_zero, List.set_cons_succ]
        refine anyS_take (i := 1) (v := _) rfl (by kernel_rfl) (fun _ _ _ h => h) (Or.inl ⟨by rfl, by intro W hSw; go_simp; try with_reducible rfl⟩) trivial ?_
        try simp only [Act.put, List.getElem_toArray, List.getElem_cons_zero, List.getElem_cons_succ, List.setIfInBounds_toArray, List.set_cons_zero, List.set_cons_succ]
        refine anyS_take (i := 2) (v := _) rfl (by kernel_rfl) (fun _ _ _ h => h) (Or.inl ⟨by rfl, by intro W hSw; go_simp; try with_reducible rfl⟩) trivial ?_
        try simp only [Act.put, List.getElem_toArray, List.getElem_cons_zero, List.getElem_cons_succ, List.setIfInBounds_toArray, List.set_cons_zero, List.set_cons_succ]
        refine anyS_take (i := 3) (v := _) rfl (by kernel_rfl) (fun _ _ _ h => h) (Or.inl ⟨by rfl, by intro W hSw; go_simp; try with_reducible rfl⟩) trivial ?_
        try simp only [Act.put, List.getElem_toArray, List.getElem_cons_zero, List.getElem_cons_succ, List.setIfInBounds_toArray, List.set_cons_zero, List.set_cons_succ]
        refine anyS_take (i := 4) (v := _) rfl (by kernel_rfl) (fun _ _ _ h => h) (Or.inl ⟨by rfl, by intro W hSw; go_simp; try with_reducible rfl⟩) trivial ?_
        try simp only [Act.put, List.getElem_toArray, List.getElem_cons_zero, List.getElem_cons_succ, List.setIfInBounds_toArray, List.set_cons_zero, List.set_cons_succ]
        refine anyS_take (i := 5) (v := _) rfl (by kernel_rfl) (fun _ _ _ h => h) (Or.inl ⟨by rfl, by intro W hSw; go_simp; try with_reducible rfl⟩) trivial ?_
        try simp only [Act.put, List.getElem_toArray, List.getElem_cons_zero, List.getElem_cons_succ, List.setIfInBounds_toArray, List.set_cons_zero, List.set_cons_succ]
        refine anyS_take (i := 6) (v := _) rfl (by kernel_rfl) (fun _ _ _ h => h) (Or.inl ⟨by rfl, by intro W hSw; go_simp; try with_reducible rfl⟩) trivial ?_
        try simp only [Act.put, List.getElem_toArray, List.getElem_cons_zero, List.getElem_cons_succ, List.setIfInBounds_toArray, List.set_cons_zero, List.set_cons_succ]
        refine anyZ_one (i := 7) (by kernel_rfl) rfl (fun K hK => ?_)
        rw [if_pos (by rfl)]
        obtain ⟨q, hq⟩ : ∃ q, Nat.min k (n - k) = q := ⟨_, rfl⟩
        have hr : ∀ ty, (Builtin.copy_ #[37, 37] ty #[.slice (some ⟨w1.heap.size, k, none⟩) (n - k) (n - k), .slice (some ⟨w1.heap.size, 0, none⟩) k n]).run Try.prog wd = .ok (goInt q) (wd.setCells w1.heap.size k (List.replicate q (.int .i64 x))) := fun ty => fill_copy (q := q) HD.out.1 (by have : q ≤ n - k := hq ▸ Nat.min_le_right _ _; omega) hq.symm (fun j hj => by
          have hjk : q ≤ k := hq ▸ Nat.min_le_left _ _
          have h9 := HD.out.1.cell j (by omega)
          rw [if_pos (by omega)] at h9
          rw [add_at, Nat.zero_add]
          exact h9)
        obtain ⟨we, hwe⟩ : ∃ we, wd.setCells w1.heap.size k (List.replicate q (.int .i64 x)) = we := ⟨_, rfl⟩
        have hfill := Ir.fill (x := x) (n := n) (g := w1.heap.size) q k wd _ HD.out.1 (by have : q ≤ n - k := hq ▸ Nat.min_le_right _ _; omega)
        rw [hwe] at hr hfill
        have HE := Lib.hid (show Ir we w1.heap.size n (fun j => if j < k + q then x else 0) ∧ Below w1.heap.size w1 we from ⟨hfill.1.congr (fun j hj => by
          unfold fillV
          by_cases e : k ≤ j ∧ j < k + q
          · rw [if_pos e, if_pos (by omega)]
          · rw [if_neg e]
            show (if j < k then x else 0) = _
            by_cases e2 : j < k
            · rw [if_pos e2, if_pos (by omega)]
            · rw [if_neg e2, if_neg (by omega)]), hfill.2 _ _ (Nat.le_refl _) HD.out.2⟩)
        have hq0 : 0 < q ∧ k + q ≤ n := by
          have h8 : q = k ∨ q = n - k := by
            rcases Nat.le_total k (n - k) with h | h
            · exact .inl (by rw [← hq]; exact Nat.min_eq_left h)
            · exact .inr (by rw [← hq]; exact Nat.min_eq_right h)
          have h9 : q ≤ n - k := hq ▸ Nat.min_le_right _ _
          omega
        have t9 : IntKind.i64.wrap ((k : Int) + (q : Int)) = (k : Int) + (q : Int) := by rw [IntKind.wrap_i64]; omega
        refine copy_wp wd _ _ 37 37 rfl _ _ rfl rfl (hr _) ?_
        try simp only [Act.put]
        unfold goInt
        refine hK.out _ _ (fun _ => trivial) ?_
        clear hK K hr hfill hwe
        try simp only [List.getElem_toArray, List.getElem_cons_zero, List.getElem_cons_succ, List.setIfInBounds_toArray, List.set_cons_zero, List.set_cons_succ]
        refine anyZ_one (i := 8) (by kernel_rfl) rfl (fun K hK => ?_)
        go_simp
        refine hK.out _ _ (fun _ => trivial) ?_
        clear hK K
        try simp only [Act.put, List.getElem_toArray, List.getElem_cons_zero, List.getElem_cons_succ, List.setIfInBounds_toArray, List.set_cons_zero, List.set_cons_succ]
        refine anyZ_one (i := 9) (by kernel_rfl) rfl (fun K hK => ?_)
        go_simp
        refine hK.out _ _ (fun _ => trivial) ?_
        clear hK K
        try simp only [Act.put, List.getElem_toArray, List.getElem_cons_zero, List.getElem_cons_succ, List.setIfInBounds_toArray, List.set_cons_zero, List.set_cons_succ]
        refine anyZ_done (by kernel_rfl) ?_ _
        go_wp2_with fail
        go_roundg (n - (k + q))
        case measure => omega
        case rel => exact ⟨k + q, by omega, by omega, by first | rfl | (simp only [t9]; rfl) | go_num, HE⟩
      · obtain rfl : k = n := by omega
        have t1 : ¬ (k : Int) < (k : Int) := by omega
        go_wp2_with fail
        go_ret
        exact ⟨⟨_, rfl, HK.out.1.congr (fun j hj => if_pos hj), Nat.le_refl _⟩, HK.out.2⟩
end Go.Proofs.Ytojfbcfbnadboaa.Gra
