
/- Where an operand stands, and operands written. -/
import Derived.Test.YtakfoncdiejhaaaDoorShoWr
import Derived.Test.YtakfoncdiejhaaaDoorOpr
namespace Go.Proofs.YtakfoncdiejhaaaDoor
open Go.ChangeShapes Go.WideShapes Go.RowKit
set_option linter.unusedVariables false
set_option maxRecDepth 20000

theorem size66 : (Tryd.prog.info? 46).map (·.size) = some 3 := by kernel_rfl
theorem fin_at {fn : Func} {p u : Tmp} (h : fn.results = #[.cell p 46, .tmp u]) {act : Act} {w : World} {g : Nat} {x0 x1 x2 : Value} {R : Ending → World → Prop}
    (hp : act.tmps.getD p undef = .pointer (some ⟨g, 0, none⟩)) (hg : w.heap[g]? = some (.cells #[x0, x1, x2] 46 (0, 0))) (hd : act.defers = [])
    (hR : R (.returned (.tuple #[.agg #[x0, x1, x2], act.tmps.getD u undef])) w) : bodyPost Tryd.prog fn R .ret act w :=
  bodyPost_ret (Opr.results_cell2 h _ _ g 46 _ (0, 0) _ hp hg Tryd.underlying46 rfl size66) hd hR
theorem two_below (w : World) (a b : Obj) : Below w.heap.size w ((w.alloc a).alloc b) := ((Below.refl _ w).alloc (Nat.le_refl _) a).alloc (by simp) b
theorem Wrote.box {w0 W w' : World} {b : Nat} {t : List UInt8} (h : Wrote w0 b t W w') {k : Nat} {cs : Array Value} {T : TypeId} (hk : W.heap[k]? = some (.cells cs T (0, 0))) (h1 : T ≠ 105) (h2 : T ≠ 5) : w'.heap[k]? = some (.cells cs T (0, 0)) := h.2 k cs T h1 h2 hk
theorem four_cells {W : World} {P : Nat} {a0 a1 a2 a3 : Value} {t : TypeId} (h : W.heap[P]? = some (.cells #[a0, a1, a2, a3] t (0, 0))) : W.cell? ⟨P, 0, none⟩ = some a0 ∧ W.cell? ⟨P, 1, none⟩ = some a1 ∧ W.cell? ⟨P, 2, none⟩ = some a2 ∧ W.cell? ⟨P, 3, none⟩ = some a3 := ⟨cell_in h 0, cell_in h 1, cell_in h 2, cell_in h 3⟩
theorem three_cells {W : World} {P : Nat} {a0 a1 a2 : Value} {t : TypeId} (h : W.heap[P]? = some (.cells #[a0, a1, a2] t (0, 0))) : W.cell? ⟨P, 0, none⟩ = some a0 ∧ W.cell? ⟨P, 1, none⟩ = some a1 ∧ W.cell? ⟨P, 2, none⟩ = some a2 := ⟨cell_in h 0, cell_in h 1, cell_in h 2⟩
set_option maxHeartbeats 1000000 in
theorem at_2 (c n t : Int) (w : World) : Calls Tryd.prog 66 #[.agg #[.int .i64 2, .int .i64 c, .int .i64 n, .int .i64 t]] w fun e w' => e = .returned (.tuple #[.agg #[.int .i64 2, .int .i64 c, .int .i64 n], .bool true]) ∧ Below w.heap.size w w' := by
  go_enter Tryd.func66, Tryd.ntmps66
  go_wp2_with fail
  exact fin_at (fn := Tryd.f66) rfl rfl (Tg.box_two _ _ _).2 rfl ⟨rfl, two_below _ _ _⟩
set_option maxHeartbeats 1000000 in
theorem at_3 (c n t : Int) (w : World) : Calls Tryd.prog 66 #[.agg #[.int .i64 3, .int .i64 c, .int .i64 n, .int .i64 t]] w fun e w' => e = .returned (.tuple #[.agg #[.int .i64 3, .int .i64 0, .int .i64 n], .bool true]) ∧ Below w.heap.size w w' := by
  go_enter Tryd.func66, Tryd.ntmps66
  go_wp2_with fail
  exact fin_at (fn := Tryd.f66) rfl rfl (Tg.box_two _ _ _).2 rfl ⟨rfl, two_below _ _ _⟩
set_option maxHeartbeats 1000000 in
theorem operand_0 (w0 : World) (b : Nat) (l t : List UInt8) (c n tg : Int) (W : World) (h : Wr w0 b l W) (ht : l ++ [95] = t) (hlen : t.length ≤ big) :
    Calls Tryd.prog 61 #[.pointer (some ⟨b, 0, none⟩), .agg #[.int .i64 0, .int .i64 c, .int .i64 n, .int .i64 tg]] W fun e w' => e = .returned (.tuple #[]) ∧ Wrote w0 b t W w' := by
  have HA := Lib.hid (And.intro (h.alloc (.cells #[.int .i64 0, .int .i64 c, .int .i64 n, .int .i64 tg] 54)) (And.intro ((Below.refl _ W).alloc (Nat.le_refl _) (.cells #[.int .i64 0, .int .i64 c, .int .i64 n, .int .i64 tg] 54)) (heap_alloc_new W (.cells #[.int .i64 0, .int .i64 c, .int .i64 n, .int .i64 tg] 54))))
  obtain ⟨k0, k1, k2, k3⟩ := four_cells HA.out.2.2
  have HP := Lib.hid (And.intro ht hlen)
  clear h ht hlen
  obtain ⟨wa, hwa⟩ : ∃ wa, W.alloc (.cells #[.int .i64 0, .int .i64 c, .int .i64 n, .int .i64 tg] 54) = wa := ⟨_, rfl⟩
  rw [hwa] at HA k0 k1 k2 k3
  go_enter Tryd.func61, Tryd.ntmps61
  go_wp2_with fail
  refine (write_b w0 b l t 95 95 _ HA.out.1 rfl HP.out.1 HP.out.2).mono ?_
  rintro e w1 ⟨rfl, h1⟩
  have H1 := Lib.hid h1
  clear h1
  go_wp2_with fail
  go_end0
  exact ⟨rfl, H1.out.from HA.out.2.1⟩
set_option maxHeartbeats 1000000 in
theorem operand_1 (w0 : World) (b : Nat) (l t : List UInt8) (c n tg : Int) (W : World) (h : Wr w0 b l W) (hf : Deci.fit n) (ht : l ++ vregT n = t) (hlen : t.length ≤ big) :
    Calls Tryd.prog 61 #[.pointer (some ⟨b, 0, none⟩), .agg #[.int .i64 1, .int .i64 c, .int .i64 n, .int .i64 tg]] W fun e w' => e = .returned (.tuple #[]) ∧ Wrote w0 b t W w' := by
  have HA := Lib.hid (And.intro (h.alloc (.cells #[.int .i64 1, .int .i64 c, .int .i64 n, .int .i64 tg] 54)) (And.intro ((Below.refl _ W).alloc (Nat.le_refl _) (.cells #[.int .i64 1, .int .i64 c, .int .i64 n, .int .i64 tg] 54)) (heap_alloc_new W (.cells #[.int .i64 1, .int .i64 c, .int .i64 n, .int .i64 tg] 54))))
  obtain ⟨k0, k1, k2, k3⟩ := four_cells HA.out.2.2
  have HP := Lib.hid (And.intro ht (And.intro hlen hf))
  clear h ht hlen hf
  obtain ⟨wa, hwa⟩ : ∃ wa, W.alloc (.cells #[.int .i64 1, .int .i64 c, .int .i64 n, .int .i64 tg] 54) = wa := ⟨_, rfl⟩
  rw [hwa] at HA k0 k1 k2 k3
  go_enter Tryd.func61, Tryd.ntmps61
  go_wp2_with fail
  refine (vreg_v w0 b l t n _ HA.out.1 HP.out.2.2 HP.out.1 HP.out.2.1).mono ?_
  rintro e w1 ⟨rfl, h1⟩
  have H1 := Lib.hid h1
  clear h1
  go_wp2_with fail
  go_end0
  exact ⟨rfl, H1.out.from HA.out.2.1⟩
set_option maxHeartbeats 1000000 in
theorem operand_4 (w0 : World) (b : Nat) (l t : List UInt8) (c n tg : Int) (W : World) (h : Wr w0 b l W) (hf : Deci.fit n) (ht : l ++ Deci.txt n = t) (hlen : t.length ≤ big) :
    Calls Tryd.prog 61 #[.pointer (some ⟨b, 0, none⟩), .agg #[.int .i64 4, .int .i64 c, .int .i64 n, .int .i64 tg]] W fun e w' => e = .returned (.tuple #[]) ∧ Wrote w0 b t W w' := by
  have HA := Lib.hid (And.intro (h.alloc (.cells #[.int .i64 4, .int .i64 c, .int .i64 n, .int .i64 tg] 54)) (And.intro ((Below.refl _ W).alloc (Nat.le_refl _) (.cells #[.int .i64 4, .int .i64 c, .int .i64 n, .int .i64 tg] 54)) (heap_alloc_new W (.cells #[.int .i64 4, .int .i64 c, .int .i64 n, .int .i64 tg] 54))))
  obtain ⟨k0, k1, k2, k3⟩ := four_cells HA.out.2.2
  have HP := Lib.hid (And.intro ht (And.intro hlen hf))
  clear h ht hlen hf
  obtain ⟨wa, hwa⟩ : ∃ wa, W.alloc (.cells #[.int .i64 4, .int .i64 c, .int .i64 n, .int .i64 tg] 54) = wa := ⟨_, rfl⟩
  rw [hwa] at HA k0 k1 k2 k3
  go_enter Tryd.func61, Tryd.ntmps61
  go_wp2_with fail
  refine (number_v w0 b l t n _ HA.out.1 HP.out.2.2 HP.out.1 HP.out.2.1).mono ?_
  rintro e w1 ⟨rfl, h1⟩
  have H1 := Lib.hid h1
  clear h1
  go_wp2_with fail
  go_end0
  exact ⟨rfl, H1.out.from HA.out.2.1⟩
set_option maxHeartbeats 1000000 in
theorem operand_no (w0 : World) (b : Nat) (l t : List UInt8) (k c n tg : Int) (W : World) (h : Wr w0 b l W) (d0 : (k == 0) = false) (d1 : (k == 1) = false) (d2 : (k == 2) = false) (d3 : (k == 3) = false) (d4 : (k == 4) = false) (ht : l ++ [63] = t) (hlen : t.length ≤ big) :
    Calls Tryd.prog 61 #[.pointer (some ⟨b, 0, none⟩), .agg #[.int .i64 k, .int .i64 c, .int .i64 n, .int .i64 tg]] W fun e w' => e = .returned (.tuple #[]) ∧ Wrote w0 b t W w' := by
  have HA := Lib.hid (And.intro (h.alloc (.cells #[.int .i64 k, .int .i64 c, .int .i64 n, .int .i64 tg] 54)) (And.intro ((Below.refl _ W).alloc (Nat.le_refl _) (.cells #[.int .i64 k, .int .i64 c, .int .i64 n, .int .i64 tg] 54)) (heap_alloc_new W (.cells #[.int .i64 k, .int .i64 c, .int .i64 n, .int .i64 tg] 54))))
  obtain ⟨k0, k1, k2, k3⟩ := four_cells HA.out.2.2
  have HP := Lib.hid (And.intro (show l ++ (ByteArray.mk #[63]).data.toList = t from ht) hlen)
  clear h ht hlen
  obtain ⟨wa, hwa⟩ : ∃ wa, W.alloc (.cells #[.int .i64 k, .int .i64 c, .int .i64 n, .int .i64 tg] 54) = wa := ⟨_, rfl⟩
  rw [hwa] at HA k0 k1 k2 k3
  go_enter Tryd.func61, Tryd.ntmps61
  go_wp2_with fail
  refine (write_s w0 b l t _ _ HA.out.1 HP.out.1 HP.out.2).mono ?_
  rintro e w1 ⟨rfl, h1⟩
  have H1 := Lib.hid h1
  clear h1
  go_wp2_with fail
  go_end0
  exact ⟨rfl, H1.out.from HA.out.2.1⟩
set_option maxHeartbeats 1000000 in
theorem operand_2 (w0 : World) (b : Nat) (l t : List UInt8) (c n tg : Int) (W : World) (h : Wr w0 b l W) (hf : Deci.fit n) (hg : Deci.fit tg) (ht : l ++ (Tg.nameOf 2 c n ++ 58 :: vregT tg) = t) (hlen : t.length ≤ big) :
    Calls Tryd.prog 61 #[.pointer (some ⟨b, 0, none⟩), .agg #[.int .i64 2, .int .i64 c, .int .i64 n, .int .i64 tg]] W fun e w' => e = .returned (.tuple #[]) ∧ Wrote w0 b t W w' := by
  have HA := Lib.hid (And.intro (h.alloc (.cells #[.int .i64 2, .int .i64 c, .int .i64 n, .int .i64 tg] 54)) (And.intro ((Below.refl _ W).alloc (Nat.le_refl _) (.cells #[.int .i64 2, .int .i64 c, .int .i64 n, .int .i64 tg] 54)) (heap_alloc_new W (.cells #[.int .i64 2, .int .i64 c, .int .i64 n, .int .i64 tg] 54))))
  obtain ⟨k0, k1, k2, k3⟩ := four_cells HA.out.2.2
  obtain ⟨x, hx⟩ : ∃ x, Tg.nameOf 2 c n = x := ⟨_, rfl⟩
  rw [hx] at ht
  have t2 : (l ++ x ++ [58]) ++ vregT tg = t := by rw [← ht]; simp
  have n2 : (l ++ x ++ [58]).length ≤ big := by rw [← t2, List.length_append] at hlen; omega
  have n1 : (l ++ x).length ≤ big := by rw [List.length_append] at n2; omega
  have HP := Lib.hid (And.intro hf (And.intro hg (And.intro hx (And.intro t2 (And.intro hlen (And.intro n2 n1))))))
  clear h ht hlen hf hg hx t2 n2 n1
  obtain ⟨wa, hwa⟩ : ∃ wa, W.alloc (.cells #[.int .i64 2, .int .i64 c, .int .i64 n, .int .i64 tg] 54) = wa := ⟨_, rfl⟩
  rw [hwa] at HA k0 k1 k2 k3
  go_enter Tryd.func61, Tryd.ntmps61
  go_wp2_with fail
  clear k0 k1 k2 k3
  refine (at_2 c n tg wa).mono ?_
  rintro e w1 ⟨rfl, hb1⟩
  have hal := heap_alloc_new w1 (.cells #[.int .i64 2, .int .i64 c, .int .i64 n] 46)
  have B2 : Below wa.heap.size wa (w1.alloc (.cells #[.int .i64 2, .int .i64 c, .int .i64 n] 46)) := hb1.alloc hb1.size _
  obtain ⟨wb, hwb⟩ : ∃ wb, w1.alloc (.cells #[.int .i64 2, .int .i64 c, .int .i64 n] 46) = wb := ⟨_, rfl⟩
  rw [hwb] at hal B2
  have H2 := Lib.hid (And.intro hal B2)
  clear hal B2 hb1 hwa
  have S0 := Lib.hid (three_cells H2.out.1)
  go_wp2_with fail
  clear hwb
  go_region_held3 (fun W => W.cell? ⟨w1.heap.size, 0, none⟩ = some (.int .i64 2) ∧ W.cell? ⟨w1.heap.size, 1, none⟩ = some (.int .i64 c) ∧ W.cell? ⟨w1.heap.size, 2, none⟩ = some (.int .i64 n))
    (first | exact S2.out | exact S1.out | exact S0.out)
    (first
      | (go_at_call 28; (refine (write_s w0 b l (l ++ x) _ w2 H3.out.1 (by rfl) HP.out.2.2.2.2.2.2).mono ?_); rintro e w3 ⟨rfl, h3⟩; have H4 := Lib.hid (Wrote.from h3 H3.out.2.1); have S2 := Lib.hid (three_cells (h3.box H3.out.2.2 (by decide) (by decide))); clear h3)
      | (go_at_call 52; (refine (Tg.name_v 2 c n HP.out.1 _ (congrArg (fun y => ByteArray.mk (List.toArray y)) HP.out.2.2.1) wb.drew).mono ?_); rintro e w2 ⟨rfl, hb⟩; have hb2 : Below wb.heap.size wb w2 := (Below.refl _ wb).drew.trans hb; have H3 := Lib.hid (And.intro ((HA.out.1.below H2.out.2).below hb2) (And.intro (H2.out.2.trans (hb2.mono H2.out.2.size)) (kept_box H2.out.1 hb2))); have S1 := Lib.hid (three_cells H3.out.2.2); clear hb hb2))
  go_wp2_with fail
  refine (write_b w0 b (l ++ x) (l ++ x ++ [58]) 58 58 _ H4.out.1 rfl rfl HP.out.2.2.2.2.2.1).mono ?_
  rintro e w4 ⟨rfl, h4⟩
  have H5 := Lib.hid (H4.out.next h4)
  clear h4
  have k3 : w4.cell? ⟨W.heap.size, 3, none⟩ = some (.int .i64 tg) := (four_cells (H5.out.box HA.out.2.2 (by decide) (by decide))).2.2.2
  go_wp2_with fail
  refine (vreg_v w0 b (l ++ x ++ [58]) t tg _ H5.out.1 HP.out.2.1 HP.out.2.2.2.1 HP.out.2.2.2.2.1).mono ?_
  rintro e w5 ⟨rfl, h5⟩
  have H6 := Lib.hid (H5.out.next h5)
  clear h5
  go_wp2_with fail
  go_end0
  exact ⟨rfl, H6.out.from HA.out.2.1⟩
set_option maxHeartbeats 1000000 in
theorem operand_3 (w0 : World) (b : Nat) (l t : List UInt8) (c n tg : Int) (W : World) (h : Wr w0 b l W) (hf : Deci.fit n) (hg : Deci.fit tg) (ht : l ++ (Tg.nameOf 3 0 n ++ 58 :: vregT tg) = t) (hlen : t.length ≤ big) :
    Calls Tryd.prog 61 #[.pointer (some ⟨b, 0, none⟩), .agg #[.int .i64 3, .int .i64 c, .int .i64 n, .int .i64 tg]] W fun e w' => e = .returned (.tuple #[]) ∧ Wrote w0 b t W w' := by
  have HA := Lib.hid (And.intro (h.alloc (.cells #[.int .i64 3, .int .i64 c, .int .i64 n, .int .i64 tg] 54)) (And.intro ((Below.refl _ W).alloc (Nat.le_refl _) (.cells #[.int .i64 3, .int .i64 c, .int .i64 n, .int .i64 tg] 54)) (heap_alloc_new W (.cells #[.int .i64 3, .int .i64 c, .int .i64 n, .int .i64 tg] 54))))
  obtain ⟨k0, k1, k2, k3⟩ := four_cells HA.out.2.2
  obtain ⟨x, hx⟩ : ∃ x, Tg.nameOf 3 0 n = x := ⟨_, rfl⟩
  rw [hx] at ht
  have t2 : (l ++ x ++ [58]) ++ vregT tg = t := by rw [← ht]; simp
  have n2 : (l ++ x ++ [58]).length ≤ big := by rw [← t2, List.length_append] at hlen; omega
  have n1 : (l ++ x).length ≤ big := by rw [List.length_append] at n2; omega
  have HP := Lib.hid (And.intro hf (And.intro hg (And.intro hx (And.intro t2 (And.intro hlen (And.intro n2 n1))))))
  clear h ht hlen hf hg hx t2 n2 n1
  obtain ⟨wa, hwa⟩ : ∃ wa, W.alloc (.cells #[.int .i64 3, .int .i64 c, .int .i64 n, .int .i64 tg] 54) = wa := ⟨_, rfl⟩
  rw [hwa] at HA k0 k1 k2 k3
  go_enter Tryd.func61, Tryd.ntmps61
  go_wp2_with fail
  clear k0 k1 k2 k3
  refine (at_3 c n tg wa).mono ?_
  rintro e w1 ⟨rfl, hb1⟩
  have hal := heap_alloc_new w1 (.cells #[.int .i64 3, .int .i64 0, .int .i64 n] 46)
  have B2 : Below wa.heap.size wa (w1.alloc (.cells #[.int .i64 3, .int .i64 0, .int .i64 n] 46)) := hb1.alloc hb1.size _
  obtain ⟨wb, hwb⟩ : ∃ wb, w1.alloc (.cells #[.int .i64 3, .int .i64 0, .int .i64 n] 46) = wb := ⟨_, rfl⟩
  rw [hwb] at hal B2
  have H2 := Lib.hid (And.intro hal B2)
  clear hal B2 hb1 hwa
  have S0 := Lib.hid (three_cells H2.out.1)
  go_wp2_with fail
  clear hwb
  go_region_held3 (fun W => W.cell? ⟨w1.heap.size, 0, none⟩ = some (.int .i64 3) ∧ W.cell? ⟨w1.heap.size, 1, none⟩ = some (.int .i64 0) ∧ W.cell? ⟨w1.heap.size, 2, none⟩ = some (.int .i64 n))
    (first | exact S2.out | exact S1.out | exact S0.out)
    (first
      | (go_at_call 28; (refine (write_s w0 b l (l ++ x) _ w2 H3.out.1 (by rfl) HP.out.2.2.2.2.2.2).mono ?_); rintro e w3 ⟨rfl, h3⟩; have H4 := Lib.hid (Wrote.from h3 H3.out.2.1); have S2 := Lib.hid (three_cells (h3.box H3.out.2.2 (by decide) (by decide))); clear h3)
      | (go_at_call 52; (refine (Tg.name_v 3 0 n HP.out.1 _ (congrArg (fun y => ByteArray.mk (List.toArray y)) HP.out.2.2.1) wb.drew).mono ?_); rintro e w2 ⟨rfl, hb⟩; have hb2 : Below wb.heap.size wb w2 := (Below.refl _ wb).drew.trans hb; have H3 := Lib.hid (And.intro ((HA.out.1.below H2.out.2).below hb2) (And.intro (H2.out.2.trans (hb2.mono H2.out.2.size)) (kept_box H2.out.1 hb2))); have S1 := Lib.hid (three_cells H3.out.2.2); clear hb hb2))
  go_wp2_with fail
  refine (write_b w0 b (l ++ x) (l ++ x ++ [58]) 58 58 _ H4.out.1 rfl rfl HP.out.2.2.2.2.2.1).mono ?_
  rintro e w4 ⟨rfl, h4⟩
  have H5 := Lib.hid (H4.out.next h4)
  clear h4
  have k3 : w4.cell? ⟨W.heap.size, 3, none⟩ = some (.int .i64 tg) := (four_cells (H5.out.box HA.out.2.2 (by decide) (by decide))).2.2.2
  go_wp2_with fail
  refine (vreg_v w0 b (l ++ x ++ [58]) t tg _ H5.out.1 HP.out.2.1 HP.out.2.2.2.1 HP.out.2.2.2.2.1).mono ?_
  rintro e w5 ⟨rfl, h5⟩
  have H6 := Lib.hid (H5.out.next h5)
  clear h5
  go_wp2_with fail
  go_end0
  exact ⟨rfl, H6.out.from HA.out.2.1⟩
/-- An operand whose numbers are of 64 bits. -/
def OpF (x : Opn) : Prop := Deci.fit x.n ∧ Deci.fit x.t
theorem operand_v (w0 : World) (b : Nat) (l t : List UInt8) (x : Opn) (W : World) (h : Wr w0 b l W) (hf : OpF x) (ht : l ++ opnT x = t) (hlen : t.length ≤ big) :
    Calls Tryd.prog 61 #[.pointer (some ⟨b, 0, none⟩), .agg #[.int .i64 x.k, .int .i64 x.c, .int .i64 x.n, .int .i64 x.t]] W fun e w' => e = .returned (.tuple #[]) ∧ Wrote w0 b t W w' := by
  obtain ⟨k, c, n, tg⟩ := x
  obtain ⟨hn, hg⟩ := hf
  unfold opnT at ht
  dsimp only at ht hn hg ⊢
  by_cases e0 : k = 0
  · rw [if_pos e0] at ht; subst e0; exact operand_0 w0 b l t c n tg W h ht hlen
  rw [if_neg e0] at ht
  by_cases e1 : k = 1
  · rw [if_pos e1] at ht; subst e1; exact operand_1 w0 b l t c n tg W h hn ht hlen
  rw [if_neg e1] at ht
  by_cases e4 : k = 4
  · rw [if_pos e4] at ht; subst e4; exact operand_4 w0 b l t c n tg W h hn ht hlen
  rw [if_neg e4] at ht
  by_cases e2 : k = 2
  · rw [if_pos (.inl e2)] at ht; subst e2; exact operand_2 w0 b l t c n tg W h hn hg ht hlen
  by_cases e3 : k = 3
  · rw [if_pos (.inr e3)] at ht; subst e3; exact operand_3 w0 b l t c n tg W h hn hg ht hlen
  rw [if_neg (by rintro (h | h); exact e2 h; exact e3 h)] at ht
  exact operand_no w0 b l t k c n tg W h (by simpa using e0) (by simpa using e1) (by simpa using e2) (by simpa using e3) (by simpa using e4) ht hlen
end Go.Proofs.YtakfoncdiejhaaaDoor
