
/- Blocks and functions written; what the calls of show answer. -/
import Derived.Test.YtakfoncdiejhaaaDoorShoOne
namespace Go.Proofs.YtakfoncdiejhaaaDoor
open Go.ChangeShapes Go.WideShapes Go.RowKit
set_option linter.unusedVariables false
set_option maxRecDepth 20000

structure BlkF (x : Blk) : Prop where
  ins : ∀ y ∈ x.ins, OpF y
  code : ∀ i ∈ x.code, InsF i
structure FunF (f : Fun) : Prop where
  regs : ∀ r ∈ f.regs, Deci.fit r.id
  params : ∀ x ∈ f.params, OpF x
  blocks : ∀ x ∈ f.blocks, BlkF x
theorem five_cells {W : World} {P : Nat} {a0 a1 a2 a3 a4 : Value} {t : TypeId} (h : W.heap[P]? = some (.cells #[a0, a1, a2, a3, a4] t (0, 0))) :
    W.cell? ⟨P, 0, none⟩ = some a0 ∧ W.cell? ⟨P, 1, none⟩ = some a1 ∧ W.cell? ⟨P, 2, none⟩ = some a2 ∧ W.cell? ⟨P, 3, none⟩ = some a3 ∧ W.cell? ⟨P, 4, none⟩ = some a4 :=
  ⟨cell_in h 0, cell_in h 1, cell_in h 2, cell_in h 3, cell_in h 4⟩
set_option maxHeartbeats 2000000 in
theorem head_true_1 (w0 : World) (b : Nat) (l t : List UInt8) (label : ByteArray) (ins : List Opn) (ia : Option Addr) (ic : Nat) (ka : Option Addr) (kn kc : Nat) (W0 : World) (h : Wr w0 b l W0) (hI : IsOps w0 ia 0 ins) (hf : ∀ x ∈ ins, OpF x) (ht : l ++ (edgeT true ++ (label.data.toList ++ (inT ins ++ [58]))) = t) (hlen : t.length ≤ big) :
    Calls Tryd.prog 62 #[.pointer (some ⟨b, 0, none⟩), .agg #[.string label, .bool true, .slice ia 0 ic, .slice ka kn kc]] W0 fun e w' => e = .returned (.tuple #[]) ∧ Wrote w0 b t W0 w' := by
  have li := hI.1
  have lim := hI.2.1
  obtain ⟨T0, hT0⟩ : ∃ T0, l ++ edgeT true = T0 := ⟨_, rfl⟩
  have hin : inT ins = [] := by unfold inT; rw [if_pos (List.eq_nil_of_length_eq_zero li)]
  have t2 : (T0 ++ label.data.toList) ++ [58] = t := by rw [← ht, ← hT0, hin]; simp
  have n2 : (T0 ++ label.data.toList).length ≤ big := by rw [← t2, List.length_append] at hlen; omega
  have n1 : T0.length ≤ big := by rw [List.length_append] at n2; omega
  have HA := Lib.hid (And.intro (h.alloc (.cells #[.string label, .bool true, .slice ia 0 ic, .slice ka kn kc] 52)) (And.intro ((Below.refl _ W0).alloc (Nat.le_refl _) (.cells #[.string label, .bool true, .slice ia 0 ic, .slice ka kn kc] 52)) (heap_alloc_new W0 (.cells #[.string label, .bool true, .slice ia 0 ic, .slice ka kn kc] 52))))
  obtain ⟨wa, hwa⟩ : ∃ wa, W0.alloc (.cells #[.string label, .bool true, .slice ia 0 ic, .slice ka kn kc] 52) = wa := ⟨_, rfl⟩
  rw [hwa] at HA
  obtain ⟨e0, e1, e2, e3⟩ := four_cells HA.out.2.2
  have HP := Lib.hid (And.intro hT0 (And.intro t2 (And.intro hlen (And.intro n1 (And.intro n2 (And.intro hI hf))))))
  clear h hI hf ht hlen hT0 t2 n1 n2 li hin
  go_enter Tryd.func62, Tryd.ntmps62
  go_wp2_with fail
  refine (write_s w0 b l T0 _ _ HA.out.1 HP.out.1 HP.out.2.2.2.1).mono ?_
  rintro e w1 ⟨rfl, h1⟩
  have H1 := Lib.hid h1
  clear h1 hwa e0 e1 e2 e3
  have S0 := Lib.hid (four_cells (H1.out.box HA.out.2.2 (by decide) (by decide)))
  go_wp2_with fail
  go_region_held3 (fun W => W.cell? ⟨W0.heap.size, 0, none⟩ = some (.string label) ∧ W.cell? ⟨W0.heap.size, 1, none⟩ = some (.bool true) ∧ W.cell? ⟨W0.heap.size, 2, none⟩ = some (.slice ia 0 ic) ∧ W.cell? ⟨W0.heap.size, 3, none⟩ = some (.slice ka kn kc))
    (first | exact S1.out | exact S0.out)
    (first
      | (go_at_call 28; (refine (write_s w0 b T0 _ _ w1.drew H1.out.1.drew rfl HP.out.2.2.2.2.1).mono ?_); rintro e w2 ⟨rfl, h2⟩; have H2 := Lib.hid (H1.out.next ⟨h2.1, Keeps.drew.trans h2.2⟩); have S1 := Lib.hid (four_cells (H2.out.box HA.out.2.2 (by decide) (by decide))); clear h2))
  obtain ⟨e0, e1, e2, e3⟩ := S1.out
  clear S0 S1
  go_wp2_with fail
  clear e0 e1 e2 e3
  refine (write_b w0 b _ t 58 58 w2 H2.out.1 rfl HP.out.2.1 HP.out.2.2.1).mono ?_
  rintro e w6 ⟨rfl, h6⟩
  have H6 := Lib.hid (H2.out.next h6)
  clear h6
  go_wp2_with fail
  go_end0
  exact ⟨rfl, H6.out.from HA.out.2.1⟩
set_option maxHeartbeats 2000000 in
theorem head_true_0 (w0 : World) (b : Nat) (l t : List UInt8) (label : ByteArray) (ins : List Opn) (ia : Option Addr) (il ic : Nat) (ka : Option Addr) (kn kc : Nat) (W0 : World) (h : Wr w0 b l W0) (hI : IsOps w0 ia il ins) (hf : ∀ x ∈ ins, OpF x) (hz : ¬ il = 0) (ht : l ++ (edgeT true ++ (label.data.toList ++ (inT ins ++ [58]))) = t) (hlen : t.length ≤ big) :
    Calls Tryd.prog 62 #[.pointer (some ⟨b, 0, none⟩), .agg #[.string label, .bool true, .slice ia il ic, .slice ka kn kc]] W0 fun e w' => e = .returned (.tuple #[]) ∧ Wrote w0 b t W0 w' := by
  have li := hI.1
  have lim := hI.2.1
  obtain ⟨T0, hT0⟩ : ∃ T0, l ++ edgeT true = T0 := ⟨_, rfl⟩
  have hz1 : (il : Int) > 0 := by omega
  have hin : inT ins = [32, 91] ++ (rowT (ins.map opnT) ++ [93]) := by unfold inT; rw [if_neg (fun e => hz (by rw [← li, e]; rfl))]
  have t2 : (T0 ++ label.data.toList ++ [32, 91] ++ rowT (ins.map opnT) ++ [93]) ++ [58] = t := by rw [← ht, ← hT0, hin]; simp
  have n5 : (T0 ++ label.data.toList ++ [32, 91] ++ rowT (ins.map opnT) ++ [93]).length ≤ big := by rw [← t2, List.length_append] at hlen; omega
  have n4 : (T0 ++ label.data.toList ++ [32, 91] ++ rowT (ins.map opnT)).length ≤ big := by rw [List.length_append] at n5; omega
  have n3 : (T0 ++ label.data.toList ++ [32, 91]).length ≤ big := by rw [List.length_append] at n4; omega
  have n2 : (T0 ++ label.data.toList).length ≤ big := by rw [List.length_append] at n3; omega
  have n1 : T0.length ≤ big := by rw [List.length_append] at n2; omega
  have HA := Lib.hid (And.intro (h.alloc (.cells #[.string label, .bool true, .slice ia il ic, .slice ka kn kc] 52)) (And.intro ((Below.refl _ W0).alloc (Nat.le_refl _) (.cells #[.string label, .bool true, .slice ia il ic, .slice ka kn kc] 52)) (heap_alloc_new W0 (.cells #[.string label, .bool true, .slice ia il ic, .slice ka kn kc] 52))))
  obtain ⟨wa, hwa⟩ : ∃ wa, W0.alloc (.cells #[.string label, .bool true, .slice ia il ic, .slice ka kn kc] 52) = wa := ⟨_, rfl⟩
  rw [hwa] at HA
  obtain ⟨e0, e1, e2, e3⟩ := four_cells HA.out.2.2
  have HP := Lib.hid (And.intro hT0 (And.intro t2 (And.intro hlen (And.intro n1 (And.intro n2 (And.intro hI hf))))))
  have HN := Lib.hid (And.intro n3 (And.intro n4 n5))
  clear h hI hf ht hlen hT0 t2 n1 n2 li hin n3 n4 n5
  go_enter Tryd.func62, Tryd.ntmps62
  go_wp2_with fail
  refine (write_s w0 b l T0 _ _ HA.out.1 HP.out.1 HP.out.2.2.2.1).mono ?_
  rintro e w1 ⟨rfl, h1⟩
  have H1 := Lib.hid h1
  clear h1 hwa e0 e1 e2 e3
  have S0 := Lib.hid (four_cells (H1.out.box HA.out.2.2 (by decide) (by decide)))
  go_wp2_with fail
  go_region_held3 (fun W => W.cell? ⟨W0.heap.size, 0, none⟩ = some (.string label) ∧ W.cell? ⟨W0.heap.size, 1, none⟩ = some (.bool true) ∧ W.cell? ⟨W0.heap.size, 2, none⟩ = some (.slice ia il ic) ∧ W.cell? ⟨W0.heap.size, 3, none⟩ = some (.slice ka kn kc))
    (first | exact S1.out | exact S0.out)
    (first
      | (go_at_call 28; (refine (write_s w0 b T0 _ _ w1.drew H1.out.1.drew rfl HP.out.2.2.2.2.1).mono ?_); rintro e w2 ⟨rfl, h2⟩; have H2 := Lib.hid (H1.out.next ⟨h2.1, Keeps.drew.trans h2.2⟩); have S1 := Lib.hid (four_cells (H2.out.box HA.out.2.2 (by decide) (by decide))); clear h2))
  obtain ⟨e0, e1, e2, e3⟩ := S1.out
  clear S0 S1
  go_wp2_with fail
  clear e0 e1 e2 e3
  refine (write_s w0 b _ _ _ w2 H2.out.1 rfl HN.out.1).mono ?_
  rintro e w3 ⟨rfl, h3⟩
  have H3 := Lib.hid (H2.out.next h3)
  clear h3
  have e2 : w3.cell? ⟨W0.heap.size, 2, none⟩ = some (.slice ia il ic) := (four_cells (H3.out.box HA.out.2.2 (by decide) (by decide))).2.2.1
  go_wp2_with fail
  clear e2
  refine (operands_v w0 b _ _ ia il ic ins w3 H3.out.1 HP.out.2.2.2.2.2.1 HP.out.2.2.2.2.2.2 rfl HN.out.2.1).mono ?_
  rintro e w4 ⟨rfl, h4⟩
  have H4 := Lib.hid (H3.out.next h4)
  clear h4
  go_wp2_with fail
  refine (write_b w0 b _ _ 93 93 w4 H4.out.1 rfl rfl HN.out.2.2).mono ?_
  rintro e w5 ⟨rfl, h5⟩
  have H5 := Lib.hid (H4.out.next h5)
  clear h5
  go_wp2_with fail
  refine (write_b w0 b _ t 58 58 w5 H5.out.1 rfl HP.out.2.1 HP.out.2.2.1).mono ?_
  rintro e w6 ⟨rfl, h6⟩
  have H6 := Lib.hid (H5.out.next h6)
  clear h6
  go_wp2_with fail
  go_end0
  exact ⟨rfl, H6.out.from HA.out.2.1⟩
set_option maxHeartbeats 2000000 in
theorem head_false_1 (w0 : World) (b : Nat) (l t : List UInt8) (label : ByteArray) (ins : List Opn) (ia : Option Addr) (ic : Nat) (ka : Option Addr) (kn kc : Nat) (W0 : World) (h : Wr w0 b l W0) (hI : IsOps w0 ia 0 ins) (hf : ∀ x ∈ ins, OpF x) (ht : l ++ (edgeT false ++ (label.data.toList ++ (inT ins ++ [58]))) = t) (hlen : t.length ≤ big) :
    Calls Tryd.prog 62 #[.pointer (some ⟨b, 0, none⟩), .agg #[.string label, .bool false, .slice ia 0 ic, .slice ka kn kc]] W0 fun e w' => e = .returned (.tuple #[]) ∧ Wrote w0 b t W0 w' := by
  have li := hI.1
  have lim := hI.2.1
  obtain ⟨T0, hT0⟩ : ∃ T0, l ++ edgeT false = T0 := ⟨_, rfl⟩
  have hin : inT ins = [] := by unfold inT; rw [if_pos (List.eq_nil_of_length_eq_zero li)]
  have t2 : (T0 ++ label.data.toList) ++ [58] = t := by rw [← ht, ← hT0, hin]; simp
  have n2 : (T0 ++ label.data.toList).length ≤ big := by rw [← t2, List.length_append] at hlen; omega
  have n1 : T0.length ≤ big := by rw [List.length_append] at n2; omega
  have HA := Lib.hid (And.intro (h.alloc (.cells #[.string label, .bool false, .slice ia 0 ic, .slice ka kn kc] 52)) (And.intro ((Below.refl _ W0).alloc (Nat.le_refl _) (.cells #[.string label, .bool false, .slice ia 0 ic, .slice ka kn kc] 52)) (heap_alloc_new W0 (.cells #[.string label, .bool false, .slice ia 0 ic, .slice ka kn kc] 52))))
  obtain ⟨wa, hwa⟩ : ∃ wa, W0.alloc (.cells #[.string label, .bool false, .slice ia 0 ic, .slice ka kn kc] 52) = wa := ⟨_, rfl⟩
  rw [hwa] at HA
  obtain ⟨e0, e1, e2, e3⟩ := four_cells HA.out.2.2
  have HP := Lib.hid (And.intro hT0 (And.intro t2 (And.intro hlen (And.intro n1 (And.intro n2 (And.intro hI hf))))))
  clear h hI hf ht hlen hT0 t2 n1 n2 li hin
  go_enter Tryd.func62, Tryd.ntmps62
  go_wp2_with fail
  have H1 := Lib.hid (Wrote.to HA.out.1.wrote (show l = T0 by rw [← HP.out.1]; simp [edgeT]))
  have S0 := Lib.hid (four_cells HA.out.2.2)
  clear hwa e0 e1 e2 e3
  go_region_held3 (fun W => W.cell? ⟨W0.heap.size, 0, none⟩ = some (.string label) ∧ W.cell? ⟨W0.heap.size, 1, none⟩ = some (.bool false) ∧ W.cell? ⟨W0.heap.size, 2, none⟩ = some (.slice ia 0 ic) ∧ W.cell? ⟨W0.heap.size, 3, none⟩ = some (.slice ka kn kc))
    (first | exact S1.out | exact S0.out)
    (first
      | (go_at_call 28; (refine (write_s w0 b T0 _ _ wa.drew H1.out.1.drew rfl HP.out.2.2.2.2.1).mono ?_); rintro e w2 ⟨rfl, h2⟩; have H2 := Lib.hid (H1.out.next ⟨h2.1, Keeps.drew.trans h2.2⟩); have S1 := Lib.hid (four_cells (H2.out.box HA.out.2.2 (by decide) (by decide))); clear h2))
  obtain ⟨e0, e1, e2, e3⟩ := S1.out
  clear S0 S1
  go_wp2_with fail
  clear e0 e1 e2 e3
  refine (write_b w0 b _ t 58 58 w2 H2.out.1 rfl HP.out.2.1 HP.out.2.2.1).mono ?_
  rintro e w6 ⟨rfl, h6⟩
  have H6 := Lib.hid (H2.out.next h6)
  clear h6
  go_wp2_with fail
  go_end0
  exact ⟨rfl, H6.out.from HA.out.2.1⟩
set_option maxHeartbeats 2000000 in
theorem head_false_0 (w0 : World) (b : Nat) (l t : List UInt8) (label : ByteArray) (ins : List Opn) (ia : Option Addr) (il ic : Nat) (ka : Option Addr) (kn kc : Nat) (W0 : World) (h : Wr w0 b l W0) (hI : IsOps w0 ia il ins) (hf : ∀ x ∈ ins, OpF x) (hz : ¬ il = 0) (ht : l ++ (edgeT false ++ (label.data.toList ++ (inT ins ++ [58]))) = t) (hlen : t.length ≤ big) :
    Calls Tryd.prog 62 #[.pointer (some ⟨b, 0, none⟩), .agg #[.string label, .bool false, .slice ia il ic, .slice ka kn kc]] W0 fun e w' => e = .returned (.tuple #[]) ∧ Wrote w0 b t W0 w' := by
  have li := hI.1
  have lim := hI.2.1
  obtain ⟨T0, hT0⟩ : ∃ T0, l ++ edgeT false = T0 := ⟨_, rfl⟩
  have hz1 : (il : Int) > 0 := by omega
  have hin : inT ins = [32, 91] ++ (rowT (ins.map opnT) ++ [93]) := by unfold inT; rw [if_neg (fun e => hz (by rw [← li, e]; rfl))]
  have t2 : (T0 ++ label.data.toList ++ [32, 91] ++ rowT (ins.map opnT) ++ [93]) ++ [58] = t := by rw [← ht, ← hT0, hin]; simp
  have n5 : (T0 ++ label.data.toList ++ [32, 91] ++ rowT (ins.map opnT) ++ [93]).length ≤ big := by rw [← t2, List.length_append] at hlen; omega
  have n4 : (T0 ++ label.data.toList ++ [32, 91] ++ rowT (ins.map opnT)).length ≤ big := by rw [List.length_append] at n5; omega
  have n3 : (T0 ++ label.data.toList ++ [32, 91]).length ≤ big := by rw [List.length_append] at n4; omega
  have n2 : (T0 ++ label.data.toList).length ≤ big := by rw [List.length_append] at n3; omega
  have n1 : T0.length ≤ big := by rw [List.length_append] at n2; omega
  have HA := Lib.hid (And.intro (h.alloc (.cells #[.string label, .bool false, .slice ia il ic, .slice ka kn kc] 52)) (And.intro ((Below.refl _ W0).alloc (Nat.le_refl _) (.cells #[.string label, .bool false, .slice ia il ic, .slice ka kn kc] 52)) (heap_alloc_new W0 (.cells #[.string label, .bool false, .slice ia il ic, .slice ka kn kc] 52))))
  obtain ⟨wa, hwa⟩ : ∃ wa, W0.alloc (.cells #[.string label, .bool false, .slice ia il ic, .slice ka kn kc] 52) = wa := ⟨_, rfl⟩
  rw [hwa] at HA
  obtain ⟨e0, e1, e2, e3⟩ := four_cells HA.out.2.2
  have HP := Lib.hid (And.intro hT0 (And.intro t2 (And.intro hlen (And.intro n1 (And.intro n2 (And.intro hI hf))))))
  have HN := Lib.hid (And.intro n3 (And.intro n4 n5))
  clear h hI hf ht hlen hT0 t2 n1 n2 li hin n3 n4 n5
  go_enter Tryd.func62, Tryd.ntmps62
  go_wp2_with fail
  have H1 := Lib.hid (Wrote.to HA.out.1.wrote (show l = T0 by rw [← HP.out.1]; simp [edgeT]))
  have S0 := Lib.hid (four_cells HA.out.2.2)
  clear hwa e0 e1 e2 e3
  go_region_held3 (fun W => W.cell? ⟨W0.heap.size, 0, none⟩ = some (.string label) ∧ W.cell? ⟨W0.heap.size, 1, none⟩ = some (.bool false) ∧ W.cell? ⟨W0.heap.size, 2, none⟩ = some (.slice ia il ic) ∧ W.cell? ⟨W0.heap.size, 3, none⟩ = some (.slice ka kn kc))
    (first | exact S1.out | exact S0.out)
    (first
      | (go_at_call 28; (refine (write_s w0 b T0 _ _ wa.drew H1.out.1.drew rfl HP.out.2.2.2.2.1).mono ?_); rintro e w2 ⟨rfl, h2⟩; have H2 := Lib.hid (H1.out.next ⟨h2.1, Keeps.drew.trans h2.2⟩); have S1 := Lib.hid (four_cells (H2.out.box HA.out.2.2 (by decide) (by decide))); clear h2))
  obtain ⟨e0, e1, e2, e3⟩ := S1.out
  clear S0 S1
  go_wp2_with fail
  clear e0 e1 e2 e3
  refine (write_s w0 b _ _ _ w2 H2.out.1 rfl HN.out.1).mono ?_
  rintro e w3 ⟨rfl, h3⟩
  have H3 := Lib.hid (H2.out.next h3)
  clear h3
  have e2 : w3.cell? ⟨W0.heap.size, 2, none⟩ = some (.slice ia il ic) := (four_cells (H3.out.box HA.out.2.2 (by decide) (by decide))).2.2.1
  go_wp2_with fail
  clear e2
  refine (operands_v w0 b _ _ ia il ic ins w3 H3.out.1 HP.out.2.2.2.2.2.1 HP.out.2.2.2.2.2.2 rfl HN.out.2.1).mono ?_
  rintro e w4 ⟨rfl, h4⟩
  have H4 := Lib.hid (H3.out.next h4)
  clear h4
  go_wp2_with fail
  refine (write_b w0 b _ _ 93 93 w4 H4.out.1 rfl rfl HN.out.2.2).mono ?_
  rintro e w5 ⟨rfl, h5⟩
  have H5 := Lib.hid (H4.out.next h5)
  clear h5
  go_wp2_with fail
  refine (write_b w0 b _ t 58 58 w5 H5.out.1 rfl HP.out.2.1 HP.out.2.2.1).mono ?_
  rintro e w6 ⟨rfl, h6⟩
  have H6 := Lib.hid (H5.out.next h6)
  clear h6
  go_wp2_with fail
  go_end0
  exact ⟨rfl, H6.out.from HA.out.2.1⟩
theorem head_v (w0 : World) (b : Nat) (l t : List UInt8) (x : Blk) (r : BlkV) (W : World) (h : Wr w0 b l W) (hI : IsOps w0 r.ia r.il x.ins) (hf : ∀ y ∈ x.ins, OpF y) (ht : l ++ headT x = t) (hlen : t.length ≤ big) :
    Calls Tryd.prog 62 #[.pointer (some ⟨b, 0, none⟩), .agg (blkR x r)] W fun e w' => e = .returned (.tuple #[]) ∧ Wrote w0 b t W w' := by
  obtain ⟨label, edge, ins, code⟩ := x
  obtain ⟨ia, il, ic, ka, kn, kc, R⟩ := r
  unfold blkR
  dsimp only at hI hf ⊢
  unfold headT at ht
  dsimp only at ht
  by_cases hz : il = 0
  · subst hz
    cases edge
    · exact head_false_1 w0 b l t label ins ia ic ka kn kc W h hI hf ht hlen
    · exact head_true_1 w0 b l t label ins ia ic ka kn kc W h hI hf ht hlen
  · cases edge
    · exact head_false_0 w0 b l t label ins ia il ic ka kn kc W h hI hf hz ht hlen
    · exact head_true_0 w0 b l t label ins ia il ic ka kn kc W h hI hf hz ht hlen
set_option maxHeartbeats 4000000 in
theorem block_v (w0 : World) (b : Nat) (l t : List UInt8) (x : Blk) (r : BlkV) (W : World) (hG : Opr.Glob w0) (h : Wr w0 b l W) (hI : IsBlk w0 x r) (hF : BlkF x) (ht : l ++ blkT x = t) (hlen : t.length ≤ big) :
    Calls Tryd.prog 56 #[.pointer (some ⟨b, 0, none⟩), .agg (blkR x r)] W fun e w' => e = .returned (.tuple #[]) ∧ Wrote w0 b t W w' := by
  obtain ⟨T1, hT1⟩ : ∃ T1, l ++ headT x = T1 := ⟨_, rfl⟩
  obtain ⟨C, hC⟩ : ∃ C, x.code = C := ⟨_, rfl⟩
  have t1 : T1 ++ [10] ++ C.flatMap lineT = t := by rw [← ht, ← hT1, ← hC]; simp [blkT]
  have hTl : ∀ k, (T1 ++ [10] ++ (C.take k).flatMap lineT).length ≤ big := fun k => by
    have h1 := flat_le lineT C k
    rw [← t1] at hlen
    simp only [List.length_append] at hlen ⊢
    omega
  have n1 : (T1 ++ [10]).length ≤ big := by have := hTl 0; simpa using this
  have n0 : T1.length ≤ big := by rw [List.length_append] at n1; omega
  have lk := hI.code.1
  have lkm := hI.code.2.1
  have hCF : ∀ i ∈ C, InsF i := by rw [← hC]; exact hF.code
  have hIC : IsCode w0 r.ka r.kn r.R C := by rw [← hC]; exact hI.code
  rw [hC] at lk
  have HD := Lib.hid (show ∀ W', Wr w0 b l W' → Calls Tryd.prog 62 #[.pointer (some ⟨b, 0, none⟩), .agg (blkR x r)] W' fun e w' => e = .returned (.tuple #[]) ∧ Wrote w0 b T1 W' w' from fun W' h' => head_v w0 b l T1 x r W' h' hI.ins hF.ins hT1 n0)
  have HA := Lib.hid (And.intro (h.alloc (.cells (blkR x r) 52)) (And.intro ((Below.refl _ W).alloc (Nat.le_refl _) (.cells (blkR x r) 52)) (heap_alloc_new W (.cells (blkR x r) 52))))
  have HP := Lib.hid (And.intro hG (And.intro hIC (And.intro hCF (And.intro t1 (And.intro hTl (And.intro n1 (And.intro hlen lk)))))))
  clear hG h hI hF ht hlen hT1 hC t1 hTl n1 n0 hCF hIC lk
  obtain ⟨label, edge, ins, code⟩ := x
  obtain ⟨ia, il, ic, ka, kn, kc, R⟩ := r
  unfold blkR at HD HA ⊢
  dsimp only at HD HA HP lkm ⊢
  obtain ⟨wa, hwa⟩ : ∃ wa, W.alloc (.cells #[.string label, .bool edge, .slice ia il ic, .slice ka kn kc] 52) = wa := ⟨_, rfl⟩
  rw [hwa] at HA
  obtain ⟨e0, e1, e2, e3⟩ := four_cells HA.out.2.2
  go_enter Tryd.func56, Tryd.ntmps56
  go_wp2_with fail
  clear hwa e0 e1 e2 e3
  refine (HD.out wa HA.out.1).mono ?_
  rintro e w1 ⟨rfl, h1⟩
  have H1 := Lib.hid h1
  clear h1
  go_wp2_with fail
  refine (write_b w0 b T1 _ 10 10 w1 H1.out.1 rfl rfl HP.out.2.2.2.2.2.1).mono ?_
  rintro e w2 ⟨rfl, h2⟩
  have H2 := Lib.hid (H1.out.next h2)
  clear h2
  have e3 : w2.cell? ⟨W.heap.size, 3, none⟩ = some (.slice ka kn kc) := (four_cells (H2.out.box HA.out.2.2 (by decide) (by decide))).2.2.2
  go_wp2_with fail
  clear e3
  go_loopg [16] kn (fun gk u wr => ∃ k : Nat, k + gk = kn ∧ u = .int .i64 (k : Int) ∧ Hid (Wrote w0 b (T1 ++ [10] ++ (C.take k).flatMap lineT) wa wr))
  case atStart => exact ⟨0, by omega, rfl, H2.out.to (by simp)⟩
  case round =>
    obtain ⟨k, hk, rfl, HH⟩ := hrel
    by_cases hlt : k < kn
    · obtain ⟨bk, o, rfl, hb, x, hx, hix, d0, d1, d2, d3, d4, d5, d6, d7, d8, d9⟩ := HP.out.2.1.at hlt
      have i1 : (k : Int) < (kn : Int) := by omega
      have hnext := flat_take lineT C k x hx
      have hmax := HP.out.2.2.2.2.1 (k + 1)
      have hxf := HP.out.2.2.1 x (List.mem_of_getElem? hx)
      obtain ⟨T0, hT0⟩ : ∃ T0, T1 ++ [10] ++ (C.take k).flatMap lineT = T0 := ⟨_, rfl⟩
      have t3 : T0 ++ [32, 32] ++ insT x ++ [59, 10] = T1 ++ [10] ++ (C.take (k + 1)).flatMap lineT := by rw [hnext, ← hT0]; simp [lineT]
      have m3 : (T0 ++ [32, 32] ++ insT x ++ [59, 10]).length ≤ big := by rw [t3]; exact hmax
      have m2 : (T0 ++ [32, 32] ++ insT x).length ≤ big := by rw [List.length_append] at m3; omega
      have m1 : (T0 ++ [32, 32]).length ≤ big := by rw [List.length_append] at m2; omega
      have HI2 := Lib.hid (show ∀ W', Wr w0 b (T0 ++ [32, 32]) W' → Calls Tryd.prog 63 #[.pointer (some ⟨b, 0, none⟩), .agg (insR x (R k))] W' fun e w' => e = .returned (.tuple #[]) ∧ Wrote w0 b (T0 ++ [32, 32] ++ insT x) W' w' from fun W' h' => instr_v w0 b _ _ x (R k) W' HP.out.1 h' hix hxf rfl m2)
      have HX := Lib.hid (And.intro t3 (And.intro m3 m1))
      rw [hT0] at HH
      have hBz := hb
      clear hnext hmax hxf hx hix t3 m3 m2 m1 hT0
      generalize R k = r2 at HI2 d5 d8 d9
      obtain ⟨op, ⟨dk, dc, dn, dt⟩, args, nm, off, labels, cas⟩ := x
      obtain ⟨aa, an, ac, la, ln, lc, ca, cn, cc⟩ := r2
      unfold insR at HI2
      dsimp only at d0 d1 d2 d3 d4 d5 d6 d7 d8 d9 HI2 HX
      have d0 := (HH.out.1.2.cell (p := ⟨bk, o + k * 10, none⟩) hb).trans d0
      have d1 := (HH.out.1.2.cell (p := ⟨bk, o + k * 10 + 1, none⟩) hb).trans d1
      have d2 := (HH.out.1.2.cell (p := ⟨bk, o + k * 10 + 2, none⟩) hb).trans d2
      have d3 := (HH.out.1.2.cell (p := ⟨bk, o + k * 10 + 3, none⟩) hb).trans d3
      have d4 := (HH.out.1.2.cell (p := ⟨bk, o + k * 10 + 4, none⟩) hb).trans d4
      have d5 := (HH.out.1.2.cell (p := ⟨bk, o + k * 10 + 5, none⟩) hb).trans d5
      have d6 := (HH.out.1.2.cell (p := ⟨bk, o + k * 10 + 6, none⟩) hb).trans d6
      have d7 := (HH.out.1.2.cell (p := ⟨bk, o + k * 10 + 7, none⟩) hb).trans d7
      have d8 := (HH.out.1.2.cell (p := ⟨bk, o + k * 10 + 8, none⟩) hb).trans d8
      have d9 := (HH.out.1.2.cell (p := ⟨bk, o + k * 10 + 9, none⟩) hb).trans d9
      have hal := heap_alloc_new wr (.cells #[.int .i64 op, .int .i64 dk, .int .i64 dc, .int .i64 dn, .int .i64 dt, .slice aa an ac, .string nm, .int .i64 off, .slice la ln lc, .slice ca cn cc] 57)
      have HAl := HH.out.1.alloc (.cells #[.int .i64 op, .int .i64 dk, .int .i64 dc, .int .i64 dn, .int .i64 dt, .slice aa an ac, .string nm, .int .i64 off, .slice la ln lc, .slice ca cn cc] 57)
      have KA : Keeps wa (wr.alloc (.cells #[.int .i64 op, .int .i64 dk, .int .i64 dc, .int .i64 dn, .int .i64 dt, .slice aa an ac, .string nm, .int .i64 off, .slice la ln lc, .slice ca cn cc] 57)) := HH.out.2.trans (Keeps.below ((Below.refl _ wr).alloc (Nat.le_refl _) _))
      obtain ⟨wB, hwB⟩ : ∃ wB, wr.alloc (.cells #[.int .i64 op, .int .i64 dk, .int .i64 dc, .int .i64 dn, .int .i64 dt, .slice aa an ac, .string nm, .int .i64 off, .slice la ln lc, .slice ca cn cc] 57) = wB := ⟨_, rfl⟩
      rw [hwB] at hal HAl KA
      have H3 := Lib.hid (And.intro hal (And.intro HAl KA))
      clear hal HAl KA hb hBz
      go_wp2_with fail
      clear hwB d0 d1 d2 d3 d4 d5 d6 d7 d8 d9
      refine (write_s w0 b T0 _ _ wB H3.out.2.1 rfl HX.out.2.2).mono ?_
      rintro e w3 ⟨rfl, h3⟩
      have H4 := Lib.hid h3
      clear h3
      obtain ⟨e0, e1, e2, e3, e4, e5, e6, e7, e8, e9⟩ := ten_cells (H4.out.box H3.out.1 (by decide) (by decide))
      go_wp2_with fail
      clear e0 e1 e2 e3 e4 e5 e6 e7 e8 e9
      refine (HI2.out w3 H4.out.1).mono ?_
      rintro e w4 ⟨rfl, h4⟩
      have H5 := Lib.hid (H4.out.next h4)
      clear h4
      go_wp2_with fail
      refine (write_s w0 b _ _ _ w4 H5.out.1 rfl HX.out.2.1).mono ?_
      rintro e w5 ⟨rfl, h5⟩
      have H6 := Lib.hid (H5.out.next h5)
      clear h5
      go_wp2_with fail
      go_roundg (gk - 1)
      case measure => omega
      case rel => exact ⟨k + 1, by omega, by go_num, Wrote.to ⟨H6.out.1, H3.out.2.2.trans H6.out.2⟩ HX.out.1⟩
    · obtain rfl : k = kn := by omega
      have hge : ¬ (k : Int) < (k : Int) := by omega
      go_wp2_with fail
      go_end0
      refine ⟨rfl, (HH.out.to ?_).from HA.out.2.1⟩
      rw [← HP.out.2.2.2.1, List.take_of_length_le (by rw [HP.out.2.2.2.2.2.2.2]; exact Nat.le_refl _)]
set_option maxHeartbeats 4000000 in
theorem function_true (w0 : World) (b : Nat) (l t : List UInt8) (name : ByteArray) (regs : List Rg) (params : List Opn) (blocks : List Blk) (ra : Option Addr) (rn rc : Nat) (pa : Option Addr) (pn pc : Nat) (ba : Option Addr) (bn bc : Nat) (R : Nat → BlkV) (W0 : World) (hG : Opr.Glob w0) (h : Wr w0 b l W0) (hI : IsFun w0 ⟨true, name, regs, params, blocks⟩ ⟨ra, rn, rc, pa, pn, pc, ba, bn, bc, R⟩) (hF : FunF ⟨true, name, regs, params, blocks⟩) (ht : l ++ funT ⟨true, name, regs, params, blocks⟩ = t) (hlen : t.length ≤ big) :
    Calls Tryd.prog 46 #[.pointer (some ⟨b, 0, none⟩), .agg #[.bool true, .string name, .slice ra rn rc, .slice pa pn pc, .slice ba bn bc]] W0 fun e w' => e = .returned (.tuple #[]) ∧ Wrote w0 b t W0 w' := by
  have lk := hI.blocks.1
  have lkm := hI.blocks.2.1
  dsimp only at lk lkm
  obtain ⟨T6, hT6⟩ : ∃ T6, l ++ [109, 97, 99, 104, 105, 110, 101, 32] ++ name.data.toList ++ [40] ++ rowT (params.map opnT) ++ [41, 32, 123, 10] ++ regsT regs = T6 := ⟨_, rfl⟩
  have t7 : (T6 ++ blocks.flatMap blkT) ++ [125, 10] = t := by rw [← ht, ← hT6]; simp [funT, funT1, funT0]
  have hTl : ∀ k, (T6 ++ (blocks.take k).flatMap blkT).length ≤ big := fun k => by
    have h1 := flat_le blkT blocks k
    rw [← t7] at hlen
    simp only [List.length_append] at hlen ⊢
    omega
  have n6 : T6.length ≤ big := by have := hTl 0; simpa using this
  have n5 : (l ++ [109, 97, 99, 104, 105, 110, 101, 32] ++ name.data.toList ++ [40] ++ rowT (params.map opnT) ++ [41, 32, 123, 10]).length ≤ big := by rw [← hT6, List.length_append] at n6; omega
  have n4 : (l ++ [109, 97, 99, 104, 105, 110, 101, 32] ++ name.data.toList ++ [40] ++ rowT (params.map opnT)).length ≤ big := by rw [List.length_append] at n5; omega
  have n3 : (l ++ [109, 97, 99, 104, 105, 110, 101, 32] ++ name.data.toList ++ [40]).length ≤ big := by rw [List.length_append] at n4; omega
  have n2 : (l ++ [109, 97, 99, 104, 105, 110, 101, 32] ++ name.data.toList).length ≤ big := by rw [List.length_append] at n3; omega
  have n1 : (l ++ [109, 97, 99, 104, 105, 110, 101, 32]).length ≤ big := by rw [List.length_append] at n2; omega
  have HA := Lib.hid (And.intro (h.alloc (.cells #[.bool true, .string name, .slice ra rn rc, .slice pa pn pc, .slice ba bn bc] 31)) (And.intro ((Below.refl _ W0).alloc (Nat.le_refl _) (.cells #[.bool true, .string name, .slice ra rn rc, .slice pa pn pc, .slice ba bn bc] 31)) (heap_alloc_new W0 (.cells #[.bool true, .string name, .slice ra rn rc, .slice pa pn pc, .slice ba bn bc] 31))))
  have HN := Lib.hid (And.intro n1 (And.intro n2 (And.intro n3 (And.intro n4 (And.intro n5 n6)))))
  have HP := Lib.hid (And.intro hG (And.intro hI (And.intro hF (And.intro hT6 (And.intro t7 (And.intro hTl (And.intro hlen lk)))))))
  clear hG h hI hF ht hlen hT6 t7 hTl n1 n2 n3 n4 n5 n6 lk
  obtain ⟨wa, hwa⟩ : ∃ wa, W0.alloc (.cells #[.bool true, .string name, .slice ra rn rc, .slice pa pn pc, .slice ba bn bc] 31) = wa := ⟨_, rfl⟩
  rw [hwa] at HA
  obtain ⟨e0, e1, e2, e3, e4⟩ := five_cells HA.out.2.2
  go_enter Tryd.func46, Tryd.ntmps46
  go_wp2_with fail
  clear hwa e0 e1 e2 e3 e4
  refine (write_s w0 b l _ _ wa HA.out.1 rfl HN.out.1).mono ?_
  rintro e w1 ⟨rfl, h1⟩
  have H1 := Lib.hid h1
  clear h1
  have S0 := Lib.hid (five_cells (H1.out.box HA.out.2.2 (by decide) (by decide)))
  go_wp2_with fail
  go_region_held3 (fun W => W.cell? ⟨W0.heap.size, 0, none⟩ = some (.bool true) ∧ W.cell? ⟨W0.heap.size, 1, none⟩ = some (.string name) ∧ W.cell? ⟨W0.heap.size, 2, none⟩ = some (.slice ra rn rc) ∧ W.cell? ⟨W0.heap.size, 3, none⟩ = some (.slice pa pn pc) ∧ W.cell? ⟨W0.heap.size, 4, none⟩ = some (.slice ba bn bc))
    (first | exact S1.out | exact S0.out)
    (first
      | (go_at_call 28; (refine (write_s w0 b _ _ _ w1.drew H1.out.1.drew rfl HN.out.2.1).mono ?_); rintro e w2 ⟨rfl, h2⟩; have H2 := Lib.hid (H1.out.next ⟨h2.1, Keeps.drew.trans h2.2⟩); have S1 := Lib.hid (five_cells (H2.out.box HA.out.2.2 (by decide) (by decide))); clear h2))
  clear S0 S1
  go_wp2_with fail
  refine (write_b w0 b _ _ 40 40 w2 H2.out.1 rfl rfl HN.out.2.2.1).mono ?_
  rintro e w3 ⟨rfl, h3⟩
  have H3 := Lib.hid (H2.out.next h3)
  clear h3
  have e3 : w3.cell? ⟨W0.heap.size, 3, none⟩ = some (.slice pa pn pc) := (five_cells (H3.out.box HA.out.2.2 (by decide) (by decide))).2.2.2.1
  go_wp2_with fail
  clear e3
  refine (operands_v w0 b _ _ pa pn pc params w3 H3.out.1 HP.out.2.1.params HP.out.2.2.1.params rfl HN.out.2.2.2.1).mono ?_
  rintro e w4 ⟨rfl, h4⟩
  have H4 := Lib.hid (H3.out.next h4)
  clear h4
  go_wp2_with fail
  refine (write_s w0 b _ _ _ w4 H4.out.1 rfl HN.out.2.2.2.2.1).mono ?_
  rintro e w5 ⟨rfl, h5⟩
  have H5 := Lib.hid (H4.out.next h5)
  clear h5
  have e2 : w5.cell? ⟨W0.heap.size, 2, none⟩ = some (.slice ra rn rc) := (five_cells (H5.out.box HA.out.2.2 (by decide) (by decide))).2.2.1
  go_wp2_with fail
  clear e2
  refine (regs_v w0 b _ T6 ra rn rc regs w5 H5.out.1 HP.out.2.1.regs HP.out.2.2.1.regs HP.out.2.2.2.1 HN.out.2.2.2.2.2).mono ?_
  rintro e w6 ⟨rfl, h6⟩
  have H6 := Lib.hid (H5.out.next h6)
  clear h6
  have e4 : w6.cell? ⟨W0.heap.size, 4, none⟩ = some (.slice ba bn bc) := (five_cells (H6.out.box HA.out.2.2 (by decide) (by decide))).2.2.2.2
  go_wp2_with fail
  clear e4
  go_loopg [41] bn (fun gk u wr => ∃ k : Nat, k + gk = bn ∧ u = .int .i64 (k : Int) ∧ Hid (Wrote w0 b (T6 ++ (blocks.take k).flatMap blkT) wa wr))
  case atStart => exact ⟨0, by omega, rfl, H6.out.to (by simp)⟩
  case round =>
    obtain ⟨k, hk, rfl, HH⟩ := hrel
    by_cases hlt : k < bn
    · obtain ⟨bk, o, rfl, hb, x, hx, hix, d0, d1, d2, d3⟩ := HP.out.2.1.blocks.at hlt
      have i1 : (k : Int) < (bn : Int) := by omega
      have hnext := flat_take blkT blocks k x hx
      have hmax := HP.out.2.2.2.2.2.1 (k + 1)
      have hxf := HP.out.2.2.1.blocks x (List.mem_of_getElem? hx)
      dsimp only at hix d0 d1 d2 d3
      obtain ⟨T0, hT0⟩ : ∃ T0, T6 ++ (blocks.take k).flatMap blkT = T0 := ⟨_, rfl⟩
      have t3 : T0 ++ blkT x = T6 ++ (blocks.take (k + 1)).flatMap blkT := by rw [hnext, ← hT0]; simp
      have m3 : (T0 ++ blkT x).length ≤ big := by rw [t3]; exact hmax
      have HI2 := Lib.hid (show ∀ W', Wr w0 b T0 W' → Calls Tryd.prog 56 #[.pointer (some ⟨b, 0, none⟩), .agg (blkR x (R k))] W' fun e w' => e = .returned (.tuple #[]) ∧ Wrote w0 b (T6 ++ (blocks.take (k + 1)).flatMap blkT) W' w' from fun W' h' => block_v w0 b _ _ x (R k) W' HP.out.1 h' hix hxf t3 (by rw [← t3]; exact m3))
      rw [hT0] at HH
      clear hnext hmax hxf hx hix t3 m3 hT0
      generalize R k = r2 at HI2 d2 d3
      obtain ⟨label, edge, ins, code⟩ := x
      obtain ⟨ia, il, ic, ka, kn, kc, R2⟩ := r2
      unfold blkR at HI2
      dsimp only at d0 d1 d2 d3 HI2
      have d0 := (HH.out.1.2.cell (p := ⟨bk, o + k * 4, none⟩) hb).trans d0
      have d1 := (HH.out.1.2.cell (p := ⟨bk, o + k * 4 + 1, none⟩) hb).trans d1
      have d2 := (HH.out.1.2.cell (p := ⟨bk, o + k * 4 + 2, none⟩) hb).trans d2
      have d3 := (HH.out.1.2.cell (p := ⟨bk, o + k * 4 + 3, none⟩) hb).trans d3
      have hal := heap_alloc_new wr (.cells #[.string label, .bool edge, .slice ia il ic, .slice ka kn kc] 52)
      have HAl := HH.out.1.alloc (.cells #[.string label, .bool edge, .slice ia il ic, .slice ka kn kc] 52)
      have KA : Keeps wa (wr.alloc (.cells #[.string label, .bool edge, .slice ia il ic, .slice ka kn kc] 52)) := HH.out.2.trans (Keeps.below ((Below.refl _ wr).alloc (Nat.le_refl _) _))
      obtain ⟨wB, hwB⟩ : ∃ wB, wr.alloc (.cells #[.string label, .bool edge, .slice ia il ic, .slice ka kn kc] 52) = wB := ⟨_, rfl⟩
      rw [hwB] at hal HAl KA
      have H7 := Lib.hid (And.intro hal (And.intro HAl KA))
      obtain ⟨k0, k1, k2, k3⟩ := four_cells hal
      clear hal HAl KA hb
      go_wp2_with fail
      clear hwB d0 d1 d2 d3 k0 k1 k2 k3
      refine (HI2.out wB H7.out.2.1).mono ?_
      rintro e w7 ⟨rfl, h7⟩
      have H8 := Lib.hid h7
      clear h7
      go_wp2_with fail
      go_roundg (gk - 1)
      case measure => omega
      case rel => exact ⟨k + 1, by omega, by go_num, ⟨H8.out.1, H7.out.2.2.trans H8.out.2⟩⟩
    · obtain rfl : k = bn := by omega
      have hge : ¬ (k : Int) < (k : Int) := by omega
      have hall := HH.out
      rw [List.take_of_length_le (by rw [HP.out.2.2.2.2.2.2.2]; exact Nat.le_refl _)] at hall
      have H9 := Lib.hid hall
      clear hall
      go_wp2_with fail
      refine (write_s w0 b _ t _ wr H9.out.1 HP.out.2.2.2.2.1 HP.out.2.2.2.2.2.2.1).mono ?_
      rintro e w8 ⟨rfl, h8⟩
      have H10 := Lib.hid (H9.out.next h8)
      clear h8
      go_wp2_with fail
      go_end0
      exact ⟨rfl, H10.out.from HA.out.2.1⟩
set_option maxHeartbeats 4000000 in
theorem function_false (w0 : World) (b : Nat) (l t : List UInt8) (name : ByteArray) (regs : List Rg) (params : List Opn) (blocks : List Blk) (ra : Option Addr) (rn rc : Nat) (pa : Option Addr) (pn pc : Nat) (ba : Option Addr) (bn bc : Nat) (R : Nat → BlkV) (W0 : World) (hG : Opr.Glob w0) (h : Wr w0 b l W0) (hI : IsFun w0 ⟨false, name, regs, params, blocks⟩ ⟨ra, rn, rc, pa, pn, pc, ba, bn, bc, R⟩) (hF : FunF ⟨false, name, regs, params, blocks⟩) (ht : l ++ funT ⟨false, name, regs, params, blocks⟩ = t) (hlen : t.length ≤ big) :
    Calls Tryd.prog 46 #[.pointer (some ⟨b, 0, none⟩), .agg #[.bool false, .string name, .slice ra rn rc, .slice pa pn pc, .slice ba bn bc]] W0 fun e w' => e = .returned (.tuple #[]) ∧ Wrote w0 b t W0 w' := by
  have lk := hI.blocks.1
  have lkm := hI.blocks.2.1
  dsimp only at lk lkm
  obtain ⟨T6, hT6⟩ : ∃ T6, l ++ [102, 117, 110, 99, 32] ++ name.data.toList ++ [40] ++ rowT (params.map opnT) ++ [41, 32, 123, 10] ++ regsT regs = T6 := ⟨_, rfl⟩
  have t7 : (T6 ++ blocks.flatMap blkT) ++ [125, 10] = t := by rw [← ht, ← hT6]; simp [funT, funT1, funT0]
  have hTl : ∀ k, (T6 ++ (blocks.take k).flatMap blkT).length ≤ big := fun k => by
    have h1 := flat_le blkT blocks k
    rw [← t7] at hlen
    simp only [List.length_append] at hlen ⊢
    omega
  have n6 : T6.length ≤ big := by have := hTl 0; simpa using this
  have n5 : (l ++ [102, 117, 110, 99, 32] ++ name.data.toList ++ [40] ++ rowT (params.map opnT) ++ [41, 32, 123, 10]).length ≤ big := by rw [← hT6, List.length_append] at n6; omega
  have n4 : (l ++ [102, 117, 110, 99, 32] ++ name.data.toList ++ [40] ++ rowT (params.map opnT)).length ≤ big := by rw [List.length_append] at n5; omega
  have n3 : (l ++ [102, 117, 110, 99, 32] ++ name.data.toList ++ [40]).length ≤ big := by rw [List.length_append] at n4; omega
  have n2 : (l ++ [102, 117, 110, 99, 32] ++ name.data.toList).length ≤ big := by rw [List.length_append] at n3; omega
  have n1 : (l ++ [102, 117, 110, 99, 32]).length ≤ big := by rw [List.length_append] at n2; omega
  have HA := Lib.hid (And.intro (h.alloc (.cells #[.bool false, .string name, .slice ra rn rc, .slice pa pn pc, .slice ba bn bc] 31)) (And.intro ((Below.refl _ W0).alloc (Nat.le_refl _) (.cells #[.bool false, .string name, .slice ra rn rc, .slice pa pn pc, .slice ba bn bc] 31)) (heap_alloc_new W0 (.cells #[.bool false, .string name, .slice ra rn rc, .slice pa pn pc, .slice ba bn bc] 31))))
  have HN := Lib.hid (And.intro n1 (And.intro n2 (And.intro n3 (And.intro n4 (And.intro n5 n6)))))
  have HP := Lib.hid (And.intro hG (And.intro hI (And.intro hF (And.intro hT6 (And.intro t7 (And.intro hTl (And.intro hlen lk)))))))
  clear hG h hI hF ht hlen hT6 t7 hTl n1 n2 n3 n4 n5 n6 lk
  obtain ⟨wa, hwa⟩ : ∃ wa, W0.alloc (.cells #[.bool false, .string name, .slice ra rn rc, .slice pa pn pc, .slice ba bn bc] 31) = wa := ⟨_, rfl⟩
  rw [hwa] at HA
  obtain ⟨e0, e1, e2, e3, e4⟩ := five_cells HA.out.2.2
  go_enter Tryd.func46, Tryd.ntmps46
  go_wp2_with fail
  clear hwa e0 e1 e2 e3 e4
  refine (write_s w0 b l _ _ wa HA.out.1 rfl HN.out.1).mono ?_
  rintro e w1 ⟨rfl, h1⟩
  have H1 := Lib.hid h1
  clear h1
  have S0 := Lib.hid (five_cells (H1.out.box HA.out.2.2 (by decide) (by decide)))
  go_wp2_with fail
  go_region_held3 (fun W => W.cell? ⟨W0.heap.size, 0, none⟩ = some (.bool false) ∧ W.cell? ⟨W0.heap.size, 1, none⟩ = some (.string name) ∧ W.cell? ⟨W0.heap.size, 2, none⟩ = some (.slice ra rn rc) ∧ W.cell? ⟨W0.heap.size, 3, none⟩ = some (.slice pa pn pc) ∧ W.cell? ⟨W0.heap.size, 4, none⟩ = some (.slice ba bn bc))
    (first | exact S1.out | exact S0.out)
    (first
      | (go_at_call 28; (refine (write_s w0 b _ _ _ w1.drew H1.out.1.drew rfl HN.out.2.1).mono ?_); rintro e w2 ⟨rfl, h2⟩; have H2 := Lib.hid (H1.out.next ⟨h2.1, Keeps.drew.trans h2.2⟩); have S1 := Lib.hid (five_cells (H2.out.box HA.out.2.2 (by decide) (by decide))); clear h2))
  clear S0 S1
  go_wp2_with fail
  refine (write_b w0 b _ _ 40 40 w2 H2.out.1 rfl rfl HN.out.2.2.1).mono ?_
  rintro e w3 ⟨rfl, h3⟩
  have H3 := Lib.hid (H2.out.next h3)
  clear h3
  have e3 : w3.cell? ⟨W0.heap.size, 3, none⟩ = some (.slice pa pn pc) := (five_cells (H3.out.box HA.out.2.2 (by decide) (by decide))).2.2.2.1
  go_wp2_with fail
  clear e3
  refine (operands_v w0 b _ _ pa pn pc params w3 H3.out.1 HP.out.2.1.params HP.out.2.2.1.params rfl HN.out.2.2.2.1).mono ?_
  rintro e w4 ⟨rfl, h4⟩
  have H4 := Lib.hid (H3.out.next h4)
  clear h4
  go_wp2_with fail
  refine (write_s w0 b _ _ _ w4 H4.out.1 rfl HN.out.2.2.2.2.1).mono ?_
  rintro e w5 ⟨rfl, h5⟩
  have H5 := Lib.hid (H4.out.next h5)
  clear h5
  have e2 : w5.cell? ⟨W0.heap.size, 2, none⟩ = some (.slice ra rn rc) := (five_cells (H5.out.box HA.out.2.2 (by decide) (by decide))).2.2.1
  go_wp2_with fail
  clear e2
  refine (regs_v w0 b _ T6 ra rn rc regs w5 H5.out.1 HP.out.2.1.regs HP.out.2.2.1.regs HP.out.2.2.2.1 HN.out.2.2.2.2.2).mono ?_
  rintro e w6 ⟨rfl, h6⟩
  have H6 := Lib.hid (H5.out.next h6)
  clear h6
  have e4 : w6.cell? ⟨W0.heap.size, 4, none⟩ = some (.slice ba bn bc) := (five_cells (H6.out.box HA.out.2.2 (by decide) (by decide))).2.2.2.2
  go_wp2_with fail
  clear e4
  go_loopg [41] bn (fun gk u wr => ∃ k : Nat, k + gk = bn ∧ u = .int .i64 (k : Int) ∧ Hid (Wrote w0 b (T6 ++ (blocks.take k).flatMap blkT) wa wr))
  case atStart => exact ⟨0, by omega, rfl, H6.out.to (by simp)⟩
  case round =>
    obtain ⟨k, hk, rfl, HH⟩ := hrel
    by_cases hlt : k < bn
    · obtain ⟨bk, o, rfl, hb, x, hx, hix, d0, d1, d2, d3⟩ := HP.out.2.1.blocks.at hlt
      have i1 : (k : Int) < (bn : Int) := by omega
      have hnext := flat_take blkT blocks k x hx
      have hmax := HP.out.2.2.2.2.2.1 (k + 1)
      have hxf := HP.out.2.2.1.blocks x (List.mem_of_getElem? hx)
      dsimp only at hix d0 d1 d2 d3
      obtain ⟨T0, hT0⟩ : ∃ T0, T6 ++ (blocks.take k).flatMap blkT = T0 := ⟨_, rfl⟩
      have t3 : T0 ++ blkT x = T6 ++ (blocks.take (k + 1)).flatMap blkT := by rw [hnext, ← hT0]; simp
      have m3 : (T0 ++ blkT x).length ≤ big := by rw [t3]; exact hmax
      have HI2 := Lib.hid (show ∀ W', Wr w0 b T0 W' → Calls Tryd.prog 56 #[.pointer (some ⟨b, 0, none⟩), .agg (blkR x (R k))] W' fun e w' => e = .returned (.tuple #[]) ∧ Wrote w0 b (T6 ++ (blocks.take (k + 1)).flatMap blkT) W' w' from fun W' h' => block_v w0 b _ _ x (R k) W' HP.out.1 h' hix hxf t3 (by rw [← t3]; exact m3))
      rw [hT0] at HH
      clear hnext hmax hxf hx hix t3 m3 hT0
      generalize R k = r2 at HI2 d2 d3
      obtain ⟨label, edge, ins, code⟩ := x
      obtain ⟨ia, il, ic, ka, kn, kc, R2⟩ := r2
      unfold blkR at HI2
      dsimp only at d0 d1 d2 d3 HI2
      have d0 := (HH.out.1.2.cell (p := ⟨bk, o + k * 4, none⟩) hb).trans d0
      have d1 := (HH.out.1.2.cell (p := ⟨bk, o + k * 4 + 1, none⟩) hb).trans d1
      have d2 := (HH.out.1.2.cell (p := ⟨bk, o + k * 4 + 2, none⟩) hb).trans d2
      have d3 := (HH.out.1.2.cell (p := ⟨bk, o + k * 4 + 3, none⟩) hb).trans d3
      have hal := heap_alloc_new wr (.cells #[.string label, .bool edge, .slice ia il ic, .slice ka kn kc] 52)
      have HAl := HH.out.1.alloc (.cells #[.string label, .bool edge, .slice ia il ic, .slice ka kn kc] 52)
      have KA : Keeps wa (wr.alloc (.cells #[.string label, .bool edge, .slice ia il ic, .slice ka kn kc] 52)) := HH.out.2.trans (Keeps.below ((Below.refl _ wr).alloc (Nat.le_refl _) _))
      obtain ⟨wB, hwB⟩ : ∃ wB, wr.alloc (.cells #[.string label, .bool edge, .slice ia il ic, .slice ka kn kc] 52) = wB := ⟨_, rfl⟩
      rw [hwB] at hal HAl KA
      have H7 := Lib.hid (And.intro hal (And.intro HAl KA))
      obtain ⟨k0, k1, k2, k3⟩ := four_cells hal
      clear hal HAl KA hb
      go_wp2_with fail
      clear hwB d0 d1 d2 d3 k0 k1 k2 k3
      refine (HI2.out wB H7.out.2.1).mono ?_
      rintro e w7 ⟨rfl, h7⟩
      have H8 := Lib.hid h7
      clear h7
      go_wp2_with fail
      go_roundg (gk - 1)
      case measure => omega
      case rel => exact ⟨k + 1, by omega, by go_num, ⟨H8.out.1, H7.out.2.2.trans H8.out.2⟩⟩
    · obtain rfl : k = bn := by omega
      have hge : ¬ (k : Int) < (k : Int) := by omega
      have hall := HH.out
      rw [List.take_of_length_le (by rw [HP.out.2.2.2.2.2.2.2]; exact Nat.le_refl _)] at hall
      have H9 := Lib.hid hall
      clear hall
      go_wp2_with fail
      refine (write_s w0 b _ t _ wr H9.out.1 HP.out.2.2.2.2.1 HP.out.2.2.2.2.2.2.1).mono ?_
      rintro e w8 ⟨rfl, h8⟩
      have H10 := Lib.hid (H9.out.next h8)
      clear h8
      go_wp2_with fail
      go_end0
      exact ⟨rfl, H10.out.from HA.out.2.1⟩
theorem function_v (w0 : World) (b : Nat) (l t : List UInt8) (f : Fun) (v : FunV) (W0 : World) (hG : Opr.Glob w0) (h : Wr w0 b l W0) (hI : IsFun w0 f v) (hF : FunF f) (ht : l ++ funT f = t) (hlen : t.length ≤ big) :
    Calls Tryd.prog 46 #[.pointer (some ⟨b, 0, none⟩), .agg (funR f v)] W0 fun e w' => e = .returned (.tuple #[]) ∧ Wrote w0 b t W0 w' := by
  obtain ⟨machine, name, regs, params, blocks⟩ := f
  obtain ⟨ra, rn, rc, pa, pn, pc, ba, bn, bc, R⟩ := v
  unfold funR
  dsimp only
  cases machine
  · exact function_false w0 b l t name regs params blocks ra rn rc pa pn pc ba bn bc R W0 hG h hI hF ht hlen
  · exact function_true w0 b l t name regs params blocks ra rn rc pa pn pc ba bn bc R W0 hG h hI hF ht hlen
end Go.Proofs.YtakfoncdiejhaaaDoor
