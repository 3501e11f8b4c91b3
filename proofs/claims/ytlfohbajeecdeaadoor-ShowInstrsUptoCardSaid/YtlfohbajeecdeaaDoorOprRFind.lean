
/- The document's own Find: the row of an operation, or the empty one. -/
import Derived.Test.YtlfohbajeecdeaaDoorOprAll
import Derived.Laws.ResultCell
namespace Go.Proofs.YtlfohbajeecdeaaDoor.Opr
open Go.ChangeShapes Go.WideShapes Go.RowKit
set_option linter.unusedVariables false

theorem Argd.mono {B B' : Nat} {w : World} {A : Option Addr} {ar : List ByteArray} (h : Argd B w A ar) (hB : B' ≤ B) : Argd B' w A ar := by
  rcases h with h | ⟨g, cs, h1, h2, h3, h4⟩
  · exact .inl h
  · exact .inr ⟨g, cs, h1, Nat.le_trans hB h2, h3, h4⟩
theorem Tb.at {w wr : World} {g c : Nat} {l : List (Rw × Option Addr)} (h : Tb w wr 27 (some ⟨g, 0, none⟩) c l) (k : Nat) (hk : k < 27) :
    ∃ A, Argd w.heap.size wr A (tab.getD k rw0).ar ∧ wr.cell? ⟨g, k * 5, none⟩ = some (.string (tab.getD k rw0).nm) ∧ wr.cell? ⟨g, k * 5 + 1, none⟩ = some (.string (tab.getD k rw0).ds) ∧
      wr.cell? ⟨g, k * 5 + 2, none⟩ = some (.slice A (tab.getD k rw0).ar.length (tab.getD k rw0).ar.length) ∧ wr.cell? ⟨g, k * 5 + 3, none⟩ = some (.int .i64 (tab.getD k rw0).lb) ∧ wr.cell? ⟨g, k * 5 + 4, none⟩ = some (.bool (tab.getD k rw0).al) := by
  have hkl : k < l.length := by rw [h.len]; exact hk
  have hr : (l[k]).1 = tab.getD k rw0 := by
    have e := congrArg (fun m => m[k]?) h.rows
    simp only [List.getElem?_map, List.getElem?_eq_getElem hkl, Option.map_some] at e
    rw [List.getElem?_take_of_lt hk, List.getElem?_eq_getElem (by rw [tab_len]; exact hk)] at e
    injection e with e
    rw [e, List.getD_eq_getElem?_getD, List.getElem?_eq_getElem (by rw [tab_len]; exact hk)]; rfl
  have hA := h.args l[k] (List.getElem_mem hkl)
  rw [hr] at hA
  have hc := fun j (hj : j < 5) => (h.own.cellAt (k * 5 + j) (by omega)).trans (rcs_at l k j hkl hj)
  have c0 := hc 0 (by decide)
  have c1 := hc 1 (by decide)
  have c2 := hc 2 (by decide)
  have c3 := hc 3 (by decide)
  have c4 := hc 4 (by decide)
  unfold rc at c0 c1 c2 c3 c4
  rw [hr] at c0 c1 c2 c3 c4
  exact ⟨_, hA, c0, c1, c2, c3, c4⟩
theorem results_cell2 {P : Program} {fn : Func} {p u : Tmp} {ty : TypeId} (h : fn.results = #[.cell p ty, .tmp u]) (tmps : Array Value) (w : World) (g : Nat) (t : TypeId) (cs : Array Value) (fr : Nat × Nat) (d : TypeDesc)
    (hp : tmps.getD p undef = .pointer (some ⟨g, 0, none⟩)) (hg : w.heap[g]? = some (.cells cs t fr))
    (hu : P.underlying ty = some d) (hd : (match d with | .struct _ | .array _ _ => true | _ => false) = true) (hi : (P.info? ty).map (·.size) = some cs.size) :
    (results fn tmps).run P w = .ok (.tuple #[.agg cs, tmps.getD u undef]) w := by
  have hp' : tmps[p]?.getD undef = .pointer (some ⟨g, 0, none⟩) := by simpa using hp
  simp [results, h, hp', asAddr, run_loadVar_row w g t ty cs fr d hg hu hd hi]
def five (w : World) (b : Nat) (x0 x1 x2 x3 x4 : Value) : World := ((((w.setCell ⟨b, 0, none⟩ x0).setCell ⟨b, 1, none⟩ x1).setCell ⟨b, 2, none⟩ x2).setCell ⟨b, 3, none⟩ x3).setCell ⟨b, 4, none⟩ x4
theorem five_heap {w : World} {b : Nat} {x0 x1 x2 x3 x4 y0 y1 y2 y3 y4 : Value} {T : TypeId} (h : w.heap[b]? = some (.cells #[y0, y1, y2, y3, y4] T (0, 0))) : (five w b x0 x1 x2 x3 x4).heap[b]? = some (.cells #[x0, x1, x2, x3, x4] T (0, 0)) := by
  unfold five
  simp [World.setCell, Array.getElem?_modify, h]
theorem five_below {B : Nat} {w w1 : World} {b : Nat} {x0 x1 x2 x3 x4 : Value} (h : Below B w w1) (hb : B ≤ b) : Below B w (five w1 b x0 x1 x2 x3 x4) :=
  ((((h.setCell (p := ⟨b, 0, none⟩) hb _).setCell (p := ⟨b, 1, none⟩) hb _).setCell (p := ⟨b, 2, none⟩) hb _).setCell (p := ⟨b, 3, none⟩) hb _).setCell (p := ⟨b, 4, none⟩) hb _
theorem five_far {w : World} {b g : Nat} {x0 x1 x2 x3 x4 : Value} (h : g ≠ b) : (five w b x0 x1 x2 x3 x4).heap[g]? = w.heap[g]? := by
  unfold five
  simp [World.setCell, Array.getElem?_modify, Ne.symm h]
theorem size25 : (Tryd.prog.info? 58).map (·.size) = some 5 := by kernel_rfl
theorem fin2 {fn : Func} {p u : Tmp} (h : fn.results = #[.cell p 58, .tmp u]) {act : Act} {w : World} {g : Nat} {x0 x1 x2 x3 x4 : Value} {R : Ending → World → Prop}
    (hp : act.tmps.getD p undef = .pointer (some ⟨g, 0, none⟩)) (hg : w.heap[g]? = some (.cells #[x0, x1, x2, x3, x4] 58 (0, 0))) (hd : act.defers = [])
    (hR : R (.returned (.tuple #[.agg #[x0, x1, x2, x3, x4], act.tmps.getD u undef])) w) : bodyPost Tryd.prog fn R .ret act w :=
  bodyPost_ret (results_cell2 h _ _ g 58 _ (0, 0) _ hp hg Tryd.underlying58 rfl size25) hd hR
/-- What Find hands back. -/
def FindP (n : Int) (w : World) (e : Ending) (w' : World) : Prop :=
  ∃ A, e = .returned (.tuple #[.agg (rc (rowOf n, A)), .bool (isOp n)]) ∧ Argd w.heap.size w' A (rowOf n).ar ∧ Below w.heap.size w w'
/-- The answer's cells, and what a call behind leaves of them. -/
structure Own5 (w w1 : World) : Prop where
  below : Below w.heap.size w w1
  z : w1.heap[w.heap.size]? = some (.cells z25 58 (0, 0))
theorem own5_next {w w1 : World} (hb : Below (w.heap.size + 1) (w.alloc (.cells z25 58)) w1) : Own5 w w1 := by
  refine ⟨((Below.refl _ w).alloc (Nat.le_refl _) _).trans (hb.mono (by omega)), ?_⟩
  rw [hb.block w.heap.size (by omega)]
  exact heap_alloc_new w _
theorem Own5.cells {w w1 : World} (h : Own5 w w1) : w1.cell? ⟨w.heap.size, 0, none⟩ = some (.string ⟨#[]⟩) ∧ w1.cell? ⟨w.heap.size, 1, none⟩ = some (.string ⟨#[]⟩) ∧ w1.cell? ⟨w.heap.size, 2, none⟩ = some (.slice none 0 0) ∧
    w1.cell? ⟨w.heap.size, 3, none⟩ = some (.int .i64 0) ∧ w1.cell? ⟨w.heap.size, 4, none⟩ = some (.bool false) := by
  refine ⟨?_, ?_, ?_, ?_, ?_⟩ <;> (rw [cell_of_row _ _ _ _ _ _ h.z]; rfl)
theorem Own5.frozen {w w1 : World} (h : Own5 w w1) : w1.frozen? ⟨w.heap.size, 0, none⟩ = false ∧ w1.frozen? ⟨w.heap.size, 1, none⟩ = false ∧
    w1.frozen? ⟨w.heap.size, 2, none⟩ = false ∧ w1.frozen? ⟨w.heap.size, 3, none⟩ = false ∧ w1.frozen? ⟨w.heap.size, 4, none⟩ = false :=
  ⟨frozen_of_row _ _ _ _ _ h.z, frozen_of_row _ _ _ _ _ h.z, frozen_of_row _ _ _ _ _ h.z, frozen_of_row _ _ _ _ _ h.z, frozen_of_row _ _ _ _ _ h.z⟩
theorem Own5.five {w w1 : World} (h : Own5 w w1) (x0 x1 x2 x3 x4 : Value) : (five w1 w.heap.size x0 x1 x2 x3 x4).heap[w.heap.size]? = some (.cells #[x0, x1, x2, x3, x4] 58 (0, 0)) ∧ Below w.heap.size w (five w1 w.heap.size x0 x1 x2 x3 x4) :=
  ⟨five_heap h.z, five_below h.below (Nat.le_refl _)⟩
theorem Own5.args {w w1 : World} {A : Option Addr} {ar : List ByteArray} (h : Argd (w.heap.size + 1) w1 A ar) (x0 x1 x2 x3 x4 : Value) : Argd w.heap.size (Go.Proofs.YtlfohbajeecdeaaDoor.Opr.five w1 w.heap.size x0 x1 x2 x3 x4) A ar := by
  rcases h with h | ⟨g, cs, h1, h2, h3, h4⟩
  · exact .inl h
  · exact .inr ⟨g, cs, h1, by omega, by rw [five_far (by omega)]; exact h3, h4⟩
theorem rfind_in (k : Nat) (hk : k < 27) (n : Int) (hn : n = (k : Int) + 1) (w : World) : Calls Tryd.prog 24 #[.int .i64 n] w (FindP n w) := by
  have hr : rowOf n = tab.getD k rw0 := by rw [hn]; exact rowOf_op k hk
  have ho : isOp n = true := by unfold isOp; simp; omega
  obtain ⟨R, hR⟩ : ∃ R, tab.getD k rw0 = R := ⟨_, rfl⟩
  rw [hR] at hr
  have HR := Lib.hid (And.intro hr (And.intro ho hR))
  have q : n - 1 = (k : Int) := by omega
  have c1 : decide (n < 1) = false := by rw [decide_eq_false_iff_not]; omega
  have c2 : decide (27 < n) = false := by rw [decide_eq_false_iff_not]; omega
  have n1 : 1 ≤ n := by omega
  have n2 : n ≤ 27 := by omega
  have k0 : (0 : Int) ≤ (k : Int) := by omega
  have k1 : (k : Int) < 27 := by omega
  clear hn hr ho hR
  go_enter Tryd.func24, Tryd.ntmps24
  go_wp2_with fail
  refine (all_v _).mono ?_
  rintro e w1 ⟨g, c, l, rfl, htb⟩
  obtain ⟨A, hA, d0, d1, d2, d3, d4⟩ := htb.at k hk
  rw [HR.out.2.2] at hA d0 d1 d2 d3 d4
  have hb := htb.below
  rw [World.size_alloc] at hb hA
  have M1 := Lib.hid (own5_next hb)
  have HA := Lib.hid hA
  obtain ⟨z0, z1, z2, z3, z4⟩ := M1.out.cells
  obtain ⟨f0, f1, f2, f3, f4⟩ := M1.out.frozen
  clear htb hA hb
  go_wp2_with fail
  refine fin2 (fn := Tryd.f24) rfl rfl (M1.out.five _ _ _ _ _).1 rfl ?_
  refine ⟨A, ?_, ?_, (M1.out.five _ _ _ _ _).2⟩
  · rw [HR.out.1, HR.out.2.1]; rfl
  · rw [HR.out.1]; exact Own5.args HA.out _ _ _ _ _
theorem rfind_low (n : Int) (hn : n < 1) (w : World) : Calls Tryd.prog 24 #[.int .i64 n] w (FindP n w) := by
  have hr : rowOf n = rw0 := rowOf_none n (.inl hn)
  have ho : isOp n = false := by unfold isOp; simp; omega
  have HR := Lib.hid (And.intro hr ho)
  have c1 : decide (n < 1) = true := decide_eq_true hn
  clear hn hr ho
  go_enter Tryd.func24, Tryd.ntmps24
  go_wp2_with fail
  refine (all_v _).mono ?_
  rintro e w1 ⟨g, c, l, rfl, htb⟩
  have hb := htb.below
  rw [World.size_alloc] at hb
  have M1 := Lib.hid (own5_next hb)
  obtain ⟨z0, z1, z2, z3, z4⟩ := M1.out.cells
  obtain ⟨f0, f1, f2, f3, f4⟩ := M1.out.frozen
  clear htb hb
  go_wp2_with fail
  refine fin2 (fn := Tryd.f24) rfl rfl (M1.out.five _ _ _ _ _).1 rfl ?_
  refine ⟨none, ?_, ?_, (M1.out.five _ _ _ _ _).2⟩
  · rw [HR.out.1, HR.out.2]; rfl
  · rw [HR.out.1]; exact .inl ⟨rfl, rfl⟩
theorem rfind_high (n : Int) (hn : 27 < n) (w : World) : Calls Tryd.prog 24 #[.int .i64 n] w (FindP n w) := by
  have hr : rowOf n = rw0 := rowOf_none n (.inr hn)
  have ho : isOp n = false := by unfold isOp; simp; omega
  have HR := Lib.hid (And.intro hr ho)
  have c1 : decide (n < 1) = false := by rw [decide_eq_false_iff_not]; omega
  have c2 : decide (27 < n) = true := decide_eq_true hn
  clear hn hr ho
  go_enter Tryd.func24, Tryd.ntmps24
  go_wp2_with fail
  refine (all_v _).mono ?_
  rintro e w1 ⟨g, c, l, rfl, htb⟩
  have hb := htb.below
  rw [World.size_alloc] at hb
  have M1 := Lib.hid (own5_next hb)
  obtain ⟨z0, z1, z2, z3, z4⟩ := M1.out.cells
  obtain ⟨f0, f1, f2, f3, f4⟩ := M1.out.frozen
  clear htb hb
  go_wp2_with fail
  refine fin2 (fn := Tryd.f24) rfl rfl (M1.out.five _ _ _ _ _).1 rfl ?_
  refine ⟨none, ?_, ?_, (M1.out.five _ _ _ _ _).2⟩
  · rw [HR.out.1, HR.out.2]; rfl
  · rw [HR.out.1]; exact .inl ⟨rfl, rfl⟩
theorem rfind_v (n : Int) (w : World) : Calls Tryd.prog 24 #[.int .i64 n] w (FindP n w) := by
  by_cases h1 : n < 1
  · exact rfind_low n h1 w
  · by_cases h2 : 27 < n
    · exact rfind_high n h2 w
    · exact rfind_in (n - 1).toNat (by omega) n (by omega) w
end Go.Proofs.YtlfohbajeecdeaaDoor.Opr
