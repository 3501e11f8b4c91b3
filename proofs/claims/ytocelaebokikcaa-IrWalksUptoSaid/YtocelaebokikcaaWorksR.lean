/- What works' function literal makes, in whatever order. -/
import Derived.Test.YtocelaebokikcaaVals
import Derived.BigRegion
import Derived.ChangeAlike
import Derived.Deep.RegionWith
namespace Go.Proofs.Ytocelaebokikcaa
open Go.ChangeShapes Go.WideShapes Go.RowKit
set_option linter.unusedVariables false
set_option linter.unusedSimpArgs false
set_option maxRecDepth 100000

def wI1 (P1 : Nat) : Array Value := #[.int .i64 1, .int .i64 1, .int .i64 0, .int .i64 2, .int .i64 0, .slice (some ⟨P1, 0, none⟩) 2 2, .string ⟨#[]⟩, .int .i64 0, .slice none 0 0, .slice none 0 0]
def wCode (P1 : Nat) : Array Value := #[.int .i64 1, .int .i64 1, .int .i64 0, .int .i64 2, .int .i64 0, .slice (some ⟨P1, 0, none⟩) 2 2, .string ⟨#[]⟩, .int .i64 0, .slice none 0 0, .slice none 0 0, .int .i64 19, .int .i64 0, .int .i64 0, .int .i64 0, .int .i64 0, .slice none 0 0, .string ⟨#[113]⟩, .int .i64 0, .slice none 0 0, .slice none 0 0]
/-- What lies there behind the function's literal. -/
structure WMem (w2 : World) (P1 p3 : Nat) (w' : World) : Prop where
  out : ∃ ga gb gc gd, w'.heap[ga]? = some (.cells #[.int .i64 2, .int .i64 0, .int .i64 7, .int .i64 1] 71 (0, 0)) ∧ w'.heap[gb]? = some (.cells #[.int .i64 1, .int .i64 0, .int .i64 7, .int .i64 0] 44 (0, 0)) ∧
    w'.heap[gc]? = some (.cells (wCode P1) 51 (0, 0)) ∧ w'.heap[gd]? = some (.cells #[.string ⟨#[97]⟩, .bool false, .slice none 0 0, .slice (some ⟨gc, 0, none⟩) 2 2] 48 (0, 0)) ∧
    w'.heap[p3]? = some (.cells #[.bool false, .string ⟨#[102]⟩, .slice (some ⟨ga, 0, none⟩) 2 2, .slice (some ⟨gb, 0, none⟩) 1 1, .slice (some ⟨gd, 0, none⟩) 1 1] 31 (0, 0)) ∧ Below w2.heap.size w2 w' ∧ w2.heap.size ≤ p3
structure WAct (w2 : World) (P1 P2 : Nat) (a : Act) (w' : World) : Prop where
  out : ∃ (p3 : Nat) (u20 u21 u22 u23 u24 u25 u26 u27 u28 u29 u30 u31 : Value), a = { tmps := #[.bool false, .func (.func 39) #[] #[], .pointer (some ⟨P2, 0, none⟩), .pointer (some ⟨p3, 0, none⟩), undef, undef, undef, undef, undef, undef, undef, undef, .func (.func 39) #[] #[], .agg #[.int .i64 1, .int .i64 0, .int .i64 2, .int .i64 0], .func (.func 39) #[] #[], .agg #[.int .i64 1, .int .i64 0, .int .i64 7, .int .i64 0], .func (.func 39) #[] #[], .agg #[.int .i64 1, .int .i64 0, .int .i64 7, .int .i64 0], .slice (some ⟨P1, 0, none⟩) 2 2, .agg #[.int .i64 1, .int .i64 1, .int .i64 0, .int .i64 2, .int .i64 0, .slice (some ⟨P1, 0, none⟩) 2 2, .string ⟨#[]⟩, .int .i64 0, .slice none 0 0, .slice none 0 0], u20, u21, u22, u23, u24, u25, u26, u27, u28, u29, u30, u31, undef, undef, undef, undef, undef, undef, undef, undef, undef, undef, undef, undef, undef, undef, undef, undef, undef, undef, undef, undef, undef, undef, undef, undef, undef, undef, undef, undef, undef, undef, undef, undef, undef, undef, undef, undef, undef, undef, undef, undef, undef, undef, undef, undef, undef, undef, undef, undef, undef, undef, undef, undef, undef, undef, undef, undef, undef, undef, undef, undef, undef, undef, undef, undef, undef, undef, undef, undef, undef, undef, undef, undef, undef, undef, undef, undef, undef, undef, undef, undef, undef, undef, undef, undef, undef, undef, undef, undef], defers := [] } ∧ WMem w2 P1 p3 w'
def WPost (w2 : World) (P1 P2 : Nat) : Exit → Act → World → Prop
  | .normal, a, w' => WAct w2 P1 P2 a w'
  | _, _, _ => False
theorem drew_heap (w : World) : w.drew.heap = w.heap := rfl
theorem new_at {w : World} {o : Obj} {g : Nat} (h : g = w.heap.size) : (w.alloc o).heap[g]? = some o := by subst h; exact heap_alloc_new w o
theorem works1_x (v : Int) (w : World) : Calls Try.prog 39 #[.int .i64 v] w fun e w' => e = .returned (.agg #[.int .i64 1, .int .i64 0, .int .i64 v, .int .i64 0]) ∧ w' = w.alloc (.cells #[.int .i64 1, .int .i64 0, .int .i64 v, .int .i64 0] 44) := by
  go_enter Try.func39, Try.ntmps39
  go_wp2_with fail
  refine bodyPost_ret (results_cell_row (fn := Try.f39) rfl _ _ w.heap.size 44 #[.int .i64 1, .int .i64 0, .int .i64 v, .int .i64 0] (0, 0) _ rfl (heap_alloc_new w _) Try.underlying44 rfl (by kernel_rfl)) rfl ?_
  exact ⟨rfl, rfl⟩
section
variable {P : Program} {md : Region.Mode} {ops : Array Oper} {Q : Exit → Act → World → Prop}
def cntF (L : Array Bool) : Nat := L.toList.countP (fun b => !b)
theorem cntF_lt (L : Array Bool) (i : Nat) (h : L.getD i true = false) : cntF (L.setIfInBounds i true) < cntF L := by
  obtain ⟨l⟩ := L
  have h' : l[i]? = some false := by
    simp only [Array.getD_eq_getD_getElem?, List.getElem?_toArray] at h
    cases hx : l[i]? with
    | none => rw [hx] at h; cases h
    | some b => rw [hx] at h; simp at h; rw [h]
  unfold cntF
  simp only [List.setIfInBounds_toArray]
  clear h
  induction l generalizing i with
  | nil => simp at h'
  | cons b l ih =>
    cases i with
    | zero =>
      have : b = false := by simpa using h'
      subst this
      simp
    | succ i =>
      have := ih i (by simpa using h')
      simp only [List.set_cons_succ, List.countP_cons]
      omega
theorem cntF_zero (L : Array Bool) (h : cntF L = 0) (i : Nat) : L.getD i true = true := by
  obtain ⟨l⟩ := L
  unfold cntF at h
  simp only [Array.getD_eq_getD_getElem?, List.getElem?_toArray]
  cases hx : l[i]? with
  | none => rfl
  | some b =>
    have := List.countP_eq_zero.1 h b (List.mem_of_getElem? hx)
    simpa using this
theorem wpAny_inv (Inv : Array Bool → Act → World → Prop) (hstep : ∀ L a w i, Inv L a w → i ∈ Region.ready md ops L → wpOp P ops Q i (fun a' w' => Inv (L.setIfInBounds i true) a' w') a w)
    (hdone : ∀ L a w, Inv L a w → Region.ready md ops L = [] → Q .normal a w) : ∀ (fuel : Nat) (L : Array Bool) (a : Act) (w : World), cntF L ≤ fuel → Inv L a w → wpAny P md ops Q fuel L a w
  | 0, L, a, w, hc, hi => by
    have hr : Region.ready md ops L = [] := by
      unfold Region.ready
      rw [List.filter_eq_nil_iff]
      intro i _
      rw [cntF_zero L (by omega) i]
      simp
    exact ⟨hr, hdone L a w hi hr⟩
  | fuel + 1, L, a, w, hc, hi => by
    refine ⟨fun hr => hdone L a w hi hr, fun i hmem => ?_⟩
    refine wpOp_mono (fun a' w' h' => ?_) (hstep L a w i hi hmem)
    have hu : L.getD i true = false := by
      unfold Region.ready at hmem
      have := (List.mem_filter.1 hmem).2
      simp only [Bool.and_eq_true, Bool.not_eq_true'] at this
      exact this.1
    exact wpAny_inv Inv hstep hdone fuel _ _ _ (by have := cntF_lt L i hu; omega) h'
end
theorem getD_set (L : Array Bool) (i j : Nat) (hs : L.size = 14) (hi : i < 14) : (L.setIfInBounds i true).getD j false = if i = j then true else L.getD j false := by
  simp only [Array.getD_eq_getD_getElem?, Array.getElem?_setIfInBounds]
  by_cases h : i = j
  · subst h; simp [hs, hi]
  · simp [h]
/-- What each step of the literal has made. -/
def FF (P1 B : Nat) (v20 v21 v22 v23 v24 v25 v26 v27 v28 v29 v30 v31 p : Value) (w : World) : Nat → Prop
  | 0 => v20 = .agg #[.int .i64 2, .int .i64 0]
  | 1 => v21 = .agg #[.int .i64 7, .int .i64 1]
  | 2 => ∃ g : Nat, v22 = .slice (some ⟨g, 0, none⟩) 2 2 ∧ w.heap[g]? = some (.cells #[.int .i64 2, .int .i64 0, .int .i64 7, .int .i64 1] 71 (0, 0))
  | 3 => v23 = .func (.func 39) #[] #[]
  | 4 => v24 = .agg #[.int .i64 1, .int .i64 0, .int .i64 7, .int .i64 0]
  | 5 => ∃ g : Nat, v25 = .slice (some ⟨g, 0, none⟩) 1 1 ∧ w.heap[g]? = some (.cells #[.int .i64 1, .int .i64 0, .int .i64 7, .int .i64 0] 44 (0, 0))
  | 6 => v26 = .agg #[.int .i64 1, .int .i64 1, .int .i64 0, .int .i64 2, .int .i64 0, .slice (some ⟨P1, 0, none⟩) 2 2, .string ⟨#[]⟩, .int .i64 0, .slice none 0 0, .slice none 0 0]
  | 7 => v27 = .agg #[.int .i64 19, .int .i64 0, .int .i64 0, .int .i64 0, .int .i64 0, .slice none 0 0, .string ⟨#[113]⟩, .int .i64 0, .slice none 0 0, .slice none 0 0]
  | 8 => ∃ g : Nat, v28 = .slice (some ⟨g, 0, none⟩) 2 2 ∧ w.heap[g]? = some (.cells (wCode P1) 51 (0, 0))
  | 9 => ∃ gc : Nat, v29 = .agg #[.string ⟨#[97]⟩, .bool false, .slice none 0 0, .slice (some ⟨gc, 0, none⟩) 2 2] ∧ w.heap[gc]? = some (.cells (wCode P1) 51 (0, 0))
  | 10 => ∃ gc gd : Nat, v30 = .slice (some ⟨gd, 0, none⟩) 1 1 ∧ w.heap[gc]? = some (.cells (wCode P1) 51 (0, 0)) ∧ w.heap[gd]? = some (.cells #[.string ⟨#[97]⟩, .bool false, .slice none 0 0, .slice (some ⟨gc, 0, none⟩) 2 2] 48 (0, 0))
  | 11 => ∃ ga gb gc gd : Nat, v31 = .agg #[.bool false, .string ⟨#[102]⟩, .slice (some ⟨ga, 0, none⟩) 2 2, .slice (some ⟨gb, 0, none⟩) 1 1, .slice (some ⟨gd, 0, none⟩) 1 1] ∧ w.heap[ga]? = some (.cells #[.int .i64 2, .int .i64 0, .int .i64 7, .int .i64 1] 71 (0, 0)) ∧ w.heap[gb]? = some (.cells #[.int .i64 1, .int .i64 0, .int .i64 7, .int .i64 0] 44 (0, 0)) ∧ w.heap[gc]? = some (.cells (wCode P1) 51 (0, 0)) ∧ w.heap[gd]? = some (.cells #[.string ⟨#[97]⟩, .bool false, .slice none 0 0, .slice (some ⟨gc, 0, none⟩) 2 2] 48 (0, 0))
  | 12 => ∃ g : Nat, p = .pointer (some ⟨g, 0, none⟩) ∧ B ≤ g ∧ w.heap[g]? = some (.cells #[.bool false, .string ⟨#[]⟩, .slice none 0 0, .slice none 0 0, .slice none 0 0] 31 (0, 0))
  | _ => True
theorem FF.keep {P1 B : Nat} {v20 v21 v22 v23 v24 v25 v26 v27 v28 v29 v30 v31 p : Value} {w w' : World} (hb : Below w.heap.size w w') (j : Nat) (h : FF P1 B v20 v21 v22 v23 v24 v25 v26 v27 v28 v29 v30 v31 p w j) : FF P1 B v20 v21 v22 v23 v24 v25 v26 v27 v28 v29 v30 v31 p w' j := by
  match j, h with
  | 0, h => exact h
  | 1, h => exact h
  | 2, ⟨g, e, h1⟩ => exact ⟨g, e, kept_box h1 hb⟩
  | 3, h => exact h
  | 4, h => exact h
  | 5, ⟨g, e, h1⟩ => exact ⟨g, e, kept_box h1 hb⟩
  | 6, h => exact h
  | 7, h => exact h
  | 8, ⟨g, e, h1⟩ => exact ⟨g, e, kept_box h1 hb⟩
  | 9, ⟨g, e, h1⟩ => exact ⟨g, e, kept_box h1 hb⟩
  | 10, ⟨gc, gd, e, h1, h2⟩ => exact ⟨gc, gd, e, kept_box h1 hb, kept_box h2 hb⟩
  | 11, ⟨ga, gb, gc, gd, e, h1, h2, h3, h4⟩ => exact ⟨ga, gb, gc, gd, e, kept_box h1 hb, kept_box h2 hb, kept_box h3 hb, kept_box h4 hb⟩
  | 12, ⟨g, e, h0, h1⟩ => exact ⟨g, e, h0, kept_box h1 hb⟩
  | (n + 13), _ => exact trivial
structure Inv3 (w5 : World) (P1 P2 : Nat) (L : Array Bool) (a : Act) (w : World) : Prop where
  size : L.size = 14
  last : L.getD 13 false = true → ∀ i, i < 14 → L.getD i false = true
  out : ∃ v20 v21 v22 v23 v24 v25 v26 v27 v28 v29 v30 v31 p : Value, a = { tmps := #[.bool false, .func (.func 39) #[] #[], .pointer (some ⟨P2, 0, none⟩), p, undef, undef, undef, undef, undef, undef, undef, undef, .func (.func 39) #[] #[], .agg #[.int .i64 1, .int .i64 0, .int .i64 2, .int .i64 0], .func (.func 39) #[] #[], .agg #[.int .i64 1, .int .i64 0, .int .i64 7, .int .i64 0], .func (.func 39) #[] #[], .agg #[.int .i64 1, .int .i64 0, .int .i64 7, .int .i64 0], .slice (some ⟨P1, 0, none⟩) 2 2, .agg #[.int .i64 1, .int .i64 1, .int .i64 0, .int .i64 2, .int .i64 0, .slice (some ⟨P1, 0, none⟩) 2 2, .string ⟨#[]⟩, .int .i64 0, .slice none 0 0, .slice none 0 0], v20, v21, v22, v23, v24, v25, v26, v27, v28, v29, v30, v31, undef, undef, undef, undef, undef, undef, undef, undef, undef, undef, undef, undef, undef, undef, undef, undef, undef, undef, undef, undef, undef, undef, undef, undef, undef, undef, undef, undef, undef, undef, undef, undef, undef, undef, undef, undef, undef, undef, undef, undef, undef, undef, undef, undef, undef, undef, undef, undef, undef, undef, undef, undef, undef, undef, undef, undef, undef, undef, undef, undef, undef, undef, undef, undef, undef, undef, undef, undef, undef, undef, undef, undef, undef, undef, undef, undef, undef, undef, undef, undef, undef, undef, undef, undef, undef, undef, undef, undef], defers := [] } ∧ Below w5.heap.size w5 w ∧ (L.getD 13 false = false → ∀ j, j < 13 → L.getD j false = true → FF P1 w5.heap.size v20 v21 v22 v23 v24 v25 v26 v27 v28 v29 v30 v31 p w j) ∧ (L.getD 13 false = true → ∃ p3, p = .pointer (some ⟨p3, 0, none⟩) ∧ WMem w5 P1 p3 w)
def ops3 : Array Oper := #[{ dst := some 20, op := Op.build 71 #[(0, Operand.const (Value.int IntKind.i64 2))], type := 71, pos := "law.go:13", after := #[], guard := none },
  { dst := some 21, op := Op.build 71 #[(0, Operand.const (Value.int IntKind.i64 7)), (1, Operand.const (Value.int IntKind.i64 1))], type := 71, pos := "law.go:13", after := #[], guard := none },
  { dst := some 22, op := Op.buildSlice 27 2 #[(0, Operand.tmp 20), (1, Operand.tmp 21)], type := 27, pos := "law.go:13", after := #[{ on := 0, ground := Ground.data }, { on := 1, ground := Ground.data }], guard := none },
  { dst := some 23, op := Op.move (Operand.tmp 1), type := 75, pos := "law.go:13", after := #[], guard := none },
  { dst := some 24, op := Op.call { callee := Callee.value (Operand.tmp 23), args := #[Operand.const (Value.int IntKind.i64 7)], argTypes := #[3] }, type := 44, pos := "law.go:13", after := #[{ on := 3, ground := Ground.data }], guard := none },
  { dst := some 25, op := Op.buildSlice 28 1 #[(0, Operand.tmp 24)], type := 28, pos := "law.go:13", after := #[{ on := 4, ground := Ground.data }], guard := none },
  { dst := some 26, op := Op.load 51 (Operand.tmp 2), type := 51, pos := "law.go:13", after := #[], guard := none },
  { dst := some 27, op := Op.build 51 #[(0, Operand.const (Value.int IntKind.i64 19)), (3, Operand.const (Value.string { data := #[113] }))], type := 51, pos := "law.go:13", after := #[], guard := none },
  { dst := some 28, op := Op.buildSlice 46 2 #[(0, Operand.tmp 26), (1, Operand.tmp 27)], type := 46, pos := "law.go:13", after := #[{ on := 6, ground := Ground.data }, { on := 7, ground := Ground.data }], guard := none },
  { dst := some 29, op := Op.build 48 #[(0, Operand.const (Value.string { data := #[97] })), (3, Operand.tmp 28)], type := 48, pos := "law.go:13", after := #[{ on := 8, ground := Ground.data }], guard := none },
  { dst := some 30, op := Op.buildSlice 29 1 #[(0, Operand.tmp 29)], type := 29, pos := "law.go:13", after := #[{ on := 9, ground := Ground.data }], guard := none },
  { dst := some 31, op := Op.build 31 #[(1, Operand.const (Value.string { data := #[102] })), (2, Operand.tmp 22), (3, Operand.tmp 25), (4, Operand.tmp 30)], type := 31, pos := "law.go:13", after := #[{ on := 2, ground := Ground.data }, { on := 5, ground := Ground.data }, { on := 10, ground := Ground.data }], guard := none },
  { dst := some 3, op := Op.alloc 31, type := 0, pos := "law.go:13", after := #[], guard := none },
  { dst := none, op := Op.store 31 (Operand.tmp 3) (Operand.tmp 31), type := 0, pos := "law.go:13", after := #[{ on := 12, ground := Ground.data }, { on := 11, ground := Ground.data }, { on := 4, ground := Ground.chain }, { on := 0, ground := Ground.phase }, { on := 1, ground := Ground.phase }, { on := 2, ground := Ground.phase }, { on := 3, ground := Ground.phase }, { on := 4, ground := Ground.phase }, { on := 5, ground := Ground.phase }, { on := 6, ground := Ground.phase }, { on := 7, ground := Ground.phase }, { on := 8, ground := Ground.phase }, { on := 9, ground := Ground.phase }, { on := 10, ground := Ground.phase }, { on := 11, ground := Ground.phase }, { on := 12, ground := Ground.phase }], guard := none }]
theorem ready_0 {L : Array Bool} (h : 0 ∈ Region.ready .any ops3 L) : L.getD 0 true = false := by
  unfold Region.ready at h
  have h2 := (List.mem_filter.1 h).2
  simpa [ops3, Region.binds] using h2
theorem ready_1 {L : Array Bool} (h : 1 ∈ Region.ready .any ops3 L) : L.getD 1 true = false := by
  unfold Region.ready at h
  have h2 := (List.mem_filter.1 h).2
  simpa [ops3, Region.binds] using h2
theorem ready_2 {L : Array Bool} (h : 2 ∈ Region.ready .any ops3 L) : L.getD 2 true = false ∧ L.getD 0 false = true ∧ L.getD 1 false = true := by
  unfold Region.ready at h
  have h2 := (List.mem_filter.1 h).2
  simpa [ops3, Region.binds] using h2
theorem ready_3 {L : Array Bool} (h : 3 ∈ Region.ready .any ops3 L) : L.getD 3 true = false := by
  unfold Region.ready at h
  have h2 := (List.mem_filter.1 h).2
  simpa [ops3, Region.binds] using h2
theorem ready_4 {L : Array Bool} (h : 4 ∈ Region.ready .any ops3 L) : L.getD 4 true = false ∧ L.getD 3 false = true := by
  unfold Region.ready at h
  have h2 := (List.mem_filter.1 h).2
  simpa [ops3, Region.binds] using h2
theorem ready_5 {L : Array Bool} (h : 5 ∈ Region.ready .any ops3 L) : L.getD 5 true = false ∧ L.getD 4 false = true := by
  unfold Region.ready at h
  have h2 := (List.mem_filter.1 h).2
  simpa [ops3, Region.binds] using h2
theorem ready_6 {L : Array Bool} (h : 6 ∈ Region.ready .any ops3 L) : L.getD 6 true = false := by
  unfold Region.ready at h
  have h2 := (List.mem_filter.1 h).2
  simpa [ops3, Region.binds] using h2
theorem ready_7 {L : Array Bool} (h : 7 ∈ Region.ready .any ops3 L) : L.getD 7 true = false := by
  unfold Region.ready at h
  have h2 := (List.mem_filter.1 h).2
  simpa [ops3, Region.binds] using h2
theorem ready_8 {L : Array Bool} (h : 8 ∈ Region.ready .any ops3 L) : L.getD 8 true = false ∧ L.getD 6 false = true ∧ L.getD 7 false = true := by
  unfold Region.ready at h
  have h2 := (List.mem_filter.1 h).2
  simpa [ops3, Region.binds] using h2
theorem ready_9 {L : Array Bool} (h : 9 ∈ Region.ready .any ops3 L) : L.getD 9 true = false ∧ L.getD 8 false = true := by
  unfold Region.ready at h
  have h2 := (List.mem_filter.1 h).2
  simpa [ops3, Region.binds] using h2
theorem ready_10 {L : Array Bool} (h : 10 ∈ Region.ready .any ops3 L) : L.getD 10 true = false ∧ L.getD 9 false = true := by
  unfold Region.ready at h
  have h2 := (List.mem_filter.1 h).2
  simpa [ops3, Region.binds] using h2
theorem ready_11 {L : Array Bool} (h : 11 ∈ Region.ready .any ops3 L) : L.getD 11 true = false ∧ L.getD 2 false = true ∧ L.getD 5 false = true ∧ L.getD 10 false = true := by
  unfold Region.ready at h
  have h2 := (List.mem_filter.1 h).2
  simpa [ops3, Region.binds] using h2
theorem ready_12 {L : Array Bool} (h : 12 ∈ Region.ready .any ops3 L) : L.getD 12 true = false := by
  unfold Region.ready at h
  have h2 := (List.mem_filter.1 h).2
  simpa [ops3, Region.binds] using h2
theorem ready_13 {L : Array Bool} (h : 13 ∈ Region.ready .any ops3 L) : L.getD 13 true = false ∧ ∀ j, j < 13 → L.getD j false = true := by
  unfold Region.ready at h
  have h2 := (List.mem_filter.1 h).2
  simp only [ops3, Region.binds, Array.getD_eq_getD_getElem?] at h2 ⊢
  simp at h2
  obtain ⟨h, h12, h11, _, h0, h1, h2, h3, h4, h5, h6, h7, h8, h9, h10, _, _⟩ := h2
  refine ⟨h, fun j hj => ?_⟩
  match j, hj with
  | 0, _ => exact h0
  | 1, _ => exact h1
  | 2, _ => exact h2
  | 3, _ => exact h3
  | 4, _ => exact h4
  | 5, _ => exact h5
  | 6, _ => exact h6
  | 7, _ => exact h7
  | 8, _ => exact h8
  | 9, _ => exact h9
  | 10, _ => exact h10
  | 11, _ => exact h11
  | 12, _ => exact h12
theorem fals {L : Array Bool} {i : Nat} (h : L.getD i true = false) : L.getD i false = false := by
  simp only [Array.getD_eq_getD_getElem?] at *
  cases hx : L[i]? with
  | none => rfl
  | some b => rw [hx] at h; simpa using h
theorem not_last {L : Array Bool} (hl : L.getD 13 false = true → ∀ i, i < 14 → L.getD i false = true) {i : Nat} (h : L.getD i true = false) (hi : i < 14) : L.getD 13 false = false := by
  cases hx : L.getD 13 false with
  | false => rfl
  | true => have := hl hx i hi; rw [fals h] at this; cases this
theorem set_ne {L : Array Bool} {i j : Nat} (hs : L.size = 14) (hi : i < 14) (hn : i ≠ j) (h : (L.setIfInBounds i true).getD j false = true) : L.getD j false = true := by
  rw [getD_set L i j hs hi, if_neg hn] at h
  exact h
theorem all_done {L : Array Bool} (hs : L.size = 14) (h : Region.ready .any ops3 L = []) : L.getD 13 false = true := by
  have key : ∀ i, i < 14 → ∃ b, L[i]? = some b := fun i hi => ⟨L[i]'(by omega), Array.getElem?_eq_getElem (by omega)⟩
  unfold Region.ready at h
  rw [List.filter_eq_nil_iff] at h
  obtain ⟨b0, e0⟩ := key 0 (by omega)
  obtain ⟨b1, e1⟩ := key 1 (by omega)
  obtain ⟨b2, e2⟩ := key 2 (by omega)
  obtain ⟨b3, e3⟩ := key 3 (by omega)
  obtain ⟨b4, e4⟩ := key 4 (by omega)
  obtain ⟨b5, e5⟩ := key 5 (by omega)
  obtain ⟨b6, e6⟩ := key 6 (by omega)
  obtain ⟨b7, e7⟩ := key 7 (by omega)
  obtain ⟨b8, e8⟩ := key 8 (by omega)
  obtain ⟨b9, e9⟩ := key 9 (by omega)
  obtain ⟨b10, e10⟩ := key 10 (by omega)
  obtain ⟨b11, e11⟩ := key 11 (by omega)
  obtain ⟨b12, e12⟩ := key 12 (by omega)
  obtain ⟨b13, e13⟩ := key 13 (by omega)
  have hk : ∀ i, i < 14 → _ := fun i hi => h i (by rw [List.mem_range]; exact hi)
  have d0 := hk 0 (by omega)
  have d1 := hk 1 (by omega)
  have d2 := hk 2 (by omega)
  have d3 := hk 3 (by omega)
  have d4 := hk 4 (by omega)
  have d5 := hk 5 (by omega)
  have d6 := hk 6 (by omega)
  have d7 := hk 7 (by omega)
  have d8 := hk 8 (by omega)
  have d9 := hk 9 (by omega)
  have d10 := hk 10 (by omega)
  have d11 := hk 11 (by omega)
  have d12 := hk 12 (by omega)
  have d13 := hk 13 (by omega)
  clear h hk key
  simp only [Array.getD_eq_getD_getElem?]
  simp [ops3, Region.binds, e0, e1, e2, e3, e4, e5, e6, e7, e8, e9, e10, e11, e12, e13] at d0
  have c0 : b0 = true := by simpa using d0
  simp [ops3, Region.binds, e0, e1, e2, e3, e4, e5, e6, e7, e8, e9, e10, e11, e12, e13, c0] at d1
  have c1 : b1 = true := by simpa using d1
  simp [ops3, Region.binds, e0, e1, e2, e3, e4, e5, e6, e7, e8, e9, e10, e11, e12, e13, c0, c1] at d2
  have c2 : b2 = true := by simpa using d2
  simp [ops3, Region.binds, e0, e1, e2, e3, e4, e5, e6, e7, e8, e9, e10, e11, e12, e13, c0, c1, c2] at d3
  have c3 : b3 = true := by simpa using d3
  simp [ops3, Region.binds, e0, e1, e2, e3, e4, e5, e6, e7, e8, e9, e10, e11, e12, e13, c0, c1, c2, c3] at d4
  have c4 : b4 = true := by simpa using d4
  simp [ops3, Region.binds, e0, e1, e2, e3, e4, e5, e6, e7, e8, e9, e10, e11, e12, e13, c0, c1, c2, c3, c4] at d5
  have c5 : b5 = true := by simpa using d5
  simp [ops3, Region.binds, e0, e1, e2, e3, e4, e5, e6, e7, e8, e9, e10, e11, e12, e13, c0, c1, c2, c3, c4, c5] at d6
  have c6 : b6 = true := by simpa using d6
  simp [ops3, Region.binds, e0, e1, e2, e3, e4, e5, e6, e7, e8, e9, e10, e11, e12, e13, c0, c1, c2, c3, c4, c5, c6] at d7
  have c7 : b7 = true := by simpa using d7
  simp [ops3, Region.binds, e0, e1, e2, e3, e4, e5, e6, e7, e8, e9, e10, e11, e12, e13, c0, c1, c2, c3, c4, c5, c6, c7] at d8
  have c8 : b8 = true := by simpa using d8
  simp [ops3, Region.binds, e0, e1, e2, e3, e4, e5, e6, e7, e8, e9, e10, e11, e12, e13, c0, c1, c2, c3, c4, c5, c6, c7, c8] at d9
  have c9 : b9 = true := by simpa using d9
  simp [ops3, Region.binds, e0, e1, e2, e3, e4, e5, e6, e7, e8, e9, e10, e11, e12, e13, c0, c1, c2, c3, c4, c5, c6, c7, c8, c9] at d10
  have c10 : b10 = true := by simpa using d10
  simp [ops3, Region.binds, e0, e1, e2, e3, e4, e5, e6, e7, e8, e9, e10, e11, e12, e13, c0, c1, c2, c3, c4, c5, c6, c7, c8, c9, c10] at d11
  have c11 : b11 = true := by simpa using d11
  simp [ops3, Region.binds, e0, e1, e2, e3, e4, e5, e6, e7, e8, e9, e10, e11, e12, e13, c0, c1, c2, c3, c4, c5, c6, c7, c8, c9, c10, c11] at d12
  have c12 : b12 = true := by simpa using d12
  simp [ops3, Region.binds, e0, e1, e2, e3, e4, e5, e6, e7, e8, e9, e10, e11, e12, e13, c0, c1, c2, c3, c4, c5, c6, c7, c8, c9, c10, c11, c12] at d13
  rw [e13]; simpa using d13
theorem Inv3.start (w5 : World) (P1 P2 : Nat) : Inv3 w5 P1 P2 (Array.replicate 14 false) { tmps := #[.bool false, .func (.func 39) #[] #[], .pointer (some ⟨P2, 0, none⟩), undef, undef, undef, undef, undef, undef, undef, undef, undef, .func (.func 39) #[] #[], .agg #[.int .i64 1, .int .i64 0, .int .i64 2, .int .i64 0], .func (.func 39) #[] #[], .agg #[.int .i64 1, .int .i64 0, .int .i64 7, .int .i64 0], .func (.func 39) #[] #[], .agg #[.int .i64 1, .int .i64 0, .int .i64 7, .int .i64 0], .slice (some ⟨P1, 0, none⟩) 2 2, .agg #[.int .i64 1, .int .i64 1, .int .i64 0, .int .i64 2, .int .i64 0, .slice (some ⟨P1, 0, none⟩) 2 2, .string ⟨#[]⟩, .int .i64 0, .slice none 0 0, .slice none 0 0], undef, undef, undef, undef, undef, undef, undef, undef, undef, undef, undef, undef, undef, undef, undef, undef, undef, undef, undef, undef, undef, undef, undef, undef, undef, undef, undef, undef, undef, undef, undef, undef, undef, undef, undef, undef, undef, undef, undef, undef, undef, undef, undef, undef, undef, undef, undef, undef, undef, undef, undef, undef, undef, undef, undef, undef, undef, undef, undef, undef, undef, undef, undef, undef, undef, undef, undef, undef, undef, undef, undef, undef, undef, undef, undef, undef, undef, undef, undef, undef, undef, undef, undef, undef, undef, undef, undef, undef, undef, undef, undef, undef, undef, undef, undef, undef, undef, undef, undef, undef], defers := [] } w5.drew := by
  refine ⟨by simp, fun h => ?_, ⟨_, _, _, _, _, _, _, _, _, _, _, _, _, rfl, (Below.refl _ _).drew, fun _ j hj h => ?_, fun h => ?_⟩⟩
  · simp [Array.getD_eq_getD_getElem?] at h
  · simp [Array.getD_eq_getD_getElem?, Array.getElem?_replicate, show j < 14 by omega] at h
  · simp [Array.getD_eq_getD_getElem?] at h
theorem Inv3.done {w5 : World} {P1 P2 : Nat} {L : Array Bool} {a : Act} {w : World} (h : Inv3 w5 P1 P2 L a w) (hr : Region.ready .any ops3 L = []) : WPost w5 P1 P2 .normal a w := by
  obtain ⟨hs, hl, v20, v21, v22, v23, v24, v25, v26, v27, v28, v29, v30, v31, p, rfl, hB, hF, hE⟩ := h
  obtain ⟨p3, rfl, hm⟩ := hE (all_done hs hr)
  exact ⟨p3, v20, v21, v22, v23, v24, v25, v26, v27, v28, v29, v30, v31, rfl, hm⟩
set_option maxHeartbeats 0 in
theorem inv_0 {w5 : World} {P1 P2 : Nat} {L : Array Bool} {a : Act} {w : World} (hI : Inv3 w5 P1 P2 L a w) (hP : w5.heap[P2]? = some (.cells #[.int .i64 1, .int .i64 1, .int .i64 0, .int .i64 2, .int .i64 0, .slice (some ⟨P1, 0, none⟩) 2 2, .string ⟨#[]⟩, .int .i64 0, .slice none 0 0, .slice none 0 0] 51 (0, 0))) (hr : 0 ∈ Region.ready .any ops3 L) : wpOp Try.prog ops3 (WPost w5 P1 P2) 0 (fun a' w' => Inv3 w5 P1 P2 (L.setIfInBounds 0 true) a' w') a w := by
  obtain ⟨hs, hl, v20, v21, v22, v23, v24, v25, v26, v27, v28, v29, v30, v31, p, rfl, hB, hF, hE⟩ := hI
  have hd := ready_0 hr
  have h13 : L.getD 13 false = false := not_last hl hd (by omega)
  have hF' := hF h13
  replace hF := hF'
  clear hE
  refine wpOp_step (o := { dst := some 20, op := Op.build 71 #[(0, Operand.const (Value.int IntKind.i64 2))], type := 71, pos := "law.go:13", after := #[], guard := none }) rfl (fun K hK => ?_)
  go_simp
  refine hK _ _ ⟨by simpa using hs, fun h => absurd (set_ne hs (by omega) (by omega) h) (by rw [h13]; simp), _, _, _, _, _, _, _, _, _, _, _, _, _, rfl, hB, fun _ j hj hj2 => ?_, fun h => absurd (set_ne hs (by omega) (by omega) h) (by rw [h13]; simp)⟩
  match j, hj, hj2 with
  | 0, _, _ => exact rfl
  | 1, hj, hj2 => exact FF.keep (Below.refl _ _) 1 (hF 1 hj (set_ne hs (by omega) (by omega) hj2))
  | 2, hj, hj2 => exact FF.keep (Below.refl _ _) 2 (hF 2 hj (set_ne hs (by omega) (by omega) hj2))
  | 3, hj, hj2 => exact FF.keep (Below.refl _ _) 3 (hF 3 hj (set_ne hs (by omega) (by omega) hj2))
  | 4, hj, hj2 => exact FF.keep (Below.refl _ _) 4 (hF 4 hj (set_ne hs (by omega) (by omega) hj2))
  | 5, hj, hj2 => exact FF.keep (Below.refl _ _) 5 (hF 5 hj (set_ne hs (by omega) (by omega) hj2))
  | 6, hj, hj2 => exact FF.keep (Below.refl _ _) 6 (hF 6 hj (set_ne hs (by omega) (by omega) hj2))
  | 7, hj, hj2 => exact FF.keep (Below.refl _ _) 7 (hF 7 hj (set_ne hs (by omega) (by omega) hj2))
  | 8, hj, hj2 => exact FF.keep (Below.refl _ _) 8 (hF 8 hj (set_ne hs (by omega) (by omega) hj2))
  | 9, hj, hj2 => exact FF.keep (Below.refl _ _) 9 (hF 9 hj (set_ne hs (by omega) (by omega) hj2))
  | 10, hj, hj2 => exact FF.keep (Below.refl _ _) 10 (hF 10 hj (set_ne hs (by omega) (by omega) hj2))
  | 11, hj, hj2 => exact FF.keep (Below.refl _ _) 11 (hF 11 hj (set_ne hs (by omega) (by omega) hj2))
  | 12, hj, hj2 => exact FF.keep (Below.refl _ _) 12 (hF 12 hj (set_ne hs (by omega) (by omega) hj2))
set_option maxHeartbeats 0 in
theorem inv_1 {w5 : World} {P1 P2 : Nat} {L : Array Bool} {a : Act} {w : World} (hI : Inv3 w5 P1 P2 L a w) (hP : w5.heap[P2]? = some (.cells #[.int .i64 1, .int .i64 1, .int .i64 0, .int .i64 2, .int .i64 0, .slice (some ⟨P1, 0, none⟩) 2 2, .string ⟨#[]⟩, .int .i64 0, .slice none 0 0, .slice none 0 0] 51 (0, 0))) (hr : 1 ∈ Region.ready .any ops3 L) : wpOp Try.prog ops3 (WPost w5 P1 P2) 1 (fun a' w' => Inv3 w5 P1 P2 (L.setIfInBounds 1 true) a' w') a w := by
  obtain ⟨hs, hl, v20, v21, v22, v23, v24, v25, v26, v27, v28, v29, v30, v31, p, rfl, hB, hF, hE⟩ := hI
  have hd := ready_1 hr
  have h13 : L.getD 13 false = false := not_last hl hd (by omega)
  have hF' := hF h13
  replace hF := hF'
  clear hE
  refine wpOp_step (o := { dst := some 21, op := Op.build 71 #[(0, Operand.const (Value.int IntKind.i64 7)), (1, Operand.const (Value.int IntKind.i64 1))], type := 71, pos := "law.go:13", after := #[], guard := none }) rfl (fun K hK => ?_)
  go_simp
  refine hK _ _ ⟨by simpa using hs, fun h => absurd (set_ne hs (by omega) (by omega) h) (by rw [h13]; simp), _, _, _, _, _, _, _, _, _, _, _, _, _, rfl, hB, fun _ j hj hj2 => ?_, fun h => absurd (set_ne hs (by omega) (by omega) h) (by rw [h13]; simp)⟩
  match j, hj, hj2 with
  | 0, hj, hj2 => exact FF.keep (Below.refl _ _) 0 (hF 0 hj (set_ne hs (by omega) (by omega) hj2))
  | 1, _, _ => exact rfl
  | 2, hj, hj2 => exact FF.keep (Below.refl _ _) 2 (hF 2 hj (set_ne hs (by omega) (by omega) hj2))
  | 3, hj, hj2 => exact FF.keep (Below.refl _ _) 3 (hF 3 hj (set_ne hs (by omega) (by omega) hj2))
  | 4, hj, hj2 => exact FF.keep (Below.refl _ _) 4 (hF 4 hj (set_ne hs (by omega) (by omega) hj2))
  | 5, hj, hj2 => exact FF.keep (Below.refl _ _) 5 (hF 5 hj (set_ne hs (by omega) (by omega) hj2))
  | 6, hj, hj2 => exact FF.keep (Below.refl _ _) 6 (hF 6 hj (set_ne hs (by omega) (by omega) hj2))
  | 7, hj, hj2 => exact FF.keep (Below.refl _ _) 7 (hF 7 hj (set_ne hs (by omega) (by omega) hj2))
  | 8, hj, hj2 => exact FF.keep (Below.refl _ _) 8 (hF 8 hj (set_ne hs (by omega) (by omega) hj2))
  | 9, hj, hj2 => exact FF.keep (Below.refl _ _) 9 (hF 9 hj (set_ne hs (by omega) (by omega) hj2))
  | 10, hj, hj2 => exact FF.keep (Below.refl _ _) 10 (hF 10 hj (set_ne hs (by omega) (by omega) hj2))
  | 11, hj, hj2 => exact FF.keep (Below.refl _ _) 11 (hF 11 hj (set_ne hs (by omega) (by omega) hj2))
  | 12, hj, hj2 => exact FF.keep (Below.refl _ _) 12 (hF 12 hj (set_ne hs (by omega) (by omega) hj2))
set_option maxHeartbeats 0 in
theorem inv_2 {w5 : World} {P1 P2 : Nat} {L : Array Bool} {a : Act} {w : World} (hI : Inv3 w5 P1 P2 L a w) (hP : w5.heap[P2]? = some (.cells #[.int .i64 1, .int .i64 1, .int .i64 0, .int .i64 2, .int .i64 0, .slice (some ⟨P1, 0, none⟩) 2 2, .string ⟨#[]⟩, .int .i64 0, .slice none 0 0, .slice none 0 0] 51 (0, 0))) (hr : 2 ∈ Region.ready .any ops3 L) : wpOp Try.prog ops3 (WPost w5 P1 P2) 2 (fun a' w' => Inv3 w5 P1 P2 (L.setIfInBounds 2 true) a' w') a w := by
  obtain ⟨hs, hl, v20, v21, v22, v23, v24, v25, v26, v27, v28, v29, v30, v31, p, rfl, hB, hF, hE⟩ := hI
  have hd := ready_2 hr
  have h13 : L.getD 13 false = false := not_last hl hd.1 (by omega)
  have hF' := hF h13
  replace hF := hF'
  clear hE
  have f0 : v20 = .agg #[.int .i64 2, .int .i64 0] := hF 0 (by omega) hd.2.1
  subst f0
  have f1 : v21 = .agg #[.int .i64 7, .int .i64 1] := hF 1 (by omega) hd.2.2
  subst f1
  refine wpOp_step (o := { dst := some 22, op := Op.buildSlice 27 2 #[(0, Operand.tmp 20), (1, Operand.tmp 21)], type := 27, pos := "law.go:13", after := #[{ on := 0, ground := Ground.data }, { on := 1, ground := Ground.data }], guard := none }) rfl (fun K hK => ?_)
  go_simp
  refine hK _ _ ⟨by simpa using hs, fun h => absurd (set_ne hs (by omega) (by omega) h) (by rw [h13]; simp), _, _, _, _, _, _, _, _, _, _, _, _, _, rfl, Below.alloc hB hB.size _, fun _ j hj hj2 => ?_, fun h => absurd (set_ne hs (by omega) (by omega) h) (by rw [h13]; simp)⟩
  match j, hj, hj2 with
  | 0, hj, hj2 => exact FF.keep (Below.alloc (Below.refl _ _) (Nat.le_refl _) _) 0 (hF 0 hj (set_ne hs (by omega) (by omega) hj2))
  | 1, hj, hj2 => exact FF.keep (Below.alloc (Below.refl _ _) (Nat.le_refl _) _) 1 (hF 1 hj (set_ne hs (by omega) (by omega) hj2))
  | 2, _, _ => exact ⟨_, rfl, heap_alloc_new _ _⟩
  | 3, hj, hj2 => exact FF.keep (Below.alloc (Below.refl _ _) (Nat.le_refl _) _) 3 (hF 3 hj (set_ne hs (by omega) (by omega) hj2))
  | 4, hj, hj2 => exact FF.keep (Below.alloc (Below.refl _ _) (Nat.le_refl _) _) 4 (hF 4 hj (set_ne hs (by omega) (by omega) hj2))
  | 5, hj, hj2 => exact FF.keep (Below.alloc (Below.refl _ _) (Nat.le_refl _) _) 5 (hF 5 hj (set_ne hs (by omega) (by omega) hj2))
  | 6, hj, hj2 => exact FF.keep (Below.alloc (Below.refl _ _) (Nat.le_refl _) _) 6 (hF 6 hj (set_ne hs (by omega) (by omega) hj2))
  | 7, hj, hj2 => exact FF.keep (Below.alloc (Below.refl _ _) (Nat.le_refl _) _) 7 (hF 7 hj (set_ne hs (by omega) (by omega) hj2))
  | 8, hj, hj2 => exact FF.keep (Below.alloc (Below.refl _ _) (Nat.le_refl _) _) 8 (hF 8 hj (set_ne hs (by omega) (by omega) hj2))
  | 9, hj, hj2 => exact FF.keep (Below.alloc (Below.refl _ _) (Nat.le_refl _) _) 9 (hF 9 hj (set_ne hs (by omega) (by omega) hj2))
  | 10, hj, hj2 => exact FF.keep (Below.alloc (Below.refl _ _) (Nat.le_refl _) _) 10 (hF 10 hj (set_ne hs (by omega) (by omega) hj2))
  | 11, hj, hj2 => exact FF.keep (Below.alloc (Below.refl _ _) (Nat.le_refl _) _) 11 (hF 11 hj (set_ne hs (by omega) (by omega) hj2))
  | 12, hj, hj2 => exact FF.keep (Below.alloc (Below.refl _ _) (Nat.le_refl _) _) 12 (hF 12 hj (set_ne hs (by omega) (by omega) hj2))
set_option maxHeartbeats 0 in
theorem inv_3 {w5 : World} {P1 P2 : Nat} {L : Array Bool} {a : Act} {w : World} (hI : Inv3 w5 P1 P2 L a w) (hP : w5.heap[P2]? = some (.cells #[.int .i64 1, .int .i64 1, .int .i64 0, .int .i64 2, .int .i64 0, .slice (some ⟨P1, 0, none⟩) 2 2, .string ⟨#[]⟩, .int .i64 0, .slice none 0 0, .slice none 0 0] 51 (0, 0))) (hr : 3 ∈ Region.ready .any ops3 L) : wpOp Try.prog ops3 (WPost w5 P1 P2) 3 (fun a' w' => Inv3 w5 P1 P2 (L.setIfInBounds 3 true) a' w') a w := by
  obtain ⟨hs, hl, v20, v21, v22, v23, v24, v25, v26, v27, v28, v29, v30, v31, p, rfl, hB, hF, hE⟩ := hI
  have hd := ready_3 hr
  have h13 : L.getD 13 false = false := not_last hl hd (by omega)
  have hF' := hF h13
  replace hF := hF'
  clear hE
  refine wpOp_step (o := { dst := some 23, op := Op.move (Operand.tmp 1), type := 75, pos := "law.go:13", after := #[], guard := none }) rfl (fun K hK => ?_)
  go_simp
  refine hK _ _ ⟨by simpa using hs, fun h => absurd (set_ne hs (by omega) (by omega) h) (by rw [h13]; simp), _, _, _, _, _, _, _, _, _, _, _, _, _, rfl, hB, fun _ j hj hj2 => ?_, fun h => absurd (set_ne hs (by omega) (by omega) h) (by rw [h13]; simp)⟩
  match j, hj, hj2 with
  | 0, hj, hj2 => exact FF.keep (Below.refl _ _) 0 (hF 0 hj (set_ne hs (by omega) (by omega) hj2))
  | 1, hj, hj2 => exact FF.keep (Below.refl _ _) 1 (hF 1 hj (set_ne hs (by omega) (by omega) hj2))
  | 2, hj, hj2 => exact FF.keep (Below.refl _ _) 2 (hF 2 hj (set_ne hs (by omega) (by omega) hj2))
  | 3, _, _ => exact rfl
  | 4, hj, hj2 => exact FF.keep (Below.refl _ _) 4 (hF 4 hj (set_ne hs (by omega) (by omega) hj2))
  | 5, hj, hj2 => exact FF.keep (Below.refl _ _) 5 (hF 5 hj (set_ne hs (by omega) (by omega) hj2))
  | 6, hj, hj2 => exact FF.keep (Below.refl _ _) 6 (hF 6 hj (set_ne hs (by omega) (by omega) hj2))
  | 7, hj, hj2 => exact FF.keep (Below.refl _ _) 7 (hF 7 hj (set_ne hs (by omega) (by omega) hj2))
  | 8, hj, hj2 => exact FF.keep (Below.refl _ _) 8 (hF 8 hj (set_ne hs (by omega) (by omega) hj2))
  | 9, hj, hj2 => exact FF.keep (Below.refl _ _) 9 (hF 9 hj (set_ne hs (by omega) (by omega) hj2))
  | 10, hj, hj2 => exact FF.keep (Below.refl _ _) 10 (hF 10 hj (set_ne hs (by omega) (by omega) hj2))
  | 11, hj, hj2 => exact FF.keep (Below.refl _ _) 11 (hF 11 hj (set_ne hs (by omega) (by omega) hj2))
  | 12, hj, hj2 => exact FF.keep (Below.refl _ _) 12 (hF 12 hj (set_ne hs (by omega) (by omega) hj2))
set_option maxHeartbeats 0 in
theorem inv_4 {w5 : World} {P1 P2 : Nat} {L : Array Bool} {a : Act} {w : World} (hI : Inv3 w5 P1 P2 L a w) (hP : w5.heap[P2]? = some (.cells #[.int .i64 1, .int .i64 1, .int .i64 0, .int .i64 2, .int .i64 0, .slice (some ⟨P1, 0, none⟩) 2 2, .string ⟨#[]⟩, .int .i64 0, .slice none 0 0, .slice none 0 0] 51 (0, 0))) (hr : 4 ∈ Region.ready .any ops3 L) : wpOp Try.prog ops3 (WPost w5 P1 P2) 4 (fun a' w' => Inv3 w5 P1 P2 (L.setIfInBounds 4 true) a' w') a w := by
  obtain ⟨hs, hl, v20, v21, v22, v23, v24, v25, v26, v27, v28, v29, v30, v31, p, rfl, hB, hF, hE⟩ := hI
  have hd := ready_4 hr
  have h13 : L.getD 13 false = false := not_last hl hd.1 (by omega)
  have hF' := hF h13
  replace hF := hF'
  clear hE
  have f3 : v23 = .func (.func 39) #[] #[] := hF 3 (by omega) hd.2
  subst f3
  refine wpOp_step (o := { dst := some 24, op := Op.call { callee := Callee.value (Operand.tmp 23), args := #[Operand.const (Value.int IntKind.i64 7)], argTypes := #[3] }, type := 44, pos := "law.go:13", after := #[{ on := 3, ground := Ground.data }], guard := none }) rfl (fun K hK => ?_)
  go_simp
  refine (works1_x 7 _).mono ?_
  rintro e w4 ⟨rfl, rfl⟩
  go_simp
  refine hK _ _ ⟨by simpa using hs, fun h => absurd (set_ne hs (by omega) (by omega) h) (by rw [h13]; simp), _, _, _, _, _, _, _, _, _, _, _, _, _, rfl, Below.alloc hB hB.size _, fun _ j hj hj2 => ?_, fun h => absurd (set_ne hs (by omega) (by omega) h) (by rw [h13]; simp)⟩
  match j, hj, hj2 with
  | 0, hj, hj2 => exact FF.keep (Below.alloc (Below.refl _ _) (Nat.le_refl _) _) 0 (hF 0 hj (set_ne hs (by omega) (by omega) hj2))
  | 1, hj, hj2 => exact FF.keep (Below.alloc (Below.refl _ _) (Nat.le_refl _) _) 1 (hF 1 hj (set_ne hs (by omega) (by omega) hj2))
  | 2, hj, hj2 => exact FF.keep (Below.alloc (Below.refl _ _) (Nat.le_refl _) _) 2 (hF 2 hj (set_ne hs (by omega) (by omega) hj2))
  | 3, hj, hj2 => exact FF.keep (Below.alloc (Below.refl _ _) (Nat.le_refl _) _) 3 (hF 3 hj (set_ne hs (by omega) (by omega) hj2))
  | 4, _, _ => exact rfl
  | 5, hj, hj2 => exact FF.keep (Below.alloc (Below.refl _ _) (Nat.le_refl _) _) 5 (hF 5 hj (set_ne hs (by omega) (by omega) hj2))
  | 6, hj, hj2 => exact FF.keep (Below.alloc (Below.refl _ _) (Nat.le_refl _) _) 6 (hF 6 hj (set_ne hs (by omega) (by omega) hj2))
  | 7, hj, hj2 => exact FF.keep (Below.alloc (Below.refl _ _) (Nat.le_refl _) _) 7 (hF 7 hj (set_ne hs (by omega) (by omega) hj2))
  | 8, hj, hj2 => exact FF.keep (Below.alloc (Below.refl _ _) (Nat.le_refl _) _) 8 (hF 8 hj (set_ne hs (by omega) (by omega) hj2))
  | 9, hj, hj2 => exact FF.keep (Below.alloc (Below.refl _ _) (Nat.le_refl _) _) 9 (hF 9 hj (set_ne hs (by omega) (by omega) hj2))
  | 10, hj, hj2 => exact FF.keep (Below.alloc (Below.refl _ _) (Nat.le_refl _) _) 10 (hF 10 hj (set_ne hs (by omega) (by omega) hj2))
  | 11, hj, hj2 => exact FF.keep (Below.alloc (Below.refl _ _) (Nat.le_refl _) _) 11 (hF 11 hj (set_ne hs (by omega) (by omega) hj2))
  | 12, hj, hj2 => exact FF.keep (Below.alloc (Below.refl _ _) (Nat.le_refl _) _) 12 (hF 12 hj (set_ne hs (by omega) (by omega) hj2))
set_option maxHeartbeats 0 in
theorem inv_5 {w5 : World} {P1 P2 : Nat} {L : Array Bool} {a : Act} {w : World} (hI : Inv3 w5 P1 P2 L a w) (hP : w5.heap[P2]? = some (.cells #[.int .i64 1, .int .i64 1, .int .i64 0, .int .i64 2, .int .i64 0, .slice (some ⟨P1, 0, none⟩) 2 2, .string ⟨#[]⟩, .int .i64 0, .slice none 0 0, .slice none 0 0] 51 (0, 0))) (hr : 5 ∈ Region.ready .any ops3 L) : wpOp Try.prog ops3 (WPost w5 P1 P2) 5 (fun a' w' => Inv3 w5 P1 P2 (L.setIfInBounds 5 true) a' w') a w := by
  obtain ⟨hs, hl, v20, v21, v22, v23, v24, v25, v26, v27, v28, v29, v30, v31, p, rfl, hB, hF, hE⟩ := hI
  have hd := ready_5 hr
  have h13 : L.getD 13 false = false := not_last hl hd.1 (by omega)
  have hF' := hF h13
  replace hF := hF'
  clear hE
  have f4 : v24 = .agg #[.int .i64 1, .int .i64 0, .int .i64 7, .int .i64 0] := hF 4 (by omega) hd.2
  subst f4
  refine wpOp_step (o := { dst := some 25, op := Op.buildSlice 28 1 #[(0, Operand.tmp 24)], type := 28, pos := "law.go:13", after := #[{ on := 4, ground := Ground.data }], guard := none }) rfl (fun K hK => ?_)
  go_simp
  refine hK _ _ ⟨by simpa using hs, fun h => absurd (set_ne hs (by omega) (by omega) h) (by rw [h13]; simp), _, _, _, _, _, _, _, _, _, _, _, _, _, rfl, Below.alloc hB hB.size _, fun _ j hj hj2 => ?_, fun h => absurd (set_ne hs (by omega) (by omega) h) (by rw [h13]; simp)⟩
  match j, hj, hj2 with
  | 0, hj, hj2 => exact FF.keep (Below.alloc (Below.refl _ _) (Nat.le_refl _) _) 0 (hF 0 hj (set_ne hs (by omega) (by omega) hj2))
  | 1, hj, hj2 => exact FF.keep (Below.alloc (Below.refl _ _) (Nat.le_refl _) _) 1 (hF 1 hj (set_ne hs (by omega) (by omega) hj2))
  | 2, hj, hj2 => exact FF.keep (Below.alloc (Below.refl _ _) (Nat.le_refl _) _) 2 (hF 2 hj (set_ne hs (by omega) (by omega) hj2))
  | 3, hj, hj2 => exact FF.keep (Below.alloc (Below.refl _ _) (Nat.le_refl _) _) 3 (hF 3 hj (set_ne hs (by omega) (by omega) hj2))
  | 4, hj, hj2 => exact FF.keep (Below.alloc (Below.refl _ _) (Nat.le_refl _) _) 4 (hF 4 hj (set_ne hs (by omega) (by omega) hj2))
  | 5, _, _ => exact ⟨_, rfl, heap_alloc_new _ _⟩
  | 6, hj, hj2 => exact FF.keep (Below.alloc (Below.refl _ _) (Nat.le_refl _) _) 6 (hF 6 hj (set_ne hs (by omega) (by omega) hj2))
  | 7, hj, hj2 => exact FF.keep (Below.alloc (Below.refl _ _) (Nat.le_refl _) _) 7 (hF 7 hj (set_ne hs (by omega) (by omega) hj2))
  | 8, hj, hj2 => exact FF.keep (Below.alloc (Below.refl _ _) (Nat.le_refl _) _) 8 (hF 8 hj (set_ne hs (by omega) (by omega) hj2))
  | 9, hj, hj2 => exact FF.keep (Below.alloc (Below.refl _ _) (Nat.le_refl _) _) 9 (hF 9 hj (set_ne hs (by omega) (by omega) hj2))
  | 10, hj, hj2 => exact FF.keep (Below.alloc (Below.refl _ _) (Nat.le_refl _) _) 10 (hF 10 hj (set_ne hs (by omega) (by omega) hj2))
  | 11, hj, hj2 => exact FF.keep (Below.alloc (Below.refl _ _) (Nat.le_refl _) _) 11 (hF 11 hj (set_ne hs (by omega) (by omega) hj2))
  | 12, hj, hj2 => exact FF.keep (Below.alloc (Below.refl _ _) (Nat.le_refl _) _) 12 (hF 12 hj (set_ne hs (by omega) (by omega) hj2))
set_option maxHeartbeats 0 in
theorem inv_6 {w5 : World} {P1 P2 : Nat} {L : Array Bool} {a : Act} {w : World} (hI : Inv3 w5 P1 P2 L a w) (hP : w5.heap[P2]? = some (.cells #[.int .i64 1, .int .i64 1, .int .i64 0, .int .i64 2, .int .i64 0, .slice (some ⟨P1, 0, none⟩) 2 2, .string ⟨#[]⟩, .int .i64 0, .slice none 0 0, .slice none 0 0] 51 (0, 0))) (hr : 6 ∈ Region.ready .any ops3 L) : wpOp Try.prog ops3 (WPost w5 P1 P2) 6 (fun a' w' => Inv3 w5 P1 P2 (L.setIfInBounds 6 true) a' w') a w := by
  obtain ⟨hs, hl, v20, v21, v22, v23, v24, v25, v26, v27, v28, v29, v30, v31, p, rfl, hB, hF, hE⟩ := hI
  have hd := ready_6 hr
  have h13 : L.getD 13 false = false := not_last hl hd (by omega)
  have hF' := hF h13
  replace hF := hF'
  clear hE
  have hP' : w.heap[P2]? = _ := (hB.block P2 (Array.getElem?_eq_some_iff.1 hP).1).trans hP
  have c0 := cell_in hP' 0
  have c1 := cell_in hP' 1
  have c2 := cell_in hP' 2
  have c3 := cell_in hP' 3
  have c4 := cell_in hP' 4
  have c5 := cell_in hP' 5
  have c6 := cell_in hP' 6
  have c7 := cell_in hP' 7
  have c8 := cell_in hP' 8
  have c9 := cell_in hP' 9
  replace c0 : w.cell? ⟨P2, 0, none⟩ = some (.int .i64 1) := c0
  replace c1 : w.cell? ⟨P2, 1, none⟩ = some (.int .i64 1) := c1
  replace c2 : w.cell? ⟨P2, 2, none⟩ = some (.int .i64 0) := c2
  replace c3 : w.cell? ⟨P2, 3, none⟩ = some (.int .i64 2) := c3
  replace c4 : w.cell? ⟨P2, 4, none⟩ = some (.int .i64 0) := c4
  replace c5 : w.cell? ⟨P2, 5, none⟩ = some (.slice (some ⟨P1, 0, none⟩) 2 2) := c5
  replace c6 : w.cell? ⟨P2, 6, none⟩ = some (.string ⟨#[]⟩) := c6
  replace c7 : w.cell? ⟨P2, 7, none⟩ = some (.int .i64 0) := c7
  replace c8 : w.cell? ⟨P2, 8, none⟩ = some (.slice none 0 0) := c8
  replace c9 : w.cell? ⟨P2, 9, none⟩ = some (.slice none 0 0) := c9
  refine wpOp_step (o := { dst := some 26, op := Op.load 51 (Operand.tmp 2), type := 51, pos := "law.go:13", after := #[], guard := none }) rfl (fun K hK => ?_)
  go_simp
  refine hK _ _ ⟨by simpa using hs, fun h => absurd (set_ne hs (by omega) (by omega) h) (by rw [h13]; simp), _, _, _, _, _, _, _, _, _, _, _, _, _, rfl, hB, fun _ j hj hj2 => ?_, fun h => absurd (set_ne hs (by omega) (by omega) h) (by rw [h13]; simp)⟩
  match j, hj, hj2 with
  | 0, hj, hj2 => exact FF.keep (Below.refl _ _) 0 (hF 0 hj (set_ne hs (by omega) (by omega) hj2))
  | 1, hj, hj2 => exact FF.keep (Below.refl _ _) 1 (hF 1 hj (set_ne hs (by omega) (by omega) hj2))
  | 2, hj, hj2 => exact FF.keep (Below.refl _ _) 2 (hF 2 hj (set_ne hs (by omega) (by omega) hj2))
  | 3, hj, hj2 => exact FF.keep (Below.refl _ _) 3 (hF 3 hj (set_ne hs (by omega) (by omega) hj2))
  | 4, hj, hj2 => exact FF.keep (Below.refl _ _) 4 (hF 4 hj (set_ne hs (by omega) (by omega) hj2))
  | 5, hj, hj2 => exact FF.keep (Below.refl _ _) 5 (hF 5 hj (set_ne hs (by omega) (by omega) hj2))
  | 6, _, _ => exact rfl
  | 7, hj, hj2 => exact FF.keep (Below.refl _ _) 7 (hF 7 hj (set_ne hs (by omega) (by omega) hj2))
  | 8, hj, hj2 => exact FF.keep (Below.refl _ _) 8 (hF 8 hj (set_ne hs (by omega) (by omega) hj2))
  | 9, hj, hj2 => exact FF.keep (Below.refl _ _) 9 (hF 9 hj (set_ne hs (by omega) (by omega) hj2))
  | 10, hj, hj2 => exact FF.keep (Below.refl _ _) 10 (hF 10 hj (set_ne hs (by omega) (by omega) hj2))
  | 11, hj, hj2 => exact FF.keep (Below.refl _ _) 11 (hF 11 hj (set_ne hs (by omega) (by omega) hj2))
  | 12, hj, hj2 => exact FF.keep (Below.refl _ _) 12 (hF 12 hj (set_ne hs (by omega) (by omega) hj2))
set_option maxHeartbeats 0 in
theorem inv_7 {w5 : World} {P1 P2 : Nat} {L : Array Bool} {a : Act} {w : World} (hI : Inv3 w5 P1 P2 L a w) (hP : w5.heap[P2]? = some (.cells #[.int .i64 1, .int .i64 1, .int .i64 0, .int .i64 2, .int .i64 0, .slice (some ⟨P1, 0, none⟩) 2 2, .string ⟨#[]⟩, .int .i64 0, .slice none 0 0, .slice none 0 0] 51 (0, 0))) (hr : 7 ∈ Region.ready .any ops3 L) : wpOp Try.prog ops3 (WPost w5 P1 P2) 7 (fun a' w' => Inv3 w5 P1 P2 (L.setIfInBounds 7 true) a' w') a w := by
  obtain ⟨hs, hl, v20, v21, v22, v23, v24, v25, v26, v27, v28, v29, v30, v31, p, rfl, hB, hF, hE⟩ := hI
  have hd := ready_7 hr
  have h13 : L.getD 13 false = false := not_last hl hd (by omega)
  have hF' := hF h13
  replace hF := hF'
  clear hE
  refine wpOp_step (o := { dst := some 27, op := Op.build 51 #[(0, Operand.const (Value.int IntKind.i64 19)), (3, Operand.const (Value.string { data := #[113] }))], type := 51, pos := "law.go:13", after := #[], guard := none }) rfl (fun K hK => ?_)
  go_simp
  refine hK _ _ ⟨by simpa using hs, fun h => absurd (set_ne hs (by omega) (by omega) h) (by rw [h13]; simp), _, _, _, _, _, _, _, _, _, _, _, _, _, rfl, hB, fun _ j hj hj2 => ?_, fun h => absurd (set_ne hs (by omega) (by omega) h) (by rw [h13]; simp)⟩
  match j, hj, hj2 with
  | 0, hj, hj2 => exact FF.keep (Below.refl _ _) 0 (hF 0 hj (set_ne hs (by omega) (by omega) hj2))
  | 1, hj, hj2 => exact FF.keep (Below.refl _ _) 1 (hF 1 hj (set_ne hs (by omega) (by omega) hj2))
  | 2, hj, hj2 => exact FF.keep (Below.refl _ _) 2 (hF 2 hj (set_ne hs (by omega) (by omega) hj2))
  | 3, hj, hj2 => exact FF.keep (Below.refl _ _) 3 (hF 3 hj (set_ne hs (by omega) (by omega) hj2))
  | 4, hj, hj2 => exact FF.keep (Below.refl _ _) 4 (hF 4 hj (set_ne hs (by omega) (by omega) hj2))
  | 5, hj, hj2 => exact FF.keep (Below.refl _ _) 5 (hF 5 hj (set_ne hs (by omega) (by omega) hj2))
  | 6, hj, hj2 => exact FF.keep (Below.refl _ _) 6 (hF 6 hj (set_ne hs (by omega) (by omega) hj2))
  | 7, _, _ => exact rfl
  | 8, hj, hj2 => exact FF.keep (Below.refl _ _) 8 (hF 8 hj (set_ne hs (by omega) (by omega) hj2))
  | 9, hj, hj2 => exact FF.keep (Below.refl _ _) 9 (hF 9 hj (set_ne hs (by omega) (by omega) hj2))
  | 10, hj, hj2 => exact FF.keep (Below.refl _ _) 10 (hF 10 hj (set_ne hs (by omega) (by omega) hj2))
  | 11, hj, hj2 => exact FF.keep (Below.refl _ _) 11 (hF 11 hj (set_ne hs (by omega) (by omega) hj2))
  | 12, hj, hj2 => exact FF.keep (Below.refl _ _) 12 (hF 12 hj (set_ne hs (by omega) (by omega) hj2))
set_option maxHeartbeats 0 in
theorem inv_8 {w5 : World} {P1 P2 : Nat} {L : Array Bool} {a : Act} {w : World} (hI : Inv3 w5 P1 P2 L a w) (hP : w5.heap[P2]? = some (.cells #[.int .i64 1, .int .i64 1, .int .i64 0, .int .i64 2, .int .i64 0, .slice (some ⟨P1, 0, none⟩) 2 2, .string ⟨#[]⟩, .int .i64 0, .slice none 0 0, .slice none 0 0] 51 (0, 0))) (hr : 8 ∈ Region.ready .any ops3 L) : wpOp Try.prog ops3 (WPost w5 P1 P2) 8 (fun a' w' => Inv3 w5 P1 P2 (L.setIfInBounds 8 true) a' w') a w := by
  obtain ⟨hs, hl, v20, v21, v22, v23, v24, v25, v26, v27, v28, v29, v30, v31, p, rfl, hB, hF, hE⟩ := hI
  have hd := ready_8 hr
  have h13 : L.getD 13 false = false := not_last hl hd.1 (by omega)
  have hF' := hF h13
  replace hF := hF'
  clear hE
  have f6 : v26 = .agg #[.int .i64 1, .int .i64 1, .int .i64 0, .int .i64 2, .int .i64 0, .slice (some ⟨P1, 0, none⟩) 2 2, .string ⟨#[]⟩, .int .i64 0, .slice none 0 0, .slice none 0 0] := hF 6 (by omega) hd.2.1
  subst f6
  have f7 : v27 = .agg #[.int .i64 19, .int .i64 0, .int .i64 0, .int .i64 0, .int .i64 0, .slice none 0 0, .string ⟨#[113]⟩, .int .i64 0, .slice none 0 0, .slice none 0 0] := hF 7 (by omega) hd.2.2
  subst f7
  refine wpOp_step (o := { dst := some 28, op := Op.buildSlice 46 2 #[(0, Operand.tmp 26), (1, Operand.tmp 27)], type := 46, pos := "law.go:13", after := #[{ on := 6, ground := Ground.data }, { on := 7, ground := Ground.data }], guard := none }) rfl (fun K hK => ?_)
  go_simp
  refine hK _ _ ⟨by simpa using hs, fun h => absurd (set_ne hs (by omega) (by omega) h) (by rw [h13]; simp), _, _, _, _, _, _, _, _, _, _, _, _, _, rfl, Below.alloc hB hB.size _, fun _ j hj hj2 => ?_, fun h => absurd (set_ne hs (by omega) (by omega) h) (by rw [h13]; simp)⟩
  match j, hj, hj2 with
  | 0, hj, hj2 => exact FF.keep (Below.alloc (Below.refl _ _) (Nat.le_refl _) _) 0 (hF 0 hj (set_ne hs (by omega) (by omega) hj2))
  | 1, hj, hj2 => exact FF.keep (Below.alloc (Below.refl _ _) (Nat.le_refl _) _) 1 (hF 1 hj (set_ne hs (by omega) (by omega) hj2))
  | 2, hj, hj2 => exact FF.keep (Below.alloc (Below.refl _ _) (Nat.le_refl _) _) 2 (hF 2 hj (set_ne hs (by omega) (by omega) hj2))
  | 3, hj, hj2 => exact FF.keep (Below.alloc (Below.refl _ _) (Nat.le_refl _) _) 3 (hF 3 hj (set_ne hs (by omega) (by omega) hj2))
  | 4, hj, hj2 => exact FF.keep (Below.alloc (Below.refl _ _) (Nat.le_refl _) _) 4 (hF 4 hj (set_ne hs (by omega) (by omega) hj2))
  | 5, hj, hj2 => exact FF.keep (Below.alloc (Below.refl _ _) (Nat.le_refl _) _) 5 (hF 5 hj (set_ne hs (by omega) (by omega) hj2))
  | 6, hj, hj2 => exact FF.keep (Below.alloc (Below.refl _ _) (Nat.le_refl _) _) 6 (hF 6 hj (set_ne hs (by omega) (by omega) hj2))
  | 7, hj, hj2 => exact FF.keep (Below.alloc (Below.refl _ _) (Nat.le_refl _) _) 7 (hF 7 hj (set_ne hs (by omega) (by omega) hj2))
  | 8, _, _ => exact ⟨_, rfl, heap_alloc_new _ _⟩
  | 9, hj, hj2 => exact FF.keep (Below.alloc (Below.refl _ _) (Nat.le_refl _) _) 9 (hF 9 hj (set_ne hs (by omega) (by omega) hj2))
  | 10, hj, hj2 => exact FF.keep (Below.alloc (Below.refl _ _) (Nat.le_refl _) _) 10 (hF 10 hj (set_ne hs (by omega) (by omega) hj2))
  | 11, hj, hj2 => exact FF.keep (Below.alloc (Below.refl _ _) (Nat.le_refl _) _) 11 (hF 11 hj (set_ne hs (by omega) (by omega) hj2))
  | 12, hj, hj2 => exact FF.keep (Below.alloc (Below.refl _ _) (Nat.le_refl _) _) 12 (hF 12 hj (set_ne hs (by omega) (by omega) hj2))
set_option maxHeartbeats 0 in
theorem inv_9 {w5 : World} {P1 P2 : Nat} {L : Array Bool} {a : Act} {w : World} (hI : Inv3 w5 P1 P2 L a w) (hP : w5.heap[P2]? = some (.cells #[.int .i64 1, .int .i64 1, .int .i64 0, .int .i64 2, .int .i64 0, .slice (some ⟨P1, 0, none⟩) 2 2, .string ⟨#[]⟩, .int .i64 0, .slice none 0 0, .slice none 0 0] 51 (0, 0))) (hr : 9 ∈ Region.ready .any ops3 L) : wpOp Try.prog ops3 (WPost w5 P1 P2) 9 (fun a' w' => Inv3 w5 P1 P2 (L.setIfInBounds 9 true) a' w') a w := by
  obtain ⟨hs, hl, v20, v21, v22, v23, v24, v25, v26, v27, v28, v29, v30, v31, p, rfl, hB, hF, hE⟩ := hI
  have hd := ready_9 hr
  have h13 : L.getD 13 false = false := not_last hl hd.1 (by omega)
  have hF' := hF h13
  replace hF := hF'
  clear hE
  obtain ⟨g8, e8, m8⟩ : ∃ g : Nat, v28 = .slice (some ⟨g, 0, none⟩) 2 2 ∧ w.heap[g]? = some (.cells (wCode P1) 51 (0, 0)) := hF 8 (by omega) hd.2
  subst e8
  refine wpOp_step (o := { dst := some 29, op := Op.build 48 #[(0, Operand.const (Value.string { data := #[97] })), (3, Operand.tmp 28)], type := 48, pos := "law.go:13", after := #[{ on := 8, ground := Ground.data }], guard := none }) rfl (fun K hK => ?_)
  go_simp
  refine hK _ _ ⟨by simpa using hs, fun h => absurd (set_ne hs (by omega) (by omega) h) (by rw [h13]; simp), _, _, _, _, _, _, _, _, _, _, _, _, _, rfl, hB, fun _ j hj hj2 => ?_, fun h => absurd (set_ne hs (by omega) (by omega) h) (by rw [h13]; simp)⟩
  match j, hj, hj2 with
  | 0, hj, hj2 => exact FF.keep (Below.refl _ _) 0 (hF 0 hj (set_ne hs (by omega) (by omega) hj2))
  | 1, hj, hj2 => exact FF.keep (Below.refl _ _) 1 (hF 1 hj (set_ne hs (by omega) (by omega) hj2))
  | 2, hj, hj2 => exact FF.keep (Below.refl _ _) 2 (hF 2 hj (set_ne hs (by omega) (by omega) hj2))
  | 3, hj, hj2 => exact FF.keep (Below.refl _ _) 3 (hF 3 hj (set_ne hs (by omega) (by omega) hj2))
  | 4, hj, hj2 => exact FF.keep (Below.refl _ _) 4 (hF 4 hj (set_ne hs (by omega) (by omega) hj2))
  | 5, hj, hj2 => exact FF.keep (Below.refl _ _) 5 (hF 5 hj (set_ne hs (by omega) (by omega) hj2))
  | 6, hj, hj2 => exact FF.keep (Below.refl _ _) 6 (hF 6 hj (set_ne hs (by omega) (by omega) hj2))
  | 7, hj, hj2 => exact FF.keep (Below.refl _ _) 7 (hF 7 hj (set_ne hs (by omega) (by omega) hj2))
  | 8, hj, hj2 => exact FF.keep (Below.refl _ _) 8 (hF 8 hj (set_ne hs (by omega) (by omega) hj2))
  | 9, _, _ => exact ⟨_, rfl, m8⟩
  | 10, hj, hj2 => exact FF.keep (Below.refl _ _) 10 (hF 10 hj (set_ne hs (by omega) (by omega) hj2))
  | 11, hj, hj2 => exact FF.keep (Below.refl _ _) 11 (hF 11 hj (set_ne hs (by omega) (by omega) hj2))
  | 12, hj, hj2 => exact FF.keep (Below.refl _ _) 12 (hF 12 hj (set_ne hs (by omega) (by omega) hj2))
set_option maxHeartbeats 0 in
theorem inv_10 {w5 : World} {P1 P2 : Nat} {L : Array Bool} {a : Act} {w : World} (hI : Inv3 w5 P1 P2 L a w) (hP : w5.heap[P2]? = some (.cells #[.int .i64 1, .int .i64 1, .int .i64 0, .int .i64 2, .int .i64 0, .slice (some ⟨P1, 0, none⟩) 2 2, .string ⟨#[]⟩, .int .i64 0, .slice none 0 0, .slice none 0 0] 51 (0, 0))) (hr : 10 ∈ Region.ready .any ops3 L) : wpOp Try.prog ops3 (WPost w5 P1 P2) 10 (fun a' w' => Inv3 w5 P1 P2 (L.setIfInBounds 10 true) a' w') a w := by
  obtain ⟨hs, hl, v20, v21, v22, v23, v24, v25, v26, v27, v28, v29, v30, v31, p, rfl, hB, hF, hE⟩ := hI
  have hd := ready_10 hr
  have h13 : L.getD 13 false = false := not_last hl hd.1 (by omega)
  have hF' := hF h13
  replace hF := hF'
  clear hE
  obtain ⟨g9, e9, m9⟩ : ∃ gc : Nat, v29 = .agg #[.string ⟨#[97]⟩, .bool false, .slice none 0 0, .slice (some ⟨gc, 0, none⟩) 2 2] ∧ w.heap[gc]? = some (.cells (wCode P1) 51 (0, 0)) := hF 9 (by omega) hd.2
  subst e9
  refine wpOp_step (o := { dst := some 30, op := Op.buildSlice 29 1 #[(0, Operand.tmp 29)], type := 29, pos := "law.go:13", after := #[{ on := 9, ground := Ground.data }], guard := none }) rfl (fun K hK => ?_)
  go_simp
  refine hK _ _ ⟨by simpa using hs, fun h => absurd (set_ne hs (by omega) (by omega) h) (by rw [h13]; simp), _, _, _, _, _, _, _, _, _, _, _, _, _, rfl, Below.alloc hB hB.size _, fun _ j hj hj2 => ?_, fun h => absurd (set_ne hs (by omega) (by omega) h) (by rw [h13]; simp)⟩
  match j, hj, hj2 with
  | 0, hj, hj2 => exact FF.keep (Below.alloc (Below.refl _ _) (Nat.le_refl _) _) 0 (hF 0 hj (set_ne hs (by omega) (by omega) hj2))
  | 1, hj, hj2 => exact FF.keep (Below.alloc (Below.refl _ _) (Nat.le_refl _) _) 1 (hF 1 hj (set_ne hs (by omega) (by omega) hj2))
  | 2, hj, hj2 => exact FF.keep (Below.alloc (Below.refl _ _) (Nat.le_refl _) _) 2 (hF 2 hj (set_ne hs (by omega) (by omega) hj2))
  | 3, hj, hj2 => exact FF.keep (Below.alloc (Below.refl _ _) (Nat.le_refl _) _) 3 (hF 3 hj (set_ne hs (by omega) (by omega) hj2))
  | 4, hj, hj2 => exact FF.keep (Below.alloc (Below.refl _ _) (Nat.le_refl _) _) 4 (hF 4 hj (set_ne hs (by omega) (by omega) hj2))
  | 5, hj, hj2 => exact FF.keep (Below.alloc (Below.refl _ _) (Nat.le_refl _) _) 5 (hF 5 hj (set_ne hs (by omega) (by omega) hj2))
  | 6, hj, hj2 => exact FF.keep (Below.alloc (Below.refl _ _) (Nat.le_refl _) _) 6 (hF 6 hj (set_ne hs (by omega) (by omega) hj2))
  | 7, hj, hj2 => exact FF.keep (Below.alloc (Below.refl _ _) (Nat.le_refl _) _) 7 (hF 7 hj (set_ne hs (by omega) (by omega) hj2))
  | 8, hj, hj2 => exact FF.keep (Below.alloc (Below.refl _ _) (Nat.le_refl _) _) 8 (hF 8 hj (set_ne hs (by omega) (by omega) hj2))
  | 9, hj, hj2 => exact FF.keep (Below.alloc (Below.refl _ _) (Nat.le_refl _) _) 9 (hF 9 hj (set_ne hs (by omega) (by omega) hj2))
  | 10, _, _ => exact ⟨_, _, rfl, kept_box m9 (Below.alloc (Below.refl _ _) (Nat.le_refl _) _), heap_alloc_new _ _⟩
  | 11, hj, hj2 => exact FF.keep (Below.alloc (Below.refl _ _) (Nat.le_refl _) _) 11 (hF 11 hj (set_ne hs (by omega) (by omega) hj2))
  | 12, hj, hj2 => exact FF.keep (Below.alloc (Below.refl _ _) (Nat.le_refl _) _) 12 (hF 12 hj (set_ne hs (by omega) (by omega) hj2))
set_option maxHeartbeats 0 in
theorem inv_11 {w5 : World} {P1 P2 : Nat} {L : Array Bool} {a : Act} {w : World} (hI : Inv3 w5 P1 P2 L a w) (hP : w5.heap[P2]? = some (.cells #[.int .i64 1, .int .i64 1, .int .i64 0, .int .i64 2, .int .i64 0, .slice (some ⟨P1, 0, none⟩) 2 2, .string ⟨#[]⟩, .int .i64 0, .slice none 0 0, .slice none 0 0] 51 (0, 0))) (hr : 11 ∈ Region.ready .any ops3 L) : wpOp Try.prog ops3 (WPost w5 P1 P2) 11 (fun a' w' => Inv3 w5 P1 P2 (L.setIfInBounds 11 true) a' w') a w := by
  obtain ⟨hs, hl, v20, v21, v22, v23, v24, v25, v26, v27, v28, v29, v30, v31, p, rfl, hB, hF, hE⟩ := hI
  have hd := ready_11 hr
  have h13 : L.getD 13 false = false := not_last hl hd.1 (by omega)
  have hF' := hF h13
  replace hF := hF'
  clear hE
  obtain ⟨g2, e2, m2⟩ : ∃ g : Nat, v22 = .slice (some ⟨g, 0, none⟩) 2 2 ∧ w.heap[g]? = some (.cells #[.int .i64 2, .int .i64 0, .int .i64 7, .int .i64 1] 71 (0, 0)) := hF 2 (by omega) hd.2.1
  subst e2
  obtain ⟨g5, e5, m5⟩ : ∃ g : Nat, v25 = .slice (some ⟨g, 0, none⟩) 1 1 ∧ w.heap[g]? = some (.cells #[.int .i64 1, .int .i64 0, .int .i64 7, .int .i64 0] 44 (0, 0)) := hF 5 (by omega) hd.2.2.1
  subst e5
  obtain ⟨gc, gd, e10, mc, md⟩ : ∃ gc gd : Nat, v30 = .slice (some ⟨gd, 0, none⟩) 1 1 ∧ w.heap[gc]? = some (.cells (wCode P1) 51 (0, 0)) ∧ w.heap[gd]? = some (.cells #[.string ⟨#[97]⟩, .bool false, .slice none 0 0, .slice (some ⟨gc, 0, none⟩) 2 2] 48 (0, 0)) := hF 10 (by omega) hd.2.2.2
  subst e10
  refine wpOp_step (o := { dst := some 31, op := Op.build 31 #[(1, Operand.const (Value.string { data := #[102] })), (2, Operand.tmp 22), (3, Operand.tmp 25), (4, Operand.tmp 30)], type := 31, pos := "law.go:13", after := #[{ on := 2, ground := Ground.data }, { on := 5, ground := Ground.data }, { on := 10, ground := Ground.data }], guard := none }) rfl (fun K hK => ?_)
  go_simp
  refine hK _ _ ⟨by simpa using hs, fun h => absurd (set_ne hs (by omega) (by omega) h) (by rw [h13]; simp), _, _, _, _, _, _, _, _, _, _, _, _, _, rfl, hB, fun _ j hj hj2 => ?_, fun h => absurd (set_ne hs (by omega) (by omega) h) (by rw [h13]; simp)⟩
  match j, hj, hj2 with
  | 0, hj, hj2 => exact FF.keep (Below.refl _ _) 0 (hF 0 hj (set_ne hs (by omega) (by omega) hj2))
  | 1, hj, hj2 => exact FF.keep (Below.refl _ _) 1 (hF 1 hj (set_ne hs (by omega) (by omega) hj2))
  | 2, hj, hj2 => exact FF.keep (Below.refl _ _) 2 (hF 2 hj (set_ne hs (by omega) (by omega) hj2))
  | 3, hj, hj2 => exact FF.keep (Below.refl _ _) 3 (hF 3 hj (set_ne hs (by omega) (by omega) hj2))
  | 4, hj, hj2 => exact FF.keep (Below.refl _ _) 4 (hF 4 hj (set_ne hs (by omega) (by omega) hj2))
  | 5, hj, hj2 => exact FF.keep (Below.refl _ _) 5 (hF 5 hj (set_ne hs (by omega) (by omega) hj2))
  | 6, hj, hj2 => exact FF.keep (Below.refl _ _) 6 (hF 6 hj (set_ne hs (by omega) (by omega) hj2))
  | 7, hj, hj2 => exact FF.keep (Below.refl _ _) 7 (hF 7 hj (set_ne hs (by omega) (by omega) hj2))
  | 8, hj, hj2 => exact FF.keep (Below.refl _ _) 8 (hF 8 hj (set_ne hs (by omega) (by omega) hj2))
  | 9, hj, hj2 => exact FF.keep (Below.refl _ _) 9 (hF 9 hj (set_ne hs (by omega) (by omega) hj2))
  | 10, hj, hj2 => exact FF.keep (Below.refl _ _) 10 (hF 10 hj (set_ne hs (by omega) (by omega) hj2))
  | 11, _, _ => exact ⟨_, _, _, _, rfl, m2, m5, mc, md⟩
  | 12, hj, hj2 => exact FF.keep (Below.refl _ _) 12 (hF 12 hj (set_ne hs (by omega) (by omega) hj2))
set_option maxHeartbeats 0 in
theorem inv_12 {w5 : World} {P1 P2 : Nat} {L : Array Bool} {a : Act} {w : World} (hI : Inv3 w5 P1 P2 L a w) (hP : w5.heap[P2]? = some (.cells #[.int .i64 1, .int .i64 1, .int .i64 0, .int .i64 2, .int .i64 0, .slice (some ⟨P1, 0, none⟩) 2 2, .string ⟨#[]⟩, .int .i64 0, .slice none 0 0, .slice none 0 0] 51 (0, 0))) (hr : 12 ∈ Region.ready .any ops3 L) : wpOp Try.prog ops3 (WPost w5 P1 P2) 12 (fun a' w' => Inv3 w5 P1 P2 (L.setIfInBounds 12 true) a' w') a w := by
  obtain ⟨hs, hl, v20, v21, v22, v23, v24, v25, v26, v27, v28, v29, v30, v31, p, rfl, hB, hF, hE⟩ := hI
  have hd := ready_12 hr
  have h13 : L.getD 13 false = false := not_last hl hd (by omega)
  have hF' := hF h13
  replace hF := hF'
  clear hE
  refine wpOp_step (o := { dst := some 3, op := Op.alloc 31, type := 0, pos := "law.go:13", after := #[], guard := none }) rfl (fun K hK => ?_)
  go_simp
  refine hK _ _ ⟨by simpa using hs, fun h => absurd (set_ne hs (by omega) (by omega) h) (by rw [h13]; simp), _, _, _, _, _, _, _, _, _, _, _, _, _, rfl, Below.alloc hB hB.size _, fun _ j hj hj2 => ?_, fun h => absurd (set_ne hs (by omega) (by omega) h) (by rw [h13]; simp)⟩
  match j, hj, hj2 with
  | 0, hj, hj2 => exact FF.keep (Below.alloc (Below.refl _ _) (Nat.le_refl _) _) 0 (hF 0 hj (set_ne hs (by omega) (by omega) hj2))
  | 1, hj, hj2 => exact FF.keep (Below.alloc (Below.refl _ _) (Nat.le_refl _) _) 1 (hF 1 hj (set_ne hs (by omega) (by omega) hj2))
  | 2, hj, hj2 => exact FF.keep (Below.alloc (Below.refl _ _) (Nat.le_refl _) _) 2 (hF 2 hj (set_ne hs (by omega) (by omega) hj2))
  | 3, hj, hj2 => exact FF.keep (Below.alloc (Below.refl _ _) (Nat.le_refl _) _) 3 (hF 3 hj (set_ne hs (by omega) (by omega) hj2))
  | 4, hj, hj2 => exact FF.keep (Below.alloc (Below.refl _ _) (Nat.le_refl _) _) 4 (hF 4 hj (set_ne hs (by omega) (by omega) hj2))
  | 5, hj, hj2 => exact FF.keep (Below.alloc (Below.refl _ _) (Nat.le_refl _) _) 5 (hF 5 hj (set_ne hs (by omega) (by omega) hj2))
  | 6, hj, hj2 => exact FF.keep (Below.alloc (Below.refl _ _) (Nat.le_refl _) _) 6 (hF 6 hj (set_ne hs (by omega) (by omega) hj2))
  | 7, hj, hj2 => exact FF.keep (Below.alloc (Below.refl _ _) (Nat.le_refl _) _) 7 (hF 7 hj (set_ne hs (by omega) (by omega) hj2))
  | 8, hj, hj2 => exact FF.keep (Below.alloc (Below.refl _ _) (Nat.le_refl _) _) 8 (hF 8 hj (set_ne hs (by omega) (by omega) hj2))
  | 9, hj, hj2 => exact FF.keep (Below.alloc (Below.refl _ _) (Nat.le_refl _) _) 9 (hF 9 hj (set_ne hs (by omega) (by omega) hj2))
  | 10, hj, hj2 => exact FF.keep (Below.alloc (Below.refl _ _) (Nat.le_refl _) _) 10 (hF 10 hj (set_ne hs (by omega) (by omega) hj2))
  | 11, hj, hj2 => exact FF.keep (Below.alloc (Below.refl _ _) (Nat.le_refl _) _) 11 (hF 11 hj (set_ne hs (by omega) (by omega) hj2))
  | 12, _, _ => exact ⟨_, rfl, hB.size, heap_alloc_new _ _⟩
set_option maxHeartbeats 0 in
theorem inv_13 {w5 : World} {P1 P2 : Nat} {L : Array Bool} {a : Act} {w : World} (hI : Inv3 w5 P1 P2 L a w) (hr : 13 ∈ Region.ready .any ops3 L) : wpOp Try.prog ops3 (WPost w5 P1 P2) 13 (fun a' w' => Inv3 w5 P1 P2 (L.setIfInBounds 13 true) a' w') a w := by
  obtain ⟨hs, hl, v20, v21, v22, v23, v24, v25, v26, v27, v28, v29, v30, v31, p, rfl, hB, hF, hE⟩ := hI
  have hd := ready_13 hr
  have h13 : L.getD 13 false = false := fals hd.1
  replace hF := hF h13
  clear hE
  obtain ⟨ga, gb, gc, gd, e11, ma, mb, mc, md⟩ : ∃ ga gb gc gd : Nat, v31 = .agg #[.bool false, .string ⟨#[102]⟩, .slice (some ⟨ga, 0, none⟩) 2 2, .slice (some ⟨gb, 0, none⟩) 1 1, .slice (some ⟨gd, 0, none⟩) 1 1] ∧ w.heap[ga]? = some (.cells #[.int .i64 2, .int .i64 0, .int .i64 7, .int .i64 1] 71 (0, 0)) ∧ w.heap[gb]? = some (.cells #[.int .i64 1, .int .i64 0, .int .i64 7, .int .i64 0] 44 (0, 0)) ∧ w.heap[gc]? = some (.cells (wCode P1) 51 (0, 0)) ∧ w.heap[gd]? = some (.cells #[.string ⟨#[97]⟩, .bool false, .slice none 0 0, .slice (some ⟨gc, 0, none⟩) 2 2] 48 (0, 0)) := hF 11 (by omega) (hd.2 11 (by omega))
  subst e11
  obtain ⟨g, e12, hg, mg⟩ : ∃ g : Nat, p = .pointer (some ⟨g, 0, none⟩) ∧ w5.heap.size ≤ g ∧ w.heap[g]? = some (.cells #[.bool false, .string ⟨#[]⟩, .slice none 0 0, .slice none 0 0, .slice none 0 0] 31 (0, 0)) := hF 12 (by omega) (hd.2 12 (by omega))
  subst e12
  have c0 : w.cell? ⟨g, 0, none⟩ = some (.bool false) := cell_in mg 0
  have z0 : w.frozen? ⟨g, 0, none⟩ = false := froz_in mg 0
  have c1 : w.cell? ⟨g, 1, none⟩ = some (.string ⟨#[]⟩) := cell_in mg 1
  have z1 : w.frozen? ⟨g, 1, none⟩ = false := froz_in mg 1
  have c2 : w.cell? ⟨g, 2, none⟩ = some (.slice none 0 0) := cell_in mg 2
  have z2 : w.frozen? ⟨g, 2, none⟩ = false := froz_in mg 2
  have c3 : w.cell? ⟨g, 3, none⟩ = some (.slice none 0 0) := cell_in mg 3
  have z3 : w.frozen? ⟨g, 3, none⟩ = false := froz_in mg 3
  have c4 : w.cell? ⟨g, 4, none⟩ = some (.slice none 0 0) := cell_in mg 4
  have z4 : w.frozen? ⟨g, 4, none⟩ = false := froz_in mg 4
  have na : ga ≠ g := fun e => by subst e; rw [ma] at mg; simp at mg
  have nb : gb ≠ g := fun e => by subst e; rw [mb] at mg; simp at mg
  have nc : gc ≠ g := fun e => by subst e; rw [mc] at mg; simp at mg
  have nd : gd ≠ g := fun e => by subst e; rw [md] at mg; simp at mg
  refine wpOp_step (o := { dst := none, op := Op.store 31 (Operand.tmp 3) (Operand.tmp 31), type := 0, pos := "law.go:13", after := #[{ on := 12, ground := Ground.data }, { on := 11, ground := Ground.data }, { on := 4, ground := Ground.chain }, { on := 0, ground := Ground.phase }, { on := 1, ground := Ground.phase }, { on := 2, ground := Ground.phase }, { on := 3, ground := Ground.phase }, { on := 4, ground := Ground.phase }, { on := 5, ground := Ground.phase }, { on := 6, ground := Ground.phase }, { on := 7, ground := Ground.phase }, { on := 8, ground := Ground.phase }, { on := 9, ground := Ground.phase }, { on := 10, ground := Ground.phase }, { on := 11, ground := Ground.phase }, { on := 12, ground := Ground.phase }], guard := none }) rfl (fun K hK => ?_)
  go_simp
  refine hK _ _ ⟨by simpa using hs, fun _ i hi => ?_, _, _, _, _, _, _, _, _, _, _, _, _, _, rfl, Below.setCell (Below.setCell (Below.setCell (Below.setCell (Below.setCell (hB) hg _) hg _) hg _) hg _) hg _, fun h => ?_, fun _ => ⟨g, rfl, ⟨ga, gb, gc, gd, (set_far na _ _).trans ((set_far na _ _).trans ((set_far na _ _).trans ((set_far na _ _).trans ((set_far na _ _).trans (ma))))), (set_far nb _ _).trans ((set_far nb _ _).trans ((set_far nb _ _).trans ((set_far nb _ _).trans ((set_far nb _ _).trans (mb))))), (set_far nc _ _).trans ((set_far nc _ _).trans ((set_far nc _ _).trans ((set_far nc _ _).trans ((set_far nc _ _).trans (mc))))), (set_far nd _ _).trans ((set_far nd _ _).trans ((set_far nd _ _).trans ((set_far nd _ _).trans ((set_far nd _ _).trans (md))))), lay5_at mg, Below.setCell (Below.setCell (Below.setCell (Below.setCell (Below.setCell (hB) hg _) hg _) hg _) hg _) hg _, hg⟩⟩⟩
  · rw [getD_set L 13 i hs (by omega)]
    split
    · rfl
    · exact hd.2 i (by omega)
  · rw [getD_set L 13 13 hs (by omega)] at h
    simp at h
theorem region3 (w5 : World) (P1 P2 : Nat) (hP : w5.heap[P2]? = some (.cells #[.int .i64 1, .int .i64 1, .int .i64 0, .int .i64 2, .int .i64 0, .slice (some ⟨P1, 0, none⟩) 2 2, .string ⟨#[]⟩, .int .i64 0, .slice none 0 0, .slice none 0 0] 51 (0, 0))) :
    (Code.region 3
      #[{ dst := some 20, op := Op.build 71 #[(0, Operand.const (Value.int IntKind.i64 2))], type := 71,
          pos := "law.go:13", after := #[], guard := none },
        { dst := some 21,
          op :=
            Op.build 71 #[(0, Operand.const (Value.int IntKind.i64 7)), (1, Operand.const (Value.int IntKind.i64 1))],
          type := 71, pos := "law.go:13", after := #[], guard := none },
        { dst := some 22, op := Op.buildSlice 27 2 #[(0, Operand.tmp 20), (1, Operand.tmp 21)], type := 27,
          pos := "law.go:13", after := #[{ on := 0, ground := Ground.data }, { on := 1, ground := Ground.data }],
          guard := none },
        { dst := some 23, op := Op.move (Operand.tmp 1), type := 75, pos := "law.go:13", after := #[], guard := none },
        { dst := some 24,
          op :=
            Op.call
              { callee := Callee.value (Operand.tmp 23), args := #[Operand.const (Value.int IntKind.i64 7)],
                argTypes := #[3] },
          type := 44, pos := "law.go:13", after := #[{ on := 3, ground := Ground.data }], guard := none },
        { dst := some 25, op := Op.buildSlice 28 1 #[(0, Operand.tmp 24)], type := 28, pos := "law.go:13",
          after := #[{ on := 4, ground := Ground.data }], guard := none },
        { dst := some 26, op := Op.load 51 (Operand.tmp 2), type := 51, pos := "law.go:13", after := #[],
          guard := none },
        { dst := some 27,
          op :=
            Op.build 51
              #[(0, Operand.const (Value.int IntKind.i64 19)), (3, Operand.const (Value.string { data := #[113] }))],
          type := 51, pos := "law.go:13", after := #[], guard := none },
        { dst := some 28, op := Op.buildSlice 46 2 #[(0, Operand.tmp 26), (1, Operand.tmp 27)], type := 46,
          pos := "law.go:13", after := #[{ on := 6, ground := Ground.data }, { on := 7, ground := Ground.data }],
          guard := none },
        { dst := some 29, op := Op.build 48 #[(0, Operand.const (Value.string { data := #[97] })), (3, Operand.tmp 28)],
          type := 48, pos := "law.go:13", after := #[{ on := 8, ground := Ground.data }], guard := none },
        { dst := some 30, op := Op.buildSlice 29 1 #[(0, Operand.tmp 29)], type := 29, pos := "law.go:13",
          after := #[{ on := 9, ground := Ground.data }], guard := none },
        { dst := some 31,
          op :=
            Op.build 31
              #[(1, Operand.const (Value.string { data := #[102] })), (2, Operand.tmp 22), (3, Operand.tmp 25),
                (4, Operand.tmp 30)],
          type := 31, pos := "law.go:13",
          after :=
            #[{ on := 2, ground := Ground.data }, { on := 5, ground := Ground.data },
              { on := 10, ground := Ground.data }],
          guard := none },
        { dst := some 3, op := Op.alloc 31, type := 0, pos := "law.go:13", after := #[], guard := none },
        { dst := none, op := Op.store 31 (Operand.tmp 3) (Operand.tmp 31), type := 0, pos := "law.go:13",
          after :=
            #[{ on := 12, ground := Ground.data }, { on := 11, ground := Ground.data },
              { on := 4, ground := Ground.chain }, { on := 0, ground := Ground.phase },
              { on := 1, ground := Ground.phase }, { on := 2, ground := Ground.phase },
              { on := 3, ground := Ground.phase }, { on := 4, ground := Ground.phase },
              { on := 5, ground := Ground.phase }, { on := 6, ground := Ground.phase },
              { on := 7, ground := Ground.phase }, { on := 8, ground := Ground.phase },
              { on := 9, ground := Ground.phase }, { on := 10, ground := Ground.phase },
              { on := 11, ground := Ground.phase }, { on := 12, ground := Ground.phase }],
          guard := none }]
      true).wp Try.prog (WPost w5 P1 P2) { tmps := #[.bool false, .func (.func 39) #[] #[], .pointer (some ⟨P2, 0, none⟩), undef, undef, undef, undef, undef, undef, undef, undef, undef, .func (.func 39) #[] #[], .agg #[.int .i64 1, .int .i64 0, .int .i64 2, .int .i64 0], .func (.func 39) #[] #[], .agg #[.int .i64 1, .int .i64 0, .int .i64 7, .int .i64 0], .func (.func 39) #[] #[], .agg #[.int .i64 1, .int .i64 0, .int .i64 7, .int .i64 0], .slice (some ⟨P1, 0, none⟩) 2 2, .agg #[.int .i64 1, .int .i64 1, .int .i64 0, .int .i64 2, .int .i64 0, .slice (some ⟨P1, 0, none⟩) 2 2, .string ⟨#[]⟩, .int .i64 0, .slice none 0 0, .slice none 0 0], undef, undef, undef, undef, undef, undef, undef, undef, undef, undef, undef, undef, undef, undef, undef, undef, undef, undef, undef, undef, undef, undef, undef, undef, undef, undef, undef, undef, undef, undef, undef, undef, undef, undef, undef, undef, undef, undef, undef, undef, undef, undef, undef, undef, undef, undef, undef, undef, undef, undef, undef, undef, undef, undef, undef, undef, undef, undef, undef, undef, undef, undef, undef, undef, undef, undef, undef, undef, undef, undef, undef, undef, undef, undef, undef, undef, undef, undef, undef, undef, undef, undef, undef, undef, undef, undef, undef, undef, undef, undef, undef, undef, undef, undef, undef, undef, undef, undef, undef, undef], defers := [] } w5 := by
  show (Code.region 3 ops3 true).wp Try.prog (WPost w5 P1 P2) _ w5
  refine wp_region_any (by kernel_rfl) ?_
  refine wpAny_inv (Inv3 w5 P1 P2) (fun L a w i hI hr => ?_) (fun L a w hI hr => hI.done hr) 14 _ _ _ (by decide) (Inv3.start w5 P1 P2)
  have hi : i < 14 := by
    unfold Region.ready at hr
    exact List.mem_range.1 (List.mem_filter.1 hr).1
  match i, hi with
  | 0, _ => exact inv_0 hI hP hr
  | 1, _ => exact inv_1 hI hP hr
  | 2, _ => exact inv_2 hI hP hr
  | 3, _ => exact inv_3 hI hP hr
  | 4, _ => exact inv_4 hI hP hr
  | 5, _ => exact inv_5 hI hP hr
  | 6, _ => exact inv_6 hI hP hr
  | 7, _ => exact inv_7 hI hP hr
  | 8, _ => exact inv_8 hI hP hr
  | 9, _ => exact inv_9 hI hP hr
  | 10, _ => exact inv_10 hI hP hr
  | 11, _ => exact inv_11 hI hP hr
  | 12, _ => exact inv_12 hI hP hr
  | 13, _ => exact inv_13 hI hr
end Go.Proofs.Ytocelaebokikcaa
