
/- How functions, instructions and operands come in: with what they weigh. -/
import Derived.Test.YtakfoncdiejhaaaDoorShoRefF
import Derived.Test.YtakfoncdiejhaaaDoorBulk
import Derived.Deep.Slices
import Derived.OpenShut
namespace Go.Proofs.YtakfoncdiejhaaaDoor
open Go.ChangeShapes Go.WideShapes Go.RowKit
set_option linter.unusedVariables false
set_option maxRecDepth 20000

theorem wf_fit {n : Int} (h : (Lit.int .i64 n).wf = true) : Deci.fit n := by
  have : -9223372036854775808 ≤ n ∧ n ≤ 9223372036854775807 := by simpa [Lit.wf, IntKind.min, IntKind.max, IntKind.signed, IntKind.bits] using h
  exact this
/-- What an instruction, a block, a function weighs. -/
def wI (i : Ins) : Nat := 1 + i.name.size + i.args.length + (i.labels.map fun s => s.size + 1).sum + i.cases.length
def wB (b : Blk) : Nat := 1 + b.label.size + b.ins.length + (b.code.map wI).sum
def wF (f : Fun) : Nat := 1 + f.name.size + f.regs.length + f.params.length + (f.blocks.map wB).sum
instance : Inhabited InsV := ⟨⟨none, 0, 0, none, 0, 0, none, 0, 0⟩⟩
instance : Inhabited BlkV := ⟨⟨none, 0, 0, none, 0, 0, fun _ => default⟩⟩
theorem sum_bulk {H : Type} (L : List Nat) (g : Nat → Nat) (D : Nat → DataW H) (h : ∀ k ∈ L, g k ≤ Rows.uptoBulk (D k)) : (L.map g).sum ≤ Rows.uptoBulkAll (L.map D) := by
  induction L with
  | nil => simp [Rows.uptoBulkAll]
  | cons a L ih =>
    have h1 := h a (by simp)
    have h2 := ih fun k hk => h k (by simp [hk])
    simp only [List.map_cons, List.sum_cons, Rows.uptoBulkAll]
    omega
section
variable {H : Type} {enc : TypeId × Value → H} {W : World} {B : Nat}
theorem rows_open_w {t e : TypeId} {sz : Nat} {α : Type} [Inhabited α] (R : α → List Value → Prop) (wt : α → Nat) (ht : Tryd.prog.underlying t = some (.slice e)) (hc : Tryd.prog.cellsOf e = sz) (h0 : 0 < sz)
    (hel : ∀ {fuel : Nat} {cs : List Value} {x : DataW H × List MemPlace}, DataW.trod enc Tryd.prog W 0 (fun _ => true) true fuel e cs = some x → Rows.uptoBulk x.1 ≤ B → ∃ d : α, R d cs ∧ wt d ≤ Rows.uptoBulk x.1)
    {fuel : Nat} {cs : List Value} {x : DataW H × List MemPlace} (h : DataW.trod enc Tryd.prog W 0 (fun _ => true) true fuel t cs = some x) (hB : Rows.uptoBulk x.1 ≤ B) :
    ∃ (A : Option Addr) (c n : Nat) (F : Nat → α), cs = [.slice A n c] ∧ n ≤ 9223372036854775807 ∧ n ≤ Rows.uptoBulk x.1 ∧ ((List.range n).map fun k => wt (F k)).sum ≤ Rows.uptoBulk x.1 ∧ (∀ k, k < n → ∃ cs', R (F k) cs') ∧ (n = 0 ∨ ∃ b o, A = some ⟨b, o, none⟩ ∧ b < W.heap.size ∧
      ∀ k, k < n → ∃ cs', R (F k) cs' ∧ ∀ j u, j < sz → cs'[j]? = some u → W.cell? ⟨b, o + k * sz + j, none⟩ = some u) := by
  rcases Deep.open_slice ht h with ⟨hcs, _⟩ | ⟨x1, l, c, m, n, D, Pl, hcs, _, hl, hm, hmm, hx, hel2⟩
  · exact ⟨none, 0, 0, fun _ => default, hcs, by omega, by omega, by simp, fun k hk => by omega, .inl rfl⟩
  · simp only [if_true] at hmm
    subst hmm
    rw [hc] at hel2
    subst hx
    have hlB : l ≤ Rows.uptoBulk (DataW.slice ((List.range l).map D) ((List.range (m - l)).map fun j => D (l + j))) := by
      have := bulks.slice_le ((List.range l).map D) ((List.range (m - l)).map fun j => D (l + j))
      simp only [List.length_map, List.length_range] at this
      omega
    have hDB : ∀ i, i < l → Rows.uptoBulk (D i) ≤ B := fun i hi => by
      have h1 := bulks.slice_elems ((List.range l).map D) ((List.range (m - l)).map fun j => D (l + j))
      have h2 : Rows.uptoBulk (D i) ≤ Rows.uptoBulkAll ((List.range l).map D) := bulks.part_le (List.mem_map.2 ⟨i, List.mem_range.2 hi, rfl⟩)
      simp only at hB
      omega
    obtain ⟨F, hF⟩ := Deep.choose_lt (α := α) (n := l) (p := fun i d => ∃ cs', W.cells? 0 (x1.add (i * sz)) sz = some cs' ∧ R d cs' ∧ wt d ≤ Rows.uptoBulk (D i)) (fun i hi => by
      obtain ⟨cs', h1, h2⟩ := hel2 i (by omega)
      obtain ⟨d, h3⟩ := hel h2 (hDB i hi)
      exact ⟨d, cs', h1, h3⟩)
    have hsum : ((List.range l).map fun k => wt (F k)).sum ≤ Rows.uptoBulkAll ((List.range l).map D) := sum_bulk _ _ _ fun k hk => by
      obtain ⟨_, _, _, h⟩ := hF k (List.mem_range.1 hk); exact h
    have hel3 := bulks.slice_elems ((List.range l).map D) ((List.range (m - l)).map fun j => D (l + j))
    refine ⟨some x1, m, l, F, hcs, by have : maxLen = 9223372036854775807 := rfl; omega, hlB, Nat.le_trans hsum (Nat.le_trans (Nat.le_add_right _ 1) hel3), fun k hk => (hF k hk).imp fun _ h => h.2.1, ?_⟩
    by_cases hl0 : l = 0
    · exact .inl hl0
    · obtain ⟨b, o, spot⟩ := x1
      have hspot : spot = none ∧ b < W.heap.size := by
        obtain ⟨cs', h1, _⟩ := hF 0 (by omega)
        obtain ⟨_, hlen, hcell⟩ := World.cells?_some h1
        have hc0 := hcell 0 (by omega)
        rw [List.getElem?_eq_getElem (by omega)] at hc0
        constructor
        · simpa [Addr.add] using World.cell?_spot hc0
        · simpa [Addr.add] using spot_lt hc0
      obtain ⟨rfl, hb⟩ := hspot
      refine .inr ⟨b, o, rfl, hb, fun k hk => ?_⟩
      obtain ⟨cs', h1, h2, _⟩ := hF k hk
      obtain ⟨_, hlen, hcell⟩ := World.cells?_some h1
      refine ⟨cs', h2, fun j u hj hu => ?_⟩
      have := hcell j (by omega)
      rw [add_at, add_at] at this
      rw [this]
      exact hu
theorem range_map_get {α : Type} (F : Nat → α) (n k : Nat) (hk : k < ((List.range n).map F).length) : ((List.range n).map F)[k] = F k := by simp
theorem list_n2 {α : Type} {l : List α} (h : l.length = 2) : ∃ c0 c1, l = [c0, c1] := by
  match l, h with
  | [c0, c1], _ => exact ⟨c0, c1, rfl⟩
theorem list_n3 {α : Type} {l : List α} (h : l.length = 3) : ∃ c0 c1 c2, l = [c0, c1, c2] := by
  match l, h with
  | [c0, c1, c2], _ => exact ⟨c0, c1, c2, rfl⟩
theorem list_n4 {α : Type} {l : List α} (h : l.length = 4) : ∃ c0 c1 c2 c3, l = [c0, c1, c2, c3] := by
  match l, h with
  | [c0, c1, c2, c3], _ => exact ⟨c0, c1, c2, c3, rfl⟩
theorem list_n5 {α : Type} {l : List α} (h : l.length = 5) : ∃ c0 c1 c2 c3 c4, l = [c0, c1, c2, c3, c4] := by
  match l, h with
  | [c0, c1, c2, c3, c4], _ => exact ⟨c0, c1, c2, c3, c4, rfl⟩
theorem list_n6 {α : Type} {l : List α} (h : l.length = 6) : ∃ c0 c1 c2 c3 c4 c5, l = [c0, c1, c2, c3, c4, c5] := by
  match l, h with
  | [c0, c1, c2, c3, c4, c5], _ => exact ⟨c0, c1, c2, c3, c4, c5, rfl⟩
theorem list_n7 {α : Type} {l : List α} (h : l.length = 7) : ∃ c0 c1 c2 c3 c4 c5 c6, l = [c0, c1, c2, c3, c4, c5, c6] := by
  match l, h with
  | [c0, c1, c2, c3, c4, c5, c6], _ => exact ⟨c0, c1, c2, c3, c4, c5, c6, rfl⟩
theorem list_n10 {α : Type} {l : List α} (h : l.length = 10) : ∃ c0 c1 c2 c3 c4 c5 c6 c7 c8 c9, l = [c0, c1, c2, c3, c4, c5, c6, c7, c8, c9] := by
  match l, h with
  | [c0, c1, c2, c3, c4, c5, c6, c7, c8, c9], _ => exact ⟨c0, c1, c2, c3, c4, c5, c6, c7, c8, c9, rfl⟩
theorem cs3 : Tryd.prog.cellsOf 3 = 1 := by kernel_rfl
theorem cs4 : Tryd.prog.cellsOf 4 = 1 := by kernel_rfl
theorem cs9 : Tryd.prog.cellsOf 9 = 1 := by kernel_rfl
theorem cs22 : Tryd.prog.cellsOf 27 = 1 := by kernel_rfl
theorem cs23 : Tryd.prog.cellsOf 28 = 1 := by kernel_rfl
theorem cs24 : Tryd.prog.cellsOf 29 = 1 := by kernel_rfl
theorem cs26 : Tryd.prog.cellsOf 31 = 5 := by kernel_rfl
theorem cs31 : Tryd.prog.cellsOf 54 = 4 := by kernel_rfl
theorem cs32 : Tryd.prog.cellsOf 55 = 1 := by kernel_rfl
theorem cs33 : Tryd.prog.cellsOf 23 = 1 := by kernel_rfl
theorem cs35 : Tryd.prog.cellsOf 57 = 10 := by kernel_rfl
theorem cs36 : Tryd.prog.cellsOf 50 = 1 := by kernel_rfl
theorem cs38 : Tryd.prog.cellsOf 52 = 4 := by kernel_rfl
theorem cs55 : Tryd.prog.cellsOf 76 = 2 := by kernel_rfl
theorem opn_w {fuel : Nat} {cs : List Value} {x : DataW H × List MemPlace} (h : DataW.trod enc Tryd.prog W 0 (fun _ => true) true fuel 54 cs = some x) (hB : Rows.uptoBulk x.1 ≤ 1048576) : ∃ d : Opn, cs = d.cs ∧ OpF d := by
  obtain ⟨xs, n, _, hx, hl, hlen, hf⟩ := DataW.trod_struct Tryd.underlying54 h
  rw [cs31] at hl
  subst hx
  obtain ⟨c0, c1, c2, c3, rfl⟩ := list_n4 hl
  obtain ⟨x0, x1, x2, x3, rfl⟩ := list_n4 (show xs.length = 4 from hlen)
  simp only [List.map_cons, List.map_nil, Rows.uptoBulk, Rows.uptoBulkAll] at hB ⊢
  have B0 : Rows.uptoBulk x0.1 ≤ 1048576 := by omega
  have B1 : Rows.uptoBulk x1.1 ≤ 1048576 := by omega
  have B2 : Rows.uptoBulk x2.1 ≤ 1048576 := by omega
  have B3 : Rows.uptoBulk x3.1 ≤ 1048576 := by omega
  have g0 : DataW.trod enc Tryd.prog W 0 (fun _ => true) true n 3 (List.take (Tryd.prog.cellsOf 3) (List.drop 0 [c0, c1, c2, c3])) = some x0 := hf 0 _ rfl
  rw [cs3] at g0
  replace g0 : DataW.trod enc Tryd.prog W 0 (fun _ => true) true n 3 [c0] = some x0 := g0
  have g1 : DataW.trod enc Tryd.prog W 0 (fun _ => true) true n 3 (List.take (Tryd.prog.cellsOf 3) (List.drop 1 [c0, c1, c2, c3])) = some x1 := hf 1 _ rfl
  rw [cs3] at g1
  replace g1 : DataW.trod enc Tryd.prog W 0 (fun _ => true) true n 3 [c1] = some x1 := g1
  have g2 : DataW.trod enc Tryd.prog W 0 (fun _ => true) true n 3 (List.take (Tryd.prog.cellsOf 3) (List.drop 2 [c0, c1, c2, c3])) = some x2 := hf 2 _ rfl
  rw [cs3] at g2
  replace g2 : DataW.trod enc Tryd.prog W 0 (fun _ => true) true n 3 [c2] = some x2 := g2
  have g3 : DataW.trod enc Tryd.prog W 0 (fun _ => true) true n 3 (List.take (Tryd.prog.cellsOf 3) (List.drop 3 [c0, c1, c2, c3])) = some x3 := hf 3 _ rfl
  rw [cs3] at g3
  replace g3 : DataW.trod enc Tryd.prog W 0 (fun _ => true) true n 3 [c3] = some x3 := g3
  obtain ⟨z0, e0, _, w0⟩ := DataW.trod_int Tryd.underlying3 g0
  injection e0 with e0
  subst e0
  obtain ⟨z1, e1, _, w1⟩ := DataW.trod_int Tryd.underlying3 g1
  injection e1 with e1
  subst e1
  obtain ⟨z2, e2, _, w2⟩ := DataW.trod_int Tryd.underlying3 g2
  injection e2 with e2
  subst e2
  obtain ⟨z3, e3, _, w3⟩ := DataW.trod_int Tryd.underlying3 g3
  injection e3 with e3
  subst e3
  exact ⟨⟨z0, z1, z2, z3⟩, rfl, wf_fit w2, wf_fit w3⟩
theorem ops_w {fuel : Nat} {cs : List Value} {x : DataW H × List MemPlace} (h : DataW.trod enc Tryd.prog W 0 (fun _ => true) true fuel 28 cs = some x) (hB : Rows.uptoBulk x.1 ≤ 1048576) : ∃ A n c l, cs = [.slice A n c] ∧ IsOps W A n l ∧ l.length ≤ Rows.uptoBulk x.1 ∧ ∀ y ∈ l, OpF y := by
  obtain ⟨A, c, n, F, rfl, hn, hnB, hS, hI, hF⟩ := rows_open_w (B := 1048576) (α := Opn) (fun d cs => cs = d.cs ∧ OpF d) (fun _ => 0) Tryd.underlying28 cs31 (by omega) (fun h hB => (opn_w h hB).imp fun _ e => ⟨e, Nat.zero_le _⟩) h hB
  refine ⟨A, n, c, (List.range n).map F, rfl, ⟨by simp, hn, ?_⟩, by simpa using hnB, fun x hx => by
    obtain ⟨k, hk, rfl⟩ := List.mem_map.1 hx
    obtain ⟨_, _, e⟩ := hI k (List.mem_range.1 hk)
    exact e⟩
  rcases hF with rfl | ⟨b, o, rfl, hb, hF⟩
  · exact .inl rfl
  · refine .inr ⟨b, o, rfl, hb, fun k hk => ?_⟩
    have hk2 : k < n := by simpa using hk
    obtain ⟨cs', ⟨rfl, _⟩, hc⟩ := hF k hk2
    rw [range_map_get]
    exact ⟨hc 0 _ (by omega) rfl, hc 1 _ (by omega) rfl, hc 2 _ (by omega) rfl, hc 3 _ (by omega) rfl⟩
theorem reg_w {fuel : Nat} {cs : List Value} {x : DataW H × List MemPlace} (h : DataW.trod enc Tryd.prog W 0 (fun _ => true) true fuel 76 cs = some x) (hB : Rows.uptoBulk x.1 ≤ 1048576) : ∃ d : Rg, cs = d.cs ∧ Deci.fit d.id := by
  obtain ⟨xs, n, _, hx, hl, hlen, hf⟩ := DataW.trod_struct Tryd.underlying76 h
  rw [cs55] at hl
  subst hx
  obtain ⟨c0, c1, rfl⟩ := list_n2 hl
  obtain ⟨x0, x1, rfl⟩ := list_n2 (show xs.length = 2 from hlen)
  simp only [List.map_cons, List.map_nil, Rows.uptoBulk, Rows.uptoBulkAll] at hB ⊢
  have B0 : Rows.uptoBulk x0.1 ≤ 1048576 := by omega
  have B1 : Rows.uptoBulk x1.1 ≤ 1048576 := by omega
  have g0 : DataW.trod enc Tryd.prog W 0 (fun _ => true) true n 3 (List.take (Tryd.prog.cellsOf 3) (List.drop 0 [c0, c1])) = some x0 := hf 0 _ rfl
  rw [cs3] at g0
  replace g0 : DataW.trod enc Tryd.prog W 0 (fun _ => true) true n 3 [c0] = some x0 := g0
  have g1 : DataW.trod enc Tryd.prog W 0 (fun _ => true) true n 3 (List.take (Tryd.prog.cellsOf 3) (List.drop 1 [c0, c1])) = some x1 := hf 1 _ rfl
  rw [cs3] at g1
  replace g1 : DataW.trod enc Tryd.prog W 0 (fun _ => true) true n 3 [c1] = some x1 := g1
  obtain ⟨z0, e0, _, w0⟩ := DataW.trod_int Tryd.underlying3 g0
  injection e0 with e0
  subst e0
  obtain ⟨z1, e1, _, w1⟩ := DataW.trod_int Tryd.underlying3 g1
  injection e1 with e1
  subst e1
  exact ⟨⟨z0, z1⟩, rfl, wf_fit w0⟩
theorem regs_w {fuel : Nat} {cs : List Value} {x : DataW H × List MemPlace} (h : DataW.trod enc Tryd.prog W 0 (fun _ => true) true fuel 27 cs = some x) (hB : Rows.uptoBulk x.1 ≤ 1048576) : ∃ A n c l, cs = [.slice A n c] ∧ IsRegs W A n l ∧ l.length ≤ Rows.uptoBulk x.1 ∧ ∀ y ∈ l, Deci.fit y.id := by
  obtain ⟨A, c, n, F, rfl, hn, hnB, hS, hI, hF⟩ := rows_open_w (B := 1048576) (α := Rg) (fun d cs => cs = d.cs ∧ Deci.fit d.id) (fun _ => 0) Tryd.underlying27 cs55 (by omega) (fun h hB => (reg_w h hB).imp fun _ e => ⟨e, Nat.zero_le _⟩) h hB
  refine ⟨A, n, c, (List.range n).map F, rfl, ⟨by simp, hn, ?_⟩, by simpa using hnB, fun x hx => by
    obtain ⟨k, hk, rfl⟩ := List.mem_map.1 hx
    obtain ⟨_, _, e⟩ := hI k (List.mem_range.1 hk)
    exact e⟩
  rcases hF with rfl | ⟨b, o, rfl, hb, hF⟩
  · exact .inl rfl
  · refine .inr ⟨b, o, rfl, hb, fun k hk => ?_⟩
    have hk2 : k < n := by simpa using hk
    obtain ⟨cs', ⟨rfl, _⟩, hc⟩ := hF k hk2
    rw [range_map_get]
    exact ⟨hc 0 _ (by omega) rfl, hc 1 _ (by omega) rfl⟩
theorem int_w {fuel : Nat} {cs : List Value} {x : DataW H × List MemPlace} (h : DataW.trod enc Tryd.prog W 0 (fun _ => true) true fuel 3 cs = some x) (hB : Rows.uptoBulk x.1 ≤ 1048576) : ∃ d : Int, cs = [.int .i64 d] ∧ Deci.fit d := by
  obtain ⟨z, e, _, w⟩ := DataW.trod_int Tryd.underlying3 h
  exact ⟨z, e, wf_fit w⟩
theorem ints_w {fuel : Nat} {cs : List Value} {x : DataW H × List MemPlace} (h : DataW.trod enc Tryd.prog W 0 (fun _ => true) true fuel 23 cs = some x) (hB : Rows.uptoBulk x.1 ≤ 1048576) : ∃ A n c l, cs = [.slice A n c] ∧ IsInts W A n l ∧ l.length ≤ Rows.uptoBulk x.1 ∧ ∀ y ∈ l, Deci.fit y := by
  obtain ⟨A, c, n, F, rfl, hn, hnB, hS, hI, hF⟩ := rows_open_w (B := 1048576) (α := Int) (fun d cs => cs = [.int .i64 d] ∧ Deci.fit d) (fun _ => 0) Tryd.underlying23 cs3 (by omega) (fun h hB => (int_w h hB).imp fun _ e => ⟨e, Nat.zero_le _⟩) h hB
  refine ⟨A, n, c, (List.range n).map F, rfl, ⟨by simp, hn, ?_⟩, by simpa using hnB, fun x hx => by
    obtain ⟨k, hk, rfl⟩ := List.mem_map.1 hx
    obtain ⟨_, _, e⟩ := hI k (List.mem_range.1 hk)
    exact e⟩
  rcases hF with rfl | ⟨b, o, rfl, hb, hF⟩
  · exact .inl rfl
  · refine .inr ⟨b, o, rfl, hb, fun k hk => ?_⟩
    have hk2 : k < n := by simpa using hk
    obtain ⟨cs', ⟨rfl, _⟩, hc⟩ := hF k hk2
    rw [range_map_get]
    have := hc 0 _ (by omega) rfl
    rw [Nat.mul_one, Nat.add_zero] at this; exact this
theorem str_w {fuel : Nat} {cs : List Value} {x : DataW H × List MemPlace} (h : DataW.trod enc Tryd.prog W 0 (fun _ => true) true fuel 9 cs = some x) (hB : Rows.uptoBulk x.1 ≤ 1048576) : ∃ z : ByteArray, cs = [.string z] ∧ z.size + 1 ≤ Rows.uptoBulk x.1 := by
  obtain ⟨z, rfl, hx⟩ := DataW.trod_string Tryd.underlying9 h
  refine ⟨z, rfl, ?_⟩
  rw [hx.1, bulks.string_eq, Array.length_toList]
  exact Nat.le_refl _
theorem strs_w {fuel : Nat} {cs : List Value} {x : DataW H × List MemPlace} (h : DataW.trod enc Tryd.prog W 0 (fun _ => true) true fuel 55 cs = some x) (hB : Rows.uptoBulk x.1 ≤ 1048576) : ∃ A n c l, cs = [.slice A n c] ∧ IsStrs W A n l ∧ (l.map fun s => s.size + 1).sum ≤ Rows.uptoBulk x.1 ∧ l.length ≤ Rows.uptoBulk x.1 := by
  obtain ⟨A, c, n, F, rfl, hn, hnB, hS, hI, hF⟩ := rows_open_w (B := 1048576) (α := ByteArray) (fun d cs => cs = [.string d]) (fun d => d.size + 1) Tryd.underlying55 cs9 (by omega) (fun h hB => str_w h hB) h hB
  refine ⟨A, n, c, (List.range n).map F, rfl, ⟨by simp, hn, ?_⟩, by rw [List.map_map]; exact hS, by simpa using hnB⟩
  rcases hF with rfl | ⟨b, o, rfl, hb, hF⟩
  · exact .inl rfl
  · refine .inr ⟨b, o, rfl, hb, fun k hk => ?_⟩
    have hk2 : k < n := by simpa using hk
    obtain ⟨cs', rfl, hc⟩ := hF k hk2
    rw [range_map_get]
    have := hc 0 _ (by omega) rfl
    rw [Nat.mul_one, Nat.add_zero] at this; exact this
theorem ins_w {fuel : Nat} {cs : List Value} {x : DataW H × List MemPlace} (h : DataW.trod enc Tryd.prog W 0 (fun _ => true) true fuel 57 cs = some x) (hB : Rows.uptoBulk x.1 ≤ 1048576) : ∃ d : Ins × InsV, (cs = (insR d.1 d.2).toList ∧ IsIns W d.1 d.2 ∧ InsF d.1) ∧ wI d.1 ≤ Rows.uptoBulk x.1 := by
  obtain ⟨xs, n, _, hx, hl, hlen, hf⟩ := DataW.trod_struct Tryd.underlying57 h
  rw [cs35] at hl
  subst hx
  obtain ⟨c0, c1, c2, c3, c4, c5, c6, c7, c8, c9, rfl⟩ := list_n10 hl
  obtain ⟨x0, x1, x2, x3, x4, x5, x6, rfl⟩ := list_n7 (show xs.length = 7 from hlen)
  simp only [List.map_cons, List.map_nil, Rows.uptoBulk, Rows.uptoBulkAll] at hB ⊢
  have B0 : Rows.uptoBulk x0.1 ≤ 1048576 := by omega
  have B1 : Rows.uptoBulk x1.1 ≤ 1048576 := by omega
  have B2 : Rows.uptoBulk x2.1 ≤ 1048576 := by omega
  have B3 : Rows.uptoBulk x3.1 ≤ 1048576 := by omega
  have B4 : Rows.uptoBulk x4.1 ≤ 1048576 := by omega
  have B5 : Rows.uptoBulk x5.1 ≤ 1048576 := by omega
  have B6 : Rows.uptoBulk x6.1 ≤ 1048576 := by omega
  have g0 : DataW.trod enc Tryd.prog W 0 (fun _ => true) true n 3 (List.take (Tryd.prog.cellsOf 3) (List.drop 0 [c0, c1, c2, c3, c4, c5, c6, c7, c8, c9])) = some x0 := hf 0 _ rfl
  rw [cs3] at g0
  replace g0 : DataW.trod enc Tryd.prog W 0 (fun _ => true) true n 3 [c0] = some x0 := g0
  have g1 : DataW.trod enc Tryd.prog W 0 (fun _ => true) true n 54 (List.take (Tryd.prog.cellsOf 54) (List.drop 1 [c0, c1, c2, c3, c4, c5, c6, c7, c8, c9])) = some x1 := hf 1 _ rfl
  rw [cs31] at g1
  replace g1 : DataW.trod enc Tryd.prog W 0 (fun _ => true) true n 54 [c1, c2, c3, c4] = some x1 := g1
  have g2 : DataW.trod enc Tryd.prog W 0 (fun _ => true) true n 28 (List.take (Tryd.prog.cellsOf 28) (List.drop 5 [c0, c1, c2, c3, c4, c5, c6, c7, c8, c9])) = some x2 := hf 2 _ rfl
  rw [cs23] at g2
  replace g2 : DataW.trod enc Tryd.prog W 0 (fun _ => true) true n 28 [c5] = some x2 := g2
  have g3 : DataW.trod enc Tryd.prog W 0 (fun _ => true) true n 9 (List.take (Tryd.prog.cellsOf 9) (List.drop 6 [c0, c1, c2, c3, c4, c5, c6, c7, c8, c9])) = some x3 := hf 3 _ rfl
  rw [cs9] at g3
  replace g3 : DataW.trod enc Tryd.prog W 0 (fun _ => true) true n 9 [c6] = some x3 := g3
  have g4 : DataW.trod enc Tryd.prog W 0 (fun _ => true) true n 3 (List.take (Tryd.prog.cellsOf 3) (List.drop 7 [c0, c1, c2, c3, c4, c5, c6, c7, c8, c9])) = some x4 := hf 4 _ rfl
  rw [cs3] at g4
  replace g4 : DataW.trod enc Tryd.prog W 0 (fun _ => true) true n 3 [c7] = some x4 := g4
  have g5 : DataW.trod enc Tryd.prog W 0 (fun _ => true) true n 55 (List.take (Tryd.prog.cellsOf 55) (List.drop 8 [c0, c1, c2, c3, c4, c5, c6, c7, c8, c9])) = some x5 := hf 5 _ rfl
  rw [cs32] at g5
  replace g5 : DataW.trod enc Tryd.prog W 0 (fun _ => true) true n 55 [c8] = some x5 := g5
  have g6 : DataW.trod enc Tryd.prog W 0 (fun _ => true) true n 23 (List.take (Tryd.prog.cellsOf 23) (List.drop 9 [c0, c1, c2, c3, c4, c5, c6, c7, c8, c9])) = some x6 := hf 6 _ rfl
  rw [cs33] at g6
  replace g6 : DataW.trod enc Tryd.prog W 0 (fun _ => true) true n 23 [c9] = some x6 := g6
  obtain ⟨z0, e0, _, w0⟩ := DataW.trod_int Tryd.underlying3 g0
  injection e0 with e0
  subst e0
  obtain ⟨d, e1, dF⟩ := opn_w g1 B1
  unfold Opn.cs at e1
  injection e1 with e1 f1
  injection f1 with f1 f2
  injection f2 with f2 f3
  injection f3 with f3
  subst e1 f1 f2 f3
  obtain ⟨pa, pn, pc, pl, e2, ph, pB, pF⟩ := ops_w g2 B2
  injection e2 with e2
  subst e2
  obtain ⟨nm, e3, nmB⟩ := str_w g3 B3
  injection e3 with e3
  subst e3
  obtain ⟨z4, e4, _, w4⟩ := DataW.trod_int Tryd.underlying3 g4
  injection e4 with e4
  subst e4
  obtain ⟨qa, qn, qc, ql, e5, qh, qS, qB⟩ := strs_w g5 B5
  injection e5 with e5
  subst e5
  obtain ⟨ra, rn, rc, rl, e6, rh, rB, rF⟩ := ints_w g6 B6
  injection e6 with e6
  subst e6
  refine ⟨(⟨z0, d, pl, nm, z4, ql, rl⟩, ⟨pa, pn, pc, qa, qn, qc, ra, rn, rc⟩), ⟨rfl, ⟨ph, qh, rh⟩, ⟨dF, pF, wf_fit w4, rF, by show pl.length ≤ _; omega, by show ql.length ≤ _; omega, by show rl.length ≤ _; omega, by show nm.size ≤ _; omega⟩⟩, ?_⟩
  show 1 + nm.size + pl.length + (ql.map fun s => s.size + 1).sum + rl.length ≤ _
  omega
theorem code_w {fuel : Nat} {cs : List Value} {x : DataW H × List MemPlace} (h : DataW.trod enc Tryd.prog W 0 (fun _ => true) true fuel 50 cs = some x) (hB : Rows.uptoBulk x.1 ≤ 1048576) : ∃ A n c R l, cs = [.slice A n c] ∧ IsCode W A n R l ∧ (∀ i ∈ l, InsF i) ∧ (l.map wI).sum ≤ Rows.uptoBulk x.1 := by
  obtain ⟨A, c, n, F, rfl, hn, hnB, hS, hI, hF⟩ := rows_open_w (B := 1048576) (α := Ins × InsV) (fun d cs => cs = (insR d.1 d.2).toList ∧ IsIns W d.1 d.2 ∧ InsF d.1) (fun d => wI d.1) Tryd.underlying50 cs35 (by omega) (fun h hB => ins_w h hB) h hB
  refine ⟨A, n, c, fun k => (F k).2, (List.range n).map fun k => (F k).1, rfl, ⟨by simp, hn, ?_, fun k hk => ?_⟩, fun i hi => ?_, by rw [List.map_map]; exact hS⟩
  · rcases hF with rfl | ⟨b, o, rfl, hb, hF⟩
    · exact .inl rfl
    · refine .inr ⟨b, o, rfl, hb, fun k hk => ?_⟩
      have hk2 : k < n := by simpa using hk
      obtain ⟨cs', ⟨rfl, _⟩, hc⟩ := hF k hk2
      rw [range_map_get]
      exact ⟨hc 0 _ (by omega) rfl, hc 1 _ (by omega) rfl, hc 2 _ (by omega) rfl, hc 3 _ (by omega) rfl, hc 4 _ (by omega) rfl, hc 5 _ (by omega) rfl, hc 6 _ (by omega) rfl, hc 7 _ (by omega) rfl, hc 8 _ (by omega) rfl, hc 9 _ (by omega) rfl⟩
  · have hk2 : k < n := by simpa using hk
    obtain ⟨_, _, h2, _⟩ := hI k hk2
    rw [range_map_get]
    exact h2
  · obtain ⟨k, hk, rfl⟩ := List.mem_map.1 hi
    obtain ⟨_, _, _, h2⟩ := hI k (List.mem_range.1 hk)
    exact h2
theorem blk_w {fuel : Nat} {cs : List Value} {x : DataW H × List MemPlace} (h : DataW.trod enc Tryd.prog W 0 (fun _ => true) true fuel 52 cs = some x) (hB : Rows.uptoBulk x.1 ≤ 1048576) : ∃ d : Blk × BlkV, (cs = (blkR d.1 d.2).toList ∧ IsBlk W d.1 d.2 ∧ BlkF d.1 ∧ d.1.ins.length ≤ 1048576) ∧ wB d.1 ≤ Rows.uptoBulk x.1 := by
  obtain ⟨xs, n, _, hx, hl, hlen, hf⟩ := DataW.trod_struct Tryd.underlying52 h
  rw [cs38] at hl
  subst hx
  obtain ⟨c0, c1, c2, c3, rfl⟩ := list_n4 hl
  obtain ⟨x0, x1, x2, x3, rfl⟩ := list_n4 (show xs.length = 4 from hlen)
  simp only [List.map_cons, List.map_nil, Rows.uptoBulk, Rows.uptoBulkAll] at hB ⊢
  have B0 : Rows.uptoBulk x0.1 ≤ 1048576 := by omega
  have B1 : Rows.uptoBulk x1.1 ≤ 1048576 := by omega
  have B2 : Rows.uptoBulk x2.1 ≤ 1048576 := by omega
  have B3 : Rows.uptoBulk x3.1 ≤ 1048576 := by omega
  have g0 : DataW.trod enc Tryd.prog W 0 (fun _ => true) true n 9 (List.take (Tryd.prog.cellsOf 9) (List.drop 0 [c0, c1, c2, c3])) = some x0 := hf 0 _ rfl
  rw [cs9] at g0
  replace g0 : DataW.trod enc Tryd.prog W 0 (fun _ => true) true n 9 [c0] = some x0 := g0
  have g1 : DataW.trod enc Tryd.prog W 0 (fun _ => true) true n 4 (List.take (Tryd.prog.cellsOf 4) (List.drop 1 [c0, c1, c2, c3])) = some x1 := hf 1 _ rfl
  rw [cs4] at g1
  replace g1 : DataW.trod enc Tryd.prog W 0 (fun _ => true) true n 4 [c1] = some x1 := g1
  have g2 : DataW.trod enc Tryd.prog W 0 (fun _ => true) true n 28 (List.take (Tryd.prog.cellsOf 28) (List.drop 2 [c0, c1, c2, c3])) = some x2 := hf 2 _ rfl
  rw [cs23] at g2
  replace g2 : DataW.trod enc Tryd.prog W 0 (fun _ => true) true n 28 [c2] = some x2 := g2
  have g3 : DataW.trod enc Tryd.prog W 0 (fun _ => true) true n 50 (List.take (Tryd.prog.cellsOf 50) (List.drop 3 [c0, c1, c2, c3])) = some x3 := hf 3 _ rfl
  rw [cs36] at g3
  replace g3 : DataW.trod enc Tryd.prog W 0 (fun _ => true) true n 50 [c3] = some x3 := g3
  obtain ⟨lab, e0, labB⟩ := str_w g0 B0
  injection e0 with e0
  subst e0
  obtain ⟨edge, e1, _⟩ := DataW.trod_bool Tryd.underlying4 g1
  injection e1 with e1
  subst e1
  obtain ⟨pa, pn, pc, pl, e2, ph, pB, pF⟩ := ops_w g2 B2
  injection e2 with e2
  subst e2
  obtain ⟨qa, qn, qc, qR, ql, e3, qh, qF, qS⟩ := code_w g3 B3
  injection e3 with e3
  subst e3
  refine ⟨(⟨lab, edge, pl, ql⟩, ⟨pa, pn, pc, qa, qn, qc, qR⟩), ⟨rfl, ⟨ph, qh⟩, ⟨pF, qF⟩, by show pl.length ≤ _; omega⟩, ?_⟩
  show 1 + lab.size + pl.length + (ql.map wI).sum ≤ _
  omega
theorem blks_w {fuel : Nat} {cs : List Value} {x : DataW H × List MemPlace} (h : DataW.trod enc Tryd.prog W 0 (fun _ => true) true fuel 29 cs = some x) (hB : Rows.uptoBulk x.1 ≤ 1048576) : ∃ A n c R l, cs = [.slice A n c] ∧ IsBlks W A n R l ∧ (∀ i ∈ l, BlkF i ∧ i.ins.length ≤ 1048576) ∧ (l.map wB).sum ≤ Rows.uptoBulk x.1 := by
  obtain ⟨A, c, n, F, rfl, hn, hnB, hS, hI, hF⟩ := rows_open_w (B := 1048576) (α := Blk × BlkV) (fun d cs => cs = (blkR d.1 d.2).toList ∧ IsBlk W d.1 d.2 ∧ BlkF d.1 ∧ d.1.ins.length ≤ 1048576) (fun d => wB d.1) Tryd.underlying29 cs38 (by omega) (fun h hB => blk_w h hB) h hB
  refine ⟨A, n, c, fun k => (F k).2, (List.range n).map fun k => (F k).1, rfl, ⟨by simp, hn, ?_, fun k hk => ?_⟩, fun i hi => ?_, by rw [List.map_map]; exact hS⟩
  · rcases hF with rfl | ⟨b, o, rfl, hb, hF⟩
    · exact .inl rfl
    · refine .inr ⟨b, o, rfl, hb, fun k hk => ?_⟩
      have hk2 : k < n := by simpa using hk
      obtain ⟨cs', ⟨rfl, _⟩, hc⟩ := hF k hk2
      rw [range_map_get]
      exact ⟨hc 0 _ (by omega) rfl, hc 1 _ (by omega) rfl, hc 2 _ (by omega) rfl, hc 3 _ (by omega) rfl⟩
  · have hk2 : k < n := by simpa using hk
    obtain ⟨_, _, h2, _⟩ := hI k hk2
    rw [range_map_get]
    exact h2
  · obtain ⟨k, hk, rfl⟩ := List.mem_map.1 hi
    obtain ⟨_, _, _, h2⟩ := hI k (List.mem_range.1 hk)
    exact h2
theorem fun_w {fuel : Nat} {cs : List Value} {x : DataW H × List MemPlace} (h : DataW.trod enc Tryd.prog W 0 (fun _ => true) true fuel 31 cs = some x) (hB : Rows.uptoBulk x.1 ≤ 1048576) : ∃ d : Fun × FunV, (cs = (funR d.1 d.2).toList ∧ IsFun W d.1 d.2 ∧ FunG d.1) ∧ wF d.1 ≤ Rows.uptoBulk x.1 := by
  obtain ⟨xs, n, _, hx, hl, hlen, hf⟩ := DataW.trod_struct Tryd.underlying31 h
  rw [cs26] at hl
  subst hx
  obtain ⟨c0, c1, c2, c3, c4, rfl⟩ := list_n5 hl
  obtain ⟨x0, x1, x2, x3, x4, rfl⟩ := list_n5 (show xs.length = 5 from hlen)
  simp only [List.map_cons, List.map_nil, Rows.uptoBulk, Rows.uptoBulkAll] at hB ⊢
  have B0 : Rows.uptoBulk x0.1 ≤ 1048576 := by omega
  have B1 : Rows.uptoBulk x1.1 ≤ 1048576 := by omega
  have B2 : Rows.uptoBulk x2.1 ≤ 1048576 := by omega
  have B3 : Rows.uptoBulk x3.1 ≤ 1048576 := by omega
  have B4 : Rows.uptoBulk x4.1 ≤ 1048576 := by omega
  have g0 : DataW.trod enc Tryd.prog W 0 (fun _ => true) true n 4 (List.take (Tryd.prog.cellsOf 4) (List.drop 0 [c0, c1, c2, c3, c4])) = some x0 := hf 0 _ rfl
  rw [cs4] at g0
  replace g0 : DataW.trod enc Tryd.prog W 0 (fun _ => true) true n 4 [c0] = some x0 := g0
  have g1 : DataW.trod enc Tryd.prog W 0 (fun _ => true) true n 9 (List.take (Tryd.prog.cellsOf 9) (List.drop 1 [c0, c1, c2, c3, c4])) = some x1 := hf 1 _ rfl
  rw [cs9] at g1
  replace g1 : DataW.trod enc Tryd.prog W 0 (fun _ => true) true n 9 [c1] = some x1 := g1
  have g2 : DataW.trod enc Tryd.prog W 0 (fun _ => true) true n 27 (List.take (Tryd.prog.cellsOf 27) (List.drop 2 [c0, c1, c2, c3, c4])) = some x2 := hf 2 _ rfl
  rw [cs22] at g2
  replace g2 : DataW.trod enc Tryd.prog W 0 (fun _ => true) true n 27 [c2] = some x2 := g2
  have g3 : DataW.trod enc Tryd.prog W 0 (fun _ => true) true n 28 (List.take (Tryd.prog.cellsOf 28) (List.drop 3 [c0, c1, c2, c3, c4])) = some x3 := hf 3 _ rfl
  rw [cs23] at g3
  replace g3 : DataW.trod enc Tryd.prog W 0 (fun _ => true) true n 28 [c3] = some x3 := g3
  have g4 : DataW.trod enc Tryd.prog W 0 (fun _ => true) true n 29 (List.take (Tryd.prog.cellsOf 29) (List.drop 4 [c0, c1, c2, c3, c4])) = some x4 := hf 4 _ rfl
  rw [cs24] at g4
  replace g4 : DataW.trod enc Tryd.prog W 0 (fun _ => true) true n 29 [c4] = some x4 := g4
  obtain ⟨mac, e0, _⟩ := DataW.trod_bool Tryd.underlying4 g0
  injection e0 with e0
  subst e0
  obtain ⟨nm, e1, nmB⟩ := str_w g1 B1
  injection e1 with e1
  subst e1
  obtain ⟨pa, pn, pc, pl, e2, ph, pB, pF⟩ := regs_w g2 B2
  injection e2 with e2
  subst e2
  obtain ⟨qa, qn, qc, ql, e3, qh, qB, qF⟩ := ops_w g3 B3
  injection e3 with e3
  subst e3
  obtain ⟨ra, rn, rc, rR, rl, e4, rh, rF, rS⟩ := blks_w g4 B4
  injection e4 with e4
  subst e4
  refine ⟨(⟨mac, nm, pl, ql, rl⟩, ⟨pa, pn, pc, qa, qn, qc, ra, rn, rc, rR⟩), ⟨rfl, ⟨ph, qh, rh⟩, ⟨⟨pF, qF, fun b hb => (rF b hb).1⟩, by show ql.length ≤ _; omega, fun b hb => (rF b hb).2⟩⟩, ?_⟩
  show 1 + nm.size + pl.length + ql.length + (rl.map wB).sum ≤ _
  omega
theorem open_fun {base : Nat} {v : Value} {d : DataW H} {p : List MemPlace} (hv : Value.okWide Tryd.prog W .any base 31 v) (h : DataW.Trod enc Tryd.prog W 0 (fun _ => true) true 31 v d p) (hB : Rows.uptoBulk d ≤ 1048576) : ∃ (i : Fun) (r : FunV), v = .agg (funR i r) ∧ IsFun W i r ∧ FunG i ∧ wF i ≤ 1048576 := by
  obtain ⟨cs, rfl, hsz, _⟩ : ∃ cs, v = .agg cs ∧ cs.size = Tryd.prog.cellsOf 31 ∧ Row.okWide Tryd.prog W .any base 31 cs := by
    simpa [Value.okWide, Tryd.underlying31] using hv
  obtain ⟨fuel, hf⟩ := h
  obtain ⟨d, ⟨hd, hu1, hu2⟩, hu3⟩ := fun_w hf hB
  have hd' : cs.toList = (funR d.1 d.2).toList := by simpa [Value.cells] using hd
  refine ⟨d.1, d.2, ?_, hu1, hu2, Nat.le_trans hu3 hB⟩
  congr 1
  exact Array.ext' hd'
theorem open_ins {base : Nat} {v : Value} {d : DataW H} {p : List MemPlace} (hv : Value.okWide Tryd.prog W .any base 57 v) (h : DataW.Trod enc Tryd.prog W 0 (fun _ => true) true 57 v d p) (hB : Rows.uptoBulk d ≤ 1048576) : ∃ (i : Ins) (r : InsV), v = .agg (insR i r) ∧ IsIns W i r ∧ InsF i ∧ wI i ≤ 1048576 := by
  obtain ⟨cs, rfl, hsz, _⟩ : ∃ cs, v = .agg cs ∧ cs.size = Tryd.prog.cellsOf 57 ∧ Row.okWide Tryd.prog W .any base 57 cs := by
    simpa [Value.okWide, Tryd.underlying57] using hv
  obtain ⟨fuel, hf⟩ := h
  obtain ⟨d, ⟨hd, hu1, hu2⟩, hu3⟩ := ins_w hf hB
  have hd' : cs.toList = (insR d.1 d.2).toList := by simpa [Value.cells] using hd
  refine ⟨d.1, d.2, ?_, hu1, hu2, Nat.le_trans hu3 hB⟩
  congr 1
  exact Array.ext' hd'
theorem open_opn {base : Nat} {v : Value} {d : DataW H} {p : List MemPlace} (hv : Value.okWide Tryd.prog W .any base 54 v) (h : DataW.Trod enc Tryd.prog W 0 (fun _ => true) true 54 v d p) (hB : Rows.uptoBulk d ≤ 1048576) : ∃ x : Opn, v = .agg #[.int .i64 x.k, .int .i64 x.c, .int .i64 x.n, .int .i64 x.t] ∧ OpF x := by
  obtain ⟨cs, rfl, hsz, _⟩ : ∃ cs, v = .agg cs ∧ cs.size = Tryd.prog.cellsOf 54 ∧ Row.okWide Tryd.prog W .any base 54 cs := by
    simpa [Value.okWide, Tryd.underlying54] using hv
  obtain ⟨fuel, hf⟩ := h
  obtain ⟨d, hd, hu⟩ := opn_w hf hB
  have hd' : cs.toList = d.cs := by simpa [Value.cells] using hd
  refine ⟨d, ?_, hu⟩
  congr 1
  exact Array.ext' hd'
end
end Go.Proofs.YtakfoncdiejhaaaDoor
