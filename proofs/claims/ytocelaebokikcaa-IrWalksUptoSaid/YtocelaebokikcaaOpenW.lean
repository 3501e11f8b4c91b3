/- How a function comes in: with the bounds, the sums of its lengths, and its operands' numbers being of 64 bits. -/
import Derived.Test.YtocelaebokikcaaOpenB
import Derived.Test.YtocelaebokikcaaOpdM
import Derived.Test.YtocelaebokikcaaUses
import Derived.Test.YtocelaebokikcaaCalls
import Derived.Test.YtocelaebokikcaaCount
namespace Go.Proofs.Ytocelaebokikcaa
open Go.ChangeShapes Go.WideShapes Go.RowKit
set_option linter.unusedVariables false
set_option maxRecDepth 20000

theorem sum_bulk {H : Type} (L : List Nat) (g : Nat → Nat) (D : Nat → DataW H) (h : ∀ k ∈ L, g k ≤ Rows.uptoBulk (D k)) : (L.map g).sum ≤ Rows.uptoBulkAll (L.map D) := by
  induction L with
  | nil => simp [Rows.uptoBulkAll]
  | cons a L ih =>
    have h1 := h a (by simp)
    have h2 := ih fun k hk => h k (by simp [hk])
    simp only [List.map_cons, List.sum_cons, Rows.uptoBulkAll]
    omega
theorem codeSum_le (l : List Blk) : codeSum l ≤ (l.flatMap blkOps).length := by
  unfold codeSum
  rw [List.length_flatMap]
  induction l with
  | nil => simp
  | cons a l ih =>
    have h1 : a.code.length ≤ (blkOps a).length := by
      have h2 : ∀ c : List Ins, c.length ≤ (c.flatMap insOps).length := by
        intro c
        induction c with
        | nil => simp
        | cons i c ih =>
          have e : (insOps i).length = i.args.length + 1 := List.length_cons
          rw [List.flatMap_cons, List.length_append, List.length_cons, e]; omega
      unfold blkOps
      rw [List.length_append]
      exact Nat.le_trans (h2 a.code) (Nat.le_add_left _ _)
    simp only [List.map_cons, List.sum_cons]
    omega
theorem codeSum_fun (f : Fun) : codeSum f.blocks ≤ (funOps f).length := by
  unfold funOps
  rw [List.length_append]
  exact Nat.le_trans (codeSum_le _) (Nat.le_add_left _ _)
theorem callNames_len (l : List Ins) : (callNames l).length ≤ l.length := by
  induction l with
  | nil => exact Nat.le_refl _
  | cons i l ih =>
    unfold callNames at ih ⊢
    rw [List.flatMap_cons, List.length_append, List.length_cons]
    by_cases h : i.op = 19
    · rw [if_pos h]; simp only [List.length_cons, List.length_nil]; omega
    · rw [if_neg h]; simp only [List.length_nil]; omega
theorem blkNames_len (l : List Blk) : (blkNames l).length ≤ codeSum l := by
  induction l with
  | nil => exact Nat.le_refl _
  | cons b l ih =>
    have := callNames_len b.code
    unfold blkNames codeSum at ih ⊢
    rw [List.flatMap_cons, List.length_append, List.map_cons, List.sum_cons]
    omega
section
variable {H : Type} {enc : TypeId × Value → H} {W : World} {B : Nat}
theorem rows_open_w {t e : TypeId} {sz : Nat} {α : Type} [Inhabited α] (R : α → List Value → Prop) (wt : α → Nat) (ht : Try.prog.underlying t = some (.slice e)) (hc : Try.prog.cellsOf e = sz) (h0 : 0 < sz)
    (hel : ∀ {fuel : Nat} {cs : List Value} {x : DataW H × List MemPlace}, DataW.trod enc Try.prog W 0 (fun _ => true) true fuel e cs = some x → Rows.uptoBulk x.1 ≤ B → ∃ d : α, R d cs ∧ wt d ≤ Rows.uptoBulk x.1)
    {fuel : Nat} {cs : List Value} {x : DataW H × List MemPlace} (h : DataW.trod enc Try.prog W 0 (fun _ => true) true fuel t cs = some x) (hB : Rows.uptoBulk x.1 ≤ B) :
    ∃ (A : Option Addr) (c n : Nat) (F : Nat → α), cs = [.slice A n c] ∧ n ≤ 9223372036854775807 ∧ n ≤ Rows.uptoBulk x.1 ∧ ((List.range n).map fun k => wt (F k)).sum ≤ Rows.uptoBulk x.1 ∧ (∀ k, k < n → ∃ cs', R (F k) cs') ∧ (n = 0 ∨ ∃ b o, A = some ⟨b, o, none⟩ ∧ b < W.heap.size ∧
      ∀ k, k < n → ∃ cs', R (F k) cs' ∧ ∀ j u, j < sz → cs'[j]? = some u → W.cell? ⟨b, o + k * sz + j, none⟩ = some u) := by
  rcases Deep.open_slice ht h with ⟨hcs, _⟩ | ⟨x1, l, c, m, n, D, Pl, hcs, _, hl, hm, hmm, hx, hel2⟩
  · exact ⟨none, 0, 0, fun _ => default, hcs, by omega, by omega, by simp, fun k hk => by omega, .inl rfl⟩
  · simp only [if_true] at hmm
    subst hmm
    rw [hc] at hel2
    subst hx
    have hlB : l ≤ Rows.uptoBulk (DataW.slice ((List.range l).map D) ((List.range (m - l)).map fun j => D (l + j))) := by
      have := bulks.slice_le ((List.range l).map D) ((List.range (m - l)).map fun j => D (l + j))
      simp only [List.length_map, List.length_range] at this
      omega
    have hDB : ∀ i, i < l → Rows.uptoBulk (D i) ≤ B := fun i hi => by
      have h1 := bulks.slice_elems ((List.range l).map D) ((List.range (m - l)).map fun j => D (l + j))
      have h2 : Rows.uptoBulk (D i) ≤ Rows.uptoBulkAll ((List.range l).map D) := bulks.part_le (List.mem_map.2 ⟨i, List.mem_range.2 hi, rfl⟩)
      simp only at hB
      omega
    obtain ⟨F, hF⟩ := Deep.choose_lt (α := α) (n := l) (p := fun i d => ∃ cs', W.cells? 0 (x1.add (i * sz)) sz = some cs' ∧ R d cs' ∧ wt d ≤ Rows.uptoBulk (D i)) (fun i hi => by
      obtain ⟨cs', h1, h2⟩ := hel2 i (by omega)
      obtain ⟨d, h3⟩ := hel h2 (hDB i hi)
      exact ⟨d, cs', h1, h3⟩)
    have hsum : ((List.range l).map fun k => wt (F k)).sum ≤ Rows.uptoBulkAll ((List.range l).map D) := sum_bulk _ _ _ fun k hk => by
      obtain ⟨_, _, _, h⟩ := hF k (List.mem_range.1 hk); exact h
    have hel3 := bulks.slice_elems ((List.range l).map D) ((List.range (m - l)).map fun j => D (l + j))
    refine ⟨some x1, m, l, F, hcs, by have : maxLen = 9223372036854775807 := rfl; omega, hlB, Nat.le_trans hsum (Nat.le_trans (Nat.le_add_right _ 1) hel3), fun k hk => (hF k hk).imp fun _ h => h.2.1, ?_⟩
    by_cases hl0 : l = 0
    · exact .inl hl0
    · obtain ⟨b, o, spot⟩ := x1
      have hspot : spot = none ∧ b < W.heap.size := by
        obtain ⟨cs', h1, _⟩ := hF 0 (by omega)
        obtain ⟨_, hlen, hcell⟩ := World.cells?_some h1
        have hc0 := hcell 0 (by omega)
        rw [List.getElem?_eq_getElem (by omega)] at hc0
        constructor
        · simpa [Addr.add] using World.cell?_spot hc0
        · simpa [Addr.add] using spot_lt hc0
      obtain ⟨rfl, hb⟩ := hspot
      refine .inr ⟨b, o, rfl, hb, fun k hk => ?_⟩
      obtain ⟨cs', h1, h2, _⟩ := hF k hk
      obtain ⟨_, hlen, hcell⟩ := World.cells?_some h1
      refine ⟨cs', h2, fun j u hj hu => ?_⟩
      have := hcell j (by omega)
      rw [add_at, add_at] at this
      rw [this]
      exact hu
theorem opn_w {fuel : Nat} {cs : List Value} {x : DataW H × List MemPlace} (h : DataW.trod enc Try.prog W 0 (fun _ => true) true fuel 44 cs = some x) :
    ∃ d : Opn, cs = d.cs ∧ (Lit.int .i64 d.n).wf = true ∧ (Lit.int .i64 d.t).wf = true := by
  obtain ⟨xs, n, _, _, hl, hlen, hf⟩ := DataW.trod_struct Try.underlying44 h
  rw [cs44] at hl
  obtain ⟨c0, c1, c2, c3, rfl⟩ := list_n4 hl
  obtain ⟨x0, x1, x2, x3, rfl⟩ := list_n4 (show xs.length = 4 from hlen)
  have g0 : DataW.trod enc Try.prog W 0 (fun _ => true) true n 3 (List.take (Try.prog.cellsOf 3) (List.drop 0 [c0, c1, c2, c3])) = some x0 := hf 0 _ rfl
  rw [cs3] at g0
  replace g0 : DataW.trod enc Try.prog W 0 (fun _ => true) true n 3 [c0] = some x0 := g0
  have g1 : DataW.trod enc Try.prog W 0 (fun _ => true) true n 3 (List.take (Try.prog.cellsOf 3) (List.drop 1 [c0, c1, c2, c3])) = some x1 := hf 1 _ rfl
  rw [cs3] at g1
  replace g1 : DataW.trod enc Try.prog W 0 (fun _ => true) true n 3 [c1] = some x1 := g1
  have g2 : DataW.trod enc Try.prog W 0 (fun _ => true) true n 3 (List.take (Try.prog.cellsOf 3) (List.drop 2 [c0, c1, c2, c3])) = some x2 := hf 2 _ rfl
  rw [cs3] at g2
  replace g2 : DataW.trod enc Try.prog W 0 (fun _ => true) true n 3 [c2] = some x2 := g2
  have g3 : DataW.trod enc Try.prog W 0 (fun _ => true) true n 3 (List.take (Try.prog.cellsOf 3) (List.drop 3 [c0, c1, c2, c3])) = some x3 := hf 3 _ rfl
  rw [cs3] at g3
  replace g3 : DataW.trod enc Try.prog W 0 (fun _ => true) true n 3 [c3] = some x3 := g3
  obtain ⟨z0, e0, _, w0⟩ := DataW.trod_int Try.underlying3 g0
  injection e0 with e0
  subst e0
  obtain ⟨z1, e1, _, w1⟩ := DataW.trod_int Try.underlying3 g1
  injection e1 with e1
  subst e1
  obtain ⟨z2, e2, _, w2⟩ := DataW.trod_int Try.underlying3 g2
  injection e2 with e2
  subst e2
  obtain ⟨z3, e3, _, w3⟩ := DataW.trod_int Try.underlying3 g3
  injection e3 with e3
  subst e3
  exact ⟨⟨z0, z1, z2, z3⟩, rfl, w2, w3⟩
theorem ops_w {fuel : Nat} {cs : List Value} {x : DataW H × List MemPlace} (h : DataW.trod enc Try.prog W 0 (fun _ => true) true fuel 28 cs = some x) (hB : Rows.uptoBulk x.1 ≤ B) : ∃ A n c l, cs = [.slice A n c] ∧ IsOps W A n l ∧ l.length ≤ Rows.uptoBulk x.1 ∧ Wf l := by
  obtain ⟨A, c, n, F, rfl, hn, hnB, hS, hI, hF⟩ := rows_open_w (B := B) (α := Opn) (fun d cs => cs = d.cs ∧ (Lit.int .i64 d.n).wf = true ∧ (Lit.int .i64 d.t).wf = true) (fun _ => 0) Try.underlying28 cs44 (by omega) (fun h hB => (opn_w h).imp fun _ e => ⟨e, Nat.zero_le _⟩) h hB
  refine ⟨A, n, c, (List.range n).map F, rfl, ⟨by simp, hn, ?_⟩, by simpa using hnB, fun x hx => by
    obtain ⟨k, hk, rfl⟩ := List.mem_map.1 hx
    obtain ⟨_, _, e⟩ := hI k (List.mem_range.1 hk)
    exact e⟩
  · rcases hF with rfl | ⟨b, o, rfl, hb, hF⟩
    · exact .inl rfl
    · refine .inr ⟨b, o, rfl, hb, fun k hk => ?_⟩
      have hk2 : k < n := by simpa using hk
      obtain ⟨cs', ⟨rfl, _⟩, hc⟩ := hF k hk2
      rw [range_map_get]
      exact ⟨hc 0 _ (by omega) rfl, hc 1 _ (by omega) rfl, hc 2 _ (by omega) rfl, hc 3 _ (by omega) rfl⟩
theorem ins_w {fuel : Nat} {cs : List Value} {x : DataW H × List MemPlace} (h : DataW.trod enc Try.prog W 0 (fun _ => true) true fuel 51 cs = some x) (hB : Rows.uptoBulk x.1 ≤ B) :
    ∃ d : Ins × InsV, cs = (insR d.1 d.2).toList ∧ IsIns W d.1 d.2 ∧ InsB B d.1 ∧ Wf d.1.args ∧ (insOps d.1).length ≤ Rows.uptoBulk x.1 := by
  obtain ⟨xs, n, _, hx, hl, hlen, hf⟩ := DataW.trod_struct Try.underlying51 h
  rw [cs51] at hl
  subst hx
  obtain ⟨c0, c1, c2, c3, c4, c5, c6, c7, c8, c9, rfl⟩ := list_n10 hl
  obtain ⟨x0, x1, x2, x3, x4, x5, x6, rfl⟩ := list_n7 (show xs.length = 7 from hlen)
  simp only [List.map_cons, List.map_nil, Rows.uptoBulk, Rows.uptoBulkAll] at hB ⊢
  have B0 : Rows.uptoBulk x0.1 ≤ B := by omega
  have B1 : Rows.uptoBulk x1.1 ≤ B := by omega
  have B2 : Rows.uptoBulk x2.1 ≤ B := by omega
  have B3 : Rows.uptoBulk x3.1 ≤ B := by omega
  have B4 : Rows.uptoBulk x4.1 ≤ B := by omega
  have B5 : Rows.uptoBulk x5.1 ≤ B := by omega
  have B6 : Rows.uptoBulk x6.1 ≤ B := by omega
  have g0 : DataW.trod enc Try.prog W 0 (fun _ => true) true n 3 (List.take (Try.prog.cellsOf 3) (List.drop 0 [c0, c1, c2, c3, c4, c5, c6, c7, c8, c9])) = some x0 := hf 0 _ rfl
  rw [cs3] at g0
  replace g0 : DataW.trod enc Try.prog W 0 (fun _ => true) true n 3 [c0] = some x0 := g0
  have g1 : DataW.trod enc Try.prog W 0 (fun _ => true) true n 44 (List.take (Try.prog.cellsOf 44) (List.drop 1 [c0, c1, c2, c3, c4, c5, c6, c7, c8, c9])) = some x1 := hf 1 _ rfl
  rw [cs44] at g1
  replace g1 : DataW.trod enc Try.prog W 0 (fun _ => true) true n 44 [c1, c2, c3, c4] = some x1 := g1
  have g2 : DataW.trod enc Try.prog W 0 (fun _ => true) true n 28 (List.take (Try.prog.cellsOf 28) (List.drop 5 [c0, c1, c2, c3, c4, c5, c6, c7, c8, c9])) = some x2 := hf 2 _ rfl
  rw [cs28] at g2
  replace g2 : DataW.trod enc Try.prog W 0 (fun _ => true) true n 28 [c5] = some x2 := g2
  have g3 : DataW.trod enc Try.prog W 0 (fun _ => true) true n 9 (List.take (Try.prog.cellsOf 9) (List.drop 6 [c0, c1, c2, c3, c4, c5, c6, c7, c8, c9])) = some x3 := hf 3 _ rfl
  rw [cs9] at g3
  replace g3 : DataW.trod enc Try.prog W 0 (fun _ => true) true n 9 [c6] = some x3 := g3
  have g4 : DataW.trod enc Try.prog W 0 (fun _ => true) true n 3 (List.take (Try.prog.cellsOf 3) (List.drop 7 [c0, c1, c2, c3, c4, c5, c6, c7, c8, c9])) = some x4 := hf 4 _ rfl
  rw [cs3] at g4
  replace g4 : DataW.trod enc Try.prog W 0 (fun _ => true) true n 3 [c7] = some x4 := g4
  have g5 : DataW.trod enc Try.prog W 0 (fun _ => true) true n 49 (List.take (Try.prog.cellsOf 49) (List.drop 8 [c0, c1, c2, c3, c4, c5, c6, c7, c8, c9])) = some x5 := hf 5 _ rfl
  rw [cs49] at g5
  replace g5 : DataW.trod enc Try.prog W 0 (fun _ => true) true n 49 [c8] = some x5 := g5
  have g6 : DataW.trod enc Try.prog W 0 (fun _ => true) true n 23 (List.take (Try.prog.cellsOf 23) (List.drop 9 [c0, c1, c2, c3, c4, c5, c6, c7, c8, c9])) = some x6 := hf 6 _ rfl
  rw [cs23] at g6
  replace g6 : DataW.trod enc Try.prog W 0 (fun _ => true) true n 23 [c9] = some x6 := g6
  obtain ⟨z0, e0, _, _⟩ := DataW.trod_int Try.underlying3 g0
  injection e0 with e0
  subst e0
  obtain ⟨d, e1⟩ := opn_of g1
  unfold Opn.cs at e1
  injection e1 with e1 f1
  injection f1 with f1 f2
  injection f2 with f2 f3
  injection f3 with f3
  subst e1 f1 f2 f3
  obtain ⟨pa, pn, pc, pl, e2, ph, pB, pW⟩ := ops_w g2 B2
  injection e2 with e2
  subst e2
  obtain ⟨nm, e3, nmB⟩ := str_b g3 B3
  injection e3 with e3
  subst e3
  obtain ⟨z4, e4, _, _⟩ := DataW.trod_int Try.underlying3 g4
  injection e4 with e4
  subst e4
  obtain ⟨qa, qn, qc, ql, e5, qh, qB⟩ := strs_b g5 B5
  injection e5 with e5
  subst e5
  obtain ⟨ra, rn, rc, rl, e6, rh, rB⟩ := ints_b g6 B6
  injection e6 with e6
  subst e6
  exact ⟨(⟨z0, d, pl, nm, z4, ql, rl⟩, ⟨pa, pn, pc, qa, qn, qc, ra, rn, rc⟩), rfl, ⟨ph, qh, rh⟩, ⟨nmB, Nat.le_trans pB B2, qB.1, qB.2, rB⟩, pW, by
    show (_ :: pl).length ≤ _
    rw [List.length_cons]
    have := bulks.one_le x1.1
    omega⟩
theorem code_w {fuel : Nat} {cs : List Value} {x : DataW H × List MemPlace} (h : DataW.trod enc Try.prog W 0 (fun _ => true) true fuel 46 cs = some x) (hB : Rows.uptoBulk x.1 ≤ B) : ∃ A n c R l, cs = [.slice A n c] ∧ IsCode W A n R l ∧ l.length ≤ B ∧ (∀ i ∈ l, InsB B i) ∧ (∀ i ∈ l, Wf i.args) ∧ (l.map fun i => (insOps i).length).sum ≤ Rows.uptoBulk x.1 ∧ l.length ≤ Rows.uptoBulk x.1 := by
  obtain ⟨A, c, n, F, rfl, hn, hnB, hS, hI, hF⟩ := rows_open_w (B := B) (α := Ins × InsV) (fun d cs => cs = (insR d.1 d.2).toList ∧ IsIns W d.1 d.2 ∧ InsB B d.1 ∧ Wf d.1.args) (fun d => (insOps d.1).length) Try.underlying46 cs51 (by omega) (fun h hB => (ins_w h hB).imp fun _ e => ⟨⟨e.1, e.2.1, e.2.2.1, e.2.2.2.1⟩, e.2.2.2.2⟩) h hB
  refine ⟨A, n, c, fun k => (F k).2, (List.range n).map fun k => (F k).1, rfl, ⟨by simp, hn, ?_, fun k hk => ?_⟩, by simpa using Nat.le_trans hnB hB, fun i hi => ?_, fun i hi => ?_, by rw [List.map_map]; exact hS, by simpa using hnB⟩
  · rcases hF with rfl | ⟨b, o, rfl, hb, hF⟩
    · exact .inl rfl
    · refine .inr ⟨b, o, rfl, hb, fun k hk => ?_⟩
      have hk2 : k < n := by simpa using hk
      obtain ⟨cs', ⟨rfl, _⟩, hc⟩ := hF k hk2
      rw [range_map_get]
      exact ⟨hc 0 _ (by omega) rfl, hc 1 _ (by omega) rfl, hc 2 _ (by omega) rfl, hc 3 _ (by omega) rfl, hc 4 _ (by omega) rfl, hc 5 _ (by omega) rfl, hc 6 _ (by omega) rfl, hc 7 _ (by omega) rfl, hc 8 _ (by omega) rfl, hc 9 _ (by omega) rfl⟩
  · have hk2 : k < n := by simpa using hk
    obtain ⟨_, _, h2, _⟩ := hI k hk2
    rw [range_map_get]
    exact h2
  · obtain ⟨k, hk, rfl⟩ := List.mem_map.1 hi
    obtain ⟨_, _, _, h2, _⟩ := hI k (List.mem_range.1 hk)
    exact h2
  · obtain ⟨k, hk, rfl⟩ := List.mem_map.1 hi
    obtain ⟨_, _, _, _, h2⟩ := hI k (List.mem_range.1 hk)
    exact h2
theorem blk_w {fuel : Nat} {cs : List Value} {x : DataW H × List MemPlace} (h : DataW.trod enc Try.prog W 0 (fun _ => true) true fuel 48 cs = some x) (hB : Rows.uptoBulk x.1 ≤ B) :
    ∃ d : Blk × BlkV, cs = (blkR d.1 d.2).toList ∧ IsBlk W d.1 d.2 ∧ BlkB B d.1 ∧ (∀ i ∈ d.1.code, Wf i.args) ∧ (blkOps d.1).length ≤ Rows.uptoBulk x.1 ∧ d.1.code.length ≤ Rows.uptoBulk x.1 := by
  obtain ⟨xs, n, _, hx, hl, hlen, hf⟩ := DataW.trod_struct Try.underlying48 h
  rw [cs48] at hl
  subst hx
  obtain ⟨c0, c1, c2, c3, rfl⟩ := list_n4 hl
  obtain ⟨x0, x1, x2, x3, rfl⟩ := list_n4 (show xs.length = 4 from hlen)
  simp only [List.map_cons, List.map_nil, Rows.uptoBulk, Rows.uptoBulkAll] at hB ⊢
  have B0 : Rows.uptoBulk x0.1 ≤ B := by omega
  have B1 : Rows.uptoBulk x1.1 ≤ B := by omega
  have B2 : Rows.uptoBulk x2.1 ≤ B := by omega
  have B3 : Rows.uptoBulk x3.1 ≤ B := by omega
  have g0 : DataW.trod enc Try.prog W 0 (fun _ => true) true n 9 (List.take (Try.prog.cellsOf 9) (List.drop 0 [c0, c1, c2, c3])) = some x0 := hf 0 _ rfl
  rw [cs9] at g0
  replace g0 : DataW.trod enc Try.prog W 0 (fun _ => true) true n 9 [c0] = some x0 := g0
  have g1 : DataW.trod enc Try.prog W 0 (fun _ => true) true n 4 (List.take (Try.prog.cellsOf 4) (List.drop 1 [c0, c1, c2, c3])) = some x1 := hf 1 _ rfl
  rw [cs4] at g1
  replace g1 : DataW.trod enc Try.prog W 0 (fun _ => true) true n 4 [c1] = some x1 := g1
  have g2 : DataW.trod enc Try.prog W 0 (fun _ => true) true n 28 (List.take (Try.prog.cellsOf 28) (List.drop 2 [c0, c1, c2, c3])) = some x2 := hf 2 _ rfl
  rw [cs28] at g2
  replace g2 : DataW.trod enc Try.prog W 0 (fun _ => true) true n 28 [c2] = some x2 := g2
  have g3 : DataW.trod enc Try.prog W 0 (fun _ => true) true n 46 (List.take (Try.prog.cellsOf 46) (List.drop 3 [c0, c1, c2, c3])) = some x3 := hf 3 _ rfl
  rw [cs46] at g3
  replace g3 : DataW.trod enc Try.prog W 0 (fun _ => true) true n 46 [c3] = some x3 := g3
  obtain ⟨lab, e0, labB⟩ := str_b g0 B0
  injection e0 with e0
  subst e0
  obtain ⟨edge, e1, _⟩ := DataW.trod_bool Try.underlying4 g1
  injection e1 with e1
  subst e1
  obtain ⟨pa, pn, pc, pl, e2, ph, pB, pW⟩ := ops_w g2 B2
  injection e2 with e2
  subst e2
  obtain ⟨qa, qn, qc, qR, ql, e3, qh, qB, qE, qW, qS, qL⟩ := code_w g3 B3
  injection e3 with e3
  subst e3
  exact ⟨(⟨lab, edge, pl, ql⟩, ⟨pa, pn, pc, qa, qn, qc, qR⟩), rfl, ⟨ph, qh⟩, ⟨labB, Nat.le_trans pB B2, qB, qE⟩, qW, by
    show (pl ++ ql.flatMap insOps).length ≤ _
    rw [List.length_append, List.length_flatMap]
    omega, by
    show ql.length ≤ _
    omega⟩
theorem blks_w {fuel : Nat} {cs : List Value} {x : DataW H × List MemPlace} (h : DataW.trod enc Try.prog W 0 (fun _ => true) true fuel 29 cs = some x) (hB : Rows.uptoBulk x.1 ≤ B) : ∃ A n c R l, cs = [.slice A n c] ∧ IsBlks W A n R l ∧ l.length ≤ B ∧ (∀ i ∈ l, BlkB B i) ∧ (∀ b ∈ l, ∀ i ∈ b.code, Wf i.args) ∧ (l.map fun b => (blkOps b).length).sum ≤ Rows.uptoBulk x.1 := by
  obtain ⟨A, c, n, F, rfl, hn, hnB, hS, hI, hF⟩ := rows_open_w (B := B) (α := Blk × BlkV) (fun d cs => cs = (blkR d.1 d.2).toList ∧ IsBlk W d.1 d.2 ∧ BlkB B d.1 ∧ ∀ i ∈ d.1.code, Wf i.args) (fun d => (blkOps d.1).length) Try.underlying29 cs48 (by omega) (fun h hB => (blk_w h hB).imp fun _ e => ⟨⟨e.1, e.2.1, e.2.2.1, e.2.2.2.1⟩, e.2.2.2.2.1⟩) h hB
  refine ⟨A, n, c, fun k => (F k).2, (List.range n).map fun k => (F k).1, rfl, ⟨by simp, hn, ?_, fun k hk => ?_⟩, by simpa using Nat.le_trans hnB hB, fun i hi => ?_, fun i hi => ?_, by rw [List.map_map]; exact hS⟩
  · rcases hF with rfl | ⟨b, o, rfl, hb, hF⟩
    · exact .inl rfl
    · refine .inr ⟨b, o, rfl, hb, fun k hk => ?_⟩
      have hk2 : k < n := by simpa using hk
      obtain ⟨cs', ⟨rfl, _⟩, hc⟩ := hF k hk2
      rw [range_map_get]
      exact ⟨hc 0 _ (by omega) rfl, hc 1 _ (by omega) rfl, hc 2 _ (by omega) rfl, hc 3 _ (by omega) rfl⟩
  · have hk2 : k < n := by simpa using hk
    obtain ⟨_, _, h2, _⟩ := hI k hk2
    rw [range_map_get]
    exact h2
  · obtain ⟨k, hk, rfl⟩ := List.mem_map.1 hi
    obtain ⟨_, _, _, h2, _⟩ := hI k (List.mem_range.1 hk)
    exact h2
  · obtain ⟨k, hk, rfl⟩ := List.mem_map.1 hi
    obtain ⟨_, _, _, _, h2⟩ := hI k (List.mem_range.1 hk)
    exact h2
theorem fun_w {fuel : Nat} {cs : List Value} {x : DataW H × List MemPlace} (h : DataW.trod enc Try.prog W 0 (fun _ => true) true fuel 31 cs = some x) (hB : Rows.uptoBulk x.1 ≤ B) :
    ∃ d : Fun × FunV, cs = (funR d.1 d.2).toList ∧ IsFun W d.1 d.2 ∧ FunB B d.1 ∧ (funOps d.1).length ≤ Rows.uptoBulk x.1 ∧ ∀ b ∈ d.1.blocks, ∀ i ∈ b.code, Wf i.args := by
  obtain ⟨xs, n, _, hx, hl, hlen, hf⟩ := DataW.trod_struct Try.underlying31 h
  rw [cs31] at hl
  subst hx
  obtain ⟨c0, c1, c2, c3, c4, rfl⟩ := list_n5 hl
  obtain ⟨x0, x1, x2, x3, x4, rfl⟩ := list_n5 (show xs.length = 5 from hlen)
  simp only [List.map_cons, List.map_nil, Rows.uptoBulk, Rows.uptoBulkAll] at hB ⊢
  have B0 : Rows.uptoBulk x0.1 ≤ B := by omega
  have B1 : Rows.uptoBulk x1.1 ≤ B := by omega
  have B2 : Rows.uptoBulk x2.1 ≤ B := by omega
  have B3 : Rows.uptoBulk x3.1 ≤ B := by omega
  have B4 : Rows.uptoBulk x4.1 ≤ B := by omega
  have g0 : DataW.trod enc Try.prog W 0 (fun _ => true) true n 4 (List.take (Try.prog.cellsOf 4) (List.drop 0 [c0, c1, c2, c3, c4])) = some x0 := hf 0 _ rfl
  rw [cs4] at g0
  replace g0 : DataW.trod enc Try.prog W 0 (fun _ => true) true n 4 [c0] = some x0 := g0
  have g1 : DataW.trod enc Try.prog W 0 (fun _ => true) true n 9 (List.take (Try.prog.cellsOf 9) (List.drop 1 [c0, c1, c2, c3, c4])) = some x1 := hf 1 _ rfl
  rw [cs9] at g1
  replace g1 : DataW.trod enc Try.prog W 0 (fun _ => true) true n 9 [c1] = some x1 := g1
  have g2 : DataW.trod enc Try.prog W 0 (fun _ => true) true n 27 (List.take (Try.prog.cellsOf 27) (List.drop 2 [c0, c1, c2, c3, c4])) = some x2 := hf 2 _ rfl
  rw [cs27] at g2
  replace g2 : DataW.trod enc Try.prog W 0 (fun _ => true) true n 27 [c2] = some x2 := g2
  have g3 : DataW.trod enc Try.prog W 0 (fun _ => true) true n 28 (List.take (Try.prog.cellsOf 28) (List.drop 3 [c0, c1, c2, c3, c4])) = some x3 := hf 3 _ rfl
  rw [cs28] at g3
  replace g3 : DataW.trod enc Try.prog W 0 (fun _ => true) true n 28 [c3] = some x3 := g3
  have g4 : DataW.trod enc Try.prog W 0 (fun _ => true) true n 29 (List.take (Try.prog.cellsOf 29) (List.drop 4 [c0, c1, c2, c3, c4])) = some x4 := hf 4 _ rfl
  rw [cs29] at g4
  replace g4 : DataW.trod enc Try.prog W 0 (fun _ => true) true n 29 [c4] = some x4 := g4
  obtain ⟨mac, e0, _⟩ := DataW.trod_bool Try.underlying4 g0
  injection e0 with e0
  subst e0
  obtain ⟨nm, e1, nmB⟩ := str_b g1 B1
  injection e1 with e1
  subst e1
  obtain ⟨pa, pn, pc, pl, e2, ph, pB⟩ := regs_b g2 B2
  injection e2 with e2
  subst e2
  obtain ⟨qa, qn, qc, ql, e3, qh, qB, qW⟩ := ops_w g3 B3
  injection e3 with e3
  subst e3
  obtain ⟨ra, rn, rc, rR, rl, e4, rh, rB, rE, rW, rS⟩ := blks_w g4 B4
  injection e4 with e4
  subst e4
  exact ⟨(⟨mac, nm, pl, ql, rl⟩, ⟨pa, pn, pc, qa, qn, qc, ra, rn, rc, rR⟩), rfl, ⟨ph, qh, rh⟩, ⟨nmB, pB, Nat.le_trans qB B3, rB, rE⟩, by
    show (ql ++ rl.flatMap blkOps).length ≤ _
    rw [List.length_append, List.length_flatMap]
    omega, rW⟩
theorem open_fun_w {base : Nat} {v : Value} {d : DataW H} {p : List MemPlace} (hv : Value.okWide Try.prog W .any base 31 v) (h : DataW.Trod enc Try.prog W 0 (fun _ => true) true 31 v d p) (hB : Rows.uptoBulk d ≤ B) : ∃ (i : Fun) (r : FunV), v = .agg (funR i r) ∧ IsFun W i r ∧ FunB B i ∧ (funOps i).length ≤ B ∧ ∀ b ∈ i.blocks, ∀ k ∈ b.code, Wf k.args := by
  obtain ⟨cs, rfl, hsz, _⟩ : ∃ cs, v = .agg cs ∧ cs.size = Try.prog.cellsOf 31 ∧ Row.okWide Try.prog W .any base 31 cs := by
    simpa [Value.okWide, Try.underlying31] using hv
  obtain ⟨fuel, hf⟩ := h
  obtain ⟨d, hd, hu1, hu2, hu3, hu4⟩ := fun_w hf hB
  have hd' : cs.toList = (funR d.1 d.2).toList := by simpa [Value.cells] using hd
  refine ⟨d.1, d.2, ?_, hu1, hu2, Nat.le_trans hu3 hB, hu4⟩
  congr 1
  exact Array.ext' hd'
end
end Go.Proofs.Ytocelaebokikcaa
