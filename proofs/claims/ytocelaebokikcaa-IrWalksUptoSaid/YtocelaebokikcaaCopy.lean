/- What Copy makes. -/
import Derived.Test.YtocelaebokikcaaPartC
import Derived.Deep.RegionHeld3
namespace Go.Proofs.Ytocelaebokikcaa
open Go.ChangeShapes Go.WideShapes Go.RowKit
set_option linter.unusedVariables false
set_option maxRecDepth 20000

theorem range_cell {W : World} {g n s k j : Nat} {t : TypeId} {u : Value} {f : Nat → List Value} (hs : ∀ x, (f x).length = s) (h : W.heap[g]? = some (.cells ((List.range n).flatMap f).toArray t (0, 0))) (hk : k < n) (hj : j < s) (hu : (f k)[j]? = some u) :
    W.cell? ⟨g, k * s + j, none⟩ = some u := by
  rw [cell_in h, List.getElem?_toArray, flat_at f s hs _ k j k (by rw [List.getElem?_range hk]) hj]
  exact hu
/-- What Copy hands back. -/
structure CopyP (f : Fun) (w : World) (e : Ending) (w' : World) : Prop where
  out : ∃ G S, e = .returned (.agg (funR f (f.parts.funV S))) ∧ Own w' (w.heap.size + 2) G f.parts S ∧ Below w.heap.size w w'
/-- So far in the blocks. -/
structure PB (f : Fun) (v : FunV) (w : World) (V : Pos → Prop) (B : Nat) (R : FunV) (wr : World) : Prop where
  out : ∃ G S, Part f v w V wr G S ∧ G .blocks = B ∧ S .regs = (R.ra, R.rc) ∧ S .params = (R.pa, R.pc) ∧ S .blocks = (R.ba, R.bc)
/-- So far in a block. -/
structure PK (f : Fun) (v : FunV) (w : World) (b q B C : Nat) (R : FunV) (wr : World) : Prop where
  out : ∃ G S, Part f v w (doneK f.parts b q) wr G S ∧ G .blocks = B ∧ G (.code b) = C ∧ S .regs = (R.ra, R.rc) ∧ S .params = (R.pa, R.pc) ∧ S .blocks = (R.ba, R.bc)
theorem doneK_zero (d : FunD) (b : Nat) (p : Pos) : doneK d b 0 p ↔ ((doneB d b p ∨ p = .ins b) ∨ p = .code b) := by
  cases p with
  | ins b' => show b' ≤ b ↔ ((b' < b ∨ Pos.ins b' = .ins b) ∨ Pos.ins b' = .code b); simp; omega
  | code b' => show b' ≤ b ↔ ((b' < b ∨ Pos.code b' = .ins b) ∨ Pos.code b' = .code b); simp; omega
  | args b' k' => show _ ↔ _; simp [doneK, doneB]
  | labels b' k' => show _ ↔ _; simp [doneK, doneB]
  | cases b' k' => show _ ↔ _; simp [doneK, doneB]
  | _ => simp [doneK, doneB]
theorem doneK_succ (d : FunD) (b q : Nat) (p : Pos) : doneK d b (q + 1) p ↔ (((doneK d b q p ∨ p = .args b q) ∨ p = .labels b q) ∨ p = .cases b q) := by
  cases p with
  | args b' k' => simp [doneK]; omega
  | labels b' k' => simp [doneK]; omega
  | cases b' k' => simp [doneK]; omega
  | _ => simp [doneK]
theorem code_cells {f : Fun} {v : FunV} {w wr : World} {V : Pos → Prop} {G : Pos → Nat} {S : Spots} (h : Part f v w V wr G S) (hf : IsFun w f v) (b : Nat) (hb : b < f.blocks.length) (h1 : ∀ k, ¬ V (.args b k)) (h2 : ∀ k, ¬ V (.labels b k)) (h3 : ∀ k, ¬ V (.cases b k)) :
    cellsCode (v.R b).kn (v.R b).R (f.blk b).code = f.parts.rows S (.code b) := by
  have hn : (f.blk b).code.length = (v.R b).kn := (hf.blkOf hb).code.1
  unfold cellsCode
  rw [← hn]
  refine flat_congr _ _ _ (fun k hk => ?_)
  have hk' : k < (f.blk b).code.length := by simpa using hk
  have hi := hf.insOf hb hk'
  show (insR (f.inst b k) ((v.R b).R k)).toList = (insR (f.inst b k) (f.parts.insV S b k)).toList
  unfold FunD.insV insR
  rw [h.old _ (h1 k), h.old _ (h2 k), h.old _ (h3 k)]
  have q1 : f.parts.len (.args b k) = ((v.R b).R k).an := hi.args.1
  have q2 : f.parts.len (.labels b k) = ((v.R b).R k).ln := hi.labels.1
  have q3 : f.parts.len (.cases b k) = ((v.R b).R k).cn := hi.cases.1
  rw [q1, q2, q3]
  rfl
theorem rowTen_store (w : World) (g k : Nat) (x0 x1 x2 x3 x4 x5 x6 x7 x8 x9 : Value) (h1 : ∀ v ∈ [x0, x1, x2, x3, x4, x5, x6, x7, x8, x9], v.oneCell' = true) (hc : ∀ j, j < 10 → (w.cell? ⟨g, k * 10 + 0 + j, none⟩).isSome = true) (hf : ∀ j, w.frozen? ⟨g, j, none⟩ = false) :
    (storeCells ⟨g, k * 10, none⟩ [x0, x1, x2, x3, x4, x5, x6, x7, x8, x9]).run Try.prog w = .ok () (rowTen w g k x0 x1 x2 x3 x4 x5 x6 x7 x8 x9) :=
  run_storeCells_cells (P := Try.prog) g (k * 10) [x0, x1, x2, x3, x4, x5, x6, x7, x8, x9] 0 w hc (fun j _ => hf _) h1
theorem cp_some (wX w6 : World) (gC q : Nat) (hb : Below wX.drew.heap.size wX.drew w6) (h2 : gC < wX.heap.size) (hs : ∀ j, j < 10 → (wX.cell? ⟨gC, q * 10 + 0 + j, none⟩).isSome = true) : ∀ j, j < 10 → (w6.cell? ⟨gC, q * 10 + 0 + j, none⟩).isSome = true := fun j hj => by
  rw [hb.cell (p := ⟨gC, _, none⟩) h2]; exact hs j hj
theorem cp_keep2 (w6 w7 : World) (g3 gC b kn PB q : Nat) (op k0 k1 k2 k3 off : Int) (name2 : ByteArray) (aa : Option Addr) (an ac : Nat) (la : Option Addr) (ln lc : Nat) (ca : Option Addr) (cn cc : Nat) (x0 x1 x2 x3 x4 x5 x6 x7 x8 x9 : Value) (h7 : w7 = rowTen w6 gC q x0 x1 x2 x3 x4 x5 x6 x7 x8 x9) (n1 : g3 ≠ gC) (n2 : PB ≠ gC) (h : w6.cell? ⟨g3, b * 4 + 3, none⟩ = some (.slice (some ⟨gC, 0, none⟩) kn kn) ∧ w6.cell? ⟨PB, 0, none⟩ = some (.int .i64 op) ∧ w6.cell? ⟨PB, 1, none⟩ = some (.int .i64 k0) ∧ w6.cell? ⟨PB, 2, none⟩ = some (.int .i64 k1) ∧ w6.cell? ⟨PB, 3, none⟩ = some (.int .i64 k2) ∧ w6.cell? ⟨PB, 4, none⟩ = some (.int .i64 k3) ∧ w6.cell? ⟨PB, 5, none⟩ = some (.slice aa an ac) ∧ w6.cell? ⟨PB, 6, none⟩ = some (.string name2) ∧ w6.cell? ⟨PB, 7, none⟩ = some (.int .i64 off) ∧ w6.cell? ⟨PB, 8, none⟩ = some (.slice la ln lc) ∧ w6.cell? ⟨PB, 9, none⟩ = some (.slice ca cn cc)) :
    w7.cell? ⟨g3, b * 4 + 3, none⟩ = some (.slice (some ⟨gC, 0, none⟩) kn kn) ∧ w7.cell? ⟨PB, 0, none⟩ = some (.int .i64 op) ∧ w7.cell? ⟨PB, 1, none⟩ = some (.int .i64 k0) ∧ w7.cell? ⟨PB, 2, none⟩ = some (.int .i64 k1) ∧ w7.cell? ⟨PB, 3, none⟩ = some (.int .i64 k2) ∧ w7.cell? ⟨PB, 4, none⟩ = some (.int .i64 k3) ∧ w7.cell? ⟨PB, 5, none⟩ = some (.slice aa an ac) ∧ w7.cell? ⟨PB, 6, none⟩ = some (.string name2) ∧ w7.cell? ⟨PB, 7, none⟩ = some (.int .i64 off) ∧ w7.cell? ⟨PB, 8, none⟩ = some (.slice la ln lc) ∧ w7.cell? ⟨PB, 9, none⟩ = some (.slice ca cn cc) := by
  subst h7
  obtain ⟨h0, e0, e1, e2, e3, e4, e5, e6, e7, e8, e9⟩ := h
  have k1 : ∀ j, (rowTen w6 gC q x0 x1 x2 x3 x4 x5 x6 x7 x8 x9).cell? ⟨g3, j, none⟩ = w6.cell? ⟨g3, j, none⟩ := fun j => World.cell?_of_block (w := w6) (rowTen_far n1 _ _ _ _ _ _ _ _ _ _)
  have k2 : ∀ j, (rowTen w6 gC q x0 x1 x2 x3 x4 x5 x6 x7 x8 x9).cell? ⟨PB, j, none⟩ = w6.cell? ⟨PB, j, none⟩ := fun j => World.cell?_of_block (w := w6) (rowTen_far n2 _ _ _ _ _ _ _ _ _ _)
  exact ⟨(k1 _).trans h0, (k2 _).trans e0, (k2 _).trans e1, (k2 _).trans e2, (k2 _).trans e3, (k2 _).trans e4, (k2 _).trans e5, (k2 _).trans e6, (k2 _).trans e7, (k2 _).trans e8, (k2 _).trans e9⟩
theorem cp_keep (wX w6 : World) (g3 gC b kn PB : Nat) (op k0 k1 k2 k3 off : Int) (name2 : ByteArray) (aa : Option Addr) (an ac : Nat) (la : Option Addr) (ln lc : Nat) (ca : Option Addr) (cn cc : Nat) (hb : Below wX.drew.heap.size wX.drew w6) (hc : wX.cell? ⟨g3, b * 4 + 3, none⟩ = some (.slice (some ⟨gC, 0, none⟩) kn kn)) (e0 : wX.cell? ⟨PB, 0, none⟩ = some (.int .i64 op)) (e1 : wX.cell? ⟨PB, 1, none⟩ = some (.int .i64 k0)) (e2 : wX.cell? ⟨PB, 2, none⟩ = some (.int .i64 k1)) (e3 : wX.cell? ⟨PB, 3, none⟩ = some (.int .i64 k2)) (e4 : wX.cell? ⟨PB, 4, none⟩ = some (.int .i64 k3)) (e5 : wX.cell? ⟨PB, 5, none⟩ = some (.slice aa an ac)) (e6 : wX.cell? ⟨PB, 6, none⟩ = some (.string name2)) (e7 : wX.cell? ⟨PB, 7, none⟩ = some (.int .i64 off)) (e8 : wX.cell? ⟨PB, 8, none⟩ = some (.slice la ln lc)) (e9 : wX.cell? ⟨PB, 9, none⟩ = some (.slice ca cn cc)) :
    w6.cell? ⟨g3, b * 4 + 3, none⟩ = some (.slice (some ⟨gC, 0, none⟩) kn kn) ∧ w6.cell? ⟨PB, 0, none⟩ = some (.int .i64 op) ∧ w6.cell? ⟨PB, 1, none⟩ = some (.int .i64 k0) ∧ w6.cell? ⟨PB, 2, none⟩ = some (.int .i64 k1) ∧ w6.cell? ⟨PB, 3, none⟩ = some (.int .i64 k2) ∧ w6.cell? ⟨PB, 4, none⟩ = some (.int .i64 k3) ∧ w6.cell? ⟨PB, 5, none⟩ = some (.slice aa an ac) ∧ w6.cell? ⟨PB, 6, none⟩ = some (.string name2) ∧ w6.cell? ⟨PB, 7, none⟩ = some (.int .i64 off) ∧ w6.cell? ⟨PB, 8, none⟩ = some (.slice la ln lc) ∧ w6.cell? ⟨PB, 9, none⟩ = some (.slice ca cn cc) := by
  have h1 : g3 < wX.heap.size := spot_lt hc
  have h2 : PB < wX.heap.size := spot_lt e0
  exact ⟨(hb.cell (p := ⟨g3, _, none⟩) h1).trans hc, (hb.cell (p := ⟨PB, _, none⟩) h2).trans e0, (hb.cell (p := ⟨PB, _, none⟩) h2).trans e1, (hb.cell (p := ⟨PB, _, none⟩) h2).trans e2, (hb.cell (p := ⟨PB, _, none⟩) h2).trans e3, (hb.cell (p := ⟨PB, _, none⟩) h2).trans e4, (hb.cell (p := ⟨PB, _, none⟩) h2).trans e5, (hb.cell (p := ⟨PB, _, none⟩) h2).trans e6, (hb.cell (p := ⟨PB, _, none⟩) h2).trans e7, (hb.cell (p := ⟨PB, _, none⟩) h2).trans e8, (hb.cell (p := ⟨PB, _, none⟩) h2).trans e9⟩
theorem cp_cells (wX w6 : World) (gC q : Nat) (op k0 k1 k2 k3 off : Int) (name2 : ByteArray) (aa : Option Addr) (an ac : Nat) (la : Option Addr) (ln lc : Nat) (ca : Option Addr) (cn cc : Nat) (hb : Below wX.drew.heap.size wX.drew w6) (h2 : gC < wX.heap.size) (e0 : wX.cell? ⟨gC, q * 10, none⟩ = some (.int .i64 op)) (e1 : wX.cell? ⟨gC, q * 10 + 1, none⟩ = some (.int .i64 k0)) (e2 : wX.cell? ⟨gC, q * 10 + 2, none⟩ = some (.int .i64 k1)) (e3 : wX.cell? ⟨gC, q * 10 + 3, none⟩ = some (.int .i64 k2)) (e4 : wX.cell? ⟨gC, q * 10 + 4, none⟩ = some (.int .i64 k3)) (e5 : wX.cell? ⟨gC, q * 10 + 5, none⟩ = some (.slice aa an ac)) (e6 : wX.cell? ⟨gC, q * 10 + 6, none⟩ = some (.string name2)) (e7 : wX.cell? ⟨gC, q * 10 + 7, none⟩ = some (.int .i64 off)) (e8 : wX.cell? ⟨gC, q * 10 + 8, none⟩ = some (.slice la ln lc)) (e9 : wX.cell? ⟨gC, q * 10 + 9, none⟩ = some (.slice ca cn cc)) :
    w6.cell? ⟨gC, q * 10, none⟩ = some (.int .i64 op) ∧ w6.cell? ⟨gC, q * 10 + 1, none⟩ = some (.int .i64 k0) ∧ w6.cell? ⟨gC, q * 10 + 2, none⟩ = some (.int .i64 k1) ∧ w6.cell? ⟨gC, q * 10 + 3, none⟩ = some (.int .i64 k2) ∧ w6.cell? ⟨gC, q * 10 + 4, none⟩ = some (.int .i64 k3) ∧ w6.cell? ⟨gC, q * 10 + 5, none⟩ = some (.slice aa an ac) ∧ w6.cell? ⟨gC, q * 10 + 6, none⟩ = some (.string name2) ∧ w6.cell? ⟨gC, q * 10 + 7, none⟩ = some (.int .i64 off) ∧ w6.cell? ⟨gC, q * 10 + 8, none⟩ = some (.slice la ln lc) ∧ w6.cell? ⟨gC, q * 10 + 9, none⟩ = some (.slice ca cn cc) := by
  exact ⟨(hb.cell (p := ⟨gC, _, none⟩) h2).trans e0, (hb.cell (p := ⟨gC, _, none⟩) h2).trans e1, (hb.cell (p := ⟨gC, _, none⟩) h2).trans e2, (hb.cell (p := ⟨gC, _, none⟩) h2).trans e3, (hb.cell (p := ⟨gC, _, none⟩) h2).trans e4, (hb.cell (p := ⟨gC, _, none⟩) h2).trans e5, (hb.cell (p := ⟨gC, _, none⟩) h2).trans e6, (hb.cell (p := ⟨gC, _, none⟩) h2).trans e7, (hb.cell (p := ⟨gC, _, none⟩) h2).trans e8, (hb.cell (p := ⟨gC, _, none⟩) h2).trans e9⟩
theorem cp_froz (wX w6 : World) (gC q : Nat) (hb : Below wX.drew.heap.size wX.drew w6) (h2 : gC < wX.heap.size) (hf : ∀ j, wX.frozen? ⟨gC, j, none⟩ = false) :
    w6.frozen? ⟨gC, q * 10, none⟩ = false ∧ w6.frozen? ⟨gC, q * 10 + 1, none⟩ = false ∧ w6.frozen? ⟨gC, q * 10 + 2, none⟩ = false ∧ w6.frozen? ⟨gC, q * 10 + 3, none⟩ = false ∧ w6.frozen? ⟨gC, q * 10 + 4, none⟩ = false ∧ w6.frozen? ⟨gC, q * 10 + 5, none⟩ = false ∧ w6.frozen? ⟨gC, q * 10 + 6, none⟩ = false ∧ w6.frozen? ⟨gC, q * 10 + 7, none⟩ = false ∧ w6.frozen? ⟨gC, q * 10 + 8, none⟩ = false ∧ w6.frozen? ⟨gC, q * 10 + 9, none⟩ = false := by
  exact ⟨(hb.frozen (p := ⟨gC, _, none⟩) h2).trans (hf _), (hb.frozen (p := ⟨gC, _, none⟩) h2).trans (hf _), (hb.frozen (p := ⟨gC, _, none⟩) h2).trans (hf _), (hb.frozen (p := ⟨gC, _, none⟩) h2).trans (hf _), (hb.frozen (p := ⟨gC, _, none⟩) h2).trans (hf _), (hb.frozen (p := ⟨gC, _, none⟩) h2).trans (hf _), (hb.frozen (p := ⟨gC, _, none⟩) h2).trans (hf _), (hb.frozen (p := ⟨gC, _, none⟩) h2).trans (hf _), (hb.frozen (p := ⟨gC, _, none⟩) h2).trans (hf _), (hb.frozen (p := ⟨gC, _, none⟩) h2).trans (hf _)⟩
set_option maxHeartbeats 8000000 in
theorem copy_v (f : Fun) (v : FunV) (w : World) (h : IsFun w f v) (hsm : ∀ p, f.parts.valid p → f.parts.len p ≤ 1048576) : Calls Try.prog 17 #[.agg (funR f v)] w (CopyP f w) := by
  have hr := hsm .regs trivial
  have hp := hsm .params trivial
  have hbk := hsm .blocks trivial
  have lr := h.regs.1
  have lp := h.params.1
  have lb := h.blocks.1
  have B0 : Below w.heap.size w ((w.alloc (.cells (funR f v) 31)).alloc (.cells #[.bool false, .string ⟨#[]⟩, .slice none 0 0, .slice none 0 0, .slice none 0 0] 31)) := ((Below.refl _ w).alloc (Nat.le_refl _) _).alloc (by simp) _
  have D := Lib.hid (And.intro h (And.intro (show ((w.alloc (.cells (funR f v) 31)).alloc (.cells #[.bool false, .string ⟨#[]⟩, .slice none 0 0, .slice none 0 0, .slice none 0 0] 31)).heap.size = w.heap.size + 2 by simp) (And.intro B0 (And.intro (box_two w (.cells (funR f v) 31) (.cells #[.bool false, .string ⟨#[]⟩, .slice none 0 0, .slice none 0 0, .slice none 0 0] 31)) (And.intro hsm (And.intro lr (And.intro lp lb)))))))
  clear B0
  have M1 : f.parts.len .regs = f.regs.length := rfl
  have M2 : f.parts.len .params = f.params.length := rfl
  have M3 : f.parts.len .blocks = f.blocks.length := rfl
  rw [M1, lr] at hr
  rw [M2, lp] at hp
  rw [M3, lb] at hbk
  clear M1 M2 M3 h hsm lr lp lb
  obtain ⟨machine, hmac⟩ : ∃ m, f.machine = m := ⟨_, rfl⟩
  obtain ⟨name, hname⟩ : ∃ m, f.name = m := ⟨_, rfl⟩
  obtain ⟨ra, rn, rc, pa, pn, pc, ba, bn, bc, R⟩ := v
  have HF := Lib.hid (And.intro hmac hname)
  unfold funR at D ⊢
  rw [hmac, hname] at D ⊢
  clear hmac hname
  dsimp only at D hr hp hbk ⊢
  go_enter Try.func17, Try.ntmps17
  go_wp2_with fail
  obtain ⟨wA, hwA⟩ : ∃ wA, (w.alloc (.cells #[.bool machine, .string name, .slice ra rn rc, .slice pa pn pc, .slice ba bn bc] 31)).alloc (.cells #[.bool false, .string ⟨#[]⟩, .slice none 0 0, .slice none 0 0, .slice none 0 0] 31) = wA := ⟨_, rfl⟩
  rw [hwA] at D ⊢
  clear hwA
  obtain ⟨P, hP⟩ : ∃ P, w.heap.size = P := ⟨_, rfl⟩
  have E0 := Lib.hid (show P = w.heap.size ∧ P + 2 ≤ wA.heap.size ∧ Below P w wA ∧ wA.heap[P]? = some (.cells #[.bool machine, .string name, .slice ra rn rc, .slice pa pn pc, .slice ba bn bc] 31 (0, 0)) ∧ wA.heap[P + 1]? = some (.cells #[.bool false, .string ⟨#[]⟩, .slice none 0 0, .slice none 0 0, .slice none 0 0] 31 (0, 0)) from by
    rw [← hP]; exact ⟨rfl, by rw [D.out.2.1]; omega, D.out.2.2.1, D.out.2.2.2.1.1, D.out.2.2.2.1.2⟩)
  rw [hP]
  clear hP
  refine (own52_v _ _ _ _ _ (D.out.1.regs.below (show Below w.heap.size w wA from E0.out.1 ▸ E0.out.2.2.1)) hr).mono ?_
  rintro e w1 ⟨rfl, hg, hb⟩
  obtain ⟨g1, hg1⟩ : ∃ g, wA.heap.size = g := ⟨_, rfl⟩
  have hsz := E0.out.2.1
  have m1 := kept_box E0.out.2.2.2.1 hb
  have m2 := kept_box E0.out.2.2.2.2 hb
  rw [hg1] at hg hb hsz ⊢
  have hgl := (Array.getElem?_eq_some_iff.1 hg).1
  have z1 : w1.cell? ⟨P, 2, none⟩ = some (.slice ra rn rc) := cell_in m1 2
  have f1 : w1.frozen? ⟨P, 2, none⟩ = false := froz_in m1 2
  have z2 : w1.cell? ⟨P, 3, none⟩ = some (.slice pa pn pc) := cell_in m1 3
  have E1 := Lib.hid (show P = w.heap.size ∧ P + 2 ≤ (w1.setCell ⟨P, 2, none⟩ (.slice (some ⟨g1, 0, none⟩) rn rn)).heap.size ∧ Below P w (w1.setCell ⟨P, 2, none⟩ (.slice (some ⟨g1, 0, none⟩) rn rn)) ∧ (w1.setCell ⟨P, 2, none⟩ (.slice (some ⟨g1, 0, none⟩) rn rn)).heap[P]? = some (.cells #[.bool machine, .string name, .slice (some ⟨g1, 0, none⟩) rn rn, .slice pa pn pc, .slice ba bn bc] 31 (0, 0)) ∧ (w1.setCell ⟨P, 2, none⟩ (.slice (some ⟨g1, 0, none⟩) rn rn)).heap[P + 1]? = some (.cells #[.bool false, .string ⟨#[]⟩, .slice none 0 0, .slice none 0 0, .slice none 0 0] 31 (0, 0)) ∧ (w1.setCell ⟨P, 2, none⟩ (.slice (some ⟨g1, 0, none⟩) rn rn)).heap[g1]? = some (.cells (f.regs.flatMap Rg.cs).toArray 71 (0, 0)) ∧ P + 2 ≤ g1 ∧ g1 < (w1.setCell ⟨P, 2, none⟩ (.slice (some ⟨g1, 0, none⟩) rn rn)).heap.size from by
    
    
    refine ⟨E0.out.1, by simp; omega, (E0.out.2.2.1.trans (hb.mono (by omega))).setCell (p := ⟨P, 2, none⟩) (Nat.le_refl _) _, set_at m1 2 _, (set_far (by omega) _ _).trans m2, (set_far (by omega) _ _).trans hg, ?_⟩
    simp only [World.setCell, Array.size_modify]
    omega)
  clear m1 m2 hg hb hsz hg1 hgl 
  go_wp2_with fail
  obtain ⟨wN1, hwN⟩ : ∃ wN, (w1.setCell ⟨P, 2, none⟩ (.slice (some ⟨g1, 0, none⟩) rn rn)) = wN := ⟨_, rfl⟩
  rw [hwN] at E1 ⊢
  clear hwN z1 z2 f1
  refine (own53_v _ _ _ _ _ (D.out.1.params.below (show Below w.heap.size w wN1 from E1.out.1 ▸ E1.out.2.2.1)) hp).mono ?_
  rintro e w2 ⟨rfl, hg, hb⟩
  obtain ⟨g2, hg2⟩ : ∃ g, wN1.heap.size = g := ⟨_, rfl⟩
  have hsz := E1.out.2.1
  have m1 := kept_box E1.out.2.2.2.1 hb
  have m2 := kept_box E1.out.2.2.2.2.1 hb
  rw [hg2] at hg hb hsz ⊢
  have hgl := (Array.getElem?_eq_some_iff.1 hg).1
  have z1 : w2.cell? ⟨P, 3, none⟩ = some (.slice pa pn pc) := cell_in m1 3
  have f1 : w2.frozen? ⟨P, 3, none⟩ = false := froz_in m1 3
  have z2 : w2.cell? ⟨P, 4, none⟩ = some (.slice ba bn bc) := cell_in m1 4
  have k1 := kept_box E1.out.2.2.2.2.2.1 (show Below wN1.heap.size wN1 w2 from hg2.symm ▸ hb)
  have E2 := Lib.hid (show P = w.heap.size ∧ P + 2 ≤ (w2.setCell ⟨P, 3, none⟩ (.slice (some ⟨g2, 0, none⟩) pn pn)).heap.size ∧ Below P w (w2.setCell ⟨P, 3, none⟩ (.slice (some ⟨g2, 0, none⟩) pn pn)) ∧ (w2.setCell ⟨P, 3, none⟩ (.slice (some ⟨g2, 0, none⟩) pn pn)).heap[P]? = some (.cells #[.bool machine, .string name, .slice (some ⟨g1, 0, none⟩) rn rn, .slice (some ⟨g2, 0, none⟩) pn pn, .slice ba bn bc] 31 (0, 0)) ∧ (w2.setCell ⟨P, 3, none⟩ (.slice (some ⟨g2, 0, none⟩) pn pn)).heap[P + 1]? = some (.cells #[.bool false, .string ⟨#[]⟩, .slice none 0 0, .slice none 0 0, .slice none 0 0] 31 (0, 0)) ∧ (w2.setCell ⟨P, 3, none⟩ (.slice (some ⟨g2, 0, none⟩) pn pn)).heap[g1]? = some (.cells (f.regs.flatMap Rg.cs).toArray 71 (0, 0)) ∧ (w2.setCell ⟨P, 3, none⟩ (.slice (some ⟨g2, 0, none⟩) pn pn)).heap[g2]? = some (.cells (f.params.flatMap Opn.cs).toArray 44 (0, 0)) ∧ P + 2 ≤ g1 ∧ g1 < g2 ∧ g2 < (w2.setCell ⟨P, 3, none⟩ (.slice (some ⟨g2, 0, none⟩) pn pn)).heap.size from by
    have ho := E1.out.2.2.2.2.2.2
    rw [hg2] at ho
    refine ⟨E1.out.1, by simp; omega, (E1.out.2.2.1.trans (hb.mono (by omega))).setCell (p := ⟨P, 3, none⟩) (Nat.le_refl _) _, set_at m1 3 _, (set_far (by omega) _ _).trans m2, (set_far (by omega) _ _).trans k1, (set_far (by omega) _ _).trans hg, ?_⟩
    simp only [World.setCell, Array.size_modify]
    omega)
  clear m1 m2 hg hb hsz hg2 hgl k1
  go_wp2_with fail
  obtain ⟨wN2, hwN⟩ : ∃ wN, (w2.setCell ⟨P, 3, none⟩ (.slice (some ⟨g2, 0, none⟩) pn pn)) = wN := ⟨_, rfl⟩
  rw [hwN] at E2 ⊢
  clear hwN z1 z2 f1
  refine (own54_v _ _ _ _ _ _ (D.out.1.blocks.below (show Below w.heap.size w wN2 from E2.out.1 ▸ E2.out.2.2.1)) hbk).mono ?_
  rintro e w3 ⟨rfl, hg, hb⟩
  obtain ⟨g3, hg3⟩ : ∃ g, wN2.heap.size = g := ⟨_, rfl⟩
  have hsz := E2.out.2.1
  have m1 := kept_box E2.out.2.2.2.1 hb
  have m2 := kept_box E2.out.2.2.2.2.1 hb
  rw [hg3] at hg hb hsz ⊢
  have hgl := (Array.getElem?_eq_some_iff.1 hg).1
  have z1 : w3.cell? ⟨P, 4, none⟩ = some (.slice ba bn bc) := cell_in m1 4
  have f1 : w3.frozen? ⟨P, 4, none⟩ = false := froz_in m1 4
  have k1 := kept_box E2.out.2.2.2.2.2.1 (show Below wN2.heap.size wN2 w3 from hg3.symm ▸ hb)
  have k2 := kept_box E2.out.2.2.2.2.2.2.1 (show Below wN2.heap.size wN2 w3 from hg3.symm ▸ hb)
  have E3 := Lib.hid (show P = w.heap.size ∧ P + 2 ≤ (w3.setCell ⟨P, 4, none⟩ (.slice (some ⟨g3, 0, none⟩) bn bn)).heap.size ∧ Below P w (w3.setCell ⟨P, 4, none⟩ (.slice (some ⟨g3, 0, none⟩) bn bn)) ∧ (w3.setCell ⟨P, 4, none⟩ (.slice (some ⟨g3, 0, none⟩) bn bn)).heap[P]? = some (.cells #[.bool machine, .string name, .slice (some ⟨g1, 0, none⟩) rn rn, .slice (some ⟨g2, 0, none⟩) pn pn, .slice (some ⟨g3, 0, none⟩) bn bn] 31 (0, 0)) ∧ (w3.setCell ⟨P, 4, none⟩ (.slice (some ⟨g3, 0, none⟩) bn bn)).heap[P + 1]? = some (.cells #[.bool false, .string ⟨#[]⟩, .slice none 0 0, .slice none 0 0, .slice none 0 0] 31 (0, 0)) ∧ (w3.setCell ⟨P, 4, none⟩ (.slice (some ⟨g3, 0, none⟩) bn bn)).heap[g1]? = some (.cells (f.regs.flatMap Rg.cs).toArray 71 (0, 0)) ∧ (w3.setCell ⟨P, 4, none⟩ (.slice (some ⟨g3, 0, none⟩) bn bn)).heap[g2]? = some (.cells (f.params.flatMap Opn.cs).toArray 44 (0, 0)) ∧ (w3.setCell ⟨P, 4, none⟩ (.slice (some ⟨g3, 0, none⟩) bn bn)).heap[g3]? = some (.cells (cellsBlks bn R f.blocks).toArray 48 (0, 0)) ∧ P + 2 ≤ g1 ∧ g1 < g2 ∧ g2 < g3 ∧ g3 < (w3.setCell ⟨P, 4, none⟩ (.slice (some ⟨g3, 0, none⟩) bn bn)).heap.size from by
    have ho := E2.out.2.2.2.2.2.2.2
    rw [hg3] at ho
    refine ⟨E2.out.1, by simp; omega, (E2.out.2.2.1.trans (hb.mono (by omega))).setCell (p := ⟨P, 4, none⟩) (Nat.le_refl _) _, set_at m1 4 _, (set_far (by omega) _ _).trans m2, (set_far (by omega) _ _).trans k1, (set_far (by omega) _ _).trans k2, (set_far (by omega) _ _).trans hg, ?_⟩
    simp only [World.setCell, Array.size_modify]
    omega)
  clear m1 m2 hg hb hsz hg3 hgl k1 k2
  go_wp2_with fail
  obtain ⟨w0, hw0⟩ : ∃ wN, (w3.setCell ⟨P, 4, none⟩ (.slice (some ⟨g3, 0, none⟩) bn bn)) = wN := ⟨_, rfl⟩
  rw [hw0] at E3 ⊢
  clear hw0 z1 f1
  have J0 : PB f ⟨ra, rn, rc, pa, pn, pc, ba, bn, bc, R⟩ w (doneB f.parts 0) g3 ⟨some ⟨g1, 0, none⟩, rn, rn, some ⟨g2, 0, none⟩, pn, pn, some ⟨g3, 0, none⟩, bn, bn, R⟩ w0 := by
    obtain ⟨e1, e2, e3, e4, e5, e6, e7, e8, e9, e10, e11, e12⟩ := E3.out
    obtain ⟨hF, _, _, _, _, lr, lp, lb⟩ := D.out
    subst e1
    refine ⟨fun p => (match p with | .regs => g1 | .params => g2 | _ => g3), fun p => (match p with | .regs => (some ⟨g1, 0, none⟩, rn) | .params => (some ⟨g2, 0, none⟩, pn) | .blocks => (some ⟨g3, 0, none⟩, bn) | p => spots0 ⟨ra, rn, rc, pa, pn, pc, ba, bn, bc, R⟩ p), ⟨⟨fun p hp => ?_, fun p q hp hq e => ?_⟩, fun p hp => ?_, fun p hp => ?_, e3, e2, ?_, e5⟩, rfl, rfl, rfl, rfl⟩
    · cases p with
      | regs => exact ⟨show w.heap.size + 2 ≤ g1 by omega, e6⟩
      | params => exact ⟨show w.heap.size + 2 ≤ g2 by omega, e7⟩
      | blocks =>
        refine ⟨show w.heap.size + 2 ≤ g3 by omega, ?_⟩
        rw [show (FunD.rows f.parts _ .blocks) = cellsBlks bn R f.blocks from ?_]
        · exact e8
        · unfold cellsBlks
          show (List.range f.blocks.length).flatMap _ = _
          rw [lb]
          refine flat_congr _ _ _ (fun b hb => ?_)
          have hb' : b < f.blocks.length := by rw [lb]; simpa using hb
          have hi := hF.blkOf hb'
          rw [parts_blk]
          show (blkR (f.blk b) (FunD.blkV f.parts _ b)).toList = (blkR (f.blk b) (R b)).toList
          unfold blkR FunD.blkV
          have q1 : f.parts.len (.ins b) = (R b).il := hi.ins.1
          have q2 : f.parts.nk b = (R b).kn := hi.code.1
          rw [q1, q2]
          rfl
      | ins b => exact absurd hp (Nat.not_lt_zero _)
      | code b => exact absurd hp (Nat.not_lt_zero _)
      | args b k => exact absurd hp.1 (Nat.not_lt_zero _)
      | labels b k => exact absurd hp.1 (Nat.not_lt_zero _)
      | cases b k => exact absurd hp.1 (Nat.not_lt_zero _)
    · cases p <;> cases q <;> first | rfl | (exact absurd hp (Nat.not_lt_zero _)) | (exact absurd hq (Nat.not_lt_zero _)) | (exact absurd hp.1 (Nat.not_lt_zero _)) | (exact absurd hq.1 (Nat.not_lt_zero _)) | (exfalso; dsimp only at e; omega)
    · cases p with
      | regs => show (_, _) = (_, f.regs.length); rw [lr]
      | params => show (_, _) = (_, f.params.length); rw [lp]
      | blocks => show (_, _) = (_, f.blocks.length); rw [lb]
      | ins b => exact absurd hp (Nat.not_lt_zero _)
      | code b => exact absurd hp (Nat.not_lt_zero _)
      | args b k => exact absurd hp.1 (Nat.not_lt_zero _)
      | labels b k => exact absurd hp.1 (Nat.not_lt_zero _)
      | cases b k => exact absurd hp.1 (Nat.not_lt_zero _)
    · cases p with
      | regs => exact absurd trivial hp
      | params => exact absurd trivial hp
      | blocks => exact absurd trivial hp
      | _ => rfl
    · rw [e4]
      unfold funR FunD.funV
      have q1 : f.parts.len .regs = rn := lr
      have q2 : f.parts.len .params = pn := lp
      have q3 : f.parts.nb = bn := lb
      rw [q1, q2, q3, HF.out.1, HF.out.2]
  have HJ := Lib.hid J0
  clear J0 E1 E2
  obtain ⟨nbl, hnbl⟩ : ∃ n, f.blocks.length = n := ⟨_, rfl⟩
  have hbn : nbl = bn := by rw [← hnbl]; exact D.out.2.2.2.2.2.2.2
  subst hbn
  have HN := Lib.hid hnbl
  clear hnbl
  have zz4 : w0.cell? ⟨P, 4, none⟩ = some (.slice (some ⟨g3, 0, none⟩) nbl nbl) := cell_in E3.out.2.2.2.1 4
  clear E3
  have EP := Lib.hid (show P = w.heap.size from E0.out.1)
  clear E0
  go_loopg [22] nbl (fun gk u wr => ∃ b : Nat, b + gk = nbl ∧ u = .int .i64 (b : Int) ∧ Hid (PB f ⟨ra, rn, rc, pa, pn, pc, ba, nbl, bc, R⟩ w (doneB f.parts b) g3 ⟨some ⟨g1, 0, none⟩, rn, rn, some ⟨g2, 0, none⟩, pn, pn, some ⟨g3, 0, none⟩, nbl, nbl, R⟩ wr))
  case atStart => exact ⟨0, by omega, rfl, HJ.out⟩
  case round =>
    clear zz4
    obtain ⟨b, hkb, rfl, HB⟩ := hrel
    by_cases hlb : b < nbl
    · have i1 : (b : Int) < (nbl : Int) := by omega
      have hbf : b < f.blocks.length := by rw [HN.out]; exact hlb
      have hib := D.out.1.blkOf hbf
      dsimp only at hib
      have hsi := D.out.2.2.2.2.1 (.ins b) hbf
      have hsc := D.out.2.2.2.2.1 (.code b) hbf
      have hil : (f.blk b).ins.length = (R b).il := hib.ins.1
      have hkn : (f.blk b).code.length = (R b).kn := hib.code.1
      obtain ⟨G, S, hpart, hG, hS1, hS2, hS3⟩ := HB.out
      have hbox := hpart.box
      rw [← EP.out] at hbox
      have z4 : wr.cell? ⟨P, 4, none⟩ = some (.slice (some ⟨g3, 0, none⟩) nbl nbl) := by
        rw [cell_in hbox 4]
        show some (Value.slice (S .blocks).1 f.parts.nb (S .blocks).2) = _
        rw [hS3]
        show some (Value.slice _ f.blocks.length _) = _
        rw [HN.out]
      have hmb := (hpart.lay.mem .blocks trivial).2
      rw [hG] at hmb
      have o1 : S (.ins b) = ((R b).ia, (R b).ic) := hpart.old (.ins b) (Nat.lt_irrefl b)
      have o2 : S (.code b) = ((R b).ka, (R b).kc) := hpart.old (.code b) (Nat.lt_irrefl b)
      have q1 : f.parts.len (.ins b) = (R b).il := hil
      have q2 : f.parts.nk b = (R b).kn := hkn
      have c2 : wr.cell? ⟨g3, b * 4 + 2, none⟩ = some (.slice (R b).ia (R b).il (R b).ic) := by
        refine range_cell (f := fun k => (blkR (f.parts.blkAt k) (f.parts.blkV S k)).toList) (fun _ => rfl) hmb hbf (by omega) ?_
        show some (Value.slice (S (.ins b)).1 (f.parts.len (.ins b)) (S (.ins b)).2) = _
        rw [o1, q1]
      have c3 : wr.cell? ⟨g3, b * 4 + 3, none⟩ = some (.slice (R b).ka (R b).kn (R b).kc) := by
        refine range_cell (f := fun k => (blkR (f.parts.blkAt k) (f.parts.blkV S k)).toList) (fun _ => rfl) hmb hbf (by omega) ?_
        show some (Value.slice (S (.code b)).1 (f.parts.nk b) (S (.code b)).2) = _
        rw [o2, q2]
      have hg3 := hpart.lay.lt (p := .blocks) trivial
      rw [hG] at hg3
      have e1 : (f.parts.len (.ins b)) = (f.blk b).ins.length := rfl
      have e2 : (f.parts.len (.code b)) = (f.blk b).code.length := rfl
      rw [e1, hil] at hsi
      rw [e2, hkn] at hsc
      obtain ⟨rb, hrb⟩ : ∃ r, R b = r := ⟨_, rfl⟩
      have HRB := Lib.hid hrb
      rw [hrb] at hib hil hkn hsi hsc c2 c3
      clear hrb
      obtain ⟨ia, il, ic, ka, kn, kc, RR⟩ := rb
      dsimp only at hib hil hkn hsi hsc c2 c3
      have HI := Lib.hid (And.intro hib (And.intro hil (And.intro hkn (And.intro hbf (And.intro hpart (And.intro hG (And.intro hS1 (And.intro hS2 hS3))))))))
      clear hib hil hkn hbf hpart hG hS1 hS2 hS3 hbox hmb o1 o2 q1 q2 e1 e2
      go_wp2_with fail
      refine (own53_v _ _ _ _ _ (HI.out.1.ins.below HI.out.2.2.2.2.1.below) hsi).mono ?_
      rintro e w4 ⟨rfl, hg, hb⟩
      have c2' : w4.cell? ⟨g3, b * 4 + 2, none⟩ = some (.slice ia il ic) := (hb.cell hg3).trans c2
      have c3' : w4.cell? ⟨g3, b * 4 + 3, none⟩ = some (.slice ka kn kc) := (hb.cell hg3).trans c3
      have f2' : w4.frozen? ⟨g3, b * 4 + 2, none⟩ = false := by
        rw [hb.frozen hg3]
        have hm := (HI.out.2.2.2.2.1.lay.mem .blocks trivial).2
        rw [HI.out.2.2.2.2.2.1] at hm
        exact froz_in hm _
      have K1 := HI.out.2.2.2.2.1.ins trivial b HI.out.2.2.2.1 (w1 := w4) hg hb
      rw [HI.out.2.2.2.2.2.1, HI.out.2.1] at K1
      have K1h := Lib.hid K1
      clear K1 c2 c3 hg hb
      obtain ⟨gI, hgI⟩ : ∃ g, wr.heap.size = g := ⟨_, rfl⟩
      rw [hgI] at K1h ⊢
      go_wp2_with fail
      obtain ⟨wI, hwI⟩ : ∃ wN, (w4.setCell ⟨g3, b * 4 + 2, none⟩ (.slice (some ⟨gI, 0, none⟩) il il)) = wN := ⟨_, rfl⟩
      have c3'' : wI.cell? ⟨g3, b * 4 + 3, none⟩ = some (.slice ka kn kc) := by
        rw [← hwI, World.cell?_setCell_other]
        · exact c3'
        · simp
      rw [hwI] at K1h ⊢
      clear hwI c2' c3' f2' hgI
      refine (own55_v _ _ _ _ _ _ (HI.out.1.code.below K1h.out.below) hsc).mono ?_
      rintro e w5 ⟨rfl, hg, hb⟩
      have hGB : updG G (.ins b) gI .blocks = g3 := by unfold updG; simp; exact HI.out.2.2.2.2.2.1
      have hm := (K1h.out.lay.mem .blocks (.inl trivial)).2
      have hlt := K1h.out.lay.lt (p := .blocks) (.inl trivial)
      rw [hGB] at hm hlt
      have c3' : w5.cell? ⟨g3, b * 4 + 3, none⟩ = some (.slice ka kn kc) := (hb.cell hlt).trans c3''
      have f3' : w5.frozen? ⟨g3, b * 4 + 3, none⟩ = false := by rw [hb.frozen hlt]; exact froz_in hm _
      have hcc := code_cells K1h.out D.out.1 b HI.out.2.2.2.1 (fun k hk => by rcases hk with hk | hk; exact absurd hk.1 (Nat.lt_irrefl b); cases hk) (fun k hk => by rcases hk with hk | hk; exact absurd hk.1 (Nat.lt_irrefl b); cases hk) (fun k hk => by rcases hk with hk | hk; exact absurd hk.1 (Nat.lt_irrefl b); cases hk)
      dsimp only at hcc
      rw [HRB.out] at hcc
      dsimp only at hcc
      rw [hcc] at hg
      have K2 := K1h.out.code (.inl trivial) b HI.out.2.2.2.1 (w1 := w5) hg hb
      rw [hGB, HI.out.2.2.1] at K2
      obtain ⟨gC, hgC⟩ : ∃ g, wI.heap.size = g := ⟨_, rfl⟩
      rw [hgC] at K2 ⊢
      have K2h : Hid (PK f ⟨ra, rn, rc, pa, pn, pc, ba, nbl, bc, R⟩ w b 0 g3 gC ⟨some ⟨g1, 0, none⟩, rn, rn, some ⟨g2, 0, none⟩, pn, pn, some ⟨g3, 0, none⟩, nbl, nbl, R⟩ (w5.setCell ⟨g3, b * 4 + 3, none⟩ (.slice (some ⟨gC, 0, none⟩) kn kn))) := Lib.hid ⟨_, _, K2.iff (doneK_zero f.parts b), by unfold updG; simp; exact HI.out.2.2.2.2.2.1, by unfold updG; simp, by unfold updS; simp; exact HI.out.2.2.2.2.2.2.1, by unfold updS; simp; exact HI.out.2.2.2.2.2.2.2.1, by unfold updS; simp; exact HI.out.2.2.2.2.2.2.2.2⟩
      clear K1h K2 hm hlt hcc hg hb c3'' hGB hgC
      go_wp2_with fail
      obtain ⟨wK, hwK⟩ : ∃ wN, (w5.setCell ⟨g3, b * 4 + 3, none⟩ (.slice (some ⟨gC, 0, none⟩) kn kn)) = wN := ⟨_, rfl⟩
      rw [hwK] at K2h ⊢
      clear hwK c3' f3' z4 hg3
      go_loopg [50] kn (fun gk u wr => ∃ q : Nat, q + gk = kn ∧ u = .int .i64 (q : Int) ∧ Hid (PK f ⟨ra, rn, rc, pa, pn, pc, ba, nbl, bc, R⟩ w b q g3 gC ⟨some ⟨g1, 0, none⟩, rn, rn, some ⟨g2, 0, none⟩, pn, pn, some ⟨g3, 0, none⟩, nbl, nbl, R⟩ wr))
      case atStart => exact ⟨0, by omega, rfl, K2h.out⟩
      case round =>
        clear K2h
        obtain ⟨q, hq, rfl, HK⟩ := hrel
        by_cases hlq : q < kn
        · have i2 : (q : Int) < (kn : Int) := by omega
          obtain ⟨hib, hil, hkn, hbf, _⟩ := HI.out
          have hqf : q < (f.blk b).code.length := by rw [hkn]; exact hlq
          have hii := D.out.1.insOf hbf hqf
          dsimp only at hii
          rw [HRB.out] at hii
          dsimp only at hii
          have hs1 := D.out.2.2.2.2.1 (.args b q) ⟨hbf, hqf⟩
          have hs2 := D.out.2.2.2.2.1 (.labels b q) ⟨hbf, hqf⟩
          have hs3 := D.out.2.2.2.2.1 (.cases b q) ⟨hbf, hqf⟩
          obtain ⟨G, S, hpart, hG, hGC, hS1, hS2, hS3⟩ := HK.out
          have hmc := (hpart.lay.mem (.code b) (Nat.le_refl b)).2
          have hmb := (hpart.lay.mem .blocks trivial).2
          have hltb := hpart.lay.lt (p := .blocks) trivial
          have hltc := hpart.lay.lt (p := .code b) (Nat.le_refl b)
          have hbc := (hpart.lay.mem (.code b) (Nat.le_refl b)).1
          rw [hGC] at hmc hltc hbc
          rw [hG] at hmb hltb
          have o1 : S (.args b q) = ((RR q).aa, (RR q).ac) := by
            rw [hpart.old (.args b q) (fun hk => by rcases hk with ⟨k1, _⟩ | ⟨_, k2⟩ <;> omega)]
            show ((((R b).R q).aa, ((R b).R q).ac) : Option Addr × Nat) = _
            rw [HRB.out]
          have o2 : S (.labels b q) = ((RR q).la, (RR q).lc) := by
            rw [hpart.old (.labels b q) (fun hk => by rcases hk with ⟨k1, _⟩ | ⟨_, k2⟩ <;> omega)]
            show ((((R b).R q).la, ((R b).R q).lc) : Option Addr × Nat) = _
            rw [HRB.out]
          have o3 : S (.cases b q) = ((RR q).ca, (RR q).cc) := by
            rw [hpart.old (.cases b q) (fun hk => by rcases hk with ⟨k1, _⟩ | ⟨_, k2⟩ <;> omega)]
            show ((((R b).R q).ca, ((R b).R q).cc) : Option Addr × Nat) = _
            rw [HRB.out]
          have o4 : S (.code b) = (some ⟨gC, 0, none⟩, kn) := by
            rw [hpart.spots (.code b) (Nat.le_refl b), hGC]
            show (_, (f.blk b).code.length) = _
            rw [hkn]
          have p1 : f.parts.len (.args b q) = (RR q).an := hii.args.1
          have p2 : f.parts.len (.labels b q) = (RR q).ln := hii.labels.1
          have p3 : f.parts.len (.cases b q) = (RR q).cn := hii.cases.1
          have cK : wr.cell? ⟨g3, b * 4 + 3, none⟩ = some (.slice (some ⟨gC, 0, none⟩) kn kn) := by
            refine range_cell (f := fun k => (blkR (f.parts.blkAt k) (f.parts.blkV S k)).toList) (fun _ => rfl) hmb hbf (by omega) ?_
            show some (Value.slice (S (.code b)).1 (f.blk b).code.length (S (.code b)).2) = _
            rw [o4, hkn]
          have dd : ∀ j (hj : j < 10) u, (insR (f.inst b q) (RR q)).toList[j]? = some u → wr.cell? ⟨gC, q * 10 + j, none⟩ = some u := fun j hj u hu => by
            refine range_cell (f := fun k => (insR (f.parts.insAt b k) (f.parts.insV S b k)).toList) (fun _ => rfl) hmc hqf hj ?_
            rw [← hu]
            show (insR (f.inst b q) (f.parts.insV S b q)).toList[j]? = _
            unfold FunD.insV insR
            rw [o1, o2, o3, p1, p2, p3]
          rw [p1] at hs1
          rw [p2] at hs2
          rw [p3] at hs3
          have HP := Lib.hid (And.intro hii (And.intro hpart (And.intro hG (And.intro hGC (And.intro hS1 (And.intro hS2 (And.intro hS3 (And.intro hqf (And.intro hltc hmc)))))))))
          have d0 : wr.cell? ⟨gC, q * 10, none⟩ = some _ := dd 0 (by omega) _ rfl
          have d1 := dd 1 (by omega) _ rfl
          have d2 := dd 2 (by omega) _ rfl
          have d3 := dd 3 (by omega) _ rfl
          have d4 := dd 4 (by omega) _ rfl
          have d5 := dd 5 (by omega) _ rfl
          have d6 := dd 6 (by omega) _ rfl
          have d7 := dd 7 (by omega) _ rfl
          have d8 := dd 8 (by omega) _ rfl
          have d9 := dd 9 (by omega) _ rfl
          obtain ⟨ii, hiidef⟩ : ∃ i, f.inst b q = i := ⟨_, rfl⟩
          obtain ⟨ri, hridef⟩ : ∃ i, RR q = i := ⟨_, rfl⟩
          rw [hiidef, hridef] at HP
          have HE := Lib.hid (And.intro hiidef hridef)
          rw [hridef] at hs1 hs2 hs3 d5 d8 d9
          rw [hiidef] at d0 d1 d2 d3 d4 d6 d7
          clear hib hil hkn hbf hii hpart hG hGC hS1 hS2 hS3 hmc hmb o1 o2 o3 o4 p1 p2 p3 dd hqf hiidef hridef hbc
          obtain ⟨op, ⟨k0, k1, k2, k3⟩, args, name2, off, labels, cas⟩ := ii
          obtain ⟨aa, an, ac, la, ln, lc, ca, cn, cc⟩ := ri
          dsimp only at hs1 hs2 hs3 d0 d1 d2 d3 d4 d5 d6 d7 d8 d9
          go_wp2_with fail
          have BX : Below wr.heap.size wr (wr.alloc (.cells #[.int .i64 op, .int .i64 k0, .int .i64 k1, .int .i64 k2, .int .i64 k3, .slice aa an ac, .string name2, .int .i64 off, .slice la ln lc, .slice ca cn cc] 51)) := (Below.refl _ wr).alloc (Nat.le_refl _) _
          have lX := heap_alloc_new wr (.cells #[.int .i64 op, .int .i64 k0, .int .i64 k1, .int .i64 k2, .int .i64 k3, .slice aa an ac, .string name2, .int .i64 off, .slice la ln lc, .slice ca cn cc] 51)
          obtain ⟨wX, hwX⟩ : ∃ wN, (wr.alloc (.cells #[.int .i64 op, .int .i64 k0, .int .i64 k1, .int .i64 k2, .int .i64 k3, .slice aa an ac, .string name2, .int .i64 off, .slice la ln lc, .slice ca cn cc] 51)) = wN := ⟨_, rfl⟩
          rw [hwX] at BX lX ⊢
          have cKX : wX.cell? ⟨g3, b * 4 + 3, none⟩ = some (.slice (some ⟨gC, 0, none⟩) kn kn) := (BX.cell hltb).trans cK
          have e0 : wX.cell? ⟨wr.heap.size, 0, none⟩ = some (.int .i64 op) := cell_in lX 0
          have e1 : wX.cell? ⟨wr.heap.size, 1, none⟩ = some (.int .i64 k0) := cell_in lX 1
          have e2 : wX.cell? ⟨wr.heap.size, 2, none⟩ = some (.int .i64 k1) := cell_in lX 2
          have e3 : wX.cell? ⟨wr.heap.size, 3, none⟩ = some (.int .i64 k2) := cell_in lX 3
          have e4 : wX.cell? ⟨wr.heap.size, 4, none⟩ = some (.int .i64 k3) := cell_in lX 4
          have e5 : wX.cell? ⟨wr.heap.size, 5, none⟩ = some (.slice aa an ac) := cell_in lX 5
          have e6 : wX.cell? ⟨wr.heap.size, 6, none⟩ = some (.string name2) := cell_in lX 6
          have e7 : wX.cell? ⟨wr.heap.size, 7, none⟩ = some (.int .i64 off) := cell_in lX 7
          have e8 : wX.cell? ⟨wr.heap.size, 8, none⟩ = some (.slice la ln lc) := cell_in lX 8
          have e9 : wX.cell? ⟨wr.heap.size, 9, none⟩ = some (.slice ca cn cc) := cell_in lX 9
          have LG2 : gC < wX.heap.size := Nat.lt_of_lt_of_le hltc BX.size
          have v0 : ∀ j, wX.frozen? ⟨gC, j, none⟩ = false := fun j => by rw [BX.frozen (p := ⟨gC, j, none⟩) hltc]; exact froz_in HP.out.2.2.2.2.2.2.2.2.2 j
          have x0 := (BX.cell (p := ⟨gC, q * 10, none⟩) hltc).trans d0
          have x1 := (BX.cell (p := ⟨gC, q * 10 + 1, none⟩) hltc).trans d1
          have x2 := (BX.cell (p := ⟨gC, q * 10 + 2, none⟩) hltc).trans d2
          have x3 := (BX.cell (p := ⟨gC, q * 10 + 3, none⟩) hltc).trans d3
          have x4 := (BX.cell (p := ⟨gC, q * 10 + 4, none⟩) hltc).trans d4
          have x5 := (BX.cell (p := ⟨gC, q * 10 + 5, none⟩) hltc).trans d5
          have x6 := (BX.cell (p := ⟨gC, q * 10 + 6, none⟩) hltc).trans d6
          have x7 := (BX.cell (p := ⟨gC, q * 10 + 7, none⟩) hltc).trans d7
          have x8 := (BX.cell (p := ⟨gC, q * 10 + 8, none⟩) hltc).trans d8
          have x9 := (BX.cell (p := ⟨gC, q * 10 + 9, none⟩) hltc).trans d9
          have xs : ∀ j, j < 10 → (wX.cell? ⟨gC, q * 10 + 0 + j, none⟩).isSome = true := fun j hj => by
            match j, hj with
            | 0, _ => exact (by rw [show wX.cell? ⟨gC, q * 10 + 0 + 0, none⟩ = _ from x0]; rfl)
            | 1, _ => exact (by rw [show wX.cell? ⟨gC, q * 10 + 0 + 1, none⟩ = _ from x1]; rfl)
            | 2, _ => exact (by rw [show wX.cell? ⟨gC, q * 10 + 0 + 2, none⟩ = _ from x2]; rfl)
            | 3, _ => exact (by rw [show wX.cell? ⟨gC, q * 10 + 0 + 3, none⟩ = _ from x3]; rfl)
            | 4, _ => exact (by rw [show wX.cell? ⟨gC, q * 10 + 0 + 4, none⟩ = _ from x4]; rfl)
            | 5, _ => exact (by rw [show wX.cell? ⟨gC, q * 10 + 0 + 5, none⟩ = _ from x5]; rfl)
            | 6, _ => exact (by rw [show wX.cell? ⟨gC, q * 10 + 0 + 6, none⟩ = _ from x6]; rfl)
            | 7, _ => exact (by rw [show wX.cell? ⟨gC, q * 10 + 0 + 7, none⟩ = _ from x7]; rfl)
            | 8, _ => exact (by rw [show wX.cell? ⟨gC, q * 10 + 0 + 8, none⟩ = _ from x8]; rfl)
            | 9, _ => exact (by rw [show wX.cell? ⟨gC, q * 10 + 0 + 9, none⟩ = _ from x9]; rfl)
          have HX := Lib.hid (And.intro BX (And.intro lX (And.intro xs v0)))
          clear x0 x1 x2 x3 x4 x5 x6 x7 x8 x9 xs v0
          clear hwX BX lX cK d0 d1 d2 d3 d4 d5 d6 d7 d8 d9
          have LG := HP.out.2.2.2.2.2.2.2.2.1
          have NE : g3 ≠ gC ∧ wr.heap.size ≠ gC := by
            refine ⟨fun e => ?_, by omega⟩
            have := HP.out.2.1.lay.inj .blocks (.code b) trivial (Nat.le_refl b) (by rw [HP.out.2.2.1, HP.out.2.2.2.1]; exact e)
            cases this
          have NEh := Lib.hid NE
          go_region_held3 (fun W => W.cell? ⟨g3, b * 4 + 3, none⟩ = some (.slice (some ⟨gC, 0, none⟩) kn kn) ∧ W.cell? ⟨wr.heap.size, 0, none⟩ = some (.int .i64 op) ∧ W.cell? ⟨wr.heap.size, 1, none⟩ = some (.int .i64 k0) ∧ W.cell? ⟨wr.heap.size, 2, none⟩ = some (.int .i64 k1) ∧ W.cell? ⟨wr.heap.size, 3, none⟩ = some (.int .i64 k2) ∧ W.cell? ⟨wr.heap.size, 4, none⟩ = some (.int .i64 k3) ∧ W.cell? ⟨wr.heap.size, 5, none⟩ = some (.slice aa an ac) ∧ W.cell? ⟨wr.heap.size, 6, none⟩ = some (.string name2) ∧ W.cell? ⟨wr.heap.size, 7, none⟩ = some (.int .i64 off) ∧ W.cell? ⟨wr.heap.size, 8, none⟩ = some (.slice la ln lc) ∧ W.cell? ⟨wr.heap.size, 9, none⟩ = some (.slice ca cn cc))
            (first | exact ⟨cKX, e0, e1, e2, e3, e4, e5, e6, e7, e8, e9⟩ | exact S1.out.1 | exact S2.out)
            (first | (go_at_call 43; (refine (copyI_v ⟨op, ⟨k0, k1, k2, k3⟩, args, name2, off, labels, cas⟩ ⟨aa, an, ac, la, ln, lc, ca, cn, cc⟩ wX.drew (HP.out.1.below ((HP.out.2.1.below.trans (HX.out.1.mono HP.out.2.1.below.size)).drew)) hs1 hs2 hs3).mono ?_); rintro e w6 ⟨u1, u2, u3, rfl, t1, t2, t3, t4, t5, t6, t7, t8⟩; (obtain ⟨cs, hcs⟩ : ∃ cs, insR ⟨op, ⟨k0, k1, k2, k3⟩, args, name2, off, labels, cas⟩ (ownI ⟨op, ⟨k0, k1, k2, k3⟩, args, name2, off, labels, cas⟩ ⟨aa, an, ac, la, ln, lc, ca, cn, cc⟩ u1 u2 u3) = cs := ⟨_, rfl⟩); rw [hcs]; have S1 := Lib.hid (And.intro (cp_keep wX w6 g3 gC b kn wr.heap.size op k0 k1 k2 k3 off name2 aa an ac la ln lc ca cn cc t8 cKX e0 e1 e2 e3 e4 e5 e6 e7 e8 e9) (And.intro t1 (And.intro t2 (And.intro t3 (And.intro t4 (And.intro t5 (And.intro t6 (And.intro t7 t8)))))))); have HST := rowTen_store w6 gC q (.int .i64 op) (.int .i64 k0) (.int .i64 k1) (.int .i64 k2) (.int .i64 k3) (.slice (some ⟨u1, 0, none⟩) an an) (.string name2) (.int .i64 off) (.slice (some ⟨u2, 0, none⟩) ln ln) (.slice (some ⟨u3, 0, none⟩) cn cn) (by intro v hv; simp at hv; rcases hv with rfl | rfl | rfl | rfl | rfl | rfl | rfl | rfl | rfl | rfl <;> rfl) (cp_some wX w6 gC q t8 LG2 HX.out.2.2.1) (fun j => (t8.frozen (p := ⟨gC, _, none⟩) LG2).trans (HX.out.2.2.2 j)); (obtain ⟨w7, hw7⟩ : ∃ w7, w7 = rowTen w6 gC q (.int .i64 op) (.int .i64 k0) (.int .i64 k1) (.int .i64 k2) (.int .i64 k3) (.slice (some ⟨u1, 0, none⟩) an an) (.string name2) (.int .i64 off) (.slice (some ⟨u2, 0, none⟩) ln ln) (.slice (some ⟨u3, 0, none⟩) cn cn) := ⟨_, rfl⟩); have HST2 : (storeCells ⟨gC, q * 10, none⟩ cs.toList).run Try.prog w6 = .ok () w7 := (by rw [hw7, ← hcs]; exact HST); have HSZ : cs.size = 10 := (by rw [← hcs]; rfl); have S2 := Lib.hid (cp_keep2 w6 w7 g3 gC b kn wr.heap.size q op k0 k1 k2 k3 off name2 aa an ac la ln lc ca cn cc _ _ _ _ _ _ _ _ _ _ hw7 NE.1 NE.2 S1.out.1); have H7 := Lib.hid (And.intro hw7 hcs); clear HST hw7 hcs; clear t1 t2 t3 t4 t5 t6 t7 t8) | (rw [HST2]; simp only [Result.andThen_ok]))
          have KP : Hid (PK f ⟨ra, rn, rc, pa, pn, pc, ba, nbl, bc, R⟩ w b (q + 1) g3 gC ⟨some ⟨g1, 0, none⟩, rn, rn, some ⟨g2, 0, none⟩, pn, pn, some ⟨g3, 0, none⟩, nbl, nbl, R⟩ w7) := by
            obtain ⟨hii, hpart, hG, hGC, hS1, hS2, hS3, hqf, hltc, hmc⟩ := HP.out
            obtain ⟨_, t1, t2, t3, t4, t5, t6, t7, t8⟩ := S1.out
            have K := hpart.inst b q hqf (Nat.le_refl b) u1 u2 u3 ⟨aa, an, ac, la, ln, lc, ca, cn, cc⟩ (by rw [HE.out.1]; exact hii.args.1.symm) (by rw [HE.out.1]; exact hii.labels.1.symm) (by rw [HE.out.1]; exact hii.cases.1.symm)
              (Nat.le_trans HX.out.1.size t1) t2 t3 (by rw [HE.out.1]; exact t5) (by rw [HE.out.1]; exact t6) (by rw [HE.out.1]; exact t7) ((HX.out.1.drew).trans (t8.mono HX.out.1.size))
            rw [HE.out.1, hGC] at K
            dsimp only at K
            rw [← H7.out.1] at K
            exact ⟨_, _, K.iff (doneK_succ f.parts b q), by unfold updGI updG; simp; exact hG, by unfold updGI updG; simp; exact hGC, by unfold updI updS; simp; exact hS1, by unfold updI updS; simp; exact hS2, by unfold updI updS; simp; exact hS3⟩
          clear HST2 S2 S1 H7 HSZ e0 e1 e2 e3 e4 e5 e6 e7 e8 e9 cKX LG LG2 NE
          go_wp2_with fail
          go_roundg (kn - q - 1)
          case measure => omega
          case rel => exact ⟨q + 1, by omega, by go_num, KP.out⟩
        · obtain rfl : q = kn := by omega
          have hge : ¬ (q : Int) < (q : Int) := by omega
          go_wp2_with fail
          go_roundg (nbl - b - 1)
          case measure => omega
          case rel =>
            refine ⟨b + 1, by omega, by go_num, ?_⟩
            obtain ⟨G, S, hpart, hG, hGC, hS1, hS2, hS3⟩ := HK.out
            have hk : f.parts.nk b = q := HI.out.2.2.1
            exact ⟨G, S, hpart.iff (fun p => by rw [doneK_all, hk]), hG, hS1, hS2, hS3⟩
    · obtain rfl : b = nbl := by omega
      have hge : ¬ (b : Int) < (b : Int) := by omega
      obtain ⟨G, S, hpart, hG, hS1, hS2, hS3⟩ := HB.out
      have hbox := hpart.box
      have hres := hpart.res
      rw [← EP.out] at hbox hres
      have hfv : funR f (f.parts.funV S) = #[.bool machine, .string name, .slice (some ⟨g1, 0, none⟩) rn rn, .slice (some ⟨g2, 0, none⟩) pn pn, .slice (some ⟨g3, 0, none⟩) b b] := by
        unfold funR FunD.funV
        have q1 : f.parts.len .regs = rn := D.out.2.2.2.2.2.1
        have q2 : f.parts.len .params = pn := D.out.2.2.2.2.2.2.1
        have q3 : f.parts.nb = b := HN.out
        rw [HF.out.1, HF.out.2, hS1, hS2, hS3, q1, q2, q3]
      rw [hfv] at hbox
      have s0 : wr.cell? ⟨P, 0, none⟩ = some (.bool machine) := cell_in hbox 0
      have s1 : wr.cell? ⟨P, 1, none⟩ = some (.string name) := cell_in hbox 1
      have s2 : wr.cell? ⟨P, 2, none⟩ = some (.slice (some ⟨g1, 0, none⟩) rn rn) := cell_in hbox 2
      have s3 : wr.cell? ⟨P, 3, none⟩ = some (.slice (some ⟨g2, 0, none⟩) pn pn) := cell_in hbox 3
      have s4 : wr.cell? ⟨P, 4, none⟩ = some (.slice (some ⟨g3, 0, none⟩) b b) := cell_in hbox 4
      have r0 : wr.cell? ⟨P + 1, 0, none⟩ = some (.bool false) := cell_in hres 0
      have r1 : wr.cell? ⟨P + 1, 1, none⟩ = some (.string ⟨#[]⟩) := cell_in hres 1
      have r2 : wr.cell? ⟨P + 1, 2, none⟩ = some (.slice none 0 0) := cell_in hres 2
      have r3 : wr.cell? ⟨P + 1, 3, none⟩ = some (.slice none 0 0) := cell_in hres 3
      have r4 : wr.cell? ⟨P + 1, 4, none⟩ = some (.slice none 0 0) := cell_in hres 4
      have v0 := froz_in hres 0
      have v1 := froz_in hres 1
      have v2 := froz_in hres 2
      have v3 := froz_in hres 3
      have v4 := froz_in hres 4
      have HZ := Lib.hid (And.intro hpart (And.intro hfv hres))
      clear hpart hG hS1 hS2 hS3 hbox hres hfv
      go_wp2_with fail
      obtain ⟨hpart, hfv, hres⟩ := HZ.out
      refine bodyPost_ret (results_cell_row (fn := Try.f17) rfl _ (lay5 wr (P + 1) (.bool machine) (.string name) (.slice (some ⟨g1, 0, none⟩) rn rn) (.slice (some ⟨g2, 0, none⟩) pn pn) (.slice (some ⟨g3, 0, none⟩) b b)) (P + 1) 31 #[.bool machine, .string name, .slice (some ⟨g1, 0, none⟩) rn rn, .slice (some ⟨g2, 0, none⟩) pn pn, .slice (some ⟨g3, 0, none⟩) b b] (0, 0) _ rfl (lay5_at hres) Try.underlying31 rfl (by kernel_rfl)) rfl ?_
      refine ⟨⟨G, S, by rw [hfv], ⟨(hpart.lay.keep (fun g hg _ => lay5_far (by rw [EP.out]; omega) _ _ _ _ _)).congr (fun p hp => by rw [← HN.out]; exact (doneB_valid f p).1 hp) (fun _ _ => rfl) (fun _ _ => rfl), fun p hp => hpart.spots p (by rw [← HN.out]; exact (doneB_valid f p).1 hp), D.out.2.2.2.2.1⟩, lay5_below _ _ _ _ _ hpart.below (by rw [EP.out]; omega)⟩⟩
end Go.Proofs.Ytocelaebokikcaa
