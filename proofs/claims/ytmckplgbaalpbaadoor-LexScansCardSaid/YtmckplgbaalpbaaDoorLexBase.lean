/- Tokens as values; what the program's right and wrong answer. -/
import Derived.Test.YtmckplgbaalpbaaDoorFauCore
import Derived.Test.YtmckplgbaalpbaaDoorNamScan
import Derived.Test.YtmckplgbaalpbaaDoorQuoGet
import Derived.Test.YtmckplgbaalpbaaDoorDeciScanTop
import Derived.Test.YtmckplgbaalpbaaDoorLexNum
namespace Go.Proofs.YtmckplgbaalpbaaDoor.Lex
open Go.ChangeShapes Go.WideShapes Go.RowKit
set_option linter.unusedVariables false
set_option maxRecDepth 20000

/-- A token's cells, and the token as a value. -/
def tc (k : Int) (s : ByteArray) (n c a : Int) : Array Value := #[.int .i64 k, .string s, .int .i64 n, .int .i64 c, .int .i64 a]
def tk (k : Int) (s : ByteArray) (n c a : Int) : Value := .agg (tc k s n c a)
def t0 : Array Value := tc 0 ⟨#[]⟩ 0 0 0
def sp (s : ByteArray) (a : Int) : Value := .agg #[.string s, .int .i64 a]
theorem results_cell3 {P : Program} {fn : Func} {p u v : Tmp} {ty : TypeId} (h : fn.results = #[.cell p ty, .tmp u, .tmp v]) (tmps : Array Value) (w : World) (g : Nat) (t : TypeId) (cs : Array Value) (fr : Nat × Nat) (d : TypeDesc)
    (hp : tmps.getD p undef = .pointer (some ⟨g, 0, none⟩)) (hg : w.heap[g]? = some (.cells cs t fr))
    (hu : P.underlying ty = some d) (hd : (match d with | .struct _ | .array _ _ => true | _ => false) = true) (hi : (P.info? ty).map (·.size) = some cs.size) :
    (results fn tmps).run P w = .ok (.tuple #[.agg cs, tmps.getD u undef, tmps.getD v undef]) w := by
  have hp' : tmps[p]?.getD undef = .pointer (some ⟨g, 0, none⟩) := by simpa using hp
  simp [results, h, hp', asAddr, run_loadVar_row w g t ty cs fr d hg hu hd hi]
/-- Five cells laid in. -/
def five (w : World) (b : Nat) (x0 x1 x2 x3 x4 : Value) : World := ((((w.setCell ⟨b, 0, none⟩ x0).setCell ⟨b, 1, none⟩ x1).setCell ⟨b, 2, none⟩ x2).setCell ⟨b, 3, none⟩ x3).setCell ⟨b, 4, none⟩ x4
theorem five_heap {w : World} {b : Nat} {x0 x1 x2 x3 x4 y0 y1 y2 y3 y4 : Value} {T : TypeId} (h : w.heap[b]? = some (.cells #[y0, y1, y2, y3, y4] T (0, 0))) : (five w b x0 x1 x2 x3 x4).heap[b]? = some (.cells #[x0, x1, x2, x3, x4] T (0, 0)) := by
  unfold five
  simp [World.setCell, Array.getElem?_modify, h]
theorem five_below {B : Nat} {w w1 : World} {b : Nat} {x0 x1 x2 x3 x4 : Value} (h : Below B w w1) (hb : B ≤ b) : Below B w (five w1 b x0 x1 x2 x3 x4) :=
  ((((h.setCell (p := ⟨b, 0, none⟩) hb _).setCell (p := ⟨b, 1, none⟩) hb _).setCell (p := ⟨b, 2, none⟩) hb _).setCell (p := ⟨b, 3, none⟩) hb _).setCell (p := ⟨b, 4, none⟩) hb _
theorem slice_run (s : ByteArray) (a e : Nat) (h1 : a ≤ e) (h2 : e ≤ s.size) (W : World) :
    (Instr.slice 9 (.string s) (some (.int .i64 (a : Int))) (some (.int .i64 (e : Int))) none).run Tryd.prog W = .ok (.string (s.extract a e)) W := by
  rw [run_slice_string W 9 _ .i64 .i64 _ _ Tryd.underlying9 (by omega) (by omega) (by omega)]
  rfl
theorem info37 : (Tryd.prog.info? 37).map (·.size) = some 5 := by kernel_rfl
/-- The answer of a token's reading, out of the cell that it stands in. -/
theorem fin3 {fn : Func} {p u v : Tmp} (h : fn.results = #[.cell p 37, .tmp u, .tmp v]) {act : Act} {w : World} {g : Nat} {k n c a : Int} {s : ByteArray} {R : Ending → World → Prop}
    (hp : act.tmps.getD p undef = .pointer (some ⟨g, 0, none⟩)) (hg : w.heap[g]? = some (.cells (tc k s n c a) 37 (0, 0))) (hd : act.defers = [])
    (hR : R (.returned (.tuple #[tk k s n c a, act.tmps.getD u undef, act.tmps.getD v undef])) w) : bodyPost Tryd.prog fn R .ret act w :=
  bodyPost_ret (results_cell3 h _ _ g 37 _ (0, 0) _ hp hg Tryd.underlying37 rfl info37) hd hR
theorem wrong_v (s : ByteArray) (a code : Int) (hc : ¬ code = 0) (w : World) :
    Calls Tryd.prog 48 #[sp s a, .int .i64 code] w fun e w' => e = .returned (.tuple #[.agg t0, .int .i64 0, Fau.bare code a]) ∧ Below w.heap.size w w' := by
  unfold sp
  have HC := Lib.hid hc
  clear hc
  go_enter Tryd.func48, Tryd.ntmps48
  go_wp2_with fail
  refine (Fau.new_v code a HC.out _).mono ?_
  rintro e w1 ⟨rfl, rfl⟩
  go_wp2_with fail
  refine fin3 (fn := Tryd.f48) rfl rfl (heap_alloc2_new w _ _) rfl ?_
  exact ⟨rfl, ((Below.refl _ w).alloc (Nat.le_refl _) _).alloc (by simp) _⟩
theorem heap_alloc3_new (w : World) (A B C : Obj) : (((w.alloc A).alloc B).alloc C).heap[w.heap.size + 1 + 1]? = some C := by
  have h := heap_alloc2_new (w.alloc A) B C
  have e : (w.alloc A).heap.size = w.heap.size + 1 := by
    show (w.heap.push A).size = _
    simp
  rwa [e] at h
theorem right_v (s : ByteArray) (a e : Nat) (h1 : a ≤ e) (h2 : e ≤ s.size) (k n c a0 : Int) (s0 : ByteArray) (w : World) :
    Calls Tryd.prog 46 #[sp s a, tk k s0 n c a0, .int .i64 (e : Int)] w fun e1 w' => e1 = .returned (.tuple #[tk k (s.extract a e) n c a, .int .i64 (e : Int), .nilIface]) ∧ Below w.heap.size w w' := by
  have hs := slice_run s a e h1 h2
  unfold sp tk tc
  clear h1 h2
  go_enter Tryd.func46, Tryd.ntmps46
  go_wp2_with fail
  refine fin3 (fn := Tryd.f46) rfl rfl (heap_alloc3_new w _ _ _) rfl ?_
  exact ⟨rfl, (((Below.refl _ w).alloc (Nat.le_refl _) _).alloc (by simp) _).alloc (by simp; omega) _⟩
/-- The blocks of a reading's own: the spot, and the answer's cells; and what a call behind leaves of them. -/
def spotW (w : World) (s : ByteArray) (a : Int) : World := (w.alloc (.cells #[.string s, .int .i64 a] 48)).alloc (.cells t0 37)
structure Mine (w w1 : World) (s : ByteArray) (a : Int) : Prop where
  below : Below w.heap.size w w1
  z : w1.heap[w.heap.size + 1]? = some (.cells t0 37 (0, 0))
  p : w1.heap[w.heap.size]? = some (.cells #[.string s, .int .i64 a] 48 (0, 0))
theorem mine_start (w : World) (s : ByteArray) (a : Int) : Mine w (spotW w s a) s a :=
  ⟨((Below.refl _ w).alloc (Nat.le_refl _) _).alloc (by simp) _, heap_alloc2_new w _ _, heap_alloc2_old w _ _⟩
theorem Mine.next {w w1 w2 : World} {s : ByteArray} {a : Int} (h : Mine w w1 s a) (hb : Below w1.heap.size w1 w2) : Mine w w2 s a := by
  have hlt := Fau.fresh0 h.z
  have hlp := Fau.fresh0 h.p
  exact ⟨h.below.trans (hb.mono h.below.size), (hb.block _ hlt).trans h.z, (hb.block _ hlp).trans h.p⟩
theorem Mine.cells {w w1 : World} {s : ByteArray} {a : Int} (h : Mine w w1 s a) :
    w1.cell? ⟨w.heap.size + 1, 0, none⟩ = some (.int .i64 0) ∧ w1.cell? ⟨w.heap.size + 1, 1, none⟩ = some (.string ⟨#[]⟩) ∧ w1.cell? ⟨w.heap.size + 1, 2, none⟩ = some (.int .i64 0) ∧
    w1.cell? ⟨w.heap.size + 1, 3, none⟩ = some (.int .i64 0) ∧ w1.cell? ⟨w.heap.size + 1, 4, none⟩ = some (.int .i64 0) := by
  refine ⟨?_, ?_, ?_, ?_, ?_⟩ <;> (rw [Lib.cell_of_heap h.z]; rfl)
theorem Mine.frozen {w w1 : World} {s : ByteArray} {a : Int} (h : Mine w w1 s a) : w1.frozen? ⟨w.heap.size + 1, 0, none⟩ = false ∧ w1.frozen? ⟨w.heap.size + 1, 1, none⟩ = false ∧
    w1.frozen? ⟨w.heap.size + 1, 2, none⟩ = false ∧ w1.frozen? ⟨w.heap.size + 1, 3, none⟩ = false ∧ w1.frozen? ⟨w.heap.size + 1, 4, none⟩ = false :=
  ⟨Lib.frozen_of_heap h.z 0, Lib.frozen_of_heap h.z 1, Lib.frozen_of_heap h.z 2, Lib.frozen_of_heap h.z 3, Lib.frozen_of_heap h.z 4⟩
theorem Mine.spot {w w1 : World} {s : ByteArray} {a : Int} (h : Mine w w1 s a) : w1.cell? ⟨w.heap.size, 0, none⟩ = some (.string s) ∧ w1.cell? ⟨w.heap.size, 1, none⟩ = some (.int .i64 a) := by
  refine ⟨?_, ?_⟩ <;> (rw [Lib.cell_of_heap h.p]; rfl)
theorem Mine.five {w w1 : World} {s : ByteArray} {a : Int} (h : Mine w w1 s a) (x0 x1 x2 x3 x4 : Value) : (Lex.five w1 (w.heap.size + 1) x0 x1 x2 x3 x4).heap[w.heap.size + 1]? = some (.cells #[x0, x1, x2, x3, x4] 37 (0, 0)) ∧ Below w.heap.size w (Lex.five w1 (w.heap.size + 1) x0 x1 x2 x3 x4) :=
  ⟨five_heap h.z, five_below h.below (Nat.le_succ _)⟩
/-- sign: a sign of one byte. -/
theorem sign_v (s : ByteArray) (a e : Nat) (h : a < s.size) (hs : s.size ≤ 100000) (hae : a + 1 = e) (w : World) :
    Calls Tryd.prog 32 #[sp s a] w fun e1 w' => e1 = .returned (.tuple #[tk 7 (s.extract a e) 0 0 a, .int .i64 (e : Int), .nilIface]) ∧ Below w.heap.size w w' := by
  have hr := right_v s a e (by omega) (by omega) 7 0 0 0 ⟨#[]⟩
  have M0 := Lib.hid (mine_start w s a)
  unfold sp at hr ⊢
  have he : (a : Int) + 1 = (e : Int) := by omega
  have HR := Lib.hid hr
  clear hr hae
  go_enter Tryd.func32, Tryd.ntmps32
  go_wp2_with fail
  refine (HR.out _).mono ?_
  rintro e w1 ⟨rfl, hb⟩
  have M1 := Lib.hid (M0.out.next hb)
  obtain ⟨z0, z1, z2, z3, z4⟩ := M1.out.cells
  obtain ⟨f0, f1, f2, f3, f4⟩ := M1.out.frozen
  clear hb
  unfold tk tc
  go_wp2_with fail
  refine fin3 (fn := Tryd.f32) rfl rfl (M1.out.five _ _ _ _ _).1 rfl ?_
  exact ⟨rfl, (M1.out.five _ _ _ _ _).2⟩
end Go.Proofs.YtmckplgbaalpbaaDoor.Lex
