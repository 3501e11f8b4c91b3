/- Packed texts of one proof. Conditions: none. -/
import Derived.Test.YtbpichjmkllfaaaGreatDoorPq28
import Derived.Laws.StructEq
import Derived.ChangeKeysEq
import Derived.Laws.Strings
namespace Go.Proofs.YtbpichjmkllfaaaGreatDoor.Flt
open Go.RowKit Go.Extern.Stop Go.Stop Go.Extern
set_option linter.unusedVariables false
def texts (l : List ByteArray) : List Value := l.map fun s => .string s
def Owns (base : Nat) (w : World) (A : Option Addr) (c : Nat) (l : List ByteArray) : Prop := w.ownsRow base 9 1 (.slice A l.length c) l.length (texts l)
theorem info9 : (Tryz.prog.info? 9).map (fun i => (i.zero, i.size, i.bytes)) = some (some (.string ⟨#[]⟩), 1, 16) := by kernel_rfl
theorem news_new (w : World) (cs : Array Value) (t : TypeId) (l : List Value) (hl : cs.toList = l) : ∀ j u, l[j]? = some u → (w.alloc (.cells cs t)).cell? ((⟨w.heap.size, 0, none⟩ : Addr).add j) = some u := by
 subst hl
 exact World.news_of_block (heap_alloc_new w _)
theorem own_next {base : Nat} {w wr w1 : World} {A : Option Addr} {c : Nat} {t : List ByteArray} {p : ByteArray} {v' : Value} {o : Obj}
  (ho : w1.ownsRow base 9 1 v' (t.length + 1) (texts t ++ [.string p]))
  (hg : (wr.alloc o).grownBy w1 (Value.ownBlock (.slice A t.length c))) (hown : Owns base wr A c t) (hb : Below base w wr) (hB : base ≤ wr.heap.size) :
  ∃ A' c', v' = .slice A' (t ++ [p]).length c' ∧ Owns base w1 A' c' (t ++ [p]) ∧ Below base w w1 := by
 obtain ⟨g, cap, rfl, _, _⟩ := ho.form (by omega)
 have e1 : (t ++ [p]).length = t.length + 1 := by simp
 have e2 : texts (t ++ [p]) = texts t ++ [.string p] := by unfold texts; rw [List.map_append]; rfl
 unfold Owns
 rw [e1, e2]
 refine ⟨_, _, rfl, ho, ?_⟩
 have h1 : Below base w (wr.alloc o) := hb.alloc hB o
 exact h1.grown hg (by simp; omega) (fun k hk => (hown.lt k hk).1)
theorem own_ne {base : Nat} {w : World} {A : Option Addr} {c b : Nat} {t : List ByteArray} {cs : Array Value} (h : Owns base w A c t) (hb : w.heap[b]? = some (.cells cs 76 (0, 0))) : Value.ownBlock (.slice A t.length c) ≠ some b :=
 Lib.ownBlock_ne h hb (by decide)
set_option maxRecDepth 100000 in
set_option maxHeartbeats 4000000 in
theorem path_v (code place : Int) (path : List ByteArray) (hl : path.length ≤ 1000) (w : World) (hg : Glob w) :
  Calls Tryz.prog 10 #[err code place path] w fun e w' => ∃ A c, e = .returned (.slice A path.length c) ∧ Owns w.heap.size w' A c path ∧ Below w.heap.size w w' := by
 obtain ⟨i0, hi0, hz0, hz1, hz2⟩ := info_parts info9
 have I0 := Hh (Ai hi0 (Ai hz0 (Ai hz1 hz2)))
 clear hi0 hz0 hz1 hz2
 have HG := Hh (Ai hg hl)
 clear hg hl
 go_enter Tryz.func10, Tryz.ntmps10
 go_wp2_with fail
 go_loopg [0, 3] path.length (fun gk v u wr => ∃ (r t : List ByteArray) (A : Option Addr) (c : Nat) (x y : Value), r.length = gk ∧ v = err code place r ∧ u = .slice A t.length c ∧
  Hid (t ++ r = path ∧ Owns w.heap.size wr A c t ∧ Below w.heap.size w wr ∧ wr.heap[w.heap.size]? = some (.cells #[x, y] 76 (0, 0))))
 case atStart => exact ⟨path, [], none, 0, _, _, rfl, rfl, rfl, rfl, World.ownsRow_nil _ _ _ _, (Below.refl _ w).alloc (Nat.le_refl _) _, heap_alloc_new w _⟩
 case round =>
  obtain ⟨r, t, A, c, x, y, hr, rfl, rfl, HH⟩ := hrel
  have HW := Hh (HG.out.1.below HH.out.2.2.1 HG.out.1.pos)
  cases r with
  | nil =>
   have hf : t = path := by have := HH.out.1; simpa using this
   clear hr
   have HF := Hh hf
   clear hf
   go_wp2_with fail
   refine (As_miss code place w.heap.size wr HW.out).mono ?_
   rintro e w1 ⟨rfl, hb⟩
   have H1 := Hh hb
   clear hb
   go_wp2_with fail
   go_ret
   have ho : Owns w.heap.size w1 A c t := HH.out.2.1.kept (row := none) ⟨H1.out.os, H1.out.tape, H1.out.output, H1.out.size, fun k hk _ => H1.out.block k hk⟩ (by cases hv : Value.ownBlock (.slice A t.length c) <;> simp)
   refine ⟨A, c, ?_, ?_, HH.out.2.2.1.trans (H1.out.mono HH.out.2.2.1.size)⟩
   ·rw [← HF.out]; rfl
   ·rw [← HF.out]; exact ho
  | cons p r =>
   obtain ⟨T, v, hE, hC⟩ := err_cons code place p r
   have HE := Hh hE
   rw [hC]
   clear hE hC
   obtain ⟨q, rfl⟩ : ∃ q, gk = q + 1 := ⟨r.length, by simpa using hr.symm⟩
   have HR := Hh hr
   clear hr
   have htl : t.length ≤ 1000 := by
    have h1 := congrArg List.length HH.out.1
    have h2 := HG.out.2
    simp at h1; omega
   have HTL := Hh htl
   clear htl
   go_wp2_with fail
   refine (As_w p T v w.heap.size x y wr HW.out HH.out.2.2.2).mono ?_
   rintro e w1 ⟨rfl, hgr, hh⟩
   have c0 : w1.cell? ⟨w.heap.size, 0, none⟩ = some (.string p) := by rw [Lib.cell_of_heap hh]; rfl
   have ho1 : Owns w.heap.size w1 A c t := HH.out.2.1.kept hgr (.inr (own_ne HH.out.2.1 HH.out.2.2.2))
   have hb1 : Below w.heap.size w w1 := HH.out.2.2.1.grown hgr HH.out.2.2.1.size (fun k hk => by injection hk with hk; omega)
   have H1 := Hh (Ai ho1 (Ai hb1 hh))
   clear ho1 hb1 hgr hh
   go_wp2_with (at_builtin; refine wpList_append_own _ rfl _ _ 35 rfl w.heap.size 9 i0 (.string ⟨#[]⟩) 1 16 Tryz.underlying35 I0.out.1 I0.out.2.1 I0.out.2.2.1 I0.out.2.2.2 rfl (by decide) _ _ _ rfl (H1.out.1.alloc _) ⟨w1.heap.size, 0, none⟩ 1 1 _ rfl rfl (news_new _ _ _ _ rfl) (by intro x hx; simp at hx; subst hx; rfl) (by have := HTL.out; unfold maxLen; omega) (by have := HTL.out; omega) (by have := H1.out.2.1.size; simp; omega) ?_)
   intro v' w2 hown' hgrow _
   have hh2 : w2.heap[w.heap.size]? = some (.cells #[.string p, .iface T v] 76 (0, 0)) := by
    rw [hgrow.block _ (by have := fresh0 H1.out.2.2; simp; omega) (fun e => own_ne H1.out.1 H1.out.2.2 e.symm), Below.heap_alloc _ _ _ (fresh0 H1.out.2.2)]; exact H1.out.2.2
   have c1 : w2.cell? ⟨w.heap.size, 1, none⟩ = some (.iface T v) := by rw [Lib.cell_of_heap hh2]; rfl
   obtain ⟨A', c', rfl, h2, h3⟩ := own_next hown' hgrow H1.out.1 H1.out.2.1 H1.out.2.1.size
   have H2 := Hh (Ai h2 (Ai h3 hh2))
   clear hown' hgrow h2 h3 hh2
   go_wp2_with fail
   go_roundg q
   case measure => omega
   case rel => exact ⟨r, t ++ [p], A', c', _, _, by have := HR.out; simpa using this, HE.out.symm, rfl, by have := HH.out.1; simpa using this, H2.out⟩
set_option maxRecDepth 100000 in
theorem path_nil (w : World) :
  Calls Tryz.prog 10 #[.nilIface] w fun e w' => e = .returned (.slice none 0 0) ∧ Below w.heap.size w w' := by
 go_enter Tryz.func10, Tryz.ntmps10
 go_wp2_with fail
 refine wp_loop_rounds 1 ?_
 rw [rounds_succ]
 go_wp2_with fail
 refine (as_nil _ _).mono ?_
 rintro e w1 ⟨rfl, rfl⟩
 go_wp2_with fail
 go_ret
 exact ⟨rfl, (Below.refl _ w).alloc (Nat.le_refl _) _⟩
end Go.Proofs.YtbpichjmkllfaaaGreatDoor.Flt
namespace Go.Proofs.YtbpichjmkllfaaaGreatDoor
open Go.ChangeShapes Go.WideShapes Go.RowKit
set_option linter.unusedVariables false
set_option maxRecDepth 20000
theorem fields64 : Tryz.prog.underlying 64 = some (.struct (Tryz.prog.fieldsOf 64)) := by kernel_rfl
theorem held64 : Tryz.prog.stoodInHeld 64 = false := by kernel_rfl
theorem part64_0 (k c n t : Int) (w : World) : (part 3 #[.int .i64 k, .int .i64 c, .int .i64 n, .int .i64 t] 0).run Tryz.prog w = .ok (.int .i64 k) w := by kernel_rfl
theorem part64_1 (k c n t : Int) (w : World) : (part 3 #[.int .i64 k, .int .i64 c, .int .i64 n, .int .i64 t] 1).run Tryz.prog w = .ok (.int .i64 c) w := by kernel_rfl
theorem part64_2 (k c n t : Int) (w : World) : (part 3 #[.int .i64 k, .int .i64 c, .int .i64 n, .int .i64 t] 2).run Tryz.prog w = .ok (.int .i64 n) w := by kernel_rfl
theorem part64_3 (k c n t : Int) (w : World) : (part 3 #[.int .i64 k, .int .i64 c, .int .i64 n, .int .i64 t] 3).run Tryz.prog w = .ok (.int .i64 t) w := by kernel_rfl
theorem names64 : (Tryz.prog.fieldsOf 64).toList.map (fun f => (f.name, f.type, f.offset)) = [("Kind", 3, 0), ("Class", 3, 1), ("N", 3, 2), ("Tag", 3, 3)] := by kernel_rfl
theorem eqf64 (k c n t k' c' n' t' : Int) (w : World) (d : Nat) (fs : List Field) (h : fs.map (fun f => (f.name, f.type, f.offset)) = [("Kind", 3, 0), ("Class", 3, 1), ("N", 3, 2), ("Tag", 3, 3)]) :
  (Op.eqFields (d + 1) #[.int .i64 k, .int .i64 c, .int .i64 n, .int .i64 t] #[.int .i64 k', .int .i64 c', .int .i64 n', .int .i64 t'] fs).run Tryz.prog w = .ok (k == k' && (c == c' && (n == n' && (t == t')))) w := by
 obtain ⟨f0, f1, f2, f3, rfl⟩ : ∃ f0 f1 f2 f3, fs = [f0, f1, f2, f3] := by
  have hl : fs.length = 4 := by have := congrArg List.length h; simpa using this
  match fs, hl with
  | [f0, f1, f2, f3], _ => exact ⟨f0, f1, f2, f3, rfl⟩
 simp only [List.map_cons, List.map_nil, List.cons.injEq, Prod.mk.injEq] at h
 obtain ⟨⟨a0, b0, d0⟩, ⟨a1, b1, d1⟩, ⟨a2, b2, d2⟩, ⟨a3, b3, d3⟩, _⟩ := h
 simp [Op.eqFields, a0, b0, d0, a1, b1, d1, a2, b2, d2, a3, b3, d3, part64_0, part64_1, part64_2, part64_3, run_equalIn_int _ _ _ _ _ _ _ Tryz.underlying3, Result.andThen]
 clear a0 b0 d0 a1 b1 d1 a2 b2 d2 a3 b3 d3
 cases h0 : k == k' <;> cases h1 : c == c' <;> cases h2 : n == n' <;> cases h3 : t == t' <;> simp_all
theorem eqIn64 (k c n t k' c' n' t' : Int) (r : Bool) (hr : (k == k' && (c == c' && (n == n' && (t == t')))) = r) (W : World) : (Op.equalIn 10000 64 (.agg #[.int .i64 k, .int .i64 c, .int .i64 n, .int .i64 t]) (.agg #[.int .i64 k', .int .i64 c', .int .i64 n', .int .i64 t'])).run Tryz.prog W = .ok r W := by
 rw [run_equalIn_struct W (P := Tryz.prog) 9999 64 _ _ fields64 held64, eqf64 k c n t k' c' n' t' W 9998 _ names64, hr]
theorem eql64 (k c n t k' c' n' t' : Int) (r : Bool) (hr : (k == k' && (c == c' && (n == n' && (t == t')))) = r) (W : World) : (binOp .eql 64 (.agg #[.int .i64 k, .int .i64 c, .int .i64 n, .int .i64 t]) (.agg #[.int .i64 k', .int .i64 c', .int .i64 n', .int .i64 t'])).run Tryz.prog W = .ok (.bool r) W := by
 rw [run_eql_struct, eqIn64 k c n t k' c' n' t' r hr W]; rfl
theorem neq64 (k c n t k' c' n' t' : Int) (r : Bool) (hr : (k == k' && (c == c' && (n == n' && (t == t')))) = !r) (W : World) : (binOp .neq 64 (.agg #[.int .i64 k, .int .i64 c, .int .i64 n, .int .i64 t]) (.agg #[.int .i64 k', .int .i64 c', .int .i64 n', .int .i64 t'])).run Tryz.prog W = .ok (.bool r) W := by
 rw [run_neq_struct, eqIn64 k c n t k' c' n' t' _ hr W]; cases r <;> rfl
theorem fields81 : Tryz.prog.underlying 81 = some (.struct (Tryz.prog.fieldsOf 81)) := by kernel_rfl
theorem held81 : Tryz.prog.stoodInHeld 81 = false := by kernel_rfl
theorem part81_0 (k c : Int) (w : World) : (part 3 #[.int .i64 k, .int .i64 c] 0).run Tryz.prog w = .ok (.int .i64 k) w := by kernel_rfl
theorem part81_1 (k c : Int) (w : World) : (part 3 #[.int .i64 k, .int .i64 c] 1).run Tryz.prog w = .ok (.int .i64 c) w := by kernel_rfl
theorem names81 : (Tryz.prog.fieldsOf 81).toList.map (fun f => (f.name, f.type, f.offset)) = [("ID", 3, 0), ("Class", 3, 1)] := by kernel_rfl
theorem eqf81 (k c k' c' : Int) (w : World) (d : Nat) (fs : List Field) (h : fs.map (fun f => (f.name, f.type, f.offset)) = [("ID", 3, 0), ("Class", 3, 1)]) :
  (Op.eqFields (d + 1) #[.int .i64 k, .int .i64 c] #[.int .i64 k', .int .i64 c'] fs).run Tryz.prog w = .ok (k == k' && (c == c')) w := by
 obtain ⟨f0, f1, rfl⟩ : ∃ f0 f1, fs = [f0, f1] := by
  have hl : fs.length = 2 := by have := congrArg List.length h; simpa using this
  match fs, hl with
  | [f0, f1], _ => exact ⟨f0, f1, rfl⟩
 simp only [List.map_cons, List.map_nil, List.cons.injEq, Prod.mk.injEq] at h
 obtain ⟨⟨a0, b0, d0⟩, ⟨a1, b1, d1⟩, _⟩ := h
 simp [Op.eqFields, a0, b0, d0, a1, b1, d1, part81_0, part81_1, run_equalIn_int _ _ _ _ _ _ _ Tryz.underlying3, Result.andThen]
 clear a0 b0 d0 a1 b1 d1
 cases h0 : k == k' <;> cases h1 : c == c' <;> simp_all
theorem eqIn81 (k c k' c' : Int) (r : Bool) (hr : (k == k' && (c == c')) = r) (W : World) : (Op.equalIn 10000 81 (.agg #[.int .i64 k, .int .i64 c]) (.agg #[.int .i64 k', .int .i64 c'])).run Tryz.prog W = .ok r W := by
 rw [run_equalIn_struct W (P := Tryz.prog) 9999 81 _ _ fields81 held81, eqf81 k c k' c' W 9998 _ names81, hr]
theorem neq81 (k c k' c' : Int) (r : Bool) (hr : (k == k' && (c == c')) = !r) (W : World) : (binOp .neq 81 (.agg #[.int .i64 k, .int .i64 c]) (.agg #[.int .i64 k', .int .i64 c'])).run Tryz.prog W = .ok (.bool r) W := by
 rw [run_neq_struct, eqIn81 k c k' c' _ hr W]; cases r <;> rfl
theorem Below.drewQ {B : Nat} {a w : World} (h : Below B a w) (n : Nat) : Below B a (w.drewN n) := ⟨h.os, h.tape, h.output, h.size, h.block⟩
set_option maxHeartbeats 1000000 in
theorem eq29_v (A A' : Option Addr) (n n' c c' : Nat) (l l' : List Opn) (w : World) (h : IsOps w A n l) (h' : IsOps w A' n' l') :
  Calls Tryz.prog 29 #[.slice A n c, .slice A' n' c'] w fun e w' => e = .returned (.bool (sameL opEq l l')) ∧ Below w.heap.size w w' := by
 have hl := h.1
 have hl' := h'.1
 have hm := h.2.1
 by_cases hn : ¬ n = n'
 ·rw [sameL_len opEq l l' (by omega)]
  have i1 : ¬ (n : Int) = (n' : Int) := by omega
  clear h h' hl hl'
  go_enter Tryz.func29, Tryz.ntmps29
  go_wp2_with fail
  go_ret
  exact ⟨rfl, Below.refl _ _⟩
 have hn := Decidable.not_not.1 hn
 subst hn
 have H0 := Hh (Ai h (Ai h' (Ai hl hl')))
 clear h h' hl hl'
 go_enter Tryz.func29, Tryz.ntmps29
 go_wp2_with fail
 go_loopg [5] n (fun gk u wr => ∃ k : Nat, k + gk = n ∧ u = .int .i64 (k : Int) ∧ Hid (Below w.heap.size w wr ∧ ∀ (j : Nat) (x y : Opn), j < k → l[j]? = some x → l'[j]? = some y → opEq x y = true))
 case atStart => exact ⟨0, by omega, rfl, Below.refl _ _, fun j x y hj => by omega⟩
 case round =>
  obtain ⟨k, hk, rfl, HH⟩ := hrel
  by_cases hlt : k < n
  ·obtain ⟨h, h', hl, hl'⟩ := H0.out
   obtain ⟨b, o, rfl, hb, x, hx, c0, c1, c2, c3⟩ := (h.below HH.out.1).at hlt
   obtain ⟨b', o', rfl, hb', y, hy, d0, d1, d2, d3⟩ := (h'.below HH.out.1).at hlt
   have i1 : (k : Int) < (n : Int) := by omega
   cases hq : opEq x y
   ·have R : sameL opEq l l' = false := sameL_no opEq l l' k x y hx hy hq
    have HX := Hh R
    clear h h' hl hl' R hx hy
    obtain ⟨pk, pc, pn, pt⟩ := x
    obtain ⟨qk, qc, qn, qt⟩ := y
    dsimp only at c0 c1 c2 c3 d0 d1 d2 d3
    unfold opEq at hq; dsimp only at hq
    have E := neq64 pk pc pn pt qk qc qn qt true (by simpa using hq)
    clear hq
    go_wp2_with fail
    go_quiet (fail)
    go_wp2_with fail
    go_ret
    exact ⟨by rw [HX.out]; rfl, (Below.drewQ HH.out.1 _)⟩
   ·have R : Hid (∀ (j : Nat) (x y : Opn), j < k + 1 → l[j]? = some x → l'[j]? = some y → opEq x y = true) := Hh (fun j x2 y2 hj h2 h3 => by
     rcases Nat.lt_or_ge j k with h4 | h4
     ·exact HH.out.2 j x2 y2 h4 h2 h3
     ·obtain rfl : j = k := by omega
      rw [hx] at h2; injection h2 with h2; rw [hy] at h3; injection h3 with h3
      subst h2 h3; exact hq)
    clear h h' hl hl' hx hy
    obtain ⟨pk, pc, pn, pt⟩ := x
    obtain ⟨qk, qc, qn, qt⟩ := y
    dsimp only at c0 c1 c2 c3 d0 d1 d2 d3
    unfold opEq at hq; dsimp only at hq
    have E := neq64 pk pc pn pt qk qc qn qt false (by simpa using hq)
    clear hq
    go_wp2_with fail
    go_quiet (fail)
    go_wp2_with fail
    go_roundg (gk - 1)
    case measure => omega
    case rel => exact ⟨k + 1, by omega, by go_num, (Below.drewQ HH.out.1 _), R.out⟩
  ·obtain rfl : k = n := by omega
   have hge : ¬ (k : Int) < (k : Int) := by omega
   have R : sameL opEq l l' = true := sameL_yes opEq l l' (by rw [H0.out.2.2.1, H0.out.2.2.2]) (fun j x y hx hy => HH.out.2 j x y (by
    have := (List.getElem?_eq_some_iff.1 hx).1; have := H0.out.2.2.1; omega) hx hy)
   have HX := Hh R
   clear R
   go_wp2_with fail
   go_ret
   exact ⟨by rw [HX.out]; rfl, HH.out.1⟩
set_option maxHeartbeats 1000000 in
theorem eq105_v (A A' : Option Addr) (n n' c c' : Nat) (l l' : List ByteArray) (w : World) (h : IsStrs w A n l) (h' : IsStrs w A' n' l') :
  Calls Tryz.prog 105 #[.slice A n c, .slice A' n' c'] w fun e w' => e = .returned (.bool (sameL strEq l l')) ∧ Below w.heap.size w w' := by
 have hl := h.1
 have hl' := h'.1
 have hm := h.2.1
 by_cases hn : ¬ n = n'
 ·rw [sameL_len strEq l l' (by omega)]
  have i1 : ¬ (n : Int) = (n' : Int) := by omega
  clear h h' hl hl'
  go_enter Tryz.func105, Tryz.ntmps105
  go_wp2_with fail
  go_ret
  exact ⟨rfl, Below.refl _ _⟩
 have hn := Decidable.not_not.1 hn
 subst hn
 have H0 := Hh (Ai h (Ai h' (Ai hl hl')))
 clear h h' hl hl'
 go_enter Tryz.func105, Tryz.ntmps105
 go_wp2_with fail
 go_loopg [5] n (fun gk u wr => ∃ k : Nat, k + gk = n ∧ u = .int .i64 (k : Int) ∧ Hid (Below w.heap.size w wr ∧ ∀ (j : Nat) (x y : ByteArray), j < k → l[j]? = some x → l'[j]? = some y → strEq x y = true))
 case atStart => exact ⟨0, by omega, rfl, Below.refl _ _, fun j x y hj => by omega⟩
 case round =>
  obtain ⟨k, hk, rfl, HH⟩ := hrel
  by_cases hlt : k < n
  ·obtain ⟨h, h', hl, hl'⟩ := H0.out
   obtain ⟨b, o, rfl, hb, x, hx, c0⟩ := (h.below HH.out.1).at hlt
   obtain ⟨b', o', rfl, hb', y, hy, d0⟩ := (h'.below HH.out.1).at hlt
   have i1 : (k : Int) < (n : Int) := by omega
   cases hq : strEq x y
   ·have R : sameL strEq l l' = false := sameL_no strEq l l' k x y hx hy hq
    have HX := Hh R
    clear h h' hl hl' R hx hy
    have E : (x.toList == y.toList) = false := hq
    have E' : ¬ x.toList = y.toList := by simpa using E
    clear hq
    go_wp2_with fail
    go_quiet (fail)
    go_wp2_with fail
    go_ret
    exact ⟨by rw [HX.out]; rfl, (Below.drewQ HH.out.1 _)⟩
   ·have R : Hid (∀ (j : Nat) (x y : ByteArray), j < k + 1 → l[j]? = some x → l'[j]? = some y → strEq x y = true) := Hh (fun j x2 y2 hj h2 h3 => by
     rcases Nat.lt_or_ge j k with h4 | h4
     ·exact HH.out.2 j x2 y2 h4 h2 h3
     ·obtain rfl : j = k := by omega
      rw [hx] at h2; injection h2 with h2; rw [hy] at h3; injection h3 with h3
      subst h2 h3; exact hq)
    clear h h' hl hl' hx hy
    have E : (x.toList == y.toList) = true := hq
    have E' : x.toList = y.toList := by simpa using E
    clear hq
    go_wp2_with fail
    go_quiet (fail)
    go_wp2_with fail
    go_roundg (gk - 1)
    case measure => omega
    case rel => exact ⟨k + 1, by omega, by go_num, (Below.drewQ HH.out.1 _), R.out⟩
  ·obtain rfl : k = n := by omega
   have hge : ¬ (k : Int) < (k : Int) := by omega
   have R : sameL strEq l l' = true := sameL_yes strEq l l' (by rw [H0.out.2.2.1, H0.out.2.2.2]) (fun j x y hx hy => HH.out.2 j x y (by
    have := (List.getElem?_eq_some_iff.1 hx).1; have := H0.out.2.2.1; omega) hx hy)
   have HX := Hh R
   clear R
   go_wp2_with fail
   go_ret
   exact ⟨by rw [HX.out]; rfl, HH.out.1⟩
set_option maxHeartbeats 1000000 in
theorem eq106_v (A A' : Option Addr) (n n' c c' : Nat) (l l' : List Int) (w : World) (h : IsInts w A n l) (h' : IsInts w A' n' l') :
  Calls Tryz.prog 106 #[.slice A n c, .slice A' n' c'] w fun e w' => e = .returned (.bool (sameL intEq l l')) ∧ Below w.heap.size w w' := by
 have hl := h.1
 have hl' := h'.1
 have hm := h.2.1
 by_cases hn : ¬ n = n'
 ·rw [sameL_len intEq l l' (by omega)]
  have i1 : ¬ (n : Int) = (n' : Int) := by omega
  clear h h' hl hl'
  go_enter Tryz.func106, Tryz.ntmps106
  go_wp2_with fail
  go_ret
  exact ⟨rfl, Below.refl _ _⟩
 have hn := Decidable.not_not.1 hn
 subst hn
 have H0 := Hh (Ai h (Ai h' (Ai hl hl')))
 clear h h' hl hl'
 go_enter Tryz.func106, Tryz.ntmps106
 go_wp2_with fail
 go_loopg [5] n (fun gk u wr => ∃ k : Nat, k + gk = n ∧ u = .int .i64 (k : Int) ∧ Hid (Below w.heap.size w wr ∧ ∀ (j : Nat) (x y : Int), j < k → l[j]? = some x → l'[j]? = some y → intEq x y = true))
 case atStart => exact ⟨0, by omega, rfl, Below.refl _ _, fun j x y hj => by omega⟩
 case round =>
  obtain ⟨k, hk, rfl, HH⟩ := hrel
  by_cases hlt : k < n
  ·obtain ⟨h, h', hl, hl'⟩ := H0.out
   obtain ⟨b, o, rfl, hb, x, hx, c0⟩ := (h.below HH.out.1).at hlt
   obtain ⟨b', o', rfl, hb', y, hy, d0⟩ := (h'.below HH.out.1).at hlt
   have i1 : (k : Int) < (n : Int) := by omega
   cases hq : intEq x y
   ·have R : sameL intEq l l' = false := sameL_no intEq l l' k x y hx hy hq
    have HX := Hh R
    clear h h' hl hl' R hx hy
    have E : (x == y) = false := hq
    have E' : ¬ x = y := by simpa using E
    clear hq
    go_wp2_with fail
    go_quiet (fail)
    go_wp2_with fail
    go_ret
    exact ⟨by rw [HX.out]; rfl, (Below.drewQ HH.out.1 _)⟩
   ·have R : Hid (∀ (j : Nat) (x y : Int), j < k + 1 → l[j]? = some x → l'[j]? = some y → intEq x y = true) := Hh (fun j x2 y2 hj h2 h3 => by
     rcases Nat.lt_or_ge j k with h4 | h4
     ·exact HH.out.2 j x2 y2 h4 h2 h3
     ·obtain rfl : j = k := by omega
      rw [hx] at h2; injection h2 with h2; rw [hy] at h3; injection h3 with h3
      subst h2 h3; exact hq)
    clear h h' hl hl' hx hy
    have E : (x == y) = true := hq
    have E' : x = y := by simpa using E
    clear hq
    go_wp2_with fail
    go_quiet (fail)
    go_wp2_with fail
    go_roundg (gk - 1)
    case measure => omega
    case rel => exact ⟨k + 1, by omega, by go_num, (Below.drewQ HH.out.1 _), R.out⟩
  ·obtain rfl : k = n := by omega
   have hge : ¬ (k : Int) < (k : Int) := by omega
   have R : sameL intEq l l' = true := sameL_yes intEq l l' (by rw [H0.out.2.2.1, H0.out.2.2.2]) (fun j x y hx hy => HH.out.2 j x y (by
    have := (List.getElem?_eq_some_iff.1 hx).1; have := H0.out.2.2.1; omega) hx hy)
   have HX := Hh R
   clear R
   go_wp2_with fail
   go_ret
   exact ⟨by rw [HX.out]; rfl, HH.out.1⟩
end Go.Proofs.YtbpichjmkllfaaaGreatDoor
