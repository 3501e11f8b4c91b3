/- Packed texts of one proof. Conditions: none. -/
import Derived.Test.YtbpichjmkllfaaaGreatDoorPq25
import Derived.Defers
import Derived.Recover
namespace Go.Proofs.YtbpichjmkllfaaaGreatDoor.Par
open Go.ChangeShapes Go.WideShapes Go.RowKit
open Lex (Tok tcl tkv tk tc)
set_option linter.unusedVariables false
set_option maxRecDepth 20000
theorem neq_gave (c : Int) (q : Int) (w : World) : (binOp .neq 20 (.iface 111 (.agg #[Fau.bare c q])) .nilIface).run Tryz.prog w = .ok (.bool true) w := by kernel_rfl
theorem assert_gave (c : Int) (q : Int) (w : World) : (Instr.typeAssert (.iface 111 (.agg #[Fau.bare c q])) 20 111 false).run Tryz.prog w = .ok (.agg #[Fau.bare c q]) w := by kernel_rfl
theorem field_gave (x : Value) (w : World) : (Instr.field 111 (.agg #[x]) 0).run Tryz.prog w = .ok x w := by kernel_rfl
theorem catch_yes (E : Nat) (c : Int) (q : Nat) (x : Value) (w : World) (hc : w.cell? ⟨E, 0, none⟩ = some x) (hz : w.frozen? ⟨E, 0, none⟩ = false) :
  CallsD Tryz.prog 45 #[.pointer (some ⟨E, 0, none⟩)] (.panicking [gave c q]) w fun e u' w' =>
   e = .returned (.tuple #[]) ∧ u' = .panicking [{ v := .iface 111 (.agg #[Fau.bare c (q : Int)]), recovered := true }] ∧ w' = w.setCell ⟨E, 0, none⟩ (Fau.bare c (q : Int)) := by
 have h1 := neq_gave c q
 have h2 := assert_gave c q
 have h3 := field_gave (Fau.bare c q)
 refine callsD_of_wpS Tryz.func45 rfl fun c₀ cs hu => ?_
 unfold gave at hu
 apply wpS_seq
 apply wpS_region
 simp [wpOpsS, go_sem, recoverD, hu, Tryz.ntmps45, Exit.thenS]
 apply wpS_seq
 apply wpS_region
 simp [wpOpsS, go_sem, Exit.thenS, h1]
 refine wpS_cond (t := true) (by simp [Act.eval, Array.replicate]) ?_
 simp only [if_true]
 apply wpS_region
 unfold Fau.bare at h2 h3 ⊢
 simp [wpOpsS, go_sem, hc, hz, bodyPostS, results, Tryz.results45, h2, h3]
theorem catch_no (E : Nat) (w : World) :
  CallsD Tryz.prog 45 #[.pointer (some ⟨E, 0, none⟩)] .returning w fun e u' w' => e = .returned (.tuple #[]) ∧ u' = .returning ∧ w' = w := by
 have h1 : ∀ w, (binOp .neq 20 .nilIface .nilIface).run Tryz.prog w = .ok (.bool false) w := fun w => by kernel_rfl
 refine callsD_of_wpS Tryz.func45 rfl fun c₀ cs hu => ?_
 apply wpS_seq
 apply wpS_region
 simp [wpOpsS, go_sem, recoverD, hu, Tryz.ntmps45, Exit.thenS]
 apply wpS_seq
 apply wpS_region
 simp [wpOpsS, go_sem, Exit.thenS, h1]
 refine wpS_cond (t := false) (by simp [Act.eval, Array.replicate]) ?_
 simp only [Bool.false_eq_true, if_false]
 refine wpS_of_wp (wp_skip ?_)
 cases c₀
 simp_all [bodyPostS, results, Tryz.results45]
theorem results_fun {fn : Func} (h : fn.results = #[.cell 4 27, .tmp 5, .cell 6 29]) (tmps : Array Value) (w : World) (F E : Nat) (x0 x1 x2 x3 x4 v e : Value)
  (hF : tmps.getD 4 undef = .pointer (some ⟨F, 0, none⟩)) (hE : tmps.getD 6 undef = .pointer (some ⟨E, 0, none⟩)) (h5 : tmps.getD 5 undef = v)
  (bF : w.heap[F]? = some (.cells #[x0, x1, x2, x3, x4] 27 (0, 0))) (cE : w.cell? ⟨E, 0, none⟩ = some e) :
  (results fn tmps).run Tryz.prog w = .ok (.tuple #[.agg #[x0, x1, x2, x3, x4], v, e]) w := by
 have hF' : tmps[4]?.getD undef = .pointer (some ⟨F, 0, none⟩) := by simpa using hF
 have hE' : tmps[6]?.getD undef = .pointer (some ⟨E, 0, none⟩) := by simpa using hE
 have h5' : tmps[5]?.getD undef = v := by simpa using h5
 have hl := run_loadVar_row (P := Tryz.prog) w F 27 27 #[x0, x1, x2, x3, x4] (0, 0) _ bF Tryz.underlying27 rfl sizeFun
 have he : (loadVar 29 ⟨E, 0, none⟩).run Tryz.prog w = .ok e w := by
  simp [loadVar, isAgg, underlying, Tryz.underlying29, cE, Result.andThen]
 simp [results, h, hF', hE', h5', asAddr, hl, he, Result.andThen]
def funZ : Value := .agg #[.bool false, .string ⟨#[]⟩, .slice none 0 0, .slice none 0 0, .slice none 0 0]
section
variable {w : World} {g n cp : Nat} {ts : List Tok}
structure Tks (w : World) (g n : Nat) (ts : List Tok) : Prop where
 toks : IsToks w (some ⟨g, 0, none⟩) n ts
 glt : g < w.heap.size
 ends : Ends ts
 wf : ∀ t ∈ ts, Wf t
 sg : ∀ t ∈ ts, t.kind = 7 → ∀ b ∈ t.text, Nam.sign b = false
 short : ∀ t ∈ ts, t.text.length ≤ 70000
 gl : Opr.Glob w
theorem Tks.len (h : Tks w g n ts) : ts.length = n := h.toks.1
theorem Tks.few (h : Tks w g n ts) : n ≤ 1000000 := h.toks.2.1
theorem Tks.pos (h : Tks w g n ts) : 0 < n := by
 have := List.length_pos_iff.2 h.ends.ne
 rw [h.len] at this
 exact this
theorem Tks.below {w' : World} (h : Tks w g n ts) (k : Below w.heap.size w w') : Tks w' g n ts :=
 ⟨h.toks.below k, Nat.lt_of_lt_of_le h.glt k.size, h.ends, h.wf, h.sg, h.short, h.gl.below k h.gl.1⟩
def FuncP (w : World) (g n cp : Nat) (ts : List Tok) (a : Nat) (e : Ending) (w' : World) : Prop :=
 Below w.heap.size w w' ∧ ((∃ x a' r, func (ts.drop a) = .ok x (ts.drop a') ∧ a' < n ∧ e = .returned (.tuple #[.agg (funR x r), .int .i64 (a' : Int), .nilIface]) ∧ Held (fun k => w.heap.size ≤ k) w' fun W => IsFun W x r) ∨
  ∃ c q, c ≠ 0 ∧ func (ts.drop a) = .bad c q ∧ e = .returned (.tuple #[funZ, .int .i64 0, Fau.bare c (q : Int)]))
theorem last_kind (h : Tks w g n ts) : ∃ t, ts[n - 1]? = some t ∧ t.kind = 0 := by
 obtain ⟨u, t, he, hk⟩ := h.ends
 refine ⟨t, ?_, hk⟩
 have : n = u.length + 1 := by rw [← h.len, he]; simp
 rw [he, this]
 simp
theorem wrap_small (n : Nat) (h : n ≤ 1000000) : wrap64 (n : Int) = (n : Int) := by unfold wrap64; omega
set_option maxHeartbeats 4000000 in
theorem pfunc_v (a : Nat) (ha : a < n) (h : Tks w g n ts) : Calls Tryz.prog 19 #[.slice (some ⟨g, 0, none⟩) n cp, .int .i64 (a : Int)] w (FuncP w g n cp ts a) := by
 have hmf : ∀ (fn : Fn) (first cap : Array Value) (w : World), (Instr.makeFunc fn first cap).run Tryz.prog w = .ok (.func fn first cap) w := fun _ _ _ _ => rfl
 obtain ⟨w0, hw0⟩ : ∃ w0, w.alloc (.cells #[.bool false, .string ⟨#[]⟩, .slice none 0 0, .slice none 0 0, .slice none 0 0] 27) = w0 := ⟨_, rfl⟩
 have nb := new_box w _ 27 hw0
 have hs0 : w0.heap.size = w.heap.size + 1 := by rw [← hw0]; simp
 obtain ⟨w1, hw1⟩ : ∃ w1, w0.alloc (.cells #[.nilIface] 29) = w1 := ⟨_, rfl⟩
 have nb1 := new_box w0 _ 29 hw1
 have hs1 : w1.heap.size = w.heap.size + 2 := by rw [← hw1]; simp [hs0]
 rw [hs0] at nb1
 have B1 : Below w.heap.size w w1 := nb.1.trans (nb1.1.mono (by omega))
 obtain ⟨w2, hw2⟩ : ∃ w2, w1.alloc (.cells #[.slice (some ⟨g, 0, none⟩) n cp, .int .i64 (a : Int)] 113) = w2 := ⟨_, rfl⟩
 have nb2 := new_box w1 _ 113 hw2
 rw [hs1] at nb2
 have B2 : Below w.heap.size w w2 := B1.trans (nb2.1.mono (by omega))
 have T1 := h.below B1
 have T2 := h.below B2
 have hg := h.glt
 have hG := h.gl.1
 have R2 : Lr w2 (w.heap.size + 2) g n cp ts a := ⟨nb2.2, T2.toks, T2.glt, ha, by omega, T2.ends, T2.wf, T2.sg, T2.short, T2.gl, by omega⟩
 have zF : w2.heap[w.heap.size]? = some (.cells #[.bool false, .string ⟨#[]⟩, .slice none 0 0, .slice none 0 0, .slice none 0 0] 27 (0, 0)) := by rw [nb2.1.block _ (by omega), nb1.1.block _ (by omega)]; exact nb.2
 have zE : w2.heap[w.heap.size + 1]? = some (.cells #[.nilIface] 29 (0, 0)) := by rw [nb2.1.block _ (by omega)]; exact nb1.2
 have hn := h.few
 have hp := h.pos
 obtain ⟨t, ht, hk⟩ := last_kind h
 obtain ⟨b, o, e, _, d0, _⟩ := T1.toks.at ht
 have e1 : b = g ∧ o = 0 := by injection e with e; injection e with e1 e2; exact ⟨e1.symm, e2.symm⟩
 obtain ⟨rfl, rfl⟩ := e1
 rw [hk, Nat.zero_add] at d0
 have l0 : ¬ (a : Int) < 0 := by omega
 have l1 : ¬ (n : Int) ≤ (a : Int) := by omega
 obtain ⟨n1, hn1⟩ : ∃ n1, n - 1 = n1 := ⟨_, rfl⟩
 rw [hn1] at d0
 have q1 : (n : Int) - 1 = (n1 : Int) := by omega
 have q5 : (n1 : Int) < (n : Int) := by omega
 have q3 : wrap64 (n1 : Int) = (n1 : Int) := wrap_small n1 (by omega)
 have q2 : wrap64 ((n : Int) - 1) = (n1 : Int) := by rw [q1]; exact q3
 have q4 : (0 : Int) ≤ (n1 : Int) := Int.natCast_nonneg _
 have HA := Hh (Ai B2 (Ai R2 (Ai zF zE)))
 clear nb nb1 nb2 B1 B2 T1 T2 R2 zF zE ht hk hn hp hg hG h ha hn1 e
 go_enter_defers Tryz.func19, Tryz.ntmps19
 go_wp2_with fail
 refine (lfunc_v HA.out.2.1).mono ?_
 rintro e w3 ⟨hs, ⟨x, a', val, hm, rfl, ⟨r, rfl, hH⟩, hl⟩ | ⟨c, q, hc, hm, rfl⟩⟩
 ·have hF := (Array.getElem?_eq_some_iff.1 HA.out.2.2.1).1
  have hE := (Array.getElem?_eq_some_iff.1 HA.out.2.2.2).1
  have zF : w3.heap[w.heap.size]? = some (.cells #[.bool false, .string ⟨#[]⟩, .slice none 0 0, .slice none 0 0, .slice none 0 0] 27 (0, 0)) := by rw [hs.2.2.2.2 _ hF (Nat.ne_of_lt (by show w.heap.size < w.heap.size + 2; exact Nat.lt_add_of_pos_right (by decide)))]; exact HA.out.2.2.1
  have zE : w3.heap[w.heap.size + 1]? = some (.cells #[.nilIface] 29 (0, 0)) := by rw [hs.2.2.2.2 _ hE (Nat.ne_of_lt (Nat.lt_succ_self _))]; exact HA.out.2.2.2
  obtain ⟨w4, hw4⟩ : ∃ w4, Lex.five w3 w.heap.size (.bool x.machine) (.string x.name) (.slice r.ra r.rn r.rc) (.slice r.pa r.pn r.pc) (.slice r.ba r.bn r.bc) = w4 := ⟨_, rfl⟩
  have b4 : Below w.heap.size w3 w4 := by rw [← hw4]; exact Lex.five_below (Below.refl _ w3) (Nat.le_refl _)
  have f4 : w4.heap[w.heap.size]? = some (.cells #[.bool x.machine, .string x.name, .slice r.ra r.rn r.rc, .slice r.pa r.pn r.pc, .slice r.ba r.bn r.bc] 27 (0, 0)) := by rw [← hw4]; exact Lex.five_heap zF
  have far4 : ∀ k, k ≠ w.heap.size → w4.heap[k]? = w3.heap[k]? := by
   intro k hk
   rw [← hw4]
   unfold Lex.five
   simp [World.setCell, Array.getElem?_modify, Ne.symm hk]
  have e4 : w4.heap[w.heap.size + 1]? = some (.cells #[.nilIface] 29 (0, 0)) := by rw [far4 _ (Nat.succ_ne_self _)]; exact zE
  have p4 : w4.heap[w.heap.size + 2]? = some (.cells #[.slice (some ⟨b, 0, none⟩) n cp, .int .i64 (a' : Int)] 113 (0, 0)) := by rw [far4 _ (Nat.ne_of_gt (Nat.lt_add_of_pos_right (by decide)))]; exact hl.box
  have HB := Hh (Ai hs (Ai hm (Ai hH (Ai hl (Ai b4 (Ai f4 (Ai far4 e4)))))))
  obtain ⟨⟨u0, u1, u2, u3, u4⟩, v0, v1, v2, v3, v4⟩ := box5 zF
  obtain ⟨⟨x0, x1, x2, x3, x4⟩, y0, y1, y2, y3, y4⟩ := box5 f4
  have z0 : w4.cell? ⟨w.heap.size + 1, 0, none⟩ = some .nilIface := cell_in e4 0
  have z1 := box_frozen e4 0
  have z2 : w4.cell? ⟨w.heap.size + 2, 1, none⟩ = some (.int .i64 (a' : Int)) := cell_in p4 1
  clear hs hm hH hl hF hE zF zE b4 f4 far4 e4 p4 q1 q2 q3 q4 q5 l0 l1 d0 hw0 hs0 hw1 hs1 hw2
  unfold Lex.five at hw4
  unfold funR
  go_wp2_with fail
  try rw [hw4]
  clear hw4 u0 u1 u2 u3 u4 v0 v1 v2 v3 v4
  have bd := (Below.refl w4.heap.size w4).drew
  obtain ⟨wd, hwd⟩ : ∃ wd, w4.drew = wd := ⟨_, rfl⟩
  rw [hwd] at bd
  have fd : wd.heap[w.heap.size]? = some (.cells #[.bool x.machine, .string x.name, .slice r.ra r.rn r.rc, .slice r.pa r.pn r.pc, .slice r.ba r.bn r.bc] 27 (0, 0)) := kept_box HB.out.2.2.2.2.2.1 bd
  have ed : wd.heap[w.heap.size + 1]? = some (.cells #[.nilIface] 29 (0, 0)) := kept_box HB.out.2.2.2.2.2.2.2 bd
  have pd : wd.cell? ⟨w.heap.size + 2, 1, none⟩ = some (.int .i64 (a' : Int)) := by rw [← hwd]; exact z2
  obtain ⟨w5, hw5⟩ : ∃ w5, Lex.five wd w.heap.size (.bool x.machine) (.string x.name) (.slice r.ra r.rn r.rc) (.slice r.pa r.pn r.pc) (.slice r.ba r.bn r.bc) = w5 := ⟨_, rfl⟩
  have f5 : w5.heap[w.heap.size]? = some (.cells #[.bool x.machine, .string x.name, .slice r.ra r.rn r.rc, .slice r.pa r.pn r.pc, .slice r.ba r.bn r.bc] 27 (0, 0)) := by rw [← hw5]; exact Lex.five_heap fd
  have far5 : ∀ k, k ≠ w.heap.size → w5.heap[k]? = wd.heap[k]? := by
   intro k hk
   rw [← hw5]
   unfold Lex.five
   simp [World.setCell, Array.getElem?_modify, Ne.symm hk]
  have e5 : w5.heap[w.heap.size + 1]? = some (.cells #[.nilIface] 29 (0, 0)) := by rw [far5 _ (Nat.succ_ne_self _)]; exact ed
  have p5 : w5.cell? ⟨w.heap.size + 2, 1, none⟩ = some (.int .i64 (a' : Int)) := (World.cell?_of_block (far5 _ (Nat.ne_of_gt (Nat.lt_add_of_pos_right (by decide))))).trans pd
  have b5 : Below w.heap.size w4 w5 := (bd.mono (Nat.le_of_lt (Array.getElem?_eq_some_iff.1 HB.out.2.2.2.2.2.1).1)).trans (by rw [← hw5]; exact Lex.five_below (Below.refl _ wd) (Nat.le_refl _))
  obtain ⟨w6, hw6⟩ : ∃ w6, w5.setCell ⟨w.heap.size + 1, 0, none⟩ .nilIface = w6 := ⟨_, rfl⟩
  have f6 : w6.heap[w.heap.size]? = some (.cells #[.bool x.machine, .string x.name, .slice r.ra r.rn r.rc, .slice r.pa r.pn r.pc, .slice r.ba r.bn r.bc] 27 (0, 0)) := by rw [← hw6]; exact far_put f5 (Nat.ne_of_lt (Nat.lt_succ_self _))
  have c6 : w6.cell? ⟨w.heap.size + 1, 0, none⟩ = some .nilIface := by
   have : w6.heap[w.heap.size + 1]? = some (.cells #[.nilIface] 29 (0, 0)) := by rw [← hw6]; simp [World.setCell, Array.getElem?_modify, e5]
   exact cell_in this 0
  have p6 : w6.cell? ⟨w.heap.size + 2, 1, none⟩ = some (.int .i64 (a' : Int)) := by
   rw [← hw6, World.cell?_setCell_far _ _ _ _ (by show w.heap.size + 1 ≠ w.heap.size + 2; exact Nat.ne_of_lt (Nat.lt_succ_self _))]
   exact p5
  have b6 : Below w.heap.size w4 w6 := by rw [← hw6]; exact b5.setCell (p := ⟨w.heap.size + 1, 0, none⟩) (Nat.le_succ _) _
  have far6 : ∀ k, w.heap.size + 2 ≤ k → w6.heap[k]? = w3.heap[k]? := by
   intro k hk
   have h1 : k ≠ w.heap.size := Nat.ne_of_gt (Nat.lt_of_lt_of_le (Nat.lt_add_of_pos_right (by decide)) hk)
   have h2 : k ≠ w.heap.size + 1 := Nat.ne_of_gt (Nat.lt_of_lt_of_le (Nat.lt_succ_self _) hk)
   rw [← hw6, Below.heap_setCell _ _ _ _ (by exact h2), far5 _ h1, ← hwd, ← HB.out.2.2.2.2.2.2.1 _ h1]
   rfl
  have HC := Hh (Ai f6 (Ai c6 (Ai b6 far6)))
  obtain ⟨⟨x0', x1', x2', x3', x4'⟩, y0', y1', y2', y3', y4'⟩ := box5 fd
  have S5 := Hh (Ai (box5 f5).1 p5)
  have S6 := Hh (Ai (box5 f6).1 p6)
  have z0' : w5.cell? ⟨w.heap.size + 1, 0, none⟩ = some .nilIface := cell_in e5 0
  have z1' := box_frozen e5 0
  have Sd := Ai (Ai x0' (Ai x1' (Ai x2' (Ai x3' x4')))) pd
  clear x0 x1 x2 x3 x4 y0 y1 y2 y3 y4 z0 z1 z2 bd fd ed f5 far5 e5 p5 b5 f6 c6 p6 b6 far6
  unfold Lex.five at hw5
  refine wp_region_noPanic ?_
  refine wp_region_held_drew (S := fun W => ((W.cell? ⟨w.heap.size, 0, none⟩ = some (.bool x.machine) ∧ W.cell? ⟨w.heap.size, 1, none⟩ = some (.string x.name) ∧ W.cell? ⟨w.heap.size, 2, none⟩ = some (.slice r.ra r.rn r.rc) ∧ W.cell? ⟨w.heap.size, 3, none⟩ = some (.slice r.pa r.pn r.pc) ∧ W.cell? ⟨w.heap.size, 4, none⟩ = some (.slice r.ba r.bn r.bc)) ∧ W.cell? ⟨w.heap.size + 2, 1, none⟩ = some (.int .i64 (a' : Int)))) (by kernel_rfl) (by rw [hwd]; exact Sd) (fun hHeld => ?_)
  try rw [hwd] at hHeld ⊢
  clear hwd
  refine wpAnyH_take (i := 0) (v := .agg #[.bool x.machine, .string x.name, .slice r.ra r.rn r.rc, .slice r.pa r.pn r.pc, .slice r.ba r.bn r.bc]) rfl (by kernel_rfl) (by kernel_rfl) (by kernel_rfl) (fun _ _ _ h => h) (Or.inl ⟨by rfl, by intro W hSw; (try dsimp only at hSw); go_simp; try with_reducible rfl⟩) (by assumption) ?_
  try simp only [Act.put, Lzs]
  refine wpAnyH_take (i := 1) (v := .pointer (some ⟨w.heap.size + 2, 1, none⟩)) rfl (by kernel_rfl) (by kernel_rfl) (by kernel_rfl) (fun _ _ _ h => h) (Or.inl ⟨by rfl, by intro W hSw; (try dsimp only at hSw); go_simp; try with_reducible rfl⟩) (by assumption) ?_
  try simp only [Act.put]
  refine wpAnyH_take (i := 2) (v := .int .i64 (a' : Int)) rfl (by kernel_rfl) (by kernel_rfl) (by kernel_rfl) (fun _ _ _ h => h) (Or.inl ⟨by rfl, by intro W hSw; (try dsimp only at hSw); go_simp; try with_reducible rfl⟩) (by assumption) ?_
  try simp only [Act.put]
  refine wpAnyH_ready (rs := [3]) (by kernel_rfl) (by simp) ?_
  refine AllReadyH.cons rfl (fun K hK => ?_) AllReadyH.nil
  go_simp
  try rw [hw5]
  refine hK.out _ _ S5.out (fun hHeld => ?_)
  clear hK K
  try simp only [Act.put, Lzs, Lz0, Lz1]
  clear hw5 x0' x1' x2' x3' x4' y0' y1' y2' y3' y4' pd Sd
  refine wpAnyH_take (i := 4) (v := .int .i64 (a' : Int)) rfl (by kernel_rfl) (by kernel_rfl) (by kernel_rfl) (fun _ _ _ h => h) (Or.inl ⟨by rfl, by intro W hSw; (try dsimp only at hSw); go_simp; try with_reducible rfl⟩) (by assumption) ?_
  try simp only [Act.put, Lzs]
  refine wpAnyH_ready (rs := [5]) (by kernel_rfl) (by simp) ?_
  refine AllReadyH.cons rfl (fun K hK => ?_) AllReadyH.nil
  go_simp
  try rw [hw6]
  refine hK.out _ _ S6.out (fun hHeld => ?_)
  clear hK K
  try simp only [Act.put, Lzs, Lz0, Lz1]
  clear hw6 z0' z1'
  refine wpAnyH_done (by kernel_rfl) ?_ _
  refine NoPanic.normal ?_
  go_wp2_with fail
  refine leaves_cons (f := 45) (args := #[.pointer (some ⟨w.heap.size + 1, 0, none⟩)]) (by simp) (by simp [go_sem]) ?_
  refine (catch_no (w.heap.size + 1) _).mono ?_
  rintro e u' w'' ⟨rfl, rfl, hw''⟩
  rw [hw'']
  have hb : Below w.heap.size w w6 := by
   have h1 := (HB.out.1.mono (Nat.le_refl _))
   refine HA.out.1.trans (Below.trans ⟨h1.1, h1.2.1, h1.2.2.1, h1.2.2.2.1, fun k hk => h1.2.2.2.2 k (Nat.lt_of_lt_of_le hk HA.out.1.size) (Nat.ne_of_lt (Nat.lt_of_lt_of_le hk (Nat.le_add_right _ _)))⟩ (HB.out.2.2.2.2.1.trans HC.out.2.2.1))
  have hs2 : w.heap.size + 2 < w2.heap.size := (Array.getElem?_eq_some_iff.1 HA.out.2.1.box).1
  have hF : Held (fun k => w.heap.size ≤ k) w6 fun W => IsFun W x r := by
   intro W' hW
   refine HB.out.2.2.1 W' (Agree.trans ⟨Nat.le_trans HB.out.2.2.2.2.1.size HC.out.2.2.1.size, fun k _ hk => HC.out.2.2.2 k (Nat.le_trans (Nat.le_of_lt hs2) hk)⟩ (hW.weak fun k _ hk => Nat.le_trans (Nat.le_of_lt (Nat.lt_of_le_of_lt (Nat.le_add_right _ _) hs2)) hk))
  exact ⟨_, results_fun (fn := Tryz.f19) rfl _ _ w.heap.size (w.heap.size + 1) _ _ _ _ _ _ _ rfl rfl rfl HC.out.1 HC.out.2.1, hb, Or.inl ⟨x, a', r, HB.out.2.1, HB.out.2.2.2.1.lt, rfl, hF⟩⟩
 ·have hF := (Array.getElem?_eq_some_iff.1 HA.out.2.2.1).1
  have hE := (Array.getElem?_eq_some_iff.1 HA.out.2.2.2).1
  have zF : w3.heap[w.heap.size]? = some (.cells #[.bool false, .string ⟨#[]⟩, .slice none 0 0, .slice none 0 0, .slice none 0 0] 27 (0, 0)) := by rw [hs.2.2.2.2 _ hF (Nat.ne_of_lt (by show w.heap.size < w.heap.size + 2; exact Nat.lt_add_of_pos_right (by decide)))]; exact HA.out.2.2.1
  have zE : w3.heap[w.heap.size + 1]? = some (.cells #[.nilIface] 29 (0, 0)) := by rw [hs.2.2.2.2 _ hE (Nat.ne_of_lt (Nat.lt_succ_self _))]; exact HA.out.2.2.2
  refine leaves_cons (f := 45) (args := #[.pointer (some ⟨w.heap.size + 1, 0, none⟩)]) (by simp) (by simp [go_sem]) ?_
  refine (catch_yes (w.heap.size + 1) c q .nilIface w3 (cell_in zE 0) (box_frozen zE 0)).mono ?_
  rintro e u' w'' ⟨rfl, rfl, rfl⟩
  have zF' := far_put (o := 0) (v := Fau.bare c (q : Int)) zF (Nat.ne_of_lt (Nat.lt_succ_self w.heap.size))
  have cE : (w3.setCell ⟨w.heap.size + 1, 0, none⟩ (Fau.bare c (q : Int))).cell? ⟨w.heap.size + 1, 0, none⟩ = some (Fau.bare c (q : Int)) := by
   have : (w3.setCell ⟨w.heap.size + 1, 0, none⟩ (Fau.bare c (q : Int))).heap[w.heap.size + 1]? = some (.cells #[Fau.bare c (q : Int)] 29 (0, 0)) := by simp [World.setCell, Array.getElem?_modify, zE]
   exact cell_in this 0
  have hb : Below w.heap.size w (w3.setCell ⟨w.heap.size + 1, 0, none⟩ (Fau.bare c (q : Int))) :=
   HA.out.1.trans (Below.setCell (p := ⟨w.heap.size + 1, 0, none⟩) ⟨hs.1, hs.2.1, hs.2.2.1, hs.2.2.2.1, fun k hk => hs.2.2.2.2 k (Nat.lt_of_lt_of_le hk HA.out.1.size) (Nat.ne_of_lt (Nat.lt_of_lt_of_le hk (Nat.le_add_right _ _)))⟩ (Nat.le_succ _) _)
  exact ⟨_, results_fun (fn := Tryz.f19) rfl _ _ w.heap.size (w.heap.size + 1) _ _ _ _ _ _ _ rfl rfl rfl zF' cE, hb, Or.inr ⟨c, q, hc, hm, rfl⟩⟩
end
end Go.Proofs.YtbpichjmkllfaaaGreatDoor.Par
namespace Go.Proofs.YtbpichjmkllfaaaGreatDoor.Par
open Lex (Tok)
set_option linter.unusedVariables false
set_option maxRecDepth 20000
theorem all_ends {s : List UInt8} {m : List Tok} {q : Nat} (h : Lex.all s = (m, 0, q)) : Ends m := by
 have hl : s.length ≤ 65536 := by
  rcases Nat.lt_or_ge 65536 s.length with h1 | h1
  ·rw [Lex.all_long h1] at h
   injection h with _ h
   injection h with h _
   exact absurd h (by decide)
  ·exact h1
 unfold Lex.all at h
 rw [if_neg (by omega)] at h
 obtain ⟨ts, h1, _⟩ := Lex.go_sound s.length s (s.length + 1) 0 [] m q (Nat.le_refl _) (by omega) (fun t h => by cases h) h
 exact ⟨ts, _, h1, rfl⟩
theorem wrapN_fit {u : Nat} (h : u ≤ 9223372036854775808) : Fit64 (Lex.wrapN u) ∧ (0 ≤ Lex.wrapN u ∨ Lex.wrapN u = -9223372036854775808) := by
 unfold Lex.wrapN Fit64
 by_cases h1 : u < 9223372036854775808
 ·rw [if_pos h1]; omega
 ·rw [if_neg h1]; omega
theorem numb_wf {kind cls top : Nat} {pre r : List UInt8} {a k : Nat} {t : Tok} (h1 : kind ≠ 1) (h7 : kind ≠ 7) (ht : top ≤ 9223372036854775808) (h : Lex.numb kind cls top pre r a = .tok t k) : Wf t := by
 unfold Lex.numb at h
 split at h
 ·rename_i hv
  injection h with h _
  subst h
  have hval : Deci.val (Lex.dg r) ≤ top := by
   unfold Lex.vcode at hv
   split at hv
   ·exact absurd hv (by decide)
   ·split at hv
    ·exact absurd hv (by decide)
    ·omega
  have hf := wrapN_fit (Nat.le_trans hval ht)
  exact ⟨fun e => absurd e h1, fun e => absurd e h7, hf.1, fun _ => hf.2⟩
 ·cases h
theorem plain_wf {c : UInt8} {r : List UInt8} {a k : Nat} {t : Tok} (h : Lex.plain c r a = .tok t k) : Wf t := by
 unfold Lex.plain at h
 split at h
 ·split at h
  ·cases h
  ·injection h with h _
   subst h
   exact ⟨fun _ b hb => Lex.tw_all _ b hb, fun e => absurd e (by show (1 : Nat) ≠ 7; decide), by show Fit64 0; unfold Fit64; omega, fun e => absurd e (by show (1 : Nat) ≠ 2; decide)⟩
 ·split at h
  ·exact numb_wf (by decide) (by decide) (by decide) h
  ·split at h
   ·exact numb_wf (by decide) (by decide) (by decide) h
   ·split at h
    ·split at h
     ·cases h
     ·split at h
      ·exact numb_wf (by decide) (by decide) (by decide) h
      ·split at h
       ·exact numb_wf (by decide) (by decide) (by decide) h
       ·cases h
    ·split at h
     ·exact numb_wf (by decide) (by decide) (by decide) h
     ·split at h
      ·rename_i hs
       have hsg : ∀ d ∈ Lex.signs, Nam.sign d = false := by decide
       split at h
       ·injection h with h _
        subst h
        exact ⟨fun e => absurd e (by show (7 : Nat) ≠ 1; decide), fun _ b hb => by
         have : b = 46 := by simpa using hb
         rw [this]; decide, by show Fit64 0; unfold Fit64; omega, fun e => absurd e (by show (7 : Nat) ≠ 2; decide)⟩
       ·injection h with h _
        subst h
        exact ⟨fun e => absurd e (by show (7 : Nat) ≠ 1; decide), fun _ b hb => by
         have : b = c := by simpa using hb
         rw [this]; exact hsg c hs, by show Fit64 0; unfold Fit64; omega, fun e => absurd e (by show (7 : Nat) ≠ 2; decide)⟩
      ·cases h
theorem nx_wf {l : List UInt8} {a k : Nat} {t : Tok} (h : Lex.nx l a = .tok t k) : Wf t := by
 unfold Lex.nx at h
 split at h
 ·cases h
 ·split at h
  ·cases h
  ·split at h
   ·cases h
   ·split at h
    ·split at h
     ·injection h with h _
      subst h
      exact ⟨fun e => absurd e (by show (3 : Nat) ≠ 1; decide), fun e => absurd e (by show (3 : Nat) ≠ 7; decide), by show Fit64 0; unfold Fit64; omega, fun e => absurd e (by show (3 : Nat) ≠ 2; decide)⟩
     ·cases h
    ·exact plain_wf h
theorem end_wf (p : Nat) : Wf ⟨0, [], 0, 0, p⟩ := ⟨fun e => absurd e (by show (0 : Nat) ≠ 1; decide), fun e => absurd e (by show (0 : Nat) ≠ 7; decide), by show Fit64 0; unfold Fit64; omega, fun e => absurd e (by show (0 : Nat) ≠ 2; decide)⟩
theorem go_wf : ∀ (n : Nat) (l : List UInt8) (f p : Nat) (out m : List Tok) (c : Int) (q : Nat), l.length ≤ n → (∀ t ∈ out, Wf t) → Lex.go f l p out = (m, c, q) → ∀ t ∈ m, Wf t := by
 intro n
 induction n with
 | zero =>
  intro l f p out m c q h1 ho h
  obtain rfl : l = [] := List.eq_nil_of_length_eq_zero (by omega)
  cases f with
  | zero => injection h with h _; subst h; exact fun t ht => by cases ht
  | succ f =>
   rw [Lex.go_end] at h
   injection h with h _
   subst h
   intro t ht
   rcases List.mem_append.1 ht with ht | ht
   ·exact ho t ht
   ·rw [List.mem_singleton] at ht; subst ht; exact end_wf _
 | succ n ih =>
  intro l f p out m c q h1 ho h
  cases f with
  | zero => injection h with h _; subst h; exact fun t ht => by cases ht
  | succ f =>
   cases l with
   | nil =>
    rw [Lex.go_end] at h
    injection h with h _
    subst h
    intro t ht
    rcases List.mem_append.1 ht with ht | ht
    ·exact ho t ht
    ·rw [List.mem_singleton] at ht; subst ht; exact end_wf _
   | cons x r =>
    cases hx : Lex.nx (x :: r) p with
    | skip k =>
     have hk := Lex.nx_skip_size hx
     rw [Lex.go_skip out hx] at h
     exact ih _ _ _ _ _ _ _ (by rw [List.length_drop]; omega) ho h
    | tok t k =>
     have hk := Lex.nx_tok_size hx
     rw [Lex.go_tok out hx] at h
     refine ih _ _ _ _ _ _ _ (by rw [List.length_drop]; omega) (fun u hu => ?_) h
     rcases List.mem_append.1 hu with hu | hu
     ·exact ho u hu
     ·rw [List.mem_singleton] at hu; subst hu; exact nx_wf hx
    | bad e y =>
     rw [Lex.go_bad out hx] at h
     injection h with h _
     subst h
     exact fun t ht => by cases ht
theorem all_wf {s : List UInt8} {m : List Tok} {c : Int} {q : Nat} (h : Lex.all s = (m, c, q)) : ∀ t ∈ m, Wf t := by
 unfold Lex.all at h
 split at h
 ·injection h with h _; subst h; exact fun t ht => by cases ht
 ·exact go_wf _ _ _ _ _ _ _ _ (Nat.le_refl _) (fun t h => by cases h) h
end Go.Proofs.YtbpichjmkllfaaaGreatDoor.Par
