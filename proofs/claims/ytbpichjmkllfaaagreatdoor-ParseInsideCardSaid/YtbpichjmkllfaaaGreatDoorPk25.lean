/- The program's Func: what a deferred closure catches; the function that begins at a place of tokens, or what is wrong. -/
import Derived.Test.YtbpichjmkllfaaaGreatDoorPk24
import Derived.Defers
import Derived.Recover
import Derived.Test.YtbpichjmkllfaaaGreatDoorPk06
namespace Go.Proofs.YtbpichjmkllfaaaGreatDoor.Par
open Go.ChangeShapes Go.WideShapes Go.RowKit
open Lex (Tok tcl tkv tk tc)
set_option linter.unusedVariables false
set_option maxRecDepth 20000

theorem neq_gave (c : Int) (q : Int) (w : World) : (binOp .neq 20 (.iface 111 (.agg #[Fau.bare c q])) .nilIface).run Tryz.prog w = .ok (.bool true) w := by kernel_rfl
theorem assert_gave (c : Int) (q : Int) (w : World) : (Instr.typeAssert (.iface 111 (.agg #[Fau.bare c q])) 20 111 false).run Tryz.prog w = .ok (.agg #[Fau.bare c q]) w := by kernel_rfl
theorem field_gave (x : Value) (w : World) : (Instr.field 111 (.agg #[x]) 0).run Tryz.prog w = .ok x w := by kernel_rfl
theorem catch_yes (E : Nat) (c : Int) (q : Nat) (x : Value) (w : World) (hc : w.cell? ⟨E, 0, none⟩ = some x) (hz : w.frozen? ⟨E, 0, none⟩ = false) :
    CallsD Tryz.prog 45 #[.pointer (some ⟨E, 0, none⟩)] (.panicking [gave c q]) w fun e u' w' =>
      e = .returned (.tuple #[]) ∧ u' = .panicking [{ v := .iface 111 (.agg #[Fau.bare c (q : Int)]), recovered := true }] ∧ w' = w.setCell ⟨E, 0, none⟩ (Fau.bare c (q : Int)) := by
  have h1 := neq_gave c q
  have h2 := assert_gave c q
  have h3 := field_gave (Fau.bare c q)
  refine callsD_of_wpS Tryz.func45 rfl fun c₀ cs hu => ?_
  unfold gave at hu
  apply wpS_seq
  apply wpS_region
  simp [wpOpsS, go_sem, recoverD, hu, Tryz.ntmps45, Exit.thenS]
  apply wpS_seq
  apply wpS_region
  simp [wpOpsS, go_sem, Exit.thenS, h1]
  refine wpS_cond (t := true) (by simp [Act.eval, Array.replicate]) ?_
  simp only [if_true]
  apply wpS_region
  unfold Fau.bare at h2 h3 ⊢
  simp [wpOpsS, go_sem, hc, hz, bodyPostS, results, Tryz.results45, h2, h3]
theorem catch_no (E : Nat) (w : World) :
    CallsD Tryz.prog 45 #[.pointer (some ⟨E, 0, none⟩)] .returning w fun e u' w' => e = .returned (.tuple #[]) ∧ u' = .returning ∧ w' = w := by
  have h1 : ∀ w, (binOp .neq 20 .nilIface .nilIface).run Tryz.prog w = .ok (.bool false) w := fun w => by kernel_rfl
  refine callsD_of_wpS Tryz.func45 rfl fun c₀ cs hu => ?_
  apply wpS_seq
  apply wpS_region
  simp [wpOpsS, go_sem, recoverD, hu, Tryz.ntmps45, Exit.thenS]
  apply wpS_seq
  apply wpS_region
  simp [wpOpsS, go_sem, Exit.thenS, h1]
  refine wpS_cond (t := false) (by simp [Act.eval, Array.replicate]) ?_
  simp only [Bool.false_eq_true, if_false]
  refine wpS_of_wp (wp_skip ?_)
  cases c₀
  simp_all [bodyPostS, results, Tryz.results45]
theorem results_fun {fn : Func} (h : fn.results = #[.cell 4 27, .tmp 5, .cell 6 29]) (tmps : Array Value) (w : World) (F E : Nat) (x0 x1 x2 x3 x4 v e : Value)
    (hF : tmps.getD 4 undef = .pointer (some ⟨F, 0, none⟩)) (hE : tmps.getD 6 undef = .pointer (some ⟨E, 0, none⟩)) (h5 : tmps.getD 5 undef = v)
    (bF : w.heap[F]? = some (.cells #[x0, x1, x2, x3, x4] 27 (0, 0))) (cE : w.cell? ⟨E, 0, none⟩ = some e) :
    (results fn tmps).run Tryz.prog w = .ok (.tuple #[.agg #[x0, x1, x2, x3, x4], v, e]) w := by
  have hF' : tmps[4]?.getD undef = .pointer (some ⟨F, 0, none⟩) := by simpa using hF
  have hE' : tmps[6]?.getD undef = .pointer (some ⟨E, 0, none⟩) := by simpa using hE
  have h5' : tmps[5]?.getD undef = v := by simpa using h5
  have hl := run_loadVar_row (P := Tryz.prog) w F 27 27 #[x0, x1, x2, x3, x4] (0, 0) _ bF Tryz.underlying27 rfl sizeFun
  have he : (loadVar 29 ⟨E, 0, none⟩).run Tryz.prog w = .ok e w := by
    simp [loadVar, isAgg, underlying, Tryz.underlying29, cE, Result.andThen]
  simp [results, h, hF', hE', h5', asAddr, hl, he, Result.andThen]
/-- The zero function. -/
def funZ : Value := .agg #[.bool false, .string ⟨#[]⟩, .slice none 0 0, .slice none 0 0, .slice none 0 0]
section
variable {w : World} {g n cp : Nat} {ts : List Tok}
/-- What is asked of tokens. -/
structure Tks (w : World) (g n : Nat) (ts : List Tok) : Prop where
  toks : IsToks w (some ⟨g, 0, none⟩) n ts
  glt : g < w.heap.size
  ends : Ends ts
  wf : ∀ t ∈ ts, Wf t
  sg : ∀ t ∈ ts, t.kind = 7 → ∀ b ∈ t.text, Nam.sign b = false
  short : ∀ t ∈ ts, t.text.length ≤ 70000
  gl : Opr.Glob w
theorem Tks.len (h : Tks w g n ts) : ts.length = n := h.toks.1
theorem Tks.few (h : Tks w g n ts) : n ≤ 1000000 := h.toks.2.1
theorem Tks.pos (h : Tks w g n ts) : 0 < n := by
  have := List.length_pos_iff.2 h.ends.ne
  rw [h.len] at this
  exact this
theorem Tks.below {w' : World} (h : Tks w g n ts) (k : Below w.heap.size w w') : Tks w' g n ts :=
  ⟨h.toks.below k, Nat.lt_of_lt_of_le h.glt k.size, h.ends, h.wf, h.sg, h.short, h.gl.below k h.gl.1⟩
/-- What Func does. -/
def FuncP (w : World) (g n cp : Nat) (ts : List Tok) (a : Nat) (e : Ending) (w' : World) : Prop :=
  Below w.heap.size w w' ∧ ((∃ x a' r, func (ts.drop a) = .ok x (ts.drop a') ∧ a' < n ∧ e = .returned (.tuple #[.agg (funR x r), .int .i64 (a' : Int), .nilIface]) ∧ Held (fun k => w.heap.size ≤ k) w' fun W => IsFun W x r) ∨
    ∃ c q, c ≠ 0 ∧ func (ts.drop a) = .bad c q ∧ e = .returned (.tuple #[funZ, .int .i64 0, Fau.bare c (q : Int)]))
theorem last_kind (h : Tks w g n ts) : ∃ t, ts[n - 1]? = some t ∧ t.kind = 0 := by
  obtain ⟨u, t, he, hk⟩ := h.ends
  refine ⟨t, ?_, hk⟩
  have : n = u.length + 1 := by rw [← h.len, he]; simp
  rw [he, this]
  simp
theorem wrap_small (n : Nat) (h : n ≤ 1000000) : wrap64 (n : Int) = (n : Int) := by unfold wrap64; omega
set_option maxHeartbeats 4000000 in
theorem pfunc_v (a : Nat) (ha : a < n) (h : Tks w g n ts) : Calls Tryz.prog 19 #[.slice (some ⟨g, 0, none⟩) n cp, .int .i64 (a : Int)] w (FuncP w g n cp ts a) := by
  have hmf : ∀ (fn : Fn) (first cap : Array Value) (w : World), (Instr.makeFunc fn first cap).run Tryz.prog w = .ok (.func fn first cap) w := fun _ _ _ _ => rfl
  obtain ⟨w0, hw0⟩ : ∃ w0, w.alloc (.cells #[.bool false, .string ⟨#[]⟩, .slice none 0 0, .slice none 0 0, .slice none 0 0] 27) = w0 := ⟨_, rfl⟩
  have nb := new_box w _ 27 hw0
  have hs0 : w0.heap.size = w.heap.size + 1 := by rw [← hw0]; simp
  obtain ⟨w1, hw1⟩ : ∃ w1, w0.alloc (.cells #[.nilIface] 29) = w1 := ⟨_, rfl⟩
  have nb1 := new_box w0 _ 29 hw1
  have hs1 : w1.heap.size = w.heap.size + 2 := by rw [← hw1]; simp [hs0]
  rw [hs0] at nb1
  have B1 : Below w.heap.size w w1 := nb.1.trans (nb1.1.mono (by omega))
  obtain ⟨w2, hw2⟩ : ∃ w2, w1.alloc (.cells #[.slice (some ⟨g, 0, none⟩) n cp, .int .i64 (a : Int)] 113) = w2 := ⟨_, rfl⟩
  have nb2 := new_box w1 _ 113 hw2
  rw [hs1] at nb2
  have B2 : Below w.heap.size w w2 := B1.trans (nb2.1.mono (by omega))
  have T1 := h.below B1
  have T2 := h.below B2
  have hg := h.glt
  have hG := h.gl.1
  have R2 : Lr w2 (w.heap.size + 2) g n cp ts a := ⟨nb2.2, T2.toks, T2.glt, ha, by omega, T2.ends, T2.wf, T2.sg, T2.short, T2.gl, by omega⟩
  have zF : w2.heap[w.heap.size]? = some (.cells #[.bool false, .string ⟨#[]⟩, .slice none 0 0, .slice none 0 0, .slice none 0 0] 27 (0, 0)) := by rw [nb2.1.block _ (by omega), nb1.1.block _ (by omega)]; exact nb.2
  have zE : w2.heap[w.heap.size + 1]? = some (.cells #[.nilIface] 29 (0, 0)) := by rw [nb2.1.block _ (by omega)]; exact nb1.2
  have hn := h.few
  have hp := h.pos
  obtain ⟨t, ht, hk⟩ := last_kind h
  obtain ⟨b, o, e, _, d0, _⟩ := T1.toks.at ht
  have e1 : b = g ∧ o = 0 := by injection e with e; injection e with e1 e2; exact ⟨e1.symm, e2.symm⟩
  obtain ⟨rfl, rfl⟩ := e1
  rw [hk, Nat.zero_add] at d0
  have l0 : ¬ (a : Int) < 0 := by omega
  have l1 : ¬ (n : Int) ≤ (a : Int) := by omega
  obtain ⟨n1, hn1⟩ : ∃ n1, n - 1 = n1 := ⟨_, rfl⟩
  rw [hn1] at d0
  have q1 : (n : Int) - 1 = (n1 : Int) := by omega
  have q5 : (n1 : Int) < (n : Int) := by omega
  have q3 : wrap64 (n1 : Int) = (n1 : Int) := wrap_small n1 (by omega)
  have q2 : wrap64 ((n : Int) - 1) = (n1 : Int) := by rw [q1]; exact q3
  have q4 : (0 : Int) ≤ (n1 : Int) := Int.natCast_nonneg _
  have HA := Lib.hid (And.intro B2 (And.intro R2 (And.intro zF zE)))
  clear nb nb1 nb2 B1 B2 T1 T2 R2 zF zE ht hk hn hp hg hG h ha hn1 e
  go_enter_defers Tryz.func19, Tryz.ntmps19
  go_wp2_with fail
  refine (lfunc_v HA.out.2.1).mono ?_
  rintro e w3 ⟨hs, ⟨x, a', val, hm, rfl, ⟨r, rfl, hH⟩, hl⟩ | ⟨c, q, hc, hm, rfl⟩⟩
  · have hF := (Array.getElem?_eq_some_iff.1 HA.out.2.2.1).1
    have hE := (Array.getElem?_eq_some_iff.1 HA.out.2.2.2).1
    have zF : w3.heap[w.heap.size]? = some (.cells #[.bool false, .string ⟨#[]⟩, .slice none 0 0, .slice none 0 0, .slice none 0 0] 27 (0, 0)) := by rw [hs.2.2.2.2 _ hF (Nat.ne_of_lt (by show w.heap.size < w.heap.size + 2; exact Nat.lt_add_of_pos_right (by decide)))]; exact HA.out.2.2.1
    have zE : w3.heap[w.heap.size + 1]? = some (.cells #[.nilIface] 29 (0, 0)) := by rw [hs.2.2.2.2 _ hE (Nat.ne_of_lt (Nat.lt_succ_self _))]; exact HA.out.2.2.2
    obtain ⟨w4, hw4⟩ : ∃ w4, Lex.five w3 w.heap.size (.bool x.machine) (.string x.name) (.slice r.ra r.rn r.rc) (.slice r.pa r.pn r.pc) (.slice r.ba r.bn r.bc) = w4 := ⟨_, rfl⟩
    have b4 : Below w.heap.size w3 w4 := by rw [← hw4]; exact Lex.five_below (Below.refl _ w3) (Nat.le_refl _)
    have f4 : w4.heap[w.heap.size]? = some (.cells #[.bool x.machine, .string x.name, .slice r.ra r.rn r.rc, .slice r.pa r.pn r.pc, .slice r.ba r.bn r.bc] 27 (0, 0)) := by rw [← hw4]; exact Lex.five_heap zF
    have far4 : ∀ k, k ≠ w.heap.size → w4.heap[k]? = w3.heap[k]? := by
      intro k hk
      rw [← hw4]
      unfold Lex.five
      simp [World.setCell, Array.getElem?_modify, Ne.symm hk]
    have e4 : w4.heap[w.heap.size + 1]? = some (.cells #[.nilIface] 29 (0, 0)) := by rw [far4 _ (Nat.succ_ne_self _)]; exact zE
    have p4 : w4.heap[w.heap.size + 2]? = some (.cells #[.slice (some ⟨b, 0, none⟩) n cp, .int .i64 (a' : Int)] 113 (0, 0)) := by rw [far4 _ (Nat.ne_of_gt (Nat.lt_add_of_pos_right (by decide)))]; exact hl.box
    have HB := Lib.hid (And.intro hs (And.intro hm (And.intro hH (And.intro hl (And.intro b4 (And.intro f4 (And.intro far4 e4)))))))
    obtain ⟨⟨u0, u1, u2, u3, u4⟩, v0, v1, v2, v3, v4⟩ := box5 zF
    obtain ⟨⟨x0, x1, x2, x3, x4⟩, y0, y1, y2, y3, y4⟩ := box5 f4
    have z0 : w4.cell? ⟨w.heap.size + 1, 0, none⟩ = some .nilIface := cell_in e4 0
    have z1 := box_frozen e4 0
    have z2 : w4.cell? ⟨w.heap.size + 2, 1, none⟩ = some (.int .i64 (a' : Int)) := cell_in p4 1
    clear hs hm hH hl hF hE zF zE b4 f4 far4 e4 p4 q1 q2 q3 q4 q5 l0 l1 d0 hw0 hs0 hw1 hs1 hw2
    unfold Lex.five at hw4
    unfold funR
    go_wp2_with fail
    try rw [hw4]
    clear hw4 u0 u1 u2 u3 u4 v0 v1 v2 v3 v4
    have bd := (Below.refl w4.heap.size w4).drew
    obtain ⟨wd, hwd⟩ : ∃ wd, w4.drew = wd := ⟨_, rfl⟩
    rw [hwd] at bd
    have fd : wd.heap[w.heap.size]? = some (.cells #[.bool x.machine, .string x.name, .slice r.ra r.rn r.rc, .slice r.pa r.pn r.pc, .slice r.ba r.bn r.bc] 27 (0, 0)) := kept_box HB.out.2.2.2.2.2.1 bd
    have ed : wd.heap[w.heap.size + 1]? = some (.cells #[.nilIface] 29 (0, 0)) := kept_box HB.out.2.2.2.2.2.2.2 bd
    have pd : wd.cell? ⟨w.heap.size + 2, 1, none⟩ = some (.int .i64 (a' : Int)) := by rw [← hwd]; exact z2
    obtain ⟨w5, hw5⟩ : ∃ w5, Lex.five wd w.heap.size (.bool x.machine) (.string x.name) (.slice r.ra r.rn r.rc) (.slice r.pa r.pn r.pc) (.slice r.ba r.bn r.bc) = w5 := ⟨_, rfl⟩
    have f5 : w5.heap[w.heap.size]? = some (.cells #[.bool x.machine, .string x.name, .slice r.ra r.rn r.rc, .slice r.pa r.pn r.pc, .slice r.ba r.bn r.bc] 27 (0, 0)) := by rw [← hw5]; exact Lex.five_heap fd
    have far5 : ∀ k, k ≠ w.heap.size → w5.heap[k]? = wd.heap[k]? := by
      intro k hk
      rw [← hw5]
      unfold Lex.five
      simp [World.setCell, Array.getElem?_modify, Ne.symm hk]
    have e5 : w5.heap[w.heap.size + 1]? = some (.cells #[.nilIface] 29 (0, 0)) := by rw [far5 _ (Nat.succ_ne_self _)]; exact ed
    have p5 : w5.cell? ⟨w.heap.size + 2, 1, none⟩ = some (.int .i64 (a' : Int)) := (World.cell?_of_block (far5 _ (Nat.ne_of_gt (Nat.lt_add_of_pos_right (by decide))))).trans pd
    have b5 : Below w.heap.size w4 w5 := (bd.mono (Nat.le_of_lt (Array.getElem?_eq_some_iff.1 HB.out.2.2.2.2.2.1).1)).trans (by rw [← hw5]; exact Lex.five_below (Below.refl _ wd) (Nat.le_refl _))
    obtain ⟨w6, hw6⟩ : ∃ w6, w5.setCell ⟨w.heap.size + 1, 0, none⟩ .nilIface = w6 := ⟨_, rfl⟩
    have f6 : w6.heap[w.heap.size]? = some (.cells #[.bool x.machine, .string x.name, .slice r.ra r.rn r.rc, .slice r.pa r.pn r.pc, .slice r.ba r.bn r.bc] 27 (0, 0)) := by rw [← hw6]; exact far_put f5 (Nat.ne_of_lt (Nat.lt_succ_self _))
    have c6 : w6.cell? ⟨w.heap.size + 1, 0, none⟩ = some .nilIface := by
      have : w6.heap[w.heap.size + 1]? = some (.cells #[.nilIface] 29 (0, 0)) := by rw [← hw6]; simp [World.setCell, Array.getElem?_modify, e5]
      exact cell_in this 0
    have p6 : w6.cell? ⟨w.heap.size + 2, 1, none⟩ = some (.int .i64 (a' : Int)) := by
      rw [← hw6, World.cell?_setCell_far _ _ _ _ (by show w.heap.size + 1 ≠ w.heap.size + 2; exact Nat.ne_of_lt (Nat.lt_succ_self _))]
      exact p5
    have b6 : Below w.heap.size w4 w6 := by rw [← hw6]; exact b5.setCell (p := ⟨w.heap.size + 1, 0, none⟩) (Nat.le_succ _) _
    have far6 : ∀ k, w.heap.size + 2 ≤ k → w6.heap[k]? = w3.heap[k]? := by
      intro k hk
      have h1 : k ≠ w.heap.size := Nat.ne_of_gt (Nat.lt_of_lt_of_le (Nat.lt_add_of_pos_right (by decide)) hk)
      have h2 : k ≠ w.heap.size + 1 := Nat.ne_of_gt (Nat.lt_of_lt_of_le (Nat.lt_succ_self _) hk)
      rw [← hw6, Below.heap_setCell _ _ _ _ (by exact h2), far5 _ h1, ← hwd, ← HB.out.2.2.2.2.2.2.1 _ h1]
      rfl
    have HC := Lib.hid (And.intro f6 (And.intro c6 (And.intro b6 far6)))
    obtain ⟨⟨x0', x1', x2', x3', x4'⟩, y0', y1', y2', y3', y4'⟩ := box5 fd
    have S5 := Lib.hid (And.intro (box5 f5).1 p5)
    have S6 := Lib.hid (And.intro (box5 f6).1 p6)
    have z0' : w5.cell? ⟨w.heap.size + 1, 0, none⟩ = some .nilIface := cell_in e5 0
    have z1' := box_frozen e5 0
    have Sd := And.intro (And.intro x0' (And.intro x1' (And.intro x2' (And.intro x3' x4')))) pd
    clear x0 x1 x2 x3 x4 y0 y1 y2 y3 y4 z0 z1 z2 bd fd ed f5 far5 e5 p5 b5 f6 c6 p6 b6 far6
    unfold Lex.five at hw5
    refine wp_region_noPanic ?_
    refine wp_region_held_drew (S := fun W => ((W.cell? ⟨w.heap.size, 0, none⟩ = some (.bool x.machine) ∧ W.cell? ⟨w.heap.size, 1, none⟩ = some (.string x.name) ∧ W.cell? ⟨w.heap.size, 2, none⟩ = some (.slice r.ra r.rn r.rc) ∧ W.cell? ⟨w.heap.size, 3, none⟩ = some (.slice r.pa r.pn r.pc) ∧ W.cell? ⟨w.heap.size, 4, none⟩ = some (.slice r.ba r.bn r.bc)) ∧ W.cell? ⟨w.heap.size + 2, 1, none⟩ = some (.int .i64 (a' : Int)))) (by kernel_rfl) (by rw [hwd]; exact Sd) (fun hHeld => ?_)
    try rw [hwd] at hHeld ⊢
    clear hwd
    refine wpAnyH_take (i := 0) (oi := { dst := some 33, op := Op.load 27 (Operand.tmp 4), type := 27, pos := "parse.go:39", after := #[], guard := none }) (v := .agg #[.bool x.machine, .string x.name, .slice r.ra r.rn r.rc, .slice r.pa r.pn r.pc, .slice r.ba r.bn r.bc]) rfl (by kernel_rfl) (by kernel_rfl) (by kernel_rfl) (fun _ _ _ h => h) (Or.inl ⟨by rfl, by intro W hSw; (try dsimp only at hSw); go_simp; try with_reducible rfl⟩) (by assumption) ?_
    try simp only [Act.put, List.setIfInBounds_toArray, List.set_cons_zero, List.set_cons_succ]
    refine wpAnyH_take (i := 1) (oi := { dst := some 34, op := Op.fieldAddr 113 (Operand.tmp 7) 1, type := 0, pos := "parse.go:39", after := #[], guard := none }) (v := .pointer (some ⟨w.heap.size + 2, 1, none⟩)) rfl (by kernel_rfl) (by kernel_rfl) (by kernel_rfl) (fun _ _ _ h => h) (Or.inl ⟨by rfl, by intro W hSw; (try dsimp only at hSw); go_simp; try with_reducible rfl⟩) (by assumption) ?_
    try simp only [Act.put, List.setIfInBounds_toArray, List.set_cons_zero, List.set_cons_succ]
    refine wpAnyH_take (i := 2) (oi := { dst := some 35, op := Op.load 3 (Operand.tmp 34), type := 3, pos := "parse.go:39", after := #[{ on := 1, ground := Ground.data }], guard := none }) (v := .int .i64 (a' : Int)) rfl (by kernel_rfl) (by kernel_rfl) (by kernel_rfl) (fun _ _ _ h => h) (Or.inl ⟨by rfl, by intro W hSw; (try dsimp only at hSw); go_simp; try with_reducible rfl⟩) (by assumption) ?_
    try simp only [Act.put, List.setIfInBounds_toArray, List.set_cons_zero, List.set_cons_succ]
    refine wpAnyH_ready (rs := [3]) (by kernel_rfl) (by simp) ?_
    refine AllReadyH.cons (o := { dst := none, op := Op.store 27 (Operand.tmp 4) (Operand.tmp 33), type := 0, pos := "parse.go:39", after := #[{ on := 0, ground := Ground.data }, { on := 0, ground := Ground.phase }, { on := 1, ground := Ground.textOnly Departure.lateStoresUnsure }, { on := 2, ground := Ground.textOnly Departure.lateStoresUnsure }], guard := none }) rfl (fun K hK => ?_) AllReadyH.nil
    go_simp
    try rw [hw5]
    refine hK.out _ _ S5.out (fun hHeld => ?_)
    clear hK K
    try simp only [Act.put, List.setIfInBounds_toArray, List.set_cons_zero, List.set_cons_succ]
    clear hw5 x0' x1' x2' x3' x4' y0' y1' y2' y3' y4' pd Sd
    refine wpAnyH_take (i := 4) (oi := { dst := some 5, op := Op.assign (Operand.tmp 35), type := 3, pos := "parse.go:39", after := #[{ on := 2, ground := Ground.data }, { on := 3, ground := Ground.chain }, { on := 0, ground := Ground.phase }, { on := 1, ground := Ground.phase }, { on := 2, ground := Ground.phase }, { on := 3, ground := Ground.phase }], guard := none }) (v := .int .i64 (a' : Int)) rfl (by kernel_rfl) (by kernel_rfl) (by kernel_rfl) (fun _ _ _ h => h) (Or.inl ⟨by rfl, by intro W hSw; (try dsimp only at hSw); go_simp; try with_reducible rfl⟩) (by assumption) ?_
    try simp only [Act.put, List.setIfInBounds_toArray, List.set_cons_zero, List.set_cons_succ]
    refine wpAnyH_ready (rs := [5]) (by kernel_rfl) (by simp) ?_
    refine AllReadyH.cons (o := { dst := none, op := Op.store 29 (Operand.tmp 6) (Operand.const Value.nilIface), type := 0, pos := "parse.go:39", after := #[{ on := 4, ground := Ground.chain }, { on := 0, ground := Ground.phase }, { on := 1, ground := Ground.phase }, { on := 2, ground := Ground.phase }, { on := 3, ground := Ground.phase }, { on := 4, ground := Ground.phase }], guard := none }) rfl (fun K hK => ?_) AllReadyH.nil
    go_simp
    try rw [hw6]
    refine hK.out _ _ S6.out (fun hHeld => ?_)
    clear hK K
    try simp only [Act.put, List.setIfInBounds_toArray, List.set_cons_zero, List.set_cons_succ]
    clear hw6 z0' z1'
    refine wpAnyH_done (by kernel_rfl) ?_ _
    refine NoPanic.normal ?_
    go_wp2_with fail
    refine leaves_cons (f := 45) (args := #[.pointer (some ⟨w.heap.size + 1, 0, none⟩)]) (by simp) (by simp [go_sem]) ?_
    refine (catch_no (w.heap.size + 1) _).mono ?_
    rintro e u' w'' ⟨rfl, rfl, hw''⟩
    rw [hw'']
    have hb : Below w.heap.size w w6 := by
      have h1 := (HB.out.1.mono (Nat.le_refl _))
      refine HA.out.1.trans (Below.trans ⟨h1.1, h1.2.1, h1.2.2.1, h1.2.2.2.1, fun k hk => h1.2.2.2.2 k (Nat.lt_of_lt_of_le hk HA.out.1.size) (Nat.ne_of_lt (Nat.lt_of_lt_of_le hk (Nat.le_add_right _ _)))⟩ (HB.out.2.2.2.2.1.trans HC.out.2.2.1))
    have hs2 : w.heap.size + 2 < w2.heap.size := (Array.getElem?_eq_some_iff.1 HA.out.2.1.box).1
    have hF : Held (fun k => w.heap.size ≤ k) w6 fun W => IsFun W x r := by
      intro W' hW
      refine HB.out.2.2.1 W' (Agree.trans ⟨Nat.le_trans HB.out.2.2.2.2.1.size HC.out.2.2.1.size, fun k _ hk => HC.out.2.2.2 k (Nat.le_trans (Nat.le_of_lt hs2) hk)⟩ (hW.weak fun k _ hk => Nat.le_trans (Nat.le_of_lt (Nat.lt_of_le_of_lt (Nat.le_add_right _ _) hs2)) hk))
    exact ⟨_, results_fun (fn := Tryz.f19) rfl _ _ w.heap.size (w.heap.size + 1) _ _ _ _ _ _ _ rfl rfl rfl HC.out.1 HC.out.2.1, hb, Or.inl ⟨x, a', r, HB.out.2.1, HB.out.2.2.2.1.lt, rfl, hF⟩⟩
  · have hF := (Array.getElem?_eq_some_iff.1 HA.out.2.2.1).1
    have hE := (Array.getElem?_eq_some_iff.1 HA.out.2.2.2).1
    have zF : w3.heap[w.heap.size]? = some (.cells #[.bool false, .string ⟨#[]⟩, .slice none 0 0, .slice none 0 0, .slice none 0 0] 27 (0, 0)) := by rw [hs.2.2.2.2 _ hF (Nat.ne_of_lt (by show w.heap.size < w.heap.size + 2; exact Nat.lt_add_of_pos_right (by decide)))]; exact HA.out.2.2.1
    have zE : w3.heap[w.heap.size + 1]? = some (.cells #[.nilIface] 29 (0, 0)) := by rw [hs.2.2.2.2 _ hE (Nat.ne_of_lt (Nat.lt_succ_self _))]; exact HA.out.2.2.2
    refine leaves_cons (f := 45) (args := #[.pointer (some ⟨w.heap.size + 1, 0, none⟩)]) (by simp) (by simp [go_sem]) ?_
    refine (catch_yes (w.heap.size + 1) c q .nilIface w3 (cell_in zE 0) (box_frozen zE 0)).mono ?_
    rintro e u' w'' ⟨rfl, rfl, rfl⟩
    have zF' := far_put (o := 0) (v := Fau.bare c (q : Int)) zF (Nat.ne_of_lt (Nat.lt_succ_self w.heap.size))
    have cE : (w3.setCell ⟨w.heap.size + 1, 0, none⟩ (Fau.bare c (q : Int))).cell? ⟨w.heap.size + 1, 0, none⟩ = some (Fau.bare c (q : Int)) := by
      have : (w3.setCell ⟨w.heap.size + 1, 0, none⟩ (Fau.bare c (q : Int))).heap[w.heap.size + 1]? = some (.cells #[Fau.bare c (q : Int)] 29 (0, 0)) := by simp [World.setCell, Array.getElem?_modify, zE]
      exact cell_in this 0
    have hb : Below w.heap.size w (w3.setCell ⟨w.heap.size + 1, 0, none⟩ (Fau.bare c (q : Int))) :=
      HA.out.1.trans (Below.setCell (p := ⟨w.heap.size + 1, 0, none⟩) ⟨hs.1, hs.2.1, hs.2.2.1, hs.2.2.2.1, fun k hk => hs.2.2.2.2 k (Nat.lt_of_lt_of_le hk HA.out.1.size) (Nat.ne_of_lt (Nat.lt_of_lt_of_le hk (Nat.le_add_right _ _)))⟩ (Nat.le_succ _) _)
    exact ⟨_, results_fun (fn := Tryz.f19) rfl _ _ w.heap.size (w.heap.size + 1) _ _ _ _ _ _ _ rfl rfl rfl zF' cE, hb, Or.inr ⟨c, q, hc, hm, rfl⟩⟩
end
end Go.Proofs.YtbpichjmkllfaaaGreatDoor.Par

/- Each reading, where what stands behind is cut off. -/
namespace Go.Proofs.YtbpichjmkllfaaaGreatDoor.Par
open Lex (Tok)
set_option linter.unusedVariables false
set_option maxRecDepth 20000

theorem ends_tail {l : List Tok} {s : List UInt8} (h : Ends l) (hb : isB l s = true) : Ends l.tail := h.sub (isB_sub hb).1
theorem TrAt.isB {α : Type} {s : List UInt8} {A B : List Tok → Res α} {l : List Tok} (hA : isB l s = true → TrAt A l.tail) (hB : TrAt B l) : TrAt (fun l => if isB l s = true then A l.tail else B l) l :=
  (TrAt.head (c := fun t => Fol.isT t s) (A := fun _ r => A r) (B := B) (fun e he => isT_end he s) (fun t r e hc => by subst e; exact hA hc) hB).congr fun l => by
    cases l with
    | nil => rfl
    | cons t r => rfl
theorem tr_tag {l : List Tok} (hl : Ends l) : TrAt tag l :=
  (tr_must [58] hl).bind fun _ r h1 => (tr_ofk 4 (by decide) (hl.sub (must_sub h1).1)).bind fun v r h2 => TrAt.pure v.n r
theorem TrAt.kind {α : Type} (k : Nat) (hk : k ≠ 0) {A : Tok → List Tok → Res α} {B : List Tok → Res α} {l : List Tok} (hA : ∀ t r, l = t :: r → t.kind = k → TrAt (A t) r) (hB : TrAt B l) :
    TrAt (fun l => if kindOf l = k then (ofk k l).bind A else B l) l :=
  (TrAt.head (c := fun t => decide (t.kind = k)) (A := A) (B := B) (fun e he => by simp [he]; omega) (fun t r e hc => hA t r e (by simpa using hc)) hB).congr fun l => by
    cases l with
    | nil => unfold kindOf headIte; rw [if_neg (fun h => hk h.symm)]
    | cons t r =>
      unfold kindOf headIte ofk
      by_cases h : t.kind = k
      · simp [h, Res.bind]
      · simp [h]
theorem tr_operand {l : List Tok} (hl : Ends l) : TrAt operand l := by
  have hcut : ∀ t r, l = t :: r → t.kind ≠ 0 → Ends r := fun t r e hk => hl.sub (by rw [e]; exact (sub_one hk).1)
  exact TrAt.kind 4 (by decide) (fun t r _ _ => TrAt.pure _ r) (TrAt.kind 5 (by decide) (fun t r e hk => (tr_tag (hcut t r e (by omega))).bind fun v r _ => TrAt.pure (⟨2, t.cls, t.n, v⟩ : Opn) r)
    (TrAt.kind 6 (by decide) (fun t r e hk => (tr_tag (hcut t r e (by omega))).bind fun v r _ => TrAt.pure (⟨3, 0, t.n, v⟩ : Opn) r)
      (TrAt.isB (A := fun l => Res.ok (⟨0, 0, 0, 0⟩ : Opn) l) (fun _ => TrAt.pure _ _) ((tr_value hl).bind fun n r _ => TrAt.pure (⟨4, 0, n, 0⟩ : Opn) r))))
theorem tr_ops (e : List UInt8) : ∀ (n : Nat) (acc : List Opn) (l : List Tok), l.length ≤ n → Ends l → TrAt (ops e acc) l := by
  intro n
  induction n with
  | zero =>
    intro acc l hl hE
    have := List.length_pos_iff.2 hE.ne
    omega
  | succ n ih =>
    intro acc l hl hE
    refine TrAt.congr ?_ (ops_eq e acc)
    refine (tr_operand hE).bind fun a r h1 => ?_
    have g := operand_sub h1
    have hr := hE.sub g.1
    exact TrAt.isB (A := fun l => ops e (acc ++ [a]) l) (fun hb => ih _ _ (by have := g.2; have := (isB_sub hb).2; omega) (ends_tail hr hb)) ((tr_must e hr).bind fun _ r _ => TrAt.pure _ r)
theorem tr_ops0 (e : List UInt8) {l : List Tok} (hE : Ends l) : TrAt (ops0 e) l :=
  TrAt.isB (A := fun l => .ok [] l) (fun _ => TrAt.pure _ _) (tr_ops e _ _ _ (Nat.le_refl _) hE)
theorem tr_label {l : List Tok} (hE : Ends l) : TrAt label l := by
  refine (tr_ofk 1 (by decide) hE).bind fun t r h1 => ?_
  have hr := hE.sub (ofk_sub h1 (by decide)).1
  exact TrAt.isB (A := fun l => (ofk 1 l).bind fun u l => .ok (t.text ++ 46 :: u.text) l) (fun hb => (tr_ofk 1 (by decide) (ends_tail hr hb)).bind fun u r _ => TrAt.pure _ r) (TrAt.pure _ r)
theorem tr_argsN : ∀ (k : Nat) (acc : List Opn) (l : List Tok), Ends l → TrAt (argsN k acc) l := by
  intro k
  induction k with
  | zero => intro acc l hE; exact TrAt.pure acc l
  | succ k ih =>
    intro acc l hE
    have step : ∀ r, Ends r → TrAt (fun l => (operand l).bind fun a l => argsN k (acc ++ [a]) l) r := fun r hr => (tr_operand hr).bind fun a r h => ih _ _ (hr.sub (operand_sub h).1)
    by_cases ha : acc = []
    · exact (step l hE).congr fun l => by rw [argsN, if_pos ha]; rfl
    · exact ((tr_must [44] hE).bind fun _ r h => step r (hE.sub (must_sub h).1)).congr fun l => by rw [argsN, if_neg ha]
theorem tr_case1 {l : List Tok} (hE : Ends l) : TrAt case1 l :=
  (tr_value hE).bind fun n r h1 => by
    have e1 := hE.sub (value_sub h1).1
    refine (tr_must [58] e1).bind fun _ r h2 => ?_
    have e2 := e1.sub (must_sub h2).1
    refine (tr_label e2).bind fun s r h3 => ?_
    have e3 := e2.sub (label_sub h3).1
    exact (tr_must [44] e3).bind fun _ r _ => TrAt.pure _ r
theorem tr_cases : ∀ (n : Nat) (cs : List Int) (ls : List ByteArray) (l : List Tok), l.length ≤ n → Ends l → TrAt (cases cs ls) l := by
  intro n
  induction n with
  | zero =>
    intro cs ls l hl hE
    have := List.length_pos_iff.2 hE.ne
    omega
  | succ n ih =>
    intro cs ls l hl hE
    refine TrAt.congr ?_ (cases_eq cs ls)
    refine TrAt.isB (A := fun l => (must [58] l).bind fun _ l => (label l).bind fun s l => (must [93] l).bind fun _ l => .ok (cs, ls ++ [⟨s.toArray⟩]) l) (fun hb => ?_) ?_
    · have e0 := ends_tail hE hb
      refine (tr_must [58] e0).bind fun _ r h1 => ?_
      have e1 := e0.sub (must_sub h1).1
      refine (tr_label e1).bind fun s r h2 => ?_
      have e2 := e1.sub (label_sub h2).1
      exact (tr_must [93] e2).bind fun _ r _ => TrAt.pure _ r
    · refine (tr_case1 hE).bind fun x r h1 => ?_
      have g := case1_sub h1
      exact ih _ _ _ (by have := g.2; omega) (hE.sub g.1)
theorem tr_rest (op : Nat) {l : List Tok} (hE : Ends l) : TrAt (rest op) l := by
  by_cases h19 : op = 19
  · refine TrAt.congr (f := fun l => (ofk 3 l).bind fun t l => (must [40] l).bind fun _ l => (ops0 [41] l).bind fun a l => .ok ⟨a, ⟨t.text.toArray⟩, 0, [], []⟩ l) ?_ fun l => by unfold rest; rw [if_pos h19]
    refine (tr_ofk 3 (by decide) hE).bind fun t r h1 => ?_
    have e1 := hE.sub (ofk_sub h1 (by decide)).1
    refine (tr_must [40] e1).bind fun _ r h2 => ?_
    exact (tr_ops0 [41] (e1.sub (must_sub h2).1)).bind fun a r _ => TrAt.pure _ r
  · refine TrAt.congr (f := fun l => (argsN (Opr.many (op : Int)) [] l).bind fun a l =>
      if op = 17 ∨ op = 18 then (if isB l [43] = true then (value l.tail).bind fun n l => .ok ⟨a, ⟨#[]⟩, n, [], []⟩ l else .ok ⟨a, ⟨#[]⟩, 0, [], []⟩ l)
      else if op = 20 then (label l).bind fun s l => .ok ⟨a, ⟨#[]⟩, 0, [⟨s.toArray⟩], []⟩ l
      else if op = 21 then (must [44] l).bind fun _ l => (label l).bind fun s l => (must [44] l).bind fun _ l => (label l).bind fun u l => .ok ⟨a, ⟨#[]⟩, 0, [⟨s.toArray⟩, ⟨u.toArray⟩], []⟩ l
      else if op = 22 then (must [91] l).bind fun _ l => (cases [] [] l).bind fun x l => .ok ⟨a, ⟨#[]⟩, 0, x.2, x.1⟩ l
      else .ok ⟨a, ⟨#[]⟩, 0, [], []⟩ l) ?_ fun l => by unfold rest; rw [if_neg h19]
    refine (tr_argsN _ _ _ hE).bind fun a r h1 => ?_
    have e1 := hE.sub (argsN_sub _ _ _ _ _ h1)
    by_cases c1 : op = 17 ∨ op = 18
    · simp only [if_pos c1]
      exact TrAt.isB (A := fun l => (value l).bind fun n l => Res.ok (⟨a, ⟨#[]⟩, n, [], []⟩ : Has) l) (fun hb => (tr_value (ends_tail e1 hb)).bind fun n r _ => TrAt.pure (⟨a, ⟨#[]⟩, n, [], []⟩ : Has) r) (TrAt.pure _ r)
    · simp only [if_neg c1]
      by_cases c2 : op = 20
      · simp only [if_pos c2]
        exact (tr_label e1).bind fun s r _ => TrAt.pure _ r
      · simp only [if_neg c2]
        by_cases c3 : op = 21
        · simp only [if_pos c3]
          refine (tr_must [44] e1).bind fun _ r h2 => ?_
          have e2 := e1.sub (must_sub h2).1
          refine (tr_label e2).bind fun s r h3 => ?_
          have e3 := e2.sub (label_sub h3).1
          refine (tr_must [44] e3).bind fun _ r h4 => ?_
          exact (tr_label (e3.sub (must_sub h4).1)).bind fun u r _ => TrAt.pure _ r
        · simp only [if_neg c3]
          by_cases c4 : op = 22
          · simp only [if_pos c4]
            refine (tr_must [91] e1).bind fun _ r h2 => ?_
            exact (tr_cases _ _ _ _ (Nat.le_refl _) (e1.sub (must_sub h2).1)).bind fun x r _ => TrAt.pure _ r
          · simp only [if_neg c4]
            exact TrAt.pure _ r
theorem tr_instr2 (d : Opn) {l : List Tok} (hE : Ends l) : TrAt (instr2 d) l :=
  (TrAt.head (c := fun t => decide (t.kind = 1) && decide (findOp t.text ≠ 0)) (A := fun t r => (rest (findOp t.text) r).bind fun x r => (must [59] r).bind fun _ r => .ok ⟨(findOp t.text : Int), d, x.args, x.name, x.off, x.labels, x.cases⟩ r) (B := err)
    (fun e he => by simp [he]) (fun t r e hc => by
      have hk : t.kind ≠ 0 := by simp at hc; omega
      have hr : Ends r := hE.sub (by rw [e]; exact (sub_one hk).1)
      refine (tr_rest _ hr).bind fun x r h1 => ?_
      exact (tr_must [59] (hr.sub (rest_sub h1))).bind fun _ r _ => TrAt.pure _ r) (TrAt.err hE)).congr fun l => by
    cases l with
    | nil => unfold instr2 headIte; simp [kindOf]
    | cons t r =>
      unfold instr2 headIte
      by_cases h : t.kind = 1 ∧ findOp t.text ≠ 0
      · rw [if_pos (show kindOf (t :: r) = 1 ∧ findOp (textOf (t :: r)) ≠ 0 from h)]
        simp only
        rw [if_pos (by simp [h])]; rfl
      · rw [if_neg (show ¬ (kindOf (t :: r) = 1 ∧ findOp (textOf (t :: r)) ≠ 0) from h)]
        simp only
        rw [if_neg (by simpa using h)]
theorem tr_instr {l : List Tok} (hE : Ends l) : TrAt instr l := by
  have hd : TrAt (fun l => if kindOf l = 1 ∧ findOp (textOf l) = 0 then err l.tail else instr2 ⟨0, 0, 0, 0⟩ l) l :=
    (TrAt.head (c := fun t => decide (t.kind = 1) && decide (findOp t.text = 0)) (A := fun _ r => err r) (B := instr2 ⟨0, 0, 0, 0⟩) (fun e he => by simp [he]) (fun t r e hc => by
      have hk : t.kind ≠ 0 := by simp at hc; omega
      exact TrAt.err (hE.sub (by rw [e]; exact (sub_one hk).1))) (tr_instr2 _ hE)).congr fun l => by
      cases l with
      | nil => unfold headIte; simp [kindOf]
      | cons t r =>
        unfold headIte
        by_cases h : t.kind = 1 ∧ findOp t.text = 0
        · rw [if_pos (show kindOf (t :: r) = 1 ∧ findOp (textOf (t :: r)) = 0 from h)]
          simp only
          rw [if_pos (by simp [h])]; rfl
        · rw [if_neg (show ¬ (kindOf (t :: r) = 1 ∧ findOp (textOf (t :: r)) = 0) from h)]
          simp only
          rw [if_neg (by simpa using h)]
  by_cases hk : kindOf l = 4 ∨ kindOf l = 5 ∨ kindOf l = 6
  · -- what it gives to
    have hb : TrAt (fun l => (operand l).bind fun d l => (must [61] l).bind fun _ l => instr2 d l) l := by
      refine (tr_operand hE).bind fun d r h1 => ?_
      have e1 := hE.sub (operand_sub h1).1
      exact (tr_must [61] e1).bind fun _ r h2 => tr_instr2 d (e1.sub (must_sub h2).1)
    have heq : ∀ t r, t.kind = 4 ∨ t.kind = 5 ∨ t.kind = 6 → instr (t :: r) = (operand (t :: r)).bind fun d l => (must [61] l).bind fun _ l => instr2 d l := fun t r h => by
      unfold instr
      rw [if_pos (show kindOf (t :: r) = 4 ∨ kindOf (t :: r) = 5 ∨ kindOf (t :: r) = 6 from h)]
    have hend : ∀ e : Tok, e.kind = 0 → instr [e] = .bad 20 e.at_ := fun e he => by
      unfold instr instr2
      have : kindOf [e] = 0 := he
      rw [this]; simp [Par.err, headAt]
    have hne : l ≠ [] := hE.ne
    constructor
    · intro p hp
      cases l with
      | nil => exact absurd rfl hne
      | cons t r =>
        rw [heq t r hk] at hp
        obtain ⟨u, t', v, e1, e2, e3⟩ := hb.bad p hp
        refine ⟨u, t', v, e1, e2, fun e he => ?_⟩
        cases u with
        | nil => exact hend e he
        | cons x u =>
          injection e1 with h1 h2
          subst h1
          rw [List.cons_append, heq _ _ hk]
          exact e3 e he
    · intro a r' h
      cases l with
      | nil => exact absurd rfl hne
      | cons t r =>
        rw [heq t r hk] at h
        obtain ⟨w, e1, e2⟩ := hb.ok a r' h
        refine ⟨w, e1, fun u t' v hr e he => ?_⟩
        have e3 := e2 u t' v hr e he
        cases w with
        | nil =>
          cases u with
          | nil => exact .inr (hend e he)
          | cons x u =>
            rw [hr] at e1
            injection e1 with h1 h2
            subst h1
            rw [List.nil_append, List.cons_append, heq _ _ hk]
            rw [List.nil_append, List.cons_append] at e3
            exact e3
        | cons x w =>
          injection e1 with h1 h2
          subst h1
          rw [List.cons_append, heq _ _ hk]
          rw [List.cons_append] at e3
          exact e3
  · have heq : ∀ l', (kindOf l' = kindOf l ∨ kindOf l' = 0) → instr l' = if kindOf l' = 1 ∧ findOp (textOf l') = 0 then err l'.tail else instr2 ⟨0, 0, 0, 0⟩ l' := fun l' h => by
      unfold instr
      rw [if_neg (by rcases h with h | h <;> rw [h]; exact hk; decide)]
    have hcut : ∀ u t v, l = u ++ t :: v → ∀ e : Tok, e.kind = 0 → kindOf (u ++ [e]) = kindOf l ∨ kindOf (u ++ [e]) = 0 := by
      intro u t v hl e he
      cases u with
      | nil => exact .inr he
      | cons x u => exact .inl (by rw [hl]; rfl)
    constructor
    · intro p hp
      rw [heq l (.inl rfl)] at hp
      obtain ⟨u, t', v, e1, e2, e3⟩ := hd.bad p hp
      exact ⟨u, t', v, e1, e2, fun e he => (heq _ (hcut u t' v e1 e he)).trans (e3 e he)⟩
    · intro a r h
      rw [heq l (.inl rfl)] at h
      obtain ⟨w, e1, e2⟩ := hd.ok a r h
      refine ⟨w, e1, fun u t' v hr e he => ?_⟩
      have e3 := hcut (w ++ u) t' v (by rw [e1, hr]; simp) e he
      rw [List.append_assoc] at e3
      rw [heq _ e3]
      exact e2 u t' v hr e he
end Go.Proofs.YtbpichjmkllfaaaGreatDoor.Par
