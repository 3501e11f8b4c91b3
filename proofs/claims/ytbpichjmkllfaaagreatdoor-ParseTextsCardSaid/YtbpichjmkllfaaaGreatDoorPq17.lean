/- Packed texts of one proof. Conditions: none. -/
import Derived.Test.YtbpichjmkllfaaaGreatDoorPq13
import Derived.Test.YtbpichjmkllfaaaGreatDoorPq15
import Derived.Test.YtbpichjmkllfaaaGreatDoorPq16
namespace Go.Proofs.YtbpichjmkllfaaaGreatDoor.Par
open Go.ChangeShapes Go.WideShapes Go.RowKit
open Lex (Tok tcl tkv tk tc)
set_option linter.unusedVariables false
set_option maxRecDepth 20000
structure Lr (w : World) (p g n cp : Nat) (ts : List Tok) (a : Nat) : Prop where
 box : w.heap[p]? = some (.cells #[.slice (some ⟨g, 0, none⟩) n cp, .int .i64 (a : Int)] 113 (0, 0))
 toks : IsToks w (some ⟨g, 0, none⟩) n ts
 glt : g < w.heap.size
 lt : a < n
 sep : g ≠ p
 ends : Ends ts
 wf : ∀ t ∈ ts, Wf t
 sg : ∀ t ∈ ts, t.kind = 7 → ∀ b ∈ t.text, Nam.sign b = false
 short : ∀ t ∈ ts, t.text.length ≤ 70000
 gl : Opr.Glob w
 big : 2 < p
def gave (c : Int) (q : Nat) : PanicEntry := { v := .iface 111 (.agg #[Fau.bare c (q : Int)]), recovered := false }
def LP {α : Type} (w : World) (p g n cp : Nat) (ts : List Tok) (a : Nat) (m : List Tok → Res α) (V : World → α → Value → Prop) (e : Ending) (w' : World) : Prop :=
 Step w.heap.size p w w' ∧ ((∃ v a' val, m (ts.drop a) = .ok v (ts.drop a') ∧ e = .returned val ∧ V w' v val ∧ Lr w' p g n cp ts a') ∨ ∃ c q, c ≠ 0 ∧ m (ts.drop a) = .bad c q ∧ e = .panicked [gave c q])
section
variable {w : World} {p g n cp : Nat} {ts : List Tok} {a : Nat}
theorem Lr.len (h : Lr w p g n cp ts a) : ts.length = n := h.toks.1
theorem Lr.few (h : Lr w p g n cp ts a) : n ≤ 1000000 := h.toks.2.1
theorem Lr.plt (h : Lr w p g n cp ts a) : p < w.heap.size := (Array.getElem?_eq_some_iff.1 h.box).1
theorem Lr.tok (h : Lr w p g n cp ts a) : ∃ t, ts[a]? = some t ∧ Wf t := by
 have hl : a < ts.length := by rw [h.len]; exact h.lt
 exact ⟨ts[a], List.getElem?_eq_getElem hl, h.wf _ (List.getElem_mem hl)⟩
theorem Lr.cells (h : Lr w p g n cp ts a) : w.cell? ⟨p, 0, none⟩ = some (.slice (some ⟨g, 0, none⟩) n cp) ∧ w.cell? ⟨p, 1, none⟩ = some (.int .i64 (a : Int)) := ⟨cell_in h.box 0, cell_in h.box 1⟩
theorem Lr.below {w' : World} (h : Lr w p g n cp ts a) (k : Below w.heap.size w w') : Lr w' p g n cp ts a :=
 ⟨kept_box h.box k, h.toks.below k, Nat.lt_of_lt_of_le h.glt k.size, h.lt, h.sep, h.ends, h.wf, h.sg, h.short, h.gl.below k (by have := h.plt; have := h.big; omega), h.big⟩
theorem Lr.alloc (h : Lr w p g n cp ts a) (o : Obj) : Lr (w.alloc o) p g n cp ts a := h.below ((Below.refl _ w).alloc (Nat.le_refl _) o)
theorem Lr.far {B : Nat} {w' : World} (h : Lr w p g n cp ts a) (k : Below B w w') (hp : p < B) (hg : g < B) : Lr w' p g n cp ts a :=
 ⟨(k.block p hp).trans h.box, h.toks.agree (below_agree k) (fun b o e => by injection e with e; injection e with e1 _; rw [← e1]; exact hg), Nat.lt_of_lt_of_le h.glt k.size, h.lt, h.sep, h.ends, h.wf, h.sg, h.short, h.gl.below k (by have := h.big; omega), h.big⟩
theorem Lr.set (h : Lr w p g n cp ts a) (b : Nat) (hb : b < n) : Step w.heap.size p w (w.setCell ⟨p, 1, none⟩ (.int .i64 (b : Int))) ∧ Lr (w.setCell ⟨p, 1, none⟩ (.int .i64 (b : Int))) p g n cp ts b := by
 refine ⟨(Step.refl _ _ _).put _ _, ?_, h.toks.agree (set_agree w p 1 _) (fun b o e => by injection e with e; injection e with e1 _; rw [← e1]; exact h.sep), by simpa [World.setCell] using h.glt, hb, h.sep, h.ends, h.wf, h.sg, h.short, h.gl.below (B := 2) ((Below.refl 2 w).setCell (p := ⟨p, 1, none⟩) (by have := h.big; show 2 ≤ p; omega) _) (by decide), h.big⟩
 have := h.box
 simp [World.setCell, Array.getElem?_modify, this]
theorem Lr.at (h : Lr w p g n cp ts a) {k : Nat} {t : Tok} (ht : ts[k]? = some t) : w.cell? ⟨g, k * 5, none⟩ = some (.int .i64 t.kind) ∧ w.cell? ⟨g, k * 5 + 1, none⟩ = some (.string ⟨t.text.toArray⟩) ∧ w.cell? ⟨g, k * 5 + 2, none⟩ = some (.int .i64 t.n) ∧ w.cell? ⟨g, k * 5 + 3, none⟩ = some (.int .i64 t.cls) ∧ w.cell? ⟨g, k * 5 + 4, none⟩ = some (.int .i64 t.at_) := by
 obtain ⟨b, o, e, _, hc⟩ := h.toks.at ht
 injection e with e
 injection e with e1 e2
 subst e1; subst e2
 rwa [Nat.zero_add] at hc
theorem Lr.more (h : Lr w p g n cp ts a) {t : Tok} (ht : ts[a]? = some t) (hk : t.kind ≠ 0) : a + 1 < n := by
 have := h.ends.more ht hk
 rwa [h.len] at this
theorem Lr.tk_ (h : Lr w p g n cp ts a) : Fol.TkAt w g ts := by
 refine ⟨h.glt, fun k t ht => ?_⟩
 exact h.at ht
set_option maxHeartbeats 1000000 in
theorem ltok_v {t : Tok} (ht : ts[a]? = some t) (h : Lr w p g n cp ts a) : Calls Tryz.prog 138 #[.pointer (some ⟨p, 0, none⟩)] w fun e w' => e = .returned (tkv t) ∧ Below w.heap.size w w' := by
 obtain ⟨w1, hw⟩ : ∃ w1, w.alloc (.cells #[.int .i64 0, .string ⟨#[]⟩, .int .i64 0, .int .i64 0, .int .i64 0] 72) = w1 := ⟨_, rfl⟩
 have hb := (Below.refl w.heap.size w).alloc (Nat.le_refl _) (.cells #[.int .i64 0, .string ⟨#[]⟩, .int .i64 0, .int .i64 0, .int .i64 0] 72)
 rw [hw] at hb
 obtain ⟨c0, c1⟩ := (h.below hb).cells
 obtain ⟨d0, d1, d2, d3, d4⟩ := (h.below hb).at ht
 have hl := h.lt
 have l1 : (0 : Int) ≤ (a : Int) := Int.natCast_nonneg _
 have l2 : (a : Int) < (n : Int) := by omega
 have z : w1.heap[w.heap.size]? = some (.cells #[.int .i64 0, .string ⟨#[]⟩, .int .i64 0, .int .i64 0, .int .i64 0] 72 (0, 0)) := by rw [← hw]; exact heap_alloc_new w _
 have e0 := box_frozen z 0
 have e1 := box_frozen z 1
 have e2 := box_frozen z 2
 have e3 := box_frozen z 3
 have e4 := box_frozen z 4
 have x0 : w1.cell? ⟨w.heap.size, 0, none⟩ = some (.int .i64 0) := cell_in z 0
 have x1 : w1.cell? ⟨w.heap.size, 1, none⟩ = some (.string ⟨#[]⟩) := cell_in z 1
 have x2 : w1.cell? ⟨w.heap.size, 2, none⟩ = some (.int .i64 0) := cell_in z 2
 have x3 : w1.cell? ⟨w.heap.size, 3, none⟩ = some (.int .i64 0) := cell_in z 3
 have x4 : w1.cell? ⟨w.heap.size, 4, none⟩ = some (.int .i64 0) := cell_in z 4
 have Z := Hh (Ai z hb)
 clear h ht hl z hb
 go_enter Tryz.func138, Tryz.ntmps138
 go_wp2_with fail
 try rw [hw]
 clear hw
 go_region
 go_wp2_with fail
 refine fin_tok (fn := Tryz.f138) rfl rfl (Lex.five_heap Z.out.1) rfl ?_
 exact ⟨rfl, (Lex.five_below Z.out.2 (Nat.le_refl _)).drew⟩
set_option maxHeartbeats 1000000 in
theorem lbeh_v {t : Tok} (ht : ts[a + 1]? = some t) (h : Lr w p g n cp ts a) : Calls Tryz.prog 117 #[.pointer (some ⟨p, 0, none⟩)] w fun e w' => e = .returned (tkv t) ∧ Below w.heap.size w w' := by
 obtain ⟨w1, hw⟩ : ∃ w1, w.alloc (.cells #[.int .i64 0, .string ⟨#[]⟩, .int .i64 0, .int .i64 0, .int .i64 0] 72) = w1 := ⟨_, rfl⟩
 have hb := (Below.refl w.heap.size w).alloc (Nat.le_refl _) (.cells #[.int .i64 0, .string ⟨#[]⟩, .int .i64 0, .int .i64 0, .int .i64 0] 72)
 rw [hw] at hb
 obtain ⟨c0, c1⟩ := (h.below hb).cells
 obtain ⟨d0, d1, d2, d3, d4⟩ := (h.below hb).at ht
 have hl := (List.getElem?_eq_some_iff.1 ht).1
 rw [h.len] at hl
 have hf := h.few
 obtain ⟨a1, ha1⟩ : ∃ a1, a + 1 = a1 := ⟨_, rfl⟩
 rw [ha1] at d0 d1 d2 d3 d4 hl
 have l1 : (0 : Int) ≤ (a1 : Int) := Int.natCast_nonneg _
 have l2 : (a1 : Int) < (n : Int) := by omega
 have q1 : (a : Int) + 1 = (a1 : Int) := by omega
 have q2 : wrap64 ((a : Int) + 1) = (a1 : Int) := by rw [q1]; unfold wrap64; omega
 have q3 : wrap64 (a1 : Int) = (a1 : Int) := by unfold wrap64; omega
 have z : w1.heap[w.heap.size]? = some (.cells #[.int .i64 0, .string ⟨#[]⟩, .int .i64 0, .int .i64 0, .int .i64 0] 72 (0, 0)) := by rw [← hw]; exact heap_alloc_new w _
 have e0 := box_frozen z 0
 have e1 := box_frozen z 1
 have e2 := box_frozen z 2
 have e3 := box_frozen z 3
 have e4 := box_frozen z 4
 have x0 : w1.cell? ⟨w.heap.size, 0, none⟩ = some (.int .i64 0) := cell_in z 0
 have x1 : w1.cell? ⟨w.heap.size, 1, none⟩ = some (.string ⟨#[]⟩) := cell_in z 1
 have x2 : w1.cell? ⟨w.heap.size, 2, none⟩ = some (.int .i64 0) := cell_in z 2
 have x3 : w1.cell? ⟨w.heap.size, 3, none⟩ = some (.int .i64 0) := cell_in z 3
 have x4 : w1.cell? ⟨w.heap.size, 4, none⟩ = some (.int .i64 0) := cell_in z 4
 have Z := Hh (Ai z hb)
 clear h ht hl z hb hf ha1
 go_enter Tryz.func117, Tryz.ntmps117
 go_wp2_with fail
 try rw [hw]
 clear hw
 go_region
 go_wp2_with fail
 refine fin_tok (fn := Tryz.f117) rfl rfl (Lex.five_heap Z.out.1) rfl ?_
 exact ⟨rfl, (Lex.five_below Z.out.2 (Nat.le_refl _)).drew⟩
theorem lis_v (x : ByteArray) (r : Bool) (hr : isB (ts.drop a) x.data.toList = r) (h : Lr w p g n cp ts a) : Calls Tryz.prog 113 #[.pointer (some ⟨p, 0, none⟩), .string x] w fun e w' => e = .returned (.bool r) ∧ Below w.heap.size w w' := by
 obtain ⟨t, ht, _⟩ := h.tok
 rw [isB_at _ ht] at hr
 have HA := Hh (Ai hr (Ai ht h))
 clear hr ht h
 go_enter Tryz.func113, Tryz.ntmps113
 go_wp2_with fail
 refine (ltok_v HA.out.2.1 HA.out.2.2).mono ?_
 rintro e w1 ⟨rfl, hb⟩
 have HB := Hh hb
 clear hb
 go_wp2_with fail
 refine (Fol.is_v t x r HA.out.1 w1).mono ?_
 rintro e w2 ⟨rfl, hb⟩
 have HC := Hh hb
 clear hb
 go_wp2_with fail
 go_ret
 exact ⟨rfl, HB.out.trans (HC.out.mono HB.out.size)⟩
theorem lmay_no (x : ByteArray) (hr : isB (ts.drop a) x.data.toList = false) (h : Lr w p g n cp ts a) : Calls Tryz.prog 75 #[.pointer (some ⟨p, 0, none⟩), .string x] w fun e w' => e = .returned (.bool false) ∧ Below w.heap.size w w' := by
 have HA := Hh (Ai hr h)
 clear hr h
 go_enter Tryz.func75, Tryz.ntmps75
 go_wp2_with fail
 refine (lis_v x false HA.out.1 HA.out.2).mono ?_
 rintro e w1 ⟨rfl, hb⟩
 go_wp2_with fail
 go_ret
 exact ⟨rfl, hb⟩
theorem Lr.isMore (h : Lr w p g n cp ts a) {x : List UInt8} (hb : isB (ts.drop a) x = true) : a + 1 < n := by
 obtain ⟨t, ht, _⟩ := h.tok
 rw [isB_at _ ht] at hb
 exact h.more ht (by have := isT_kind hb; omega)
theorem lmay_yes (x : ByteArray) (hr : isB (ts.drop a) x.data.toList = true) (h : Lr w p g n cp ts a) : Calls Tryz.prog 75 #[.pointer (some ⟨p, 0, none⟩), .string x] w fun e w' => e = .returned (.bool true) ∧ Step w.heap.size p w w' ∧ Lr w' p g n cp ts (a + 1) := by
 have hn := h.isMore hr
 have HA := Hh (Ai hr (Ai h hn))
 clear hr h hn
 go_enter Tryz.func75, Tryz.ntmps75
 go_wp2_with fail
 refine (lis_v x true HA.out.1 HA.out.2.1).mono ?_
 rintro e w1 ⟨rfl, hb⟩
 have R1 := HA.out.2.1.below hb
 obtain ⟨c0, c1⟩ := R1.cells
 have f1 := box_frozen R1.box 1
 obtain ⟨a1, ha1⟩ : ∃ a1, a + 1 = a1 := ⟨_, rfl⟩
 have hn := HA.out.2.2
 have hf := HA.out.2.1.few
 have g1 := R1.set (a + 1) hn
 have HE := Hh ha1
 rw [ha1] at g1
 have HB := Hh (Ai hb g1)
 have q1 : (a : Int) + 1 = (a1 : Int) := by omega
 have q2 : wrap64 ((a : Int) + 1) = (a1 : Int) := by rw [q1]; unfold wrap64; omega
 have q3 : wrap64 (a1 : Int) = (a1 : Int) := by unfold wrap64; omega
 clear hb R1 g1 ha1 hn hf
 go_wp2_with fail
 go_ret
 rw [HE.out]
 exact ⟨rfl, (Step.of HB.out.1).trans (HB.out.2.1.mono HB.out.1.size), HB.out.2.2⟩
theorem sizeGave : (Tryz.prog.info? 111).map (·.size) = some 1 := by kernel_rfl
theorem field4 (k : Int) (s : ByteArray) (m c q : Int) (w : World) : (Instr.field 72 (tk k s m c q) 4).run Tryz.prog w = .ok (.int .i64 q) w := by kernel_rfl
theorem field1 (k : Int) (s : ByteArray) (m c q : Int) (w : World) : (Instr.field 72 (tk k s m c q) 1).run Tryz.prog w = .ok (.string s) w := by kernel_rfl
theorem field0 (k : Int) (s : ByteArray) (m c q : Int) (w : World) : (Instr.field 72 (tk k s m c q) 0).run Tryz.prog w = .ok (.int .i64 k) w := by kernel_rfl
theorem field2 (k : Int) (s : ByteArray) (m c q : Int) (w : World) : (Instr.field 72 (tk k s m c q) 2).run Tryz.prog w = .ok (.int .i64 m) w := by kernel_rfl
theorem lwrong_v {t : Tok} (ht : ts[a]? = some t) (h : Lr w p g n cp ts a) : Calls Tryz.prog 114 #[.pointer (some ⟨p, 0, none⟩)] w fun e w' => e = .returned (.agg #[Fau.bare 20 (t.at_ : Int)]) ∧ Below w.heap.size w w' := by
 have F4 := field4
 have HA := Hh (Ai ht h)
 clear ht h
 go_enter Tryz.func114, Tryz.ntmps114
 go_wp2_with fail
 refine (ltok_v HA.out.1 (HA.out.2.alloc _)).mono ?_
 rintro e w1 ⟨rfl, hb⟩
 have z : w1.heap[w.heap.size]? = some (.cells #[.nilIface] 111 (0, 0)) := by
  rw [hb.block w.heap.size (by simp)]
  exact heap_alloc_new w _
 have hb' := (Below.refl w.heap.size w).alloc (Nat.le_refl _) (.cells #[.nilIface] 111)
 have HB := Hh (Ai (hb'.trans (hb.mono (by simp))) z)
 have x0 : w1.cell? ⟨w.heap.size, 0, none⟩ = some .nilIface := cell_in z 0
 have f0 := box_frozen z 0
 clear hb hb' z
 unfold tkv
 go_wp2_with fail
 refine (Fau.new_v 20 _ (by decide) _).mono ?_
 rintro e w2 ⟨rfl, rfl⟩
 unfold Fau.bare
 go_wp2_with fail
 refine bodyPost_ret (results_cell_row (fn := Tryz.f114) rfl _ _ w.heap.size 111 #[Fau.bare 20 (t.at_ : Int)] (0, 0) _ rfl (by have := HB.out.2; simp [World.setCell, Array.getElem?_modify, this, Fau.bare]) Tryz.underlying111 rfl sizeGave) rfl ?_
 exact ⟨rfl, HB.out.1.setCell (p := ⟨w.heap.size, 0, none⟩) (Nat.le_refl _) _⟩
theorem lmust_v (x : ByteArray) (h : Lr w p g n cp ts a) : Calls Tryz.prog 76 #[.pointer (some ⟨p, 0, none⟩), .string x] w (LP w p g n cp ts a (must x.data.toList) fun _ _ val => val = .tuple #[]) := by
 obtain ⟨t, ht, _⟩ := h.tok
 cases hr : isB (ts.drop a) x.data.toList with
 | false =>
  have HA := Hh (Ai hr (Ai ht h))
  clear hr ht h
  go_enter Tryz.func76, Tryz.ntmps76
  go_wp2_with fail
  refine (lmay_no x HA.out.1 HA.out.2.2).mono ?_
  rintro e w1 ⟨rfl, hb⟩
  have HB := Hh hb
  clear hb
  go_wp2_with fail
  refine (lwrong_v HA.out.2.1 (HA.out.2.2.below HB.out)).mono ?_
  rintro e w2 ⟨rfl, hb⟩
  have HC := Hh hb
  clear hb
  go_wp2_with fail
  exact ⟨rfl, Step.of (HB.out.trans (HC.out.mono HB.out.size)), Or.inr ⟨20, t.at_, by decide, by rw [must_no HA.out.1]; unfold err; rw [head_at HA.out.2.1], rfl⟩⟩
 | true =>
  have HA := Hh (Ai hr h)
  clear hr ht h
  go_enter Tryz.func76, Tryz.ntmps76
  go_wp2_with fail
  refine (lmay_yes x HA.out.1 HA.out.2).mono ?_
  rintro e w1 ⟨rfl, hs, hl⟩
  go_wp2_with fail
  go_end0
  exact ⟨hs, Or.inl ⟨(), a + 1, _, by rw [must_yes HA.out.1, tail_at], rfl, rfl, hl⟩⟩
end
section
variable {w : World} {p g n cp : Nat} {ts : List Tok} {a : Nat}
theorem box5 {W : World} {b : Nat} {x0 x1 x2 x3 x4 : Value} {T : TypeId} (h : W.heap[b]? = some (.cells #[x0, x1, x2, x3, x4] T (0, 0))) :
  (W.cell? ⟨b, 0, none⟩ = some x0 ∧ W.cell? ⟨b, 1, none⟩ = some x1 ∧ W.cell? ⟨b, 2, none⟩ = some x2 ∧ W.cell? ⟨b, 3, none⟩ = some x3 ∧ W.cell? ⟨b, 4, none⟩ = some x4) ∧
  (W.frozen? ⟨b, 0, none⟩ = false ∧ W.frozen? ⟨b, 1, none⟩ = false ∧ W.frozen? ⟨b, 2, none⟩ = false ∧ W.frozen? ⟨b, 3, none⟩ = false ∧ W.frozen? ⟨b, 4, none⟩ = false) :=
 ⟨⟨cell_in h 0, cell_in h 1, cell_in h 2, cell_in h 3, cell_in h 4⟩, box_frozen h 0, box_frozen h 1, box_frozen h 2, box_frozen h 3, box_frozen h 4⟩
theorem far_put {W : World} {p b o : Nat} {v : Value} {ob : Obj} (h : W.heap[b]? = some ob) (hp : b ≠ p) : (W.setCell ⟨p, o, none⟩ v).heap[b]? = some ob := by
 rw [Below.heap_setCell _ _ _ _ hp]; exact h
theorem new_box (w : World) (cs : Array Value) (T : TypeId) {w' : World} (hw : w.alloc (.cells cs T) = w') : Below w.heap.size w w' ∧ w'.heap[w.heap.size]? = some (.cells cs T (0, 0)) := by
 rw [← hw]
 exact ⟨(Below.refl w.heap.size w).alloc (Nat.le_refl _) _, heap_alloc_new w _⟩
theorem plus1 {a n : Nat} (h : a + 1 < n) (hf : n ≤ 1000000) {a1 : Nat} (h1 : a + 1 = a1) : (a : Int) + 1 = (a1 : Int) ∧ wrap64 ((a : Int) + 1) = (a1 : Int) ∧ wrap64 (a1 : Int) = (a1 : Int) := by
 have q1 : (a : Int) + 1 = (a1 : Int) := by omega
 refine ⟨q1, by rw [q1]; unfold wrap64; omega, by unfold wrap64; omega⟩
set_option maxHeartbeats 1000000 in
theorem lone_yes {t : Tok} (k : Nat) (hk : t.kind = k) (h0 : k ≠ 0) (ht : ts[a]? = some t) (h : Lr w p g n cp ts a) : Calls Tryz.prog 115 #[.pointer (some ⟨p, 0, none⟩), .int .i64 (k : Int)] w (LP w p g n cp ts a (ofk k) fun _ t val => val = tkv t) := by
 have hkk : ((t.kind : Int) != (k : Int)) = false := by rw [hk]; simp
 have hn := h.more ht (by omega)
 obtain ⟨w0, hw0⟩ : ∃ w0, w.alloc (.cells #[.int .i64 0, .string ⟨#[]⟩, .int .i64 0, .int .i64 0, .int .i64 0] 72) = w0 := ⟨_, rfl⟩
 have nb := new_box w _ 72 hw0
 have HA := Hh (Ai hk (Ai ht (Ai h (Ai hn nb))))
 clear hk ht h hn nb
 go_enter Tryz.func115, Tryz.ntmps115
 go_wp2_with fail
 try rw [hw0]
 clear hw0
 refine (ltok_v HA.out.2.1 (HA.out.2.2.1.below HA.out.2.2.2.2.1)).mono ?_
 rintro e w1 ⟨rfl, hb1⟩
 obtain ⟨a1, ha1⟩ : ∃ a1, a + 1 = a1 := ⟨_, rfl⟩
 obtain ⟨w2, hw2⟩ : ∃ w2, w1.alloc (.cells #[.int .i64 t.kind, .string ⟨t.text.toArray⟩, .int .i64 t.n, .int .i64 t.cls, .int .i64 t.at_] 72) = w2 := ⟨_, rfl⟩
 have nb2 := new_box w1 _ 72 hw2
 have hz0 := kept_box HA.out.2.2.2.2.2 (hb1.trans (nb2.1.mono hb1.size))
 have B2 : Below w.heap.size w w2 := HA.out.2.2.2.2.1.trans ((hb1.trans (nb2.1.mono hb1.size)).mono HA.out.2.2.2.2.1.size)
 have R2 := HA.out.2.2.1.below B2
 obtain ⟨c0, c1⟩ := R2.cells
 have f1 := box_frozen R2.box 1
 obtain ⟨q1, q2, q3⟩ := plus1 HA.out.2.2.2.1 HA.out.2.2.1.few ha1
 obtain ⟨w3, hw3⟩ : ∃ w3, w2.setCell ⟨p, 1, none⟩ (.int .i64 (a1 : Int)) = w3 := ⟨_, rfl⟩
 have g3 := R2.set a1 (by have := HA.out.2.2.2.1; omega)
 rw [hw3] at g3
 have hp := HA.out.2.2.1.plt
 have hlo : w.heap.size < w1.heap.size := Nat.lt_of_lt_of_le (Array.getElem?_eq_some_iff.1 HA.out.2.2.2.2.2).1 hb1.size
 have t2 := box5 nb2.2
 have t3 := far_put (p := p) (o := 1) (v := .int .i64 (a1 : Int)) nb2.2 (by omega)
 have z3 := far_put (p := p) (o := 1) (v := .int .i64 (a1 : Int)) hz0 (by omega)
 rw [hw3] at t3 z3
 obtain ⟨⟨x0, x1, x2, x3, x4⟩, _⟩ := t2
 obtain ⟨⟨y0, y1, y2, y3, y4⟩, _⟩ := box5 t3
 obtain ⟨⟨u0, u1, u2, u3, u4⟩, v0, v1, v2, v3, v4⟩ := box5 z3
 have HB := Hh (Ai B2 (Ai g3 (Ai z3 ha1)))
 clear hb1 nb2 hz0 B2 R2 g3 hp hlo t3 z3 ha1 c0
 unfold tkv tk tc
 go_wp2_with fail
 refine fin_tok (fn := Tryz.f115) rfl rfl (Lex.five_heap HB.out.2.2.1) rfl ?_
 have hg : Below w.heap.size w3 (Lex.five w3 w.heap.size (.int .i64 t.kind) (.string ⟨t.text.toArray⟩) (.int .i64 t.n) (.int .i64 t.cls) (.int .i64 t.at_)) := Lex.five_below (Below.refl _ w3) (Nat.le_refl _)
 refine ⟨((Step.of HB.out.1).trans (HB.out.2.1.1.mono HB.out.1.size)).trans (Step.of hg), Or.inl ⟨t, a1, _, ?_, rfl, rfl, HB.out.2.1.2.far hg HA.out.2.2.1.plt HA.out.2.2.1.glt⟩⟩
 rw [drop_at HA.out.2.1, HB.out.2.2.2]
 unfold ofk
 simp only
 rw [if_pos HA.out.1]
theorem lone_no {t : Tok} (k : Nat) (hk : t.kind ≠ k) (ht : ts[a]? = some t) (h : Lr w p g n cp ts a) : Calls Tryz.prog 115 #[.pointer (some ⟨p, 0, none⟩), .int .i64 (k : Int)] w (LP w p g n cp ts a (ofk k) fun _ t val => val = tkv t) := by
 have hkk : ((t.kind : Int) != (k : Int)) = true := by simp; omega
 obtain ⟨w0, hw0⟩ : ∃ w0, w.alloc (.cells #[.int .i64 0, .string ⟨#[]⟩, .int .i64 0, .int .i64 0, .int .i64 0] 72) = w0 := ⟨_, rfl⟩
 have nb := new_box w _ 72 hw0
 have HA := Hh (Ai hk (Ai ht (Ai h nb)))
 clear hk ht h nb
 go_enter Tryz.func115, Tryz.ntmps115
 go_wp2_with fail
 try rw [hw0]
 clear hw0
 refine (ltok_v HA.out.2.1 (HA.out.2.2.1.below HA.out.2.2.2.1)).mono ?_
 rintro e w1 ⟨rfl, hb1⟩
 obtain ⟨w2, hw2⟩ : ∃ w2, w1.alloc (.cells #[.int .i64 t.kind, .string ⟨t.text.toArray⟩, .int .i64 t.n, .int .i64 t.cls, .int .i64 t.at_] 72) = w2 := ⟨_, rfl⟩
 have nb2 := new_box w1 _ 72 hw2
 have B2 : Below w.heap.size w w2 := HA.out.2.2.2.1.trans ((hb1.trans (nb2.1.mono hb1.size)).mono HA.out.2.2.2.1.size)
 obtain ⟨⟨x0, x1, x2, x3, x4⟩, _⟩ := box5 nb2.2
 have HB := Hh B2
 clear hb1 nb2 B2
 unfold tkv tk tc
 go_wp2_with fail
 refine (lwrong_v HA.out.2.1 (HA.out.2.2.1.below HB.out)).mono ?_
 rintro e w3 ⟨rfl, hb⟩
 have HC := Hh hb
 clear hb
 go_wp2_with fail
 refine ⟨rfl, Step.of (HB.out.trans (HC.out.mono HB.out.size)), Or.inr ⟨20, t.at_, by decide, ?_, rfl⟩⟩
 rw [drop_at HA.out.2.1]
 unfold ofk
 simp only
 rw [if_neg HA.out.1]
 rfl
theorem lone_v (k : Nat) (h0 : k ≠ 0) (h : Lr w p g n cp ts a) : Calls Tryz.prog 115 #[.pointer (some ⟨p, 0, none⟩), .int .i64 (k : Int)] w (LP w p g n cp ts a (ofk k) fun _ t val => val = tkv t) := by
 obtain ⟨t, ht, _⟩ := h.tok
 by_cases hk : t.kind = k
 ·exact lone_yes k hk h0 ht h
 ·exact lone_no k hk ht h
def word (l : List Tok) : Res (List UInt8) := (ofk 1 l).bind fun t r => .ok t.text r
theorem lword_v (h : Lr w p g n cp ts a) : Calls Tryz.prog 77 #[.pointer (some ⟨p, 0, none⟩)] w (LP w p g n cp ts a word fun _ s val => val = .string ⟨s.toArray⟩) := by
 have F1 := field1
 have HA := Hh h
 clear h
 go_enter Tryz.func77, Tryz.ntmps77
 go_wp2_with fail
 refine (lone_v 1 (by decide) HA.out).mono ?_
 rintro e w1 ⟨hs, ⟨t, a1, val, hm, rfl, rfl, hl⟩ | ⟨c, q, hc, hm, rfl⟩⟩
 ·unfold tkv
  have HB := Hh (Ai hs (Ai hm hl))
  clear hs hm hl
  go_wp2_with fail
  go_ret
  exact ⟨HB.out.1, Or.inl ⟨_, a1, _, by unfold word; rw [HB.out.2.1]; rfl, rfl, rfl, HB.out.2.2⟩⟩
 ·go_wp2_with fail
  exact ⟨rfl, hs, Or.inr ⟨c, q, hc, by unfold word; rw [hm]; rfl, rfl⟩⟩
end
end Go.Proofs.YtbpichjmkllfaaaGreatDoor.Par
namespace Go.Proofs.YtbpichjmkllfaaaGreatDoor.Tg
open Go.ChangeShapes Go.WideShapes Go.RowKit
set_option linter.unusedVariables false
set_option maxRecDepth 20000
theorem class_v (n : Int) (b : Bool) (hb : (decide (0 ≤ n) && decide (n < 2)) = b) (w : World) : Calls Tryz.prog 154 #[.int .i64 n] w fun e w' => e = .returned (.bool b) ∧ w = w' := by
 subst hb
 cases h0 : decide (0 ≤ n) <;> cases h1 : decide (n < 2)
 all_goals
  go_enter Tryz.func154, Tryz.ntmps154
  go_wp2_with fail
  go_ret
  exact ⟨rfl, rfl⟩
def letter (n : Int) : List UInt8 := if n = 0 then [103] else if n = 1 then [120] else []
theorem letter_v (n : Int) (s : ByteArray) (hs : (⟨(letter n).toArray⟩ : ByteArray) = s) (w : World) : Calls Tryz.prog 140 #[.int .i64 n] w fun e w' => e = .returned (.string s) ∧ w = w' := by
 by_cases h0 : n = 0
 ·subst h0; subst hs
  go_enter Tryz.func140, Tryz.ntmps140
  go_wp2_with fail
  refine (class_v 0 true (by decide) _).mono ?_
  rintro e w1 ⟨rfl, rfl⟩
  go_wp2_with fail
  go_ret
  exact ⟨rfl, rfl⟩
 by_cases h1 : n = 1
 ·subst h1; subst hs
  go_enter Tryz.func140, Tryz.ntmps140
  go_wp2_with fail
  refine (class_v 1 true (by decide) _).mono ?_
  rintro e w1 ⟨rfl, rfl⟩
  go_wp2_with fail
  go_ret
  exact ⟨rfl, rfl⟩
 ·have hb : (decide (0 ≤ n) && decide (n < 2)) = false := by
   rw [← Bool.decide_and, decide_eq_false_iff_not]; omega
  have he : letter n = [] := by unfold letter; rw [if_neg h0, if_neg h1]
  rw [he] at hs
  subst hs
  go_enter Tryz.func140, Tryz.ntmps140
  go_wp2_with fail
  refine (class_v n false hb _).mono ?_
  rintro e w1 ⟨rfl, rfl⟩
  go_wp2_with fail
  go_ret
  exact ⟨rfl, rfl⟩
end Go.Proofs.YtbpichjmkllfaaaGreatDoor.Tg
namespace Go.Proofs.YtbpichjmkllfaaaGreatDoor.Par
open Go.ChangeShapes Go.WideShapes Go.RowKit
open Lex (Tok tcl tkv tk tc)
set_option linter.unusedVariables false
set_option maxRecDepth 20000
def ClassS (s : ByteArray) (r : Int) (b : Bool) : Prop := (s = ⟨#[103]⟩ ∧ r = 0 ∧ b = true) ∨ (s = ⟨#[120]⟩ ∧ r = 1 ∧ b = true) ∨ (s ≠ ⟨#[103]⟩ ∧ s ≠ ⟨#[120]⟩ ∧ r = 0 ∧ b = false)
theorem toList_ne {s t : ByteArray} (h : s ≠ t) : (t.toList == s.toList) = false := by
 rw [Bqf, ByteArray.toList_eq, ByteArray.toList_eq]
 intro e
 exact h (ByteArray.ext (Array.ext' e.symm))
theorem toList_neL {s t : ByteArray} {l : List UInt8} (h : s ≠ t) (ht : t.toList = l) : (l == s.toList) = false := ht ▸ toList_ne h
theorem tclass_v (s : ByteArray) (w : World) : Calls Tryz.prog 119 #[.string s] w fun e w' => ∃ r b, ClassS s r b ∧ e = .returned (.tuple #[.int .i64 r, .bool b]) ∧ w = w' := by
 by_cases h0 : s = ⟨#[103]⟩
 ·subst h0
  go_enter Tryz.func119, Tryz.ntmps119
  go_wp2_with fail
  refine wp_loop_rounds 3 ?_
  rw [rounds_succ]
  go_wp2_with fail
  refine (Tg.letter_v 0 ⟨#[103]⟩ rfl _).mono ?_
  rintro e w1 ⟨rfl, rfl⟩
  go_wp2_with fail
  go_ret2
  exact ⟨0, true, .inl ⟨rfl, rfl, rfl⟩, rfl, rfl⟩
 ·have e0 := toList_neL (l := [103]) h0 (by decide +kernel)
  by_cases h1 : s = ⟨#[120]⟩
  ·subst h1
   clear e0 h0
   go_enter Tryz.func119, Tryz.ntmps119
   go_wp2_with fail
   refine wp_loop_rounds 3 ?_
   rw [rounds_succ]
   go_wp2_with fail
   refine (Tg.letter_v 0 ⟨#[103]⟩ rfl _).mono ?_
   rintro e w1 ⟨rfl, rfl⟩
   go_wp2_with fail
   rw [rounds_succ]
   go_wp2_with fail
   refine (Tg.letter_v 1 ⟨#[120]⟩ rfl _).mono ?_
   rintro e w1 ⟨rfl, rfl⟩
   go_wp2_with fail
   go_ret2
   exact ⟨1, true, .inr (.inl ⟨rfl, rfl, rfl⟩), rfl, rfl⟩
  ·have e1 := toList_neL (l := [120]) h1 (by decide +kernel)
   have H := Hh (Ai h0 h1)
   clear h0 h1
   go_enter Tryz.func119, Tryz.ntmps119
   go_wp2_with fail
   refine wp_loop_rounds 3 ?_
   rw [rounds_succ]
   go_wp2_with fail
   refine (Tg.letter_v 0 ⟨#[103]⟩ rfl _).mono ?_
   rintro e w1 ⟨rfl, rfl⟩
   go_wp2_with fail
   rw [rounds_succ]
   go_wp2_with fail
   refine (Tg.letter_v 1 ⟨#[120]⟩ rfl _).mono ?_
   rintro e w1 ⟨rfl, rfl⟩
   go_wp2_with fail
   rw [rounds_succ]
   go_wp2_with fail
   go_ret2
   exact ⟨0, false, .inr (.inr ⟨H.out.1, H.out.2, rfl, rfl⟩), rfl, rfl⟩
section
variable {w : World} {p g n cp : Nat} {ts : List Tok} {a : Nat}
def knownM (f : List UInt8 → Int × Bool) (l : List Tok) : Res Int := if kindOf l = 1 ∧ (f (textOf l)).2 = true then .ok (f (textOf l)).1 l.tail else err l
theorem text_at {ts : List Tok} {a : Nat} {t : Tok} (h : ts[a]? = some t) : textOf (ts.drop a) = t.text := by rw [drop_at h]; rfl
def findF (s : List UInt8) : Int × Bool := ((findOp s : Nat), decide (findOp s ≠ 0))
theorem find_tab : ∀ k : Fin 27, (Opr.tab[k.val]?).map (fun r => r.nm) = some (Opr.nameOf ((k.val + 1 : Nat) : Int)) := by decide +kernel
theorem tab_len : Opr.tab.length = 27 := by decide +kernel
theorem find_is {s : List UInt8} {r : Int} {b : Bool} (h : Opr.FindS ⟨s.toArray⟩ r b) : findF s = (r, b) := by
 have hat : ∀ k, (hk : k < 27) → ∃ x, Opr.tab[k]? = some x ∧ x.nm = Opr.nameOf ((k + 1 : Nat) : Int) := by
  intro k hk
  have := find_tab ⟨k, hk⟩
  simp only [Option.map_eq_some_iff] at this
  exact this
 unfold findF findOp
 rcases h with ⟨rfl, h1, h2, h3⟩ | ⟨rfl, rfl, h3⟩
 ·have hf : Opr.tab.findIdx? (fun x => decide (x.nm.data.toList = s)) = some (r.toNat - 1) := by
   rw [List.findIdx?_eq_some_iff_getElem]
   refine ⟨by rw [tab_len]; omega, ?_, ?_⟩
   ·obtain ⟨x, hx, hn⟩ := hat (r.toNat - 1) (by omega)
    rw [List.getElem?_eq_getElem (by rw [tab_len]; omega)] at hx
    injection hx with hx
    rw [hx, hn, show ((r.toNat - 1 + 1 : Nat) : Int) = r by omega, h3]
    simp
   ·intro j hj
    obtain ⟨x, hx, hn⟩ := hat j (by omega)
    rw [List.getElem?_eq_getElem (by rw [tab_len]; omega)] at hx
    injection hx with hx
    rw [hx, hn]
    simp only [decide_eq_true_eq]
    intro e
    have e2 : Opr.nameOf ((j + 1 : Nat) : Int) = Opr.nameOf r := by
     rw [h3]
     exact ByteArray.ext (Array.ext' e)
    have := Opr.names_apart ⟨j + 1, by omega⟩ ⟨r.toNat, by omega⟩ (by simp) (by simp; omega) (by
     show Opr.nameOf ((j + 1 : Nat) : Int) = Opr.nameOf ((r.toNat : Nat) : Int)
     rw [e2, show ((r.toNat : Nat) : Int) = r by omega])
    injection this with this
    omega
  rw [hf]
  simp only
  rw [show ((r.toNat - 1 + 1 : Nat) : Int) = r by omega]
  simp
 ·have hf : Opr.tab.findIdx? (fun x => decide (x.nm.data.toList = s)) = none := by
   rw [List.findIdx?_eq_none_iff]
   intro x hx
   obtain ⟨j, hj, e⟩ := List.getElem_of_mem hx
   have hj' : j < 27 := by rw [tab_len] at hj; exact hj
   obtain ⟨y, hy, hn⟩ := hat j hj'
   rw [List.getElem?_eq_getElem hj, e] at hy
   injection hy with hy
   subst hy
   rw [hn]
   simp only [decide_eq_false_iff_not]
   intro e
   exact h3 (j + 1) (by omega) (by omega) (ByteArray.ext (Array.ext' e))
  rw [hf]
  rfl
theorem opfind_v (t : Tok) (w : World) (hg : Opr.Glob w) : Calls Tryz.prog 145 #[.string ⟨t.text.toArray⟩] w fun e w' => e = .returned (.tuple #[.int .i64 (findF t.text).1, .bool (findF t.text).2]) ∧ w = w' := by
 refine (Opr.find_v _ w hg).mono ?_
 rintro e w' ⟨r, b, hS, rfl, rfl⟩
 rw [find_is hS]
 exact ⟨rfl, rfl⟩
def classF (s : List UInt8) : Int × Bool := if s = [120] then (1, true) else if s = [103] then (0, true) else (0, false)
theorem classfind_v (t : Tok) (w : World) : Calls Tryz.prog 119 #[.string ⟨t.text.toArray⟩] w fun e w' => e = .returned (.tuple #[.int .i64 (classF t.text).1, .bool (classF t.text).2]) ∧ w = w' := by
 have inj : ∀ l m : List UInt8, (⟨l.toArray⟩ : ByteArray) = ⟨m.toArray⟩ → l = m := fun l m e => by injection e with e; injection e
 refine (tclass_v _ w).mono ?_
 rintro e w' ⟨r, b, hS, rfl, rfl⟩
 refine ⟨?_, rfl⟩
 unfold classF
 rcases hS with ⟨h, rfl, rfl⟩ | ⟨h, rfl, rfl⟩ | ⟨h1, h2, rfl, rfl⟩
 ·have := inj _ [103] h
  rw [this]
  rfl
 ·have := inj _ [120] h
  rw [this]
  rfl
 ·rw [if_neg (fun e => h2 (by rw [e])), if_neg (fun e => h1 (by rw [e]))]
set_option maxHeartbeats 1000000 in
theorem kop_v (h : Lr w p g n cp ts a) :
  Calls Tryz.prog 118 #[.pointer (some ⟨p, 0, none⟩), .func (.func 145) #[] #[]] w (LP w p g n cp ts a (knownM findF) fun _ r val => val = .int .i64 r) := by
 obtain ⟨t, ht, _⟩ := h.tok
 have HA := Hh (Ai ht (Ai h True.intro))
 clear ht h
 go_enter Tryz.func118, Tryz.ntmps118
 go_wp2_with fail
 refine (ltok_v HA.out.1 HA.out.2.1).mono ?_
 rintro e w1 ⟨rfl, hb1⟩
 obtain ⟨w2, hw2⟩ : ∃ w2, w1.alloc (.cells #[.int .i64 t.kind, .string ⟨t.text.toArray⟩, .int .i64 t.n, .int .i64 t.cls, .int .i64 t.at_] 72) = w2 := ⟨_, rfl⟩
 have nb2 := new_box w1 _ 72 hw2
 have B2 : Below w.heap.size w w2 := hb1.trans (nb2.1.mono hb1.size)
 have R2 := HA.out.2.1.below B2
 obtain ⟨⟨x0, x1, x2, x3, x4⟩, _⟩ := box5 nb2.2
 have HB := Hh (Ai B2 R2)
 clear hb1 nb2 B2 R2
 unfold tkv tk tc
 go_wp2_with fail
 refine (opfind_v t w2 HB.out.2.gl).mono ?_
 rintro e w3 ⟨rfl, rfl⟩
 obtain ⟨r, hr⟩ : ∃ r, (findF t.text).1 = r := ⟨_, rfl⟩
 obtain ⟨b, hb⟩ : ∃ b, (findF t.text).2 = b := ⟨_, rfl⟩
 rw [hr, hb]
 have HR := Hh (Ai hr hb)
 clear hr hb
 by_cases hk : t.kind = 1
 ·have hk1 : ((t.kind : Int) != 1) = false := by rw [hk]; rfl
  cases b with
  | false =>
   have HK := Hh hk
   clear hk
   go_wp2_with fail
   refine (lwrong_v HA.out.1 HB.out.2).mono ?_
   rintro e w3 ⟨rfl, hb⟩
   have HC := Hh hb
   clear hb
   go_wp2_with fail
   refine ⟨rfl, Step.of (HB.out.1.trans (HC.out.mono HB.out.1.size)), Or.inr ⟨20, t.at_, by decide, ?_, rfl⟩⟩
   unfold knownM
   rw [text_at HA.out.1, HR.out.2, if_neg (by rintro ⟨_, h⟩; cases h)]
   unfold err
   rw [head_at HA.out.1]
  | true =>
   have hn := HA.out.2.1.more HA.out.1 (by omega)
   obtain ⟨a1, ha1⟩ : ∃ a1, a + 1 = a1 := ⟨_, rfl⟩
   obtain ⟨c0, c1⟩ := HB.out.2.cells
   have f1 := box_frozen HB.out.2.box 1
   obtain ⟨q1, q2, q3⟩ := plus1 hn HA.out.2.1.few ha1
   have g3 := HB.out.2.set a1 (by omega)
   have HK := Hh (Ai hk (Ai g3 ha1))
   clear hk hn g3 ha1 c0
   go_wp2_with fail
   go_ret
   refine ⟨(Step.of HB.out.1).trans (HK.out.2.1.1.mono HB.out.1.size), Or.inl ⟨r, a1, _, ?_, rfl, rfl, HK.out.2.1.2⟩⟩
   unfold knownM
   rw [text_at HA.out.1, HR.out.2, HR.out.1, kind_at HA.out.1, if_pos ⟨HK.out.1, rfl⟩, tail_at, HK.out.2.2]
 ·have hk1 : ((t.kind : Int) != 1) = true := by simp; omega
  have HK := Hh hk
  clear hk
  go_wp2_with fail
  refine (lwrong_v HA.out.1 HB.out.2).mono ?_
  rintro e w3 ⟨rfl, hb⟩
  have HC := Hh hb
  clear hb
  go_wp2_with fail
  refine ⟨rfl, Step.of (HB.out.1.trans (HC.out.mono HB.out.1.size)), Or.inr ⟨20, t.at_, by decide, ?_, rfl⟩⟩
  unfold knownM
  rw [kind_at HA.out.1, if_neg (by rintro ⟨h, _⟩; exact HK.out h)]
  unfold err
  rw [head_at HA.out.1]
set_option maxHeartbeats 1000000 in
theorem kclass_v (h : Lr w p g n cp ts a) :
  Calls Tryz.prog 118 #[.pointer (some ⟨p, 0, none⟩), .func (.func 119) #[] #[]] w (LP w p g n cp ts a (knownM classF) fun _ r val => val = .int .i64 r) := by
 obtain ⟨t, ht, _⟩ := h.tok
 have HA := Hh (Ai ht (Ai h True.intro))
 clear ht h
 go_enter Tryz.func118, Tryz.ntmps118
 go_wp2_with fail
 refine (ltok_v HA.out.1 HA.out.2.1).mono ?_
 rintro e w1 ⟨rfl, hb1⟩
 obtain ⟨w2, hw2⟩ : ∃ w2, w1.alloc (.cells #[.int .i64 t.kind, .string ⟨t.text.toArray⟩, .int .i64 t.n, .int .i64 t.cls, .int .i64 t.at_] 72) = w2 := ⟨_, rfl⟩
 have nb2 := new_box w1 _ 72 hw2
 have B2 : Below w.heap.size w w2 := hb1.trans (nb2.1.mono hb1.size)
 have R2 := HA.out.2.1.below B2
 obtain ⟨⟨x0, x1, x2, x3, x4⟩, _⟩ := box5 nb2.2
 have HB := Hh (Ai B2 R2)
 clear hb1 nb2 B2 R2
 unfold tkv tk tc
 go_wp2_with fail
 refine (classfind_v t w2).mono ?_
 rintro e w3 ⟨rfl, rfl⟩
 obtain ⟨r, hr⟩ : ∃ r, (classF t.text).1 = r := ⟨_, rfl⟩
 obtain ⟨b, hb⟩ : ∃ b, (classF t.text).2 = b := ⟨_, rfl⟩
 rw [hr, hb]
 have HR := Hh (Ai hr hb)
 clear hr hb
 by_cases hk : t.kind = 1
 ·have hk1 : ((t.kind : Int) != 1) = false := by rw [hk]; rfl
  cases b with
  | false =>
   have HK := Hh hk
   clear hk
   go_wp2_with fail
   refine (lwrong_v HA.out.1 HB.out.2).mono ?_
   rintro e w3 ⟨rfl, hb⟩
   have HC := Hh hb
   clear hb
   go_wp2_with fail
   refine ⟨rfl, Step.of (HB.out.1.trans (HC.out.mono HB.out.1.size)), Or.inr ⟨20, t.at_, by decide, ?_, rfl⟩⟩
   unfold knownM
   rw [text_at HA.out.1, HR.out.2, if_neg (by rintro ⟨_, h⟩; cases h)]
   unfold err
   rw [head_at HA.out.1]
  | true =>
   have hn := HA.out.2.1.more HA.out.1 (by omega)
   obtain ⟨a1, ha1⟩ : ∃ a1, a + 1 = a1 := ⟨_, rfl⟩
   obtain ⟨c0, c1⟩ := HB.out.2.cells
   have f1 := box_frozen HB.out.2.box 1
   obtain ⟨q1, q2, q3⟩ := plus1 hn HA.out.2.1.few ha1
   have g3 := HB.out.2.set a1 (by omega)
   have HK := Hh (Ai hk (Ai g3 ha1))
   clear hk hn g3 ha1 c0
   go_wp2_with fail
   go_ret
   refine ⟨(Step.of HB.out.1).trans (HK.out.2.1.1.mono HB.out.1.size), Or.inl ⟨r, a1, _, ?_, rfl, rfl, HK.out.2.1.2⟩⟩
   unfold knownM
   rw [text_at HA.out.1, HR.out.2, HR.out.1, kind_at HA.out.1, if_pos ⟨HK.out.1, rfl⟩, tail_at, HK.out.2.2]
 ·have hk1 : ((t.kind : Int) != 1) = true := by simp; omega
  have HK := Hh hk
  clear hk
  go_wp2_with fail
  refine (lwrong_v HA.out.1 HB.out.2).mono ?_
  rintro e w3 ⟨rfl, hb⟩
  have HC := Hh hb
  clear hb
  go_wp2_with fail
  refine ⟨rfl, Step.of (HB.out.1.trans (HC.out.mono HB.out.1.size)), Or.inr ⟨20, t.at_, by decide, ?_, rfl⟩⟩
  unfold knownM
  rw [kind_at HA.out.1, if_neg (by rintro ⟨h, _⟩; exact HK.out h)]
  unfold err
  rw [head_at HA.out.1]
end
end Go.Proofs.YtbpichjmkllfaaaGreatDoor.Par
