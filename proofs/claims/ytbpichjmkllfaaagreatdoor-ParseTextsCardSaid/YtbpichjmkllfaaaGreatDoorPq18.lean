/- Packed texts of one proof. Conditions: none. -/
import Derived.Test.YtbpichjmkllfaaaGreatDoorPq17
namespace Go.Proofs.YtbpichjmkllfaaaGreatDoor.Par
open Go.ChangeShapes Go.WideShapes Go.RowKit
open Lex (Tok tcl tkv tk tc)
set_option linter.unusedVariables false
set_option maxRecDepth 20000
section
variable {w : World} {p g n cp : Nat} {ts : List Tok} {a : Nat}
theorem ltag_v (hn : a + 1 < n) (h : Lr w p g n cp ts a) : Calls Tryz.prog 155 #[.pointer (some ⟨p, 0, none⟩)] w (LP w p g n cp ts a (fun l => tag l.tail) fun _ v val => val = .int .i64 v) := by
 have F2 := field2
 obtain ⟨a1, ha1⟩ : ∃ a1, a + 1 = a1 := ⟨_, rfl⟩
 obtain ⟨c0, c1⟩ := h.cells
 have f1 := box_frozen h.box 1
 obtain ⟨q1, q2, q3⟩ := plus1 hn h.few ha1
 obtain ⟨w1, hw1⟩ : ∃ w1, w.setCell ⟨p, 1, none⟩ (.int .i64 (a1 : Int)) = w1 := ⟨_, rfl⟩
 have g1 := h.set a1 (by omega)
 rw [hw1] at g1
 have HA := Hh (Ai g1 ha1)
 clear h hn g1 ha1 c0
 go_enter Tryz.func155, Tryz.ntmps155
 go_wp2_with fail
 try rw [hw1]
 clear c1 f1 q1 q2 q3 hw1
 refine (lmust_v ⟨#[58]⟩ HA.out.1.2).mono ?_
 rintro e w2 ⟨hs, ⟨_, a2, val, hm, rfl, rfl, hl⟩ | ⟨c, q, hc, hm, rfl⟩⟩
 ·have HB := Hh (Ai hs (Ai hm hl))
  clear hs hm hl
  go_wp2_with fail
  refine (lone_v 4 (by decide) HB.out.2.2).mono ?_
  rintro e w3 ⟨hs, ⟨t, a3, val, hm, rfl, rfl, hl⟩ | ⟨c, q, hc, hm, rfl⟩⟩
  ·have HC := Hh (Ai hs (Ai hm hl))
   clear hs hm hl
   unfold tkv
   go_wp2_with fail
   go_ret
   refine ⟨HA.out.1.1.trans ((HB.out.1.mono HA.out.1.1.size).trans (HC.out.1.mono (Nat.le_trans HA.out.1.1.size HB.out.1.size))), Or.inl ⟨t.n, a3, _, ?_, rfl, rfl, HC.out.2.2⟩⟩
   show tag (ts.drop a).tail = _
   rw [tail_at, HA.out.2]
   unfold tag
   rw [HB.out.2.1]
   show (ofk 4 _).bind _ = _
   rw [HC.out.2.1]
   rfl
  ·go_wp2_with fail
   refine ⟨rfl, HA.out.1.1.trans ((HB.out.1.mono HA.out.1.1.size).trans (hs.mono (Nat.le_trans HA.out.1.1.size HB.out.1.size))), Or.inr ⟨c, q, hc, ?_, rfl⟩⟩
   show tag (ts.drop a).tail = _
   rw [tail_at, HA.out.2]
   unfold tag
   rw [HB.out.2.1]
   show (ofk 4 _).bind _ = _
   rw [hm]
   rfl
 ·go_wp2_with fail
  refine ⟨rfl, HA.out.1.1.trans (hs.mono HA.out.1.1.size), Or.inr ⟨c, q, hc, ?_, rfl⟩⟩
  show tag (ts.drop a).tail = _
  rw [tail_at, HA.out.2]
  unfold tag
  rw [show must [58] (ts.drop a1) = _ from hm]
  rfl
def regO (l : List Tok) : Res Opn :=
 if kindOf l = 4 then (ofk 4 l).bind fun t l => .ok ⟨1, 0, t.n, 0⟩ l
 else if kindOf l = 5 then (ofk 5 l).bind fun t l => (tag l).bind fun v l => .ok ⟨2, t.cls, t.n, v⟩ l
 else if kindOf l = 6 then (ofk 6 l).bind fun t l => (tag l).bind fun v l => .ok ⟨3, 0, t.n, v⟩ l
 else err l
def opV (x : Opn) : Value := .agg #[.int .i64 x.k, .int .i64 x.c, .int .i64 x.n, .int .i64 x.t]
theorem sizeOp : (Tryz.prog.info? 64).map (·.size) = some 4 := by kernel_rfl
theorem fin_op {fn : Func} {q : Tmp} (h : fn.results = #[.cell q 64]) {act : Act} {w : World} {g : Nat} {x0 x1 x2 x3 : Value} {R : Ending → World → Prop}
  (hp : act.tmps.getD q undef = .pointer (some ⟨g, 0, none⟩)) (hg : w.heap[g]? = some (.cells #[x0, x1, x2, x3] 64 (0, 0))) (hd : act.defers = [])
  (hR : R (.returned (.agg #[x0, x1, x2, x3])) w) : bodyPost Tryz.prog fn R .ret act w :=
 bodyPost_ret (results_cell_row h _ _ g 64 _ (0, 0) _ hp hg Tryz.underlying64 rfl sizeOp) hd hR
theorem box4 {W : World} {b : Nat} {x0 x1 x2 x3 : Value} {T : TypeId} (h : W.heap[b]? = some (.cells #[x0, x1, x2, x3] T (0, 0))) :
  (W.cell? ⟨b, 0, none⟩ = some x0 ∧ W.cell? ⟨b, 1, none⟩ = some x1 ∧ W.cell? ⟨b, 2, none⟩ = some x2 ∧ W.cell? ⟨b, 3, none⟩ = some x3) ∧
  (W.frozen? ⟨b, 0, none⟩ = false ∧ W.frozen? ⟨b, 1, none⟩ = false ∧ W.frozen? ⟨b, 2, none⟩ = false ∧ W.frozen? ⟨b, 3, none⟩ = false) :=
 ⟨⟨cell_in h 0, cell_in h 1, cell_in h 2, cell_in h 3⟩, box_frozen h 0, box_frozen h 1, box_frozen h 2, box_frozen h 3⟩
structure Rg2 (w W : World) (H p : Nat) (t : Tok) : Prop where
 lo : w.heap.size < H
 plt : p < w.heap.size
 z : W.heap[w.heap.size]? = some (.cells #[.int .i64 0, .int .i64 0, .int .i64 0, .int .i64 0] 64 (0, 0))
 t : W.heap[H]? = some (.cells #[.int .i64 t.kind, .string ⟨t.text.toArray⟩, .int .i64 t.n, .int .i64 t.cls, .int .i64 t.at_] 72 (0, 0))
theorem Rg2.step {w W W' : World} {H p : Nat} {t : Tok} (h : Rg2 w W H p t) {B : Nat} (hs : Step B p W W') (hB : H < B) : Rg2 w W' H p t :=
 ⟨h.lo, h.plt, by rw [hs.2.2.2.2 _ (by have := h.lo; omega) (by have := h.plt; omega)]; exact h.z, by rw [hs.2.2.2.2 _ hB (by have := h.lo; have := h.plt; omega)]; exact h.t⟩
theorem Rg2.hi {w W : World} {H p : Nat} {t : Tok} (h : Rg2 w W H p t) : H < W.heap.size := (Array.getElem?_eq_some_iff.1 h.t).1
theorem T4 (w3 : World) {H b : Nat} {ob : Obj} {x0 x1 x2 x3 : Value} (h : w3.heap[H]? = some ob) (hb : H ≠ b) : (four w3 b x0 x1 x2 x3).heap[H]? = some ob := by
 rw [four_far hb]; exact h
set_option maxHeartbeats 1000000 in
theorem lreg_4 {t : Tok} (ht : ts[a]? = some t) (hk : t.kind = 4) (h : Lr w p g n cp ts a) : Calls Tryz.prog 144 #[.pointer (some ⟨p, 0, none⟩)] w (LP w p g n cp ts a regO fun _ x val => val = opV x) := by
 have hk0 : (t.kind : Int) = 4 := by omega
 have hn := h.more ht (by omega)
 obtain ⟨w0, hw0⟩ : ∃ w0, w.alloc (.cells #[.int .i64 0, .int .i64 0, .int .i64 0, .int .i64 0] 64) = w0 := ⟨_, rfl⟩
 have nb := new_box w _ 64 hw0
 have HA := Hh (Ai ht (Ai h (Ai nb (Ai hn hk))))
 clear ht h nb hn hk
 go_enter Tryz.func144, Tryz.ntmps144
 go_wp2_with fail
 try rw [hw0]
 clear hw0
 refine (ltok_v HA.out.1 (HA.out.2.1.below HA.out.2.2.1.1)).mono ?_
 rintro e w1 ⟨rfl, hb1⟩
 obtain ⟨w2, hw2⟩ : ∃ w2, w1.alloc (.cells #[.int .i64 t.kind, .string ⟨t.text.toArray⟩, .int .i64 t.n, .int .i64 t.cls, .int .i64 t.at_] 72) = w2 := ⟨_, rfl⟩
 have nb2 := new_box w1 _ 72 hw2
 have hz0 := kept_box HA.out.2.2.1.2 (hb1.trans (nb2.1.mono hb1.size))
 have B2 : Below w.heap.size w w2 := HA.out.2.2.1.1.trans ((hb1.trans (nb2.1.mono hb1.size)).mono HA.out.2.2.1.1.size)
 have R2 := HA.out.2.1.below B2
 have hlo : w.heap.size < w1.heap.size := Nat.lt_of_lt_of_le (Array.getElem?_eq_some_iff.1 HA.out.2.2.1.2).1 hb1.size
 have G2 : Rg2 w w2 w1.heap.size p t := ⟨hlo, HA.out.2.1.plt, hz0, nb2.2⟩
 obtain ⟨a1, ha1⟩ : ∃ a1, a + 1 = a1 := ⟨_, rfl⟩
 obtain ⟨c0, c1⟩ := R2.cells
 have f1 := box_frozen R2.box 1
 obtain ⟨q1, q2, q3⟩ := plus1 HA.out.2.2.2.1 HA.out.2.1.few ha1
 obtain ⟨w3, hw3⟩ : ∃ w3, w2.setCell ⟨p, 1, none⟩ (.int .i64 (a1 : Int)) = w3 := ⟨_, rfl⟩
 have g3 := R2.set a1 (by have := HA.out.2.2.2.1; omega)
 rw [hw3] at g3
 have G3 := G2.step g3.1 G2.hi
 obtain ⟨⟨x0, x1, x2, x3, x4⟩, _⟩ := box5 nb2.2
 obtain ⟨⟨y0, y1, y2, y3, y4⟩, _⟩ := box5 G3.t
 obtain ⟨⟨u0, u1, u2, u3⟩, v0, v1, v2, v3⟩ := box4 G3.z
 have HB := Hh (Ai B2 (Ai g3 (Ai G3 ha1)))
 rw [hk0] at x0 y0 hw2
 clear hb1 nb2 hz0 B2 R2 g3 hlo G2 G3 ha1 c0
 unfold tkv tk tc
 rw [hk0]
 go_wp2_with fail
 refine fin_op (fn := Tryz.f144) rfl rfl (four_heap HB.out.2.2.1.z) rfl ?_
 have hg : Below w.heap.size w3 (four w3 w.heap.size (.int .i64 1) (.int .i64 0) (.int .i64 t.n) (.int .i64 0)) := four_below (Below.refl _ w3) (Nat.le_refl _)
 refine ⟨((Step.of HB.out.1).trans (HB.out.2.1.1.mono HB.out.1.size)).trans (Step.of hg), Or.inl ⟨⟨1, 0, t.n, 0⟩, a1, _, ?_, rfl, rfl, HB.out.2.1.2.far hg HA.out.2.1.plt HA.out.2.1.glt⟩⟩
 unfold regO
 rw [if_pos (by rw [kind_at HA.out.1]; exact HA.out.2.2.2.2), drop_at HA.out.1, HB.out.2.2.2]
 unfold ofk
 simp only
 rw [if_pos HA.out.2.2.2.2]
 rfl
theorem reg5_ok {t : Tok} (ht : ts[a]? = some t) (hk : t.kind = 5) {v : Int} {r : List Tok} (h : (fun l => tag l.tail) (ts.drop a) = .ok v r) : regO (ts.drop a) = .ok ⟨2, t.cls, t.n, v⟩ r := by
 unfold regO
 rw [if_neg (by rw [kind_at ht, hk]; decide), if_pos (by rw [kind_at ht]; exact hk)]
 replace h : tag (ts.drop a).tail = _ := h
 rw [tail_at] at h
 rw [drop_at ht]
 unfold ofk
 simp only
 rw [if_pos hk]
 show (tag (ts.drop (a + 1))).bind _ = _
 rw [h]
 rfl
theorem reg5_bad {t : Tok} (ht : ts[a]? = some t) (hk : t.kind = 5) {c : Int} {q : Nat} (h : (fun l => tag l.tail) (ts.drop a) = .bad c q) : regO (ts.drop a) = .bad c q := by
 unfold regO
 rw [if_neg (by rw [kind_at ht, hk]; decide), if_pos (by rw [kind_at ht]; exact hk)]
 replace h : tag (ts.drop a).tail = _ := h
 rw [tail_at] at h
 rw [drop_at ht]
 unfold ofk
 simp only
 rw [if_pos hk]
 show (tag (ts.drop (a + 1))).bind _ = _
 rw [h]
 rfl
set_option maxHeartbeats 1000000 in
theorem lreg_5 {t : Tok} (ht : ts[a]? = some t) (hk : t.kind = 5) (h : Lr w p g n cp ts a) : Calls Tryz.prog 144 #[.pointer (some ⟨p, 0, none⟩)] w (LP w p g n cp ts a regO fun _ x val => val = opV x) := by
 have hk0 : (t.kind : Int) = 5 := by omega
 have hn := h.more ht (by omega)
 obtain ⟨w0, hw0⟩ : ∃ w0, w.alloc (.cells #[.int .i64 0, .int .i64 0, .int .i64 0, .int .i64 0] 64) = w0 := ⟨_, rfl⟩
 have nb := new_box w _ 64 hw0
 have HA := Hh (Ai ht (Ai h (Ai nb (Ai hn hk))))
 clear ht h nb hn hk
 go_enter Tryz.func144, Tryz.ntmps144
 go_wp2_with fail
 try rw [hw0]
 clear hw0
 refine (ltok_v HA.out.1 (HA.out.2.1.below HA.out.2.2.1.1)).mono ?_
 rintro e w1 ⟨rfl, hb1⟩
 obtain ⟨w2, hw2⟩ : ∃ w2, w1.alloc (.cells #[.int .i64 t.kind, .string ⟨t.text.toArray⟩, .int .i64 t.n, .int .i64 t.cls, .int .i64 t.at_] 72) = w2 := ⟨_, rfl⟩
 have nb2 := new_box w1 _ 72 hw2
 have hz0 := kept_box HA.out.2.2.1.2 (hb1.trans (nb2.1.mono hb1.size))
 have B2 : Below w.heap.size w w2 := HA.out.2.2.1.1.trans ((hb1.trans (nb2.1.mono hb1.size)).mono HA.out.2.2.1.1.size)
 have R2 := HA.out.2.1.below B2
 have hlo : w.heap.size < w1.heap.size := Nat.lt_of_lt_of_le (Array.getElem?_eq_some_iff.1 HA.out.2.2.1.2).1 hb1.size
 have G2 : Rg2 w w2 w1.heap.size p t := ⟨hlo, HA.out.2.1.plt, hz0, nb2.2⟩
 obtain ⟨⟨x0, x1, x2, x3, x4⟩, _⟩ := box5 nb2.2
 have HB := Hh (Ai B2 (Ai R2 G2))
 rw [hk0] at x0 hw2
 clear hb1 nb2 hz0 B2 R2 hlo G2
 unfold tkv tk tc
 rw [hk0]
 go_wp2_with fail
 clear hw2
 refine wp_region_held_drew (S := fun W => W.cell? ⟨w1.heap.size, 3, none⟩ = some (.int .i64 t.cls) ∧ W.cell? ⟨w1.heap.size, 2, none⟩ = some (.int .i64 t.n)) (by kernel_rfl) ⟨x3, x2⟩ (fun hHeld => ?_)
 refine wpAnyH_take (i := 0) (v := .pointer (some ⟨w1.heap.size, 3, none⟩)) rfl (by kernel_rfl) (by kernel_rfl) (by kernel_rfl) (fun _ _ _ h => h) (Or.inl ⟨by rfl, by intro W hSw; (try dsimp only at hSw); go_simp; try with_reducible rfl⟩) (by assumption) ?_
 try simp only [Act.put, Lzs]
 refine wpAnyH_take (i := 1) (v := .int .i64 t.cls) rfl (by kernel_rfl) (by kernel_rfl) (by kernel_rfl) (fun _ _ _ h => h) (Or.inl ⟨by rfl, by intro W hSw; (try dsimp only at hSw); go_simp; try with_reducible rfl⟩) (by assumption) ?_
 try simp only [Act.put]
 refine wpAnyH_take (i := 2) (v := .pointer (some ⟨w1.heap.size, 2, none⟩)) rfl (by kernel_rfl) (by kernel_rfl) (by kernel_rfl) (fun _ _ _ h => h) (Or.inl ⟨by rfl, by intro W hSw; (try dsimp only at hSw); go_simp; try with_reducible rfl⟩) (by assumption) ?_
 try simp only [Act.put]
 refine wpAnyH_take (i := 3) (v := .int .i64 t.n) rfl (by kernel_rfl) (by kernel_rfl) (by kernel_rfl) (fun _ _ _ h => h) (Or.inl ⟨by rfl, by intro W hSw; (try dsimp only at hSw); go_simp; try with_reducible rfl⟩) (by assumption) ?_
 try simp only [Act.put]
 refine wpAnyH_take (i := 4) (v := .pointer (some ⟨p, 0, none⟩)) rfl (by kernel_rfl) (by kernel_rfl) (by kernel_rfl) (fun _ _ _ h => h) (Or.inl ⟨by rfl, by intro W hSw; (try dsimp only at hSw); go_simp; try with_reducible rfl⟩) (by assumption) ?_
 try simp only [Act.put]
 refine wpAnyH_ready (rs := [5]) (by kernel_rfl) (by simp) ?_
 refine AllReadyH.cons rfl (fun K hK => ?_) AllReadyH.nil
 go_simp
 refine Calls.mono (ltag_v HA.out.2.2.2.1 (HB.out.2.1.below (Below.refl _ w2).drew)) ?_
 rintro e w3 ⟨hs, ⟨v, a1, val, hm, rfl, rfl, hl⟩ | ⟨c, q, hc, hm, rfl⟩⟩
 rotate_left
 ·exact ⟨rfl, (Step.of HB.out.1.drew).trans (hs.mono HB.out.1.size), Or.inr ⟨c, q, hc, reg5_bad HA.out.1 HA.out.2.2.2.2 hm, rfl⟩⟩
 have G3 := HB.out.2.2.step hs HB.out.2.2.hi
 obtain ⟨⟨y0, y1, y2, y3, y4⟩, _⟩ := box5 G3.t
 have HC := Hh (Ai (Ai hs hl) (Ai hm G3))
 clear hs hl hm
 obtain ⟨⟨u0, u1, u2, u3⟩, v0, v1, v2, v3⟩ := box4 G3.z
 clear G3
 go_wp2_with fail
 refine hK.out _ _ ⟨y3, y2⟩ (fun hHeld => ?_)
 clear hK K
 try simp only [Act.put, Lzs, Lz0, Lz1]
 refine wpAnyH_take (i := 6) (v := .agg #[.int .i64 2, .int .i64 t.cls, .int .i64 t.n, .int .i64 v]) rfl (by kernel_rfl) (by kernel_rfl) (by kernel_rfl) (fun _ _ _ h => h) (Or.inl ⟨by rfl, by intro W hSw; (try dsimp only at hSw); go_simp; try with_reducible rfl⟩) (by assumption) ?_
 try simp only [Act.put, Lzs]
 refine wpAnyH_ready (rs := [7]) (by kernel_rfl) (by simp) ?_
 refine AllReadyH.cons rfl (fun K hK => ?_) AllReadyH.nil
 go_simp
 refine hK.out _ _ ⟨cell_in (T4 w3 HC.out.2.2.t (by have := HC.out.2.2.lo; omega)) 3, cell_in (T4 w3 HC.out.2.2.t (by have := HC.out.2.2.lo; omega)) 2⟩ (fun hHeld => ?_)
 clear hK K
 try simp only [Act.put, Lzs, Lz0, Lz1]
 refine wpAnyH_done (by kernel_rfl) ?_ _
 go_wp2_with fail
 refine fin_op (fn := Tryz.f144) rfl rfl (four_heap HC.out.2.2.z) rfl ?_
 have hg : Below w.heap.size w3 (four w3 w.heap.size (.int .i64 2) (.int .i64 t.cls) (.int .i64 t.n) (.int .i64 v)) := four_below (Below.refl _ w3) (Nat.le_refl _)
 refine ⟨((Step.of HB.out.1.drew).trans (HC.out.1.1.mono HB.out.1.size)).trans (Step.of hg), Or.inl ⟨⟨2, t.cls, t.n, v⟩, a1, _, ?_, rfl, rfl, HC.out.1.2.far hg HA.out.2.1.plt HA.out.2.1.glt⟩⟩
 exact reg5_ok HA.out.1 HA.out.2.2.2.2 HC.out.2.1
theorem reg6_ok {t : Tok} (ht : ts[a]? = some t) (hk : t.kind = 6) {v : Int} {r : List Tok} (h : (fun l => tag l.tail) (ts.drop a) = .ok v r) : regO (ts.drop a) = .ok ⟨3, 0, t.n, v⟩ r := by
 unfold regO
 rw [if_neg (by rw [kind_at ht, hk]; decide), if_neg (by rw [kind_at ht, hk]; decide), if_pos (by rw [kind_at ht]; exact hk)]
 replace h : tag (ts.drop a).tail = _ := h
 rw [tail_at] at h
 rw [drop_at ht]
 unfold ofk
 simp only
 rw [if_pos hk]
 show (tag (ts.drop (a + 1))).bind _ = _
 rw [h]
 rfl
theorem reg6_bad {t : Tok} (ht : ts[a]? = some t) (hk : t.kind = 6) {c : Int} {q : Nat} (h : (fun l => tag l.tail) (ts.drop a) = .bad c q) : regO (ts.drop a) = .bad c q := by
 unfold regO
 rw [if_neg (by rw [kind_at ht, hk]; decide), if_neg (by rw [kind_at ht, hk]; decide), if_pos (by rw [kind_at ht]; exact hk)]
 replace h : tag (ts.drop a).tail = _ := h
 rw [tail_at] at h
 rw [drop_at ht]
 unfold ofk
 simp only
 rw [if_pos hk]
 show (tag (ts.drop (a + 1))).bind _ = _
 rw [h]
 rfl
set_option maxHeartbeats 1000000 in
theorem lreg_6 {t : Tok} (ht : ts[a]? = some t) (hk : t.kind = 6) (h : Lr w p g n cp ts a) : Calls Tryz.prog 144 #[.pointer (some ⟨p, 0, none⟩)] w (LP w p g n cp ts a regO fun _ x val => val = opV x) := by
 have hk0 : (t.kind : Int) = 6 := by omega
 have hn := h.more ht (by omega)
 obtain ⟨w0, hw0⟩ : ∃ w0, w.alloc (.cells #[.int .i64 0, .int .i64 0, .int .i64 0, .int .i64 0] 64) = w0 := ⟨_, rfl⟩
 have nb := new_box w _ 64 hw0
 have HA := Hh (Ai ht (Ai h (Ai nb (Ai hn hk))))
 clear ht h nb hn hk
 go_enter Tryz.func144, Tryz.ntmps144
 go_wp2_with fail
 try rw [hw0]
 clear hw0
 refine (ltok_v HA.out.1 (HA.out.2.1.below HA.out.2.2.1.1)).mono ?_
 rintro e w1 ⟨rfl, hb1⟩
 obtain ⟨w2, hw2⟩ : ∃ w2, w1.alloc (.cells #[.int .i64 t.kind, .string ⟨t.text.toArray⟩, .int .i64 t.n, .int .i64 t.cls, .int .i64 t.at_] 72) = w2 := ⟨_, rfl⟩
 have nb2 := new_box w1 _ 72 hw2
 have hz0 := kept_box HA.out.2.2.1.2 (hb1.trans (nb2.1.mono hb1.size))
 have B2 : Below w.heap.size w w2 := HA.out.2.2.1.1.trans ((hb1.trans (nb2.1.mono hb1.size)).mono HA.out.2.2.1.1.size)
 have R2 := HA.out.2.1.below B2
 have hlo : w.heap.size < w1.heap.size := Nat.lt_of_lt_of_le (Array.getElem?_eq_some_iff.1 HA.out.2.2.1.2).1 hb1.size
 have G2 : Rg2 w w2 w1.heap.size p t := ⟨hlo, HA.out.2.1.plt, hz0, nb2.2⟩
 obtain ⟨⟨x0, x1, x2, x3, x4⟩, _⟩ := box5 nb2.2
 have HB := Hh (Ai B2 (Ai R2 G2))
 rw [hk0] at x0 hw2
 clear hb1 nb2 hz0 B2 R2 hlo G2
 unfold tkv tk tc
 rw [hk0]
 go_wp2_with fail
 clear hw2
 refine wp_region_held_drew (S := fun W => W.cell? ⟨w1.heap.size, 2, none⟩ = some (.int .i64 t.n)) (by kernel_rfl) x2 (fun hHeld => ?_)
 refine wpAnyH_take (i := 0) (v := .pointer (some ⟨w1.heap.size, 2, none⟩)) rfl (by kernel_rfl) (by kernel_rfl) (by kernel_rfl) (fun _ _ _ h => h) (Or.inl ⟨by rfl, by intro W hSw; (try dsimp only at hSw); go_simp; try with_reducible rfl⟩) (by assumption) ?_
 try simp only [Act.put, Lzs]
 refine wpAnyH_take (i := 1) (v := .int .i64 t.n) rfl (by kernel_rfl) (by kernel_rfl) (by kernel_rfl) (fun _ _ _ h => h) (Or.inl ⟨by rfl, by intro W hSw; (try dsimp only at hSw); go_simp; try with_reducible rfl⟩) (by assumption) ?_
 try simp only [Act.put]
 refine wpAnyH_take (i := 2) (v := .pointer (some ⟨p, 0, none⟩)) rfl (by kernel_rfl) (by kernel_rfl) (by kernel_rfl) (fun _ _ _ h => h) (Or.inl ⟨by rfl, by intro W hSw; (try dsimp only at hSw); go_simp; try with_reducible rfl⟩) (by assumption) ?_
 try simp only [Act.put]
 refine wpAnyH_ready (rs := [3]) (by kernel_rfl) (by simp) ?_
 refine AllReadyH.cons rfl (fun K hK => ?_) AllReadyH.nil
 go_simp
 refine Calls.mono (ltag_v HA.out.2.2.2.1 (HB.out.2.1.below (Below.refl _ w2).drew)) ?_
 rintro e w3 ⟨hs, ⟨v, a1, val, hm, rfl, rfl, hl⟩ | ⟨c, q, hc, hm, rfl⟩⟩
 rotate_left
 ·exact ⟨rfl, (Step.of HB.out.1.drew).trans (hs.mono HB.out.1.size), Or.inr ⟨c, q, hc, reg6_bad HA.out.1 HA.out.2.2.2.2 hm, rfl⟩⟩
 have G3 := HB.out.2.2.step hs HB.out.2.2.hi
 obtain ⟨⟨y0, y1, y2, y3, y4⟩, _⟩ := box5 G3.t
 have HC := Hh (Ai (Ai hs hl) (Ai hm G3))
 clear hs hl hm
 obtain ⟨⟨u0, u1, u2, u3⟩, v0, v1, v2, v3⟩ := box4 G3.z
 clear G3
 go_wp2_with fail
 refine hK.out _ _ y2 (fun hHeld => ?_)
 clear hK K
 try simp only [Act.put, Lzs, Lz0, Lz1]
 refine wpAnyH_take (i := 4) (v := .agg #[.int .i64 3, .int .i64 0, .int .i64 t.n, .int .i64 v]) rfl (by kernel_rfl) (by kernel_rfl) (by kernel_rfl) (fun _ _ _ h => h) (Or.inl ⟨by rfl, by intro W hSw; (try dsimp only at hSw); go_simp; try with_reducible rfl⟩) (by assumption) ?_
 try simp only [Act.put, Lzs]
 refine wpAnyH_ready (rs := [5]) (by kernel_rfl) (by simp) ?_
 refine AllReadyH.cons rfl (fun K hK => ?_) AllReadyH.nil
 go_simp
 refine hK.out _ _ (cell_in (T4 w3 HC.out.2.2.t (by have := HC.out.2.2.lo; omega)) 2) (fun hHeld => ?_)
 clear hK K
 try simp only [Act.put, Lzs, Lz0, Lz1]
 refine wpAnyH_done (by kernel_rfl) ?_ _
 go_wp2_with fail
 refine fin_op (fn := Tryz.f144) rfl rfl (four_heap HC.out.2.2.z) rfl ?_
 have hg : Below w.heap.size w3 (four w3 w.heap.size (.int .i64 3) (.int .i64 0) (.int .i64 t.n) (.int .i64 v)) := four_below (Below.refl _ w3) (Nat.le_refl _)
 refine ⟨((Step.of HB.out.1.drew).trans (HC.out.1.1.mono HB.out.1.size)).trans (Step.of hg), Or.inl ⟨⟨3, 0, t.n, v⟩, a1, _, ?_, rfl, rfl, HC.out.1.2.far hg HA.out.2.1.plt HA.out.2.1.glt⟩⟩
 exact reg6_ok HA.out.1 HA.out.2.2.2.2 HC.out.2.1
theorem lreg_no {t : Tok} (ht : ts[a]? = some t) (h4 : t.kind ≠ 4) (h5 : t.kind ≠ 5) (h6 : t.kind ≠ 6) (h : Lr w p g n cp ts a) : Calls Tryz.prog 144 #[.pointer (some ⟨p, 0, none⟩)] w (LP w p g n cp ts a regO fun _ x val => val = opV x) := by
 have k4 : ((t.kind : Int) == 4) = false := by rw [Bqf]; omega
 have k5 : ((t.kind : Int) == 5) = false := by rw [Bqf]; omega
 have k6 : ((t.kind : Int) == 6) = false := by rw [Bqf]; omega
 obtain ⟨w0, hw0⟩ : ∃ w0, w.alloc (.cells #[.int .i64 0, .int .i64 0, .int .i64 0, .int .i64 0] 64) = w0 := ⟨_, rfl⟩
 have nb := new_box w _ 64 hw0
 have HA := Hh (Ai ht (Ai h (Ai nb (Ai h4 (Ai h5 h6)))))
 clear ht h nb h4 h5 h6
 go_enter Tryz.func144, Tryz.ntmps144
 go_wp2_with fail
 try rw [hw0]
 clear hw0
 refine (ltok_v HA.out.1 (HA.out.2.1.below HA.out.2.2.1.1)).mono ?_
 rintro e w1 ⟨rfl, hb1⟩
 obtain ⟨w2, hw2⟩ : ∃ w2, w1.alloc (.cells #[.int .i64 t.kind, .string ⟨t.text.toArray⟩, .int .i64 t.n, .int .i64 t.cls, .int .i64 t.at_] 72) = w2 := ⟨_, rfl⟩
 have nb2 := new_box w1 _ 72 hw2
 have B2 : Below w.heap.size w w2 := HA.out.2.2.1.1.trans ((hb1.trans (nb2.1.mono hb1.size)).mono HA.out.2.2.1.1.size)
 obtain ⟨⟨x0, x1, x2, x3, x4⟩, _⟩ := box5 nb2.2
 have HB := Hh B2
 clear hb1 nb2 B2
 unfold tkv tk tc
 go_wp2_with fail
 refine (lwrong_v HA.out.1 (HA.out.2.1.below HB.out)).mono ?_
 rintro e w3 ⟨rfl, hb⟩
 have HC := Hh hb
 clear hb
 go_wp2_with fail
 refine ⟨rfl, Step.of (HB.out.trans (HC.out.mono HB.out.size)), Or.inr ⟨20, t.at_, by decide, ?_, rfl⟩⟩
 unfold regO
 rw [kind_at HA.out.1, if_neg HA.out.2.2.2.1, if_neg HA.out.2.2.2.2.1, if_neg HA.out.2.2.2.2.2]
 unfold err
 rw [head_at HA.out.1]
theorem lreg_v (h : Lr w p g n cp ts a) : Calls Tryz.prog 144 #[.pointer (some ⟨p, 0, none⟩)] w (LP w p g n cp ts a regO fun _ x val => val = opV x) := by
 obtain ⟨t, ht, _⟩ := h.tok
 by_cases h4 : t.kind = 4
 ·exact lreg_4 ht h4 h
 by_cases h5 : t.kind = 5
 ·exact lreg_5 ht h5 h
 by_cases h6 : t.kind = 6
 ·exact lreg_6 ht h6 h
 ·exact lreg_no ht h4 h5 h6 h
end
theorem mach_code (l : List Tok) : ∀ (k : Nat) (md : Fol.Mode) (a : Nat) (stk : List Fol.Opn) (c : Int) (q : Nat), Fol.mach l k md a stk = some (.bad c q) → c ≠ 0 := by
 intro k
 induction k with
 | zero => intro md a stk c q h; cases md <;> cases h
 | succ k ih =>
  intro md a stk c q h
  cases md with
  | fac =>
   rw [Fol.mach] at h
   cases h0 : l[a]? with
   | none => rw [h0] at h; cases h
   | some t0 =>
    rw [h0] at h
    simp only at h
    cases h1 : l[if Fol.isT t0 [45] = true then a + 1 else a]? with
    | none => rw [h1] at h; cases h
    | some t =>
     rw [h1] at h
     simp only at h
     split at h
     ·split at h
      ·exact ih _ _ _ _ _ h
      ·rename_i hne
       injection h with h
       injection h with h1 h2
       rw [← h1]; exact hne
     ·split at h
      ·exact ih _ _ _ _ _ h
      ·rename_i hne
       injection h with h
       injection h with h1 h2
       rw [← h1]; exact hne
  | beh x =>
   cases stk with
   | nil => cases h
   | cons o r =>
    rw [Fol.mach] at h
    cases h0 : l[a]? with
    | none => rw [h0] at h; cases h
    | some t =>
     rw [h0] at h
     simp only at h
     split at h
     ·exact ih _ _ _ _ _ h
     ·split at h
      ·exact ih _ _ _ _ _ h
      ·split at h
       ·exact ih _ _ _ _ _ h
       ·split at h
        ·exact ih _ _ _ _ _ h
        ·injection h with h
         injection h with h1 h2
         rw [← h1]; decide
section
variable {w : World} {p g n cp : Nat} {ts : List Tok} {a : Nat}
theorem Lr.in_ (h : Lr w p g n cp ts a) {b : Nat} (hs : Sub (ts.drop a) (ts.drop b)) : b < n := by
 have h1 := (h.ends.drop (a := a) (by rw [h.len]; exact h.lt)).sub hs
 have h2 := List.length_pos_iff.2 h1.ne
 rw [List.length_drop, h.len] at h2
 omega
theorem lval_v (h : Lr w p g n cp ts a) : Calls Tryz.prog 153 #[.pointer (some ⟨p, 0, none⟩)] w (LP w p g n cp ts a value fun _ v val => val = .int .i64 v) := by
 have hE : Ends (ts.drop a) := h.ends.drop (by rw [h.len]; exact h.lt)
 obtain ⟨R, hR⟩ := mach_some ts h.ends (2 * ts.length + 2) .fac a [] (by rw [h.len]; exact h.lt) (by omega)
 have hv := value_mach hE hR
 obtain ⟨u, e0, hu, he⟩ := h.ends
 have hcall := fun (W : World) (hT : Fol.TkAt W g ts) => Fol.value_at ts g cp a _ R hR (by rw [h.len]; exact h.lt) u e0 he hu (by rw [h.len]; have := h.few; omega) W hT
 rw [h.len] at hcall
 obtain ⟨c0, c1⟩ := h.cells
 have f1 := box_frozen h.box 1
 have HA := Hh (Ai hv (Ai h hcall))
 clear hv h hcall hu
 cases R with
 | val v b =>
  have hsub := (value_sub (show value (ts.drop a) = .ok v (ts.drop b) from HA.out.1)).1
  have hb := HA.out.2.1.in_ hsub
  have HB := Hh hb
  clear hsub hb hR hE
  go_enter Tryz.func153, Tryz.ntmps153
  go_wp2_with fail
  go_region_held3 (fun W => W.cell? ⟨p, 0, none⟩ = some (.slice (some ⟨g, 0, none⟩) n cp) ∧ W.cell? ⟨p, 1, none⟩ = some (.int .i64 (a : Int)))
   (first | exact ⟨y0, y1⟩ | exact ⟨c0, c1⟩)
   (first | (go_at_call 167; (refine Calls.mono (HA.out.2.2 _ (HA.out.2.1.below (Below.refl _ w).drew).tk_) ?_); rintro e w1 ⟨rfl, hb1⟩; have R1 := (HA.out.2.1.below (Below.refl _ w).drew).below hb1; have HC := Hh (Ai hb1 R1); obtain ⟨y0, y1⟩ := R1.cells; have f2 := box_frozen R1.box 1; clear hb1 R1; unfold Fol.resE))
  all_goals
   go_wp2_with fail
   go_ret
   have g3 := HC.out.2.set b HB.out
   exact ⟨(Step.of (((Below.refl _ w).drew).trans HC.out.1)).trans (g3.1.mono HC.out.1.size), Or.inl ⟨v, b, _, HA.out.1, rfl, rfl, g3.2⟩⟩
 | bad c q =>
  have hc := mach_code ts _ _ _ _ c q hR
  have HB := Hh hc
  have hnil : ∀ W : World, (binOp .neq 29 (Fau.bare c (q : Int)) .nilIface).run Tryz.prog W = .ok (.bool true) W := fun W => by kernel_rfl
  clear hc hR hE
  go_enter Tryz.func153, Tryz.ntmps153
  go_wp2_with fail
  go_region_held3 (fun W => W.cell? ⟨p, 0, none⟩ = some (.slice (some ⟨g, 0, none⟩) n cp) ∧ W.cell? ⟨p, 1, none⟩ = some (.int .i64 (a : Int)))
   (first | exact ⟨y0, y1⟩ | exact ⟨c0, c1⟩)
   (first | (go_at_call 167; (refine Calls.mono (HA.out.2.2 _ (HA.out.2.1.below (Below.refl _ w).drew).tk_) ?_); rintro e w1 ⟨rfl, hb1⟩; have R1 := (HA.out.2.1.below (Below.refl _ w).drew).below hb1; have HC := Hh (Ai hb1 R1); obtain ⟨y0, y1⟩ := R1.cells; clear hb1 R1; unfold Fol.resE))
  all_goals
   unfold Fau.bare
   go_wp2_with fail
   exact ⟨rfl, Step.of (((Below.refl _ w).drew).trans HC.out.1), Or.inr ⟨c, q, HB.out, HA.out.1, rfl⟩⟩
theorem lop_4 {t : Tok} (ht : ts[a]? = some t) (hk : t.kind = 4 ∨ t.kind = 5 ∨ t.kind = 6) (h : Lr w p g n cp ts a) : Calls Tryz.prog 139 #[.pointer (some ⟨p, 0, none⟩)] w (LP w p g n cp ts a operand fun _ x val => val = opV x) := by
 have F0 := field0
 obtain ⟨w0, hw0⟩ : ∃ w0, w.alloc (.cells #[.int .i64 0, .int .i64 0, .int .i64 0, .int .i64 0] 64) = w0 := ⟨_, rfl⟩
 have nb := new_box w _ 64 hw0
 have hm : operand (ts.drop a) = regO (ts.drop a) := by
  unfold operand regO
  rw [kind_at ht]
  rcases hk with hk | hk | hk <;> rw [hk] <;> rfl
 have HA := Hh (Ai ht (Ai h (Ai nb hm)))
 have hkk : ((t.kind : Int) = 4) ∨ ((t.kind : Int) = 5) ∨ ((t.kind : Int) = 6) := by omega
 clear ht h nb hk hm
 obtain ⟨K, hK⟩ : ∃ K : Int, (t.kind : Int) = K := ⟨_, rfl⟩
 rw [hK] at hkk
 have HK := Hh hK
 clear hK
 rcases hkk with rfl | rfl | rfl
 all_goals
  go_enter Tryz.func139, Tryz.ntmps139
  go_wp2_with fail
  try rw [hw0]
  refine (ltok_v HA.out.1 (HA.out.2.1.below HA.out.2.2.1.1)).mono ?_
  rintro e w1 ⟨rfl, hb1⟩
  have R1 := HA.out.2.1.below (HA.out.2.2.1.1.trans (hb1.mono HA.out.2.2.1.1.size))
  have hz := kept_box HA.out.2.2.1.2 hb1
  have HB := Hh (Ai (HA.out.2.2.1.1.trans (hb1.mono HA.out.2.2.1.1.size)) (Ai R1 hz))
  clear hb1 R1 hz
  unfold tkv
  rw [HK.out]
  go_wp2_with fail
  refine (lreg_v HB.out.2.1).mono ?_
  rintro e w2 ⟨hs, ⟨x, a1, val, hm, rfl, rfl, hl⟩ | ⟨c, q, hc, hm, rfl⟩⟩
  ·have hlo := (Array.getElem?_eq_some_iff.1 HB.out.2.2).1
   have hz : w2.heap[w.heap.size]? = some (.cells #[.int .i64 0, .int .i64 0, .int .i64 0, .int .i64 0] 64 (0, 0)) := by
    rw [hs.2.2.2.2 _ hlo (by have := HA.out.2.1.plt; omega)]; exact HB.out.2.2
   have HC := Hh (Ai hs (Ai hm (Ai hl hz)))
   clear hs hm hl hlo
   obtain ⟨⟨u0, u1, u2, u3⟩, v0, v1, v2, v3⟩ := box4 hz
   clear hz
   unfold opV
   go_wp2_with fail
   refine fin_op (fn := Tryz.f139) rfl rfl (four_heap HC.out.2.2.2) rfl ?_
   have hg : Below w.heap.size w2 (four w2 w.heap.size (.int .i64 x.k) (.int .i64 x.c) (.int .i64 x.n) (.int .i64 x.t)) := four_below (Below.refl _ w2) (Nat.le_refl _)
   exact ⟨((Step.of HB.out.1).trans (HC.out.1.mono HB.out.1.size)).trans (Step.of hg), Or.inl ⟨x, a1, _, by rw [HA.out.2.2.2]; exact HC.out.2.1, rfl, rfl, HC.out.2.2.1.far hg HA.out.2.1.plt HA.out.2.1.glt⟩⟩
  ·go_wp2_with fail
   exact ⟨rfl, (Step.of HB.out.1).trans (hs.mono HB.out.1.size), Or.inr ⟨c, q, hc, by rw [HA.out.2.2.2]; exact hm, rfl⟩⟩
theorem lop_no {t : Tok} (ht : ts[a]? = some t) (h4 : t.kind ≠ 4) (h5 : t.kind ≠ 5) (h6 : t.kind ≠ 6) (h : Lr w p g n cp ts a) : Calls Tryz.prog 139 #[.pointer (some ⟨p, 0, none⟩)] w (LP w p g n cp ts a operand fun _ x val => val = opV x) := by
 have F0 := field0
 have k4 : ((t.kind : Int) == 4) = false := by rw [Bqf]; omega
 have k5 : ((t.kind : Int) == 5) = false := by rw [Bqf]; omega
 have k6 : ((t.kind : Int) == 6) = false := by rw [Bqf]; omega
 obtain ⟨w0, hw0⟩ : ∃ w0, w.alloc (.cells #[.int .i64 0, .int .i64 0, .int .i64 0, .int .i64 0] 64) = w0 := ⟨_, rfl⟩
 have nb := new_box w _ 64 hw0
 have hm : operand (ts.drop a) = (if isB (ts.drop a) [95] = true then .ok ⟨0, 0, 0, 0⟩ (ts.drop a).tail else (value (ts.drop a)).bind fun n l => .ok ⟨4, 0, n, 0⟩ l) := by
  unfold operand
  rw [kind_at ht, if_neg h4, if_neg h5, if_neg h6]
 have HA := Hh (Ai ht (Ai h (Ai nb hm)))
 clear ht h nb h4 h5 h6 hm
 go_enter Tryz.func139, Tryz.ntmps139
 go_wp2_with fail
 try rw [hw0]
 refine (ltok_v HA.out.1 (HA.out.2.1.below HA.out.2.2.1.1)).mono ?_
 rintro e w1 ⟨rfl, hb1⟩
 have R1 := HA.out.2.1.below (HA.out.2.2.1.1.trans (hb1.mono HA.out.2.2.1.1.size))
 have hz := kept_box HA.out.2.2.1.2 hb1
 have HB := Hh (Ai (HA.out.2.2.1.1.trans (hb1.mono HA.out.2.2.1.1.size)) (Ai R1 hz))
 clear hb1 R1 hz
 unfold tkv
 go_wp2_with fail
 cases hr : isB (ts.drop a) [95] with
 | true =>
  refine (lmay_yes ⟨#[95]⟩ hr HB.out.2.1).mono ?_
  rintro e w2 ⟨rfl, hs, hl⟩
  have hlo := (Array.getElem?_eq_some_iff.1 HB.out.2.2).1
  have hz : w2.heap[w.heap.size]? = some (.cells #[.int .i64 0, .int .i64 0, .int .i64 0, .int .i64 0] 64 (0, 0)) := by
   rw [hs.2.2.2.2 _ hlo (by have := HA.out.2.1.plt; omega)]; exact HB.out.2.2
  have HC := Hh (Ai hs (Ai hr (Ai hl hz)))
  clear hs hr hl hlo
  obtain ⟨⟨u0, u1, u2, u3⟩, v0, v1, v2, v3⟩ := box4 hz
  clear hz
  go_wp2_with fail
  refine fin_op (fn := Tryz.f139) rfl rfl (four_heap HC.out.2.2.2) rfl ?_
  have hg : Below w.heap.size w2 (four w2 w.heap.size (.int .i64 0) (.int .i64 0) (.int .i64 0) (.int .i64 0)) := four_below (Below.refl _ w2) (Nat.le_refl _)
  exact ⟨((Step.of HB.out.1).trans (HC.out.1.mono HB.out.1.size)).trans (Step.of hg), Or.inl ⟨⟨0, 0, 0, 0⟩, a + 1, _, by rw [HA.out.2.2.2, if_pos HC.out.2.1, tail_at], rfl, rfl, HC.out.2.2.1.far hg HA.out.2.1.plt HA.out.2.1.glt⟩⟩
 | false =>
  refine (lmay_no ⟨#[95]⟩ hr HB.out.2.1).mono ?_
  rintro e w2 ⟨rfl, hb2⟩
  have HD := Hh (Ai hb2 (Ai hr (HB.out.2.1.below hb2)))
  clear hb2 hr
  go_wp2_with fail
  refine (lval_v HD.out.2.2).mono ?_
  rintro e w3 ⟨hs, ⟨v, a1, val, hm, rfl, rfl, hl⟩ | ⟨c, q, hc, hm, rfl⟩⟩
  ·have hlo := (Array.getElem?_eq_some_iff.1 HB.out.2.2).1
   have hz : w3.heap[w.heap.size]? = some (.cells #[.int .i64 0, .int .i64 0, .int .i64 0, .int .i64 0] 64 (0, 0)) := by
    rw [hs.2.2.2.2 _ (by have := HD.out.1.size; omega) (by have := HA.out.2.1.plt; omega)]; exact kept_box HB.out.2.2 HD.out.1
   have HC := Hh (Ai hs (Ai hm (Ai hl hz)))
   clear hs hm hl hlo
   obtain ⟨⟨u0, u1, u2, u3⟩, v0, v1, v2, v3⟩ := box4 hz
   clear hz
   go_wp2_with fail
   refine fin_op (fn := Tryz.f139) rfl rfl (four_heap HC.out.2.2.2) rfl ?_
   have hg : Below w.heap.size w3 (four w3 w.heap.size (.int .i64 4) (.int .i64 0) (.int .i64 v) (.int .i64 0)) := four_below (Below.refl _ w3) (Nat.le_refl _)
   refine ⟨(((Step.of HB.out.1).trans (Step.of (HD.out.1.mono HB.out.1.size))).trans (HC.out.1.mono (Nat.le_trans HB.out.1.size HD.out.1.size))).trans (Step.of hg), Or.inl ⟨⟨4, 0, v, 0⟩, a1, _, ?_, rfl, rfl, HC.out.2.2.1.far hg HA.out.2.1.plt HA.out.2.1.glt⟩⟩
   rw [HA.out.2.2.2, HD.out.2.1]
   show (value _).bind _ = _
   rw [HC.out.2.1]
   rfl
  ·go_wp2_with fail
   refine ⟨rfl, ((Step.of HB.out.1).trans (Step.of (HD.out.1.mono HB.out.1.size))).trans (hs.mono (Nat.le_trans HB.out.1.size HD.out.1.size)), Or.inr ⟨c, q, hc, ?_, rfl⟩⟩
   rw [HA.out.2.2.2, HD.out.2.1]
   show (value _).bind _ = _
   rw [hm]
   rfl
theorem lop_v (h : Lr w p g n cp ts a) : Calls Tryz.prog 139 #[.pointer (some ⟨p, 0, none⟩)] w (LP w p g n cp ts a operand fun _ x val => val = opV x) := by
 obtain ⟨t, ht, _⟩ := h.tok
 by_cases h4 : t.kind = 4
 ·exact lop_4 ht (.inl h4) h
 by_cases h5 : t.kind = 5
 ·exact lop_4 ht (.inr (.inl h5)) h
 by_cases h6 : t.kind = 6
 ·exact lop_4 ht (.inr (.inr h6)) h
 ·exact lop_no ht h4 h5 h6 h
end
end Go.Proofs.YtbpichjmkllfaaaGreatDoor.Par
