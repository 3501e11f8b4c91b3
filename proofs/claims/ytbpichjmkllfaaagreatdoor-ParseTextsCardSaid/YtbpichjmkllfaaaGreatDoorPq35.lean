/- Packed texts of one proof. Conditions: none. -/
import Derived.Test.YtbpichjmkllfaaaGreatDoorPq34
namespace Go.Proofs.YtbpichjmkllfaaaGreatDoor.Par
open Go.ChangeShapes Go.WideShapes Go.RowKit
open Lex (Tok tcl tkv tk tc)
set_option linter.unusedVariables false
set_option maxRecDepth 20000
def three (w : World) (b : Nat) (x0 x1 x2 : Value) : World := ((w.setCell ⟨b, 0, none⟩ x0).setCell ⟨b, 1, none⟩ x1).setCell ⟨b, 2, none⟩ x2
theorem three_heap {w : World} {b : Nat} {x0 x1 x2 y0 y1 y2 : Value} {T : TypeId} (h : w.heap[b]? = some (.cells #[y0, y1, y2] T (0, 0))) : (three w b x0 x1 x2).heap[b]? = some (.cells #[x0, x1, x2] T (0, 0)) := by
 unfold three
 simp [World.setCell, Array.getElem?_modify, h]
theorem three_below {B : Nat} {w w1 : World} {b : Nat} {x0 x1 x2 : Value} (h : Below B w w1) (hb : B ≤ b) : Below B w (three w1 b x0 x1 x2) :=
 ((h.setCell (p := ⟨b, 0, none⟩) hb _).setCell (p := ⟨b, 1, none⟩) hb _).setCell (p := ⟨b, 2, none⟩) hb _
theorem sizeLoc : (Tryz.prog.info? 144).map (·.size) = some 3 := by kernel_rfl
theorem fin_loc {fn : Func} {q : Tmp} (h : fn.results = #[.cell q 144]) {act : Act} {w : World} {g : Nat} {x0 x1 x2 : Value} {R : Ending → World → Prop}
  (hp : act.tmps.getD q undef = .pointer (some ⟨g, 0, none⟩)) (hg : w.heap[g]? = some (.cells #[x0, x1, x2] 144 (0, 0))) (hd : act.defers = [])
  (hR : R (.returned (.agg #[x0, x1, x2])) w) : bodyPost Tryz.prog fn R .ret act w :=
 bodyPost_ret (results_cell_row h _ _ g 144 _ (0, 0) _ hp hg Tryz.underlying144 rfl sizeLoc) hd hR
theorem box3 {W : World} {b : Nat} {x0 x1 x2 : Value} {T : TypeId} (h : W.heap[b]? = some (.cells #[x0, x1, x2] T (0, 0))) :
  (W.cell? ⟨b, 0, none⟩ = some x0 ∧ W.cell? ⟨b, 1, none⟩ = some x1 ∧ W.cell? ⟨b, 2, none⟩ = some x2) ∧
  (W.frozen? ⟨b, 0, none⟩ = false ∧ W.frozen? ⟨b, 1, none⟩ = false ∧ W.frozen? ⟨b, 2, none⟩ = false) :=
 ⟨⟨cell_in h 0, cell_in h 1, cell_in h 2⟩, box_frozen h 0, box_frozen h 1, box_frozen h 2⟩
theorem tag_bind {α : Type} (G : Int → List Tok → Res α) (l : List Tok) : (tag l).bind G = (must [58] l).bind fun _ l => (ofk 4 l).bind fun v l => G v.n l := by
 unfold tag
 cases must [58] l with
 | bad c q => rfl
 | ok a r =>
  simp only [Res.bind]
  cases ofk 4 r <;> rfl
theorem Tr.map {ts : List Tok} {α β : Type} {m : List Tok → Res α} {s s1 : St} {v : α} (h : Tr ts m s s1 v) (g : α → β) : Tr ts (fun l => (m l).bind fun t l => .ok (g t) l) s s1 (g v) := Tr.next (f := fun t l => .ok (g t) l) h
section
variable {w : World} {p : Nat} {A : Option Addr} {n cp : Nat} {ts : List Tok} {s : St}
structure Ox (w W : World) (p : Nat) (A : Option Addr) (n cp : Nat) (ts : List Tok) (s : St) (cs : Array Value) (T : TypeId) : Prop where
 step : Step w.heap.size p w W
 rd : Rd W p A n cp ts s
 z : W.heap[w.heap.size]? = some (.cells cs T (0, 0))
 plt : p < w.heap.size
theorem Ox.start {w0 : World} {cs : Array Value} {T : TypeId} (h : Rd w p A n cp ts s) (hw : w.alloc (.cells cs T) = w0) : Ox w w0 p A n cp ts s cs T :=
 ⟨Step.of (new_box w cs T hw).1, h.below (new_box w cs T hw).1, (new_box w cs T hw).2, h.plt⟩
theorem Ox.lo {W : World} {cs : Array Value} {T : TypeId} (h : Ox w W p A n cp ts s cs T) : w.heap.size < W.heap.size := (Array.getElem?_eq_some_iff.1 h.z).1
theorem Ox.next {W W' : World} {cs : Array Value} {T : TypeId} {s' : St} (h : Ox w W p A n cp ts s cs T) (hs : Step W.heap.size p W W') (hr : Rd W' p A n cp ts s') : Ox w W' p A n cp ts s' cs T :=
 ⟨h.step.trans (hs.mono h.step.size), hr, by rw [hs.2.2.2.2 _ h.lo (by have := h.plt; omega)]; exact h.z, h.plt⟩
theorem Ox.below {W W' : World} {cs : Array Value} {T : TypeId} (h : Ox w W p A n cp ts s cs T) (hb : Below W.heap.size W W') : Ox w W' p A n cp ts s cs T := h.next (Step.of hb) (h.rd.below hb)
theorem Ox.far {W : World} {w' : World} {cs cs' : Array Value} {T : TypeId} (h0 : Rd w p A n cp ts s) {s' : St} (h : Ox w W p A n cp ts s' cs T) (hb : Below w.heap.size W w') (hz : w'.heap[w.heap.size]? = some (.cells cs' T (0, 0))) : Ox w w' p A n cp ts s' cs' T :=
 ⟨h.step.trans (Step.of hb), h.rd.keep h0 (below_agree hb), hz, h.plt⟩
theorem Ox.put4 {W : World} {y0 y1 y2 y3 : Value} {T : TypeId} {s' : St} (h0 : Rd w p A n cp ts s) (h : Ox w W p A n cp ts s' #[y0, y1, y2, y3] T) (x0 x1 x2 x3 : Value) : Ox w (four W w.heap.size x0 x1 x2 x3) p A n cp ts s' #[x0, x1, x2, x3] T :=
 Ox.far h0 h (four_below (Below.refl _ W) (Nat.le_refl _)) (four_heap h.z)
theorem Ox.put3 {W : World} {y0 y1 y2 : Value} {T : TypeId} {s' : St} (h0 : Rd w p A n cp ts s) (h : Ox w W p A n cp ts s' #[y0, y1, y2] T) (x0 x1 x2 : Value) : Ox w (three W w.heap.size x0 x1 x2) p A n cp ts s' #[x0, x1, x2] T :=
 Ox.far h0 h (three_below (Below.refl _ W) (Nat.le_refl _)) (three_heap h.z)
def LocP (w : World) (p : Nat) (A : Option Addr) (n cp : Nat) (ts : List Tok) (s : St) (k : Nat) (e : Ending) (w' : World) : Prop :=
 ∃ s' t, e = .returned (.agg #[.int .i64 (if k = 5 then 2 else 3), .int .i64 (if k = 5 then t.cls else 0), .int .i64 t.n]) ∧ Step w.heap.size p w w' ∧ Rd w' p A n cp ts s' ∧ Tr ts (ofk k) s s' t
theorem rloc_5 {t : Tok} (ht : ts[s.at_]? = some t) (hk : t.kind = 5) (h : Rd w p A n cp ts s) : Calls Tryz.prog 123 #[.pointer (some ⟨p, 0, none⟩)] w (LocP w p A n cp ts s 5) := by
 obtain ⟨w0, hw0⟩ : ∃ w0, w.alloc (.cells #[.int .i64 0, .int .i64 0, .int .i64 0] 144) = w0 := ⟨_, rfl⟩
 have hkk : ((t.kind : Int) == 5) = true := by rw [hk]; rfl
 have HA := Hh (Ai ht (Ai h (Ox.start h hw0)))
 clear ht hk h
 go_enter Tryz.func123, Tryz.ntmps123
 go_wp2_with fail
 try rw [hw0]
 try clear hw0
 refine (rkind_v HA.out.1 HA.out.2.2.rd).mono ?_
 rintro e w1 ⟨rfl, hb1⟩
 have H1 := Hh (HA.out.2.2.below hb1)
 clear hb1
 go_wp2_with fail
 refine (rof_v 5 (by decide) H1.out.rd).mono ?_
 rintro e w2 ⟨s', t', rfl, hs2, hr2, htr⟩
 have H2 := Hh (H1.out.next hs2 hr2)
 have HT := Hh htr
 clear hs2 hr2 htr
 have H3 := Hh (H2.out.below ((Below.refl _ w2).alloc (Nat.le_refl _) (.cells #[.int .i64 t'.kind, .string ⟨t'.text.toArray⟩, .int .i64 t'.n, .int .i64 t'.cls, .int .i64 t'.at_] 72)))
 obtain ⟨⟨x0, x1, x2⟩, f0, f1, f2⟩ := box3 H3.out.z
 unfold tkv tk tc
 go_wp2_with fail
 refine fin_loc (fn := Tryz.f123) rfl rfl (Ox.put3 HA.out.2.1 H3.out _ _ _).z rfl ?_
 exact ⟨s', t', rfl, (Ox.put3 HA.out.2.1 H3.out _ _ _).step, (Ox.put3 HA.out.2.1 H3.out _ _ _).rd, HT.out⟩
theorem rloc_6 {t : Tok} (ht : ts[s.at_]? = some t) (hk : t.kind ≠ 5) (h : Rd w p A n cp ts s) : Calls Tryz.prog 123 #[.pointer (some ⟨p, 0, none⟩)] w (LocP w p A n cp ts s 6) := by
 obtain ⟨w0, hw0⟩ : ∃ w0, w.alloc (.cells #[.int .i64 0, .int .i64 0, .int .i64 0] 144) = w0 := ⟨_, rfl⟩
 have F2 := field2
 have hkk : ((t.kind : Int) == 5) = false := by rw [Bqf]; omega
 have HA := Hh (Ai ht (Ai h (Ox.start h hw0)))
 clear ht hk h
 go_enter Tryz.func123, Tryz.ntmps123
 go_wp2_with fail
 try rw [hw0]
 try clear hw0
 refine (rkind_v HA.out.1 HA.out.2.2.rd).mono ?_
 rintro e w1 ⟨rfl, hb1⟩
 have H1 := Hh (HA.out.2.2.below hb1)
 clear hb1
 go_wp2_with fail
 refine (rof_v 6 (by decide) H1.out.rd).mono ?_
 rintro e w2 ⟨s', t', rfl, hs2, hr2, htr⟩
 have H2 := Hh (H1.out.next hs2 hr2)
 have HT := Hh htr
 clear hs2 hr2 htr
 obtain ⟨⟨x0, x1, x2⟩, f0, f1, f2⟩ := box3 H2.out.z
 unfold tkv
 go_wp2_with fail
 refine fin_loc (fn := Tryz.f123) rfl rfl (Ox.put3 HA.out.2.1 H2.out _ _ _).z rfl ?_
 exact ⟨s', t', rfl, (Ox.put3 HA.out.2.1 H2.out _ _ _).step, (Ox.put3 HA.out.2.1 H2.out _ _ _).rd, HT.out⟩
def OpP (w : World) (p : Nat) (A : Option Addr) (n cp : Nat) (ts : List Tok) (s : St) (e : Ending) (w' : World) : Prop :=
 ∃ s' x, e = .returned (opV x) ∧ Step w.heap.size p w w' ∧ Rd w' p A n cp ts s' ∧ Tr ts operand s s' x
theorem roperand_4 {t : Tok} (ht : ts[s.at_]? = some t) (hk : t.kind = 4) (h : Rd w p A n cp ts s) : Calls Tryz.prog 82 #[.pointer (some ⟨p, 0, none⟩)] w (OpP w p A n cp ts s) := by
 obtain ⟨w0, hw0⟩ : ∃ w0, w.alloc (.cells #[.int .i64 0, .int .i64 0, .int .i64 0, .int .i64 0] 64) = w0 := ⟨_, rfl⟩
 have F2 := field2
 have hkk : ((t.kind : Int) == 4) = true := by rw [hk]; rfl
 have HK := Hh hk
 clear hk
 have HA := Hh (Ai ht (Ai h (Ox.start h hw0)))
 clear ht h
 go_enter Tryz.func82, Tryz.ntmps82
 go_wp2_with fail
 try rw [hw0]
 try clear hw0
 refine (rkind_v HA.out.1 HA.out.2.2.rd).mono ?_
 rintro e w1 ⟨rfl, hb1⟩
 have H1 := Hh (HA.out.2.2.below hb1)
 clear hb1
 go_wp2_with fail
 refine (rof_v 4 (by decide) H1.out.rd).mono ?_
 rintro e w2 ⟨s', t', rfl, hs2, hr2, htr⟩
 have H2 := Hh (H1.out.next hs2 hr2)
 have HT := Hh htr
 clear hs2 hr2 htr
 obtain ⟨⟨x0, x1, x2, x3⟩, f0, f1, f2, f3⟩ := box4 H2.out.z
 unfold tkv
 go_wp2_with fail
 refine fin_op (fn := Tryz.f82) rfl rfl (Ox.put4 HA.out.2.1 H2.out _ _ _ _).z rfl ?_
 refine ⟨s', ⟨1, 0, t'.n, 0⟩, rfl, (Ox.put4 HA.out.2.1 H2.out _ _ _ _).step, (Ox.put4 HA.out.2.1 H2.out _ _ _ _).rd, ?_⟩
 refine Via.tr (via_eq (k := fun l => (ofk 4 l).bind fun t l => .ok ⟨1, 0, t.n, 0⟩ l) fun _ => ?_) (Tr.map HT.out fun t => (⟨1, 0, t.n, 0⟩ : Opn))
 unfold operand
 rw [kind_at HA.out.1, if_pos HK.out]
set_option maxHeartbeats 1000000 in
theorem roperand_5 {t : Tok} (ht : ts[s.at_]? = some t) (hk : t.kind = 5) (h : Rd w p A n cp ts s) : Calls Tryz.prog 82 #[.pointer (some ⟨p, 0, none⟩)] w (OpP w p A n cp ts s) := by
 obtain ⟨w0, hw0⟩ : ∃ w0, w.alloc (.cells #[.int .i64 0, .int .i64 0, .int .i64 0, .int .i64 0] 64) = w0 := ⟨_, rfl⟩
 have F2 := field2
 have hkk : ((t.kind : Int) == 4) = false := by rw [hk]; rfl
 have hk5 : ((t.kind : Int) == 5) = true := by rw [hk]; rfl
 have hk6 : ((t.kind : Int) == 6) = false := by rw [hk]; rfl
 have HK := Hh hk
 clear hk
 have HA := Hh (Ai ht (Ai h (Ox.start h hw0)))
 clear ht h
 go_enter Tryz.func82, Tryz.ntmps82
 go_wp2_with fail
 try rw [hw0]
 try clear hw0
 refine (rkind_v HA.out.1 HA.out.2.2.rd).mono ?_
 rintro e w1 ⟨rfl, hb1⟩
 have H1 := Hh (HA.out.2.2.below hb1)
 clear hb1
 go_wp2_with fail
 refine (rloc_5 HA.out.1 HK.out H1.out.rd).mono ?_
 rintro e w2 ⟨s2, t', rfl, hs2, hr2, htr2⟩
 have H2 := Hh (H1.out.next hs2 hr2)
 have HT2 := Hh htr2
 obtain ⟨w3, hw3⟩ : ∃ w3, w2.alloc (.cells #[.int .i64 2, .int .i64 t'.cls, .int .i64 t'.n] 144) = w3 := ⟨_, rfl⟩
 have nb := new_box w2 _ 144 hw3
 have H3 := Hh (Ai (H2.out.below nb.1) (Ai nb.2 (Ai H2.out.lo H2.out.rd.plt)))
 obtain ⟨I, hI⟩ : ∃ I, w2.heap.size = I := ⟨_, rfl⟩
 rw [hI] at H3
 clear hs2 hr2 htr2 nb
 simp only [if_true]
 go_wp2_with fail
 try rw [hw3]
 try rw [hI]
 clear hw3
 refine (rmust_v ⟨#[58]⟩ H3.out.1.rd).mono ?_
 rintro e w4 ⟨s4, rfl, hs4, hr4, htr4⟩
 have hI3 : I < w3.heap.size := (Array.getElem?_eq_some_iff.1 H3.out.2.1).1
 have H4 := Hh (Ai (H3.out.1.next hs4 hr4) (show w4.heap[I]? = some (.cells #[.int .i64 2, .int .i64 t'.cls, .int .i64 t'.n] 144 (0, 0)) by rw [hs4.2.2.2.2 _ hI3 (by have := H3.out.2.2.2; omega)]; exact H3.out.2.1))
 have HT4 := Hh htr4
 clear hs4 hr4 htr4 hI3 hI
 go_wp2_with fail
 obtain ⟨wd, hwd⟩ : ∃ wd, w4.drew = wd := ⟨_, rfl⟩
 have bd : Below w4.heap.size w4 wd := hwd ▸ (Below.refl w4.heap.size w4).drew
 obtain ⟨⟨x0, x1, x2⟩, _⟩ := box3 H4.out.2
 refine wp_region_held_drew (S := fun W => W.cell? ⟨I, 0, none⟩ = some (.int .i64 2) ∧ W.cell? ⟨I, 1, none⟩ = some (.int .i64 t'.cls) ∧ W.cell? ⟨I, 2, none⟩ = some (.int .i64 t'.n)) (by kernel_rfl) ⟨x0, x1, x2⟩ (fun hHeld => ?_)
 try rw [hwd]
 try rw [hwd] at hHeld
 have H5 := Hh (Ai (H4.out.1.below bd) (kept_box H4.out.2 bd))
 clear hwd bd x0 x1 x2
 refine wpAnyH_take (i := 0) (v := .pointer (some ⟨I, 0, none⟩)) rfl (by kernel_rfl) (by kernel_rfl) (by kernel_rfl) (fun _ _ _ h => h) (Or.inl ⟨by rfl, by intro W hSw; (try dsimp only at hSw); go_simp; try with_reducible rfl⟩) (by assumption) ?_
 try simp only [Act.put, Lzs]
 refine wpAnyH_take (i := 1) (v := .int .i64 2) rfl (by kernel_rfl) (by kernel_rfl) (by kernel_rfl) (fun _ _ _ h => h) (Or.inl ⟨by rfl, by intro W hSw; (try dsimp only at hSw); go_simp; try with_reducible rfl⟩) (by assumption) ?_
 try simp only [Act.put]
 refine wpAnyH_take (i := 2) (v := .pointer (some ⟨I, 1, none⟩)) rfl (by kernel_rfl) (by kernel_rfl) (by kernel_rfl) (fun _ _ _ h => h) (Or.inl ⟨by rfl, by intro W hSw; (try dsimp only at hSw); go_simp; try with_reducible rfl⟩) (by assumption) ?_
 try simp only [Act.put]
 refine wpAnyH_take (i := 3) (v := .int .i64 t'.cls) rfl (by kernel_rfl) (by kernel_rfl) (by kernel_rfl) (fun _ _ _ h => h) (Or.inl ⟨by rfl, by intro W hSw; (try dsimp only at hSw); go_simp; try with_reducible rfl⟩) (by assumption) ?_
 try simp only [Act.put]
 refine wpAnyH_take (i := 4) (v := .pointer (some ⟨I, 2, none⟩)) rfl (by kernel_rfl) (by kernel_rfl) (by kernel_rfl) (fun _ _ _ h => h) (Or.inl ⟨by rfl, by intro W hSw; (try dsimp only at hSw); go_simp; try with_reducible rfl⟩) (by assumption) ?_
 try simp only [Act.put]
 refine wpAnyH_take (i := 5) (v := .int .i64 t'.n) rfl (by kernel_rfl) (by kernel_rfl) (by kernel_rfl) (fun _ _ _ h => h) (Or.inl ⟨by rfl, by intro W hSw; (try dsimp only at hSw); go_simp; try with_reducible rfl⟩) (by assumption) ?_
 try simp only [Act.put]
 refine wpAnyH_take (i := 6) (v := .pointer (some ⟨p, 0, none⟩)) rfl (by kernel_rfl) (by kernel_rfl) (by kernel_rfl) (fun _ _ _ h => h) (Or.inl ⟨by rfl, by intro W hSw; (try dsimp only at hSw); go_simp; try with_reducible rfl⟩) (by assumption) ?_
 try simp only [Act.put]
 refine wpAnyH_ready (rs := [7]) (by kernel_rfl) (by simp) ?_
 refine AllReadyH.cons rfl (fun K hK => ?_) AllReadyH.nil
 go_simp
 refine Calls.mono (rof_v 4 (by decide) H5.out.1.rd) ?_
 rintro e w6 ⟨s6, t6, rfl, hs6, hr6, htr6⟩
 have hI5 : I < wd.heap.size := (Array.getElem?_eq_some_iff.1 H5.out.2).1
 have H6 := Hh (Ai (H5.out.1.next hs6 hr6) (show w6.heap[I]? = some (.cells #[.int .i64 2, .int .i64 t'.cls, .int .i64 t'.n] 144 (0, 0)) by rw [hs6.2.2.2.2 _ hI5 (by have := H3.out.2.2.2; omega)]; exact H5.out.2))
 have HT6 := Hh htr6
 clear hs6 hr6 htr6 hI5
 obtain ⟨⟨x0, x1, x2⟩, _⟩ := box3 H6.out.2
 unfold tkv
 go_simp
 refine hK.out _ _ ⟨x0, x1, x2⟩ (fun hHeld => ?_)
 clear hK K
 try simp only [Act.put, Lzs, Lz0, Lz1]
 refine wpAnyH_take (i := 8) (v := .int .i64 t6.n) rfl (by kernel_rfl) (by kernel_rfl) (by kernel_rfl) (fun _ _ _ h => h) (Or.inl ⟨by rfl, by intro W hSw; (try dsimp only at hSw); go_simp; try with_reducible rfl⟩) (by assumption) ?_
 try simp only [Act.put, Lzs]
 refine wpAnyH_take (i := 9) (v := .agg #[.int .i64 2, .int .i64 t'.cls, .int .i64 t'.n, .int .i64 t6.n]) rfl (by kernel_rfl) (by kernel_rfl) (by kernel_rfl) (fun _ _ _ h => h) (Or.inl ⟨by rfl, by intro W hSw; (try dsimp only at hSw); go_simp; try with_reducible rfl⟩) (by assumption) ?_
 try simp only [Act.put]
 obtain ⟨⟨y0, y1, y2, y3⟩, f0, f1, f2, f3⟩ := box4 H6.out.1.z
 obtain ⟨w7, hw7⟩ : ∃ w7, four w6 w.heap.size (.int .i64 2) (.int .i64 t'.cls) (.int .i64 t'.n) (.int .i64 t6.n) = w7 := ⟨_, rfl⟩
 have H7 := Hh (Ai (hw7 ▸ Ox.put4 HA.out.2.1 H6.out.1 (.int .i64 2) (.int .i64 t'.cls) (.int .i64 t'.n) (.int .i64 t6.n)) (show w7.heap[I]? = _ from hw7 ▸ (four_far (by have := H3.out.2.2.1; omega)).trans H6.out.2))
 obtain ⟨⟨z0, z1, z2⟩, _⟩ := box3 H7.out.2
 unfold four at hw7
 refine wpAnyH_ready (rs := [10]) (by kernel_rfl) (by simp) ?_
 refine AllReadyH.cons rfl (fun K hK => ?_) AllReadyH.nil
 go_simp
 try rw [hw7]
 refine hK.out _ _ ⟨z0, z1, z2⟩ (fun hHeld => ?_)
 clear hK K
 try simp only [Act.put, Lzs, Lz0, Lz1]
 refine wpAnyH_done (by kernel_rfl) ?_ _
 clear hw7 x0 x1 x2 y0 y1 y2 y3 f0 f1 f2 f3 z0 z1 z2
 go_wp2_with fail
 refine fin_op (fn := Tryz.f82) rfl rfl H7.out.1.z rfl ?_
 refine ⟨s6, ⟨2, t'.cls, t'.n, t6.n⟩, rfl, H7.out.1.step, H7.out.1.rd, ?_⟩
 refine Via.tr (via_eq (k := fun l => (ofk 5 l).bind fun t l => (tag l).bind fun v l => .ok ⟨2, t.cls, t.n, v⟩ l) fun _ => ?_) (Via.tr (Tr.next HT2.out) ?_)
 ·unfold operand
  rw [kind_at HA.out.1, HK.out]
  rfl
 ·refine Via.tr (via_eq (k := fun l => (must [58] l).bind fun _ l => (ofk 4 l).bind fun v l => .ok ⟨2, t'.cls, t'.n, v.n⟩ l) fun _ => tag_bind _ _) (Via.tr (Tr.next HT4.out) (Tr.map HT6.out fun v => (⟨2, t'.cls, t'.n, v.n⟩ : Opn)))
set_option maxHeartbeats 1000000 in
theorem roperand_6 {t : Tok} (ht : ts[s.at_]? = some t) (hk : t.kind = 6) (h : Rd w p A n cp ts s) : Calls Tryz.prog 82 #[.pointer (some ⟨p, 0, none⟩)] w (OpP w p A n cp ts s) := by
 obtain ⟨w0, hw0⟩ : ∃ w0, w.alloc (.cells #[.int .i64 0, .int .i64 0, .int .i64 0, .int .i64 0] 64) = w0 := ⟨_, rfl⟩
 have F2 := field2
 have hkk : ((t.kind : Int) == 4) = false := by rw [hk]; rfl
 have hk5 : ((t.kind : Int) == 5) = false := by rw [hk]; rfl
 have hk6 : ((t.kind : Int) == 6) = true := by rw [hk]; rfl
 have HK := Hh hk
 clear hk
 have HA := Hh (Ai ht (Ai h (Ox.start h hw0)))
 clear ht h
 go_enter Tryz.func82, Tryz.ntmps82
 go_wp2_with fail
 try rw [hw0]
 try clear hw0
 refine (rkind_v HA.out.1 HA.out.2.2.rd).mono ?_
 rintro e w1 ⟨rfl, hb1⟩
 have H1 := Hh (HA.out.2.2.below hb1)
 clear hb1
 go_wp2_with fail
 refine (rloc_6 HA.out.1 (by rw [HK.out]; decide) H1.out.rd).mono ?_
 rintro e w2 ⟨s2, t', rfl, hs2, hr2, htr2⟩
 have H2 := Hh (H1.out.next hs2 hr2)
 have HT2 := Hh htr2
 obtain ⟨w3, hw3⟩ : ∃ w3, w2.alloc (.cells #[.int .i64 3, .int .i64 0, .int .i64 t'.n] 144) = w3 := ⟨_, rfl⟩
 have nb := new_box w2 _ 144 hw3
 have H3 := Hh (Ai (H2.out.below nb.1) (Ai nb.2 (Ai H2.out.lo H2.out.rd.plt)))
 obtain ⟨I, hI⟩ : ∃ I, w2.heap.size = I := ⟨_, rfl⟩
 rw [hI] at H3
 clear hs2 hr2 htr2 nb
 simp only [show ¬ (6 = 5) from by decide, if_false]
 go_wp2_with fail
 try rw [hw3]
 try rw [hI]
 clear hw3
 refine (rmust_v ⟨#[58]⟩ H3.out.1.rd).mono ?_
 rintro e w4 ⟨s4, rfl, hs4, hr4, htr4⟩
 have hI3 : I < w3.heap.size := (Array.getElem?_eq_some_iff.1 H3.out.2.1).1
 have H4 := Hh (Ai (H3.out.1.next hs4 hr4) (show w4.heap[I]? = some (.cells #[.int .i64 3, .int .i64 0, .int .i64 t'.n] 144 (0, 0)) by rw [hs4.2.2.2.2 _ hI3 (by have := H3.out.2.2.2; omega)]; exact H3.out.2.1))
 have HT4 := Hh htr4
 clear hs4 hr4 htr4 hI3 hI
 go_wp2_with fail
 obtain ⟨wd, hwd⟩ : ∃ wd, w4.drew = wd := ⟨_, rfl⟩
 have bd : Below w4.heap.size w4 wd := hwd ▸ (Below.refl w4.heap.size w4).drew
 obtain ⟨⟨x0, x1, x2⟩, _⟩ := box3 H4.out.2
 refine wp_region_held_drew (S := fun W => W.cell? ⟨I, 0, none⟩ = some (.int .i64 3) ∧ W.cell? ⟨I, 1, none⟩ = some (.int .i64 0) ∧ W.cell? ⟨I, 2, none⟩ = some (.int .i64 t'.n)) (by kernel_rfl) ⟨x0, x1, x2⟩ (fun hHeld => ?_)
 try rw [hwd]
 try rw [hwd] at hHeld
 have H5 := Hh (Ai (H4.out.1.below bd) (kept_box H4.out.2 bd))
 clear hwd bd x0 x1 x2
 refine wpAnyH_take (i := 0) (v := .pointer (some ⟨I, 0, none⟩)) rfl (by kernel_rfl) (by kernel_rfl) (by kernel_rfl) (fun _ _ _ h => h) (Or.inl ⟨by rfl, by intro W hSw; (try dsimp only at hSw); go_simp; try with_reducible rfl⟩) (by assumption) ?_
 try simp only [Act.put, Lzs]
 refine wpAnyH_take (i := 1) (v := .int .i64 3) rfl (by kernel_rfl) (by kernel_rfl) (by kernel_rfl) (fun _ _ _ h => h) (Or.inl ⟨by rfl, by intro W hSw; (try dsimp only at hSw); go_simp; try with_reducible rfl⟩) (by assumption) ?_
 try simp only [Act.put]
 refine wpAnyH_take (i := 2) (v := .pointer (some ⟨I, 1, none⟩)) rfl (by kernel_rfl) (by kernel_rfl) (by kernel_rfl) (fun _ _ _ h => h) (Or.inl ⟨by rfl, by intro W hSw; (try dsimp only at hSw); go_simp; try with_reducible rfl⟩) (by assumption) ?_
 try simp only [Act.put]
 refine wpAnyH_take (i := 3) (v := .int .i64 0) rfl (by kernel_rfl) (by kernel_rfl) (by kernel_rfl) (fun _ _ _ h => h) (Or.inl ⟨by rfl, by intro W hSw; (try dsimp only at hSw); go_simp; try with_reducible rfl⟩) (by assumption) ?_
 try simp only [Act.put]
 refine wpAnyH_take (i := 4) (v := .pointer (some ⟨I, 2, none⟩)) rfl (by kernel_rfl) (by kernel_rfl) (by kernel_rfl) (fun _ _ _ h => h) (Or.inl ⟨by rfl, by intro W hSw; (try dsimp only at hSw); go_simp; try with_reducible rfl⟩) (by assumption) ?_
 try simp only [Act.put]
 refine wpAnyH_take (i := 5) (v := .int .i64 t'.n) rfl (by kernel_rfl) (by kernel_rfl) (by kernel_rfl) (fun _ _ _ h => h) (Or.inl ⟨by rfl, by intro W hSw; (try dsimp only at hSw); go_simp; try with_reducible rfl⟩) (by assumption) ?_
 try simp only [Act.put]
 refine wpAnyH_take (i := 6) (v := .pointer (some ⟨p, 0, none⟩)) rfl (by kernel_rfl) (by kernel_rfl) (by kernel_rfl) (fun _ _ _ h => h) (Or.inl ⟨by rfl, by intro W hSw; (try dsimp only at hSw); go_simp; try with_reducible rfl⟩) (by assumption) ?_
 try simp only [Act.put]
 refine wpAnyH_ready (rs := [7]) (by kernel_rfl) (by simp) ?_
 refine AllReadyH.cons rfl (fun K hK => ?_) AllReadyH.nil
 go_simp
 refine Calls.mono (rof_v 4 (by decide) H5.out.1.rd) ?_
 rintro e w6 ⟨s6, t6, rfl, hs6, hr6, htr6⟩
 have hI5 : I < wd.heap.size := (Array.getElem?_eq_some_iff.1 H5.out.2).1
 have H6 := Hh (Ai (H5.out.1.next hs6 hr6) (show w6.heap[I]? = some (.cells #[.int .i64 3, .int .i64 0, .int .i64 t'.n] 144 (0, 0)) by rw [hs6.2.2.2.2 _ hI5 (by have := H3.out.2.2.2; omega)]; exact H5.out.2))
 have HT6 := Hh htr6
 clear hs6 hr6 htr6 hI5
 obtain ⟨⟨x0, x1, x2⟩, _⟩ := box3 H6.out.2
 unfold tkv
 go_simp
 refine hK.out _ _ ⟨x0, x1, x2⟩ (fun hHeld => ?_)
 clear hK K
 try simp only [Act.put, Lzs, Lz0, Lz1]
 refine wpAnyH_take (i := 8) (v := .int .i64 t6.n) rfl (by kernel_rfl) (by kernel_rfl) (by kernel_rfl) (fun _ _ _ h => h) (Or.inl ⟨by rfl, by intro W hSw; (try dsimp only at hSw); go_simp; try with_reducible rfl⟩) (by assumption) ?_
 try simp only [Act.put, Lzs]
 refine wpAnyH_take (i := 9) (v := .agg #[.int .i64 3, .int .i64 0, .int .i64 t'.n, .int .i64 t6.n]) rfl (by kernel_rfl) (by kernel_rfl) (by kernel_rfl) (fun _ _ _ h => h) (Or.inl ⟨by rfl, by intro W hSw; (try dsimp only at hSw); go_simp; try with_reducible rfl⟩) (by assumption) ?_
 try simp only [Act.put]
 obtain ⟨⟨y0, y1, y2, y3⟩, f0, f1, f2, f3⟩ := box4 H6.out.1.z
 obtain ⟨w7, hw7⟩ : ∃ w7, four w6 w.heap.size (.int .i64 3) (.int .i64 0) (.int .i64 t'.n) (.int .i64 t6.n) = w7 := ⟨_, rfl⟩
 have H7 := Hh (Ai (hw7 ▸ Ox.put4 HA.out.2.1 H6.out.1 (.int .i64 3) (.int .i64 0) (.int .i64 t'.n) (.int .i64 t6.n)) (show w7.heap[I]? = _ from hw7 ▸ (four_far (by have := H3.out.2.2.1; omega)).trans H6.out.2))
 obtain ⟨⟨z0, z1, z2⟩, _⟩ := box3 H7.out.2
 unfold four at hw7
 refine wpAnyH_ready (rs := [10]) (by kernel_rfl) (by simp) ?_
 refine AllReadyH.cons rfl (fun K hK => ?_) AllReadyH.nil
 go_simp
 try rw [hw7]
 refine hK.out _ _ ⟨z0, z1, z2⟩ (fun hHeld => ?_)
 clear hK K
 try simp only [Act.put, Lzs, Lz0, Lz1]
 refine wpAnyH_done (by kernel_rfl) ?_ _
 clear hw7 x0 x1 x2 y0 y1 y2 y3 f0 f1 f2 f3 z0 z1 z2
 go_wp2_with fail
 refine fin_op (fn := Tryz.f82) rfl rfl H7.out.1.z rfl ?_
 refine ⟨s6, ⟨3, 0, t'.n, t6.n⟩, rfl, H7.out.1.step, H7.out.1.rd, ?_⟩
 refine Via.tr (via_eq (k := fun l => (ofk 6 l).bind fun t l => (tag l).bind fun v l => .ok ⟨3, 0, t.n, v⟩ l) fun _ => ?_) (Via.tr (Tr.next HT2.out) ?_)
 ·unfold operand
  rw [kind_at HA.out.1, HK.out]
  rfl
 ·refine Via.tr (via_eq (k := fun l => (must [58] l).bind fun _ l => (ofk 4 l).bind fun v l => .ok ⟨3, 0, t'.n, v.n⟩ l) fun _ => tag_bind _ _) (Via.tr (Tr.next HT4.out) (Tr.map HT6.out fun v => (⟨3, 0, t'.n, v.n⟩ : Opn)))
theorem roperand_us {t : Tok} (ht : ts[s.at_]? = some t) (h4 : t.kind ≠ 4) (h5 : t.kind ≠ 5) (h6 : t.kind ≠ 6) (hu : isB (ts.drop s.at_) [95] = true) (h : Rd w p A n cp ts s) : Calls Tryz.prog 82 #[.pointer (some ⟨p, 0, none⟩)] w (OpP w p A n cp ts s) := by
 obtain ⟨w0, hw0⟩ : ∃ w0, w.alloc (.cells #[.int .i64 0, .int .i64 0, .int .i64 0, .int .i64 0] 64) = w0 := ⟨_, rfl⟩
 have hk4 : ((t.kind : Int) == 4) = false := by rw [Bqf]; omega
 have hk5 : ((t.kind : Int) == 5) = false := by rw [Bqf]; omega
 have hk6 : ((t.kind : Int) == 6) = false := by rw [Bqf]; omega
 have HK := Hh (Ai h4 (Ai h5 (Ai h6 hu)))
 clear h4 h5 h6 hu
 have HA := Hh (Ai ht (Ai h (Ox.start h hw0)))
 clear ht h
 go_enter Tryz.func82, Tryz.ntmps82
 go_wp2_with fail
 try rw [hw0]
 try clear hw0
 refine (rkind_v HA.out.1 HA.out.2.2.rd).mono ?_
 rintro e w1 ⟨rfl, hb1⟩
 have H1 := Hh (HA.out.2.2.below hb1)
 clear hb1
 go_wp2_with fail
 refine (rIs_v ⟨#[95]⟩ true HK.out.2.2.2 H1.out.rd).mono ?_
 rintro e w2 ⟨rfl, hb2⟩
 have H2 := Hh (H1.out.below hb2)
 clear hb2
 go_wp2_with fail
 refine (rmust_v ⟨#[95]⟩ H2.out.rd).mono ?_
 rintro e w3 ⟨s3, rfl, hs3, hr3, htr3⟩
 have H3 := Hh (H2.out.next hs3 hr3)
 have HT := Hh htr3
 clear hs3 hr3 htr3
 obtain ⟨⟨x0, x1, x2, x3⟩, f0, f1, f2, f3⟩ := box4 H3.out.z
 go_wp2_with fail
 refine fin_op (fn := Tryz.f82) rfl rfl (Ox.put4 HA.out.2.1 H3.out _ _ _ _).z rfl ?_
 refine ⟨s3, ⟨0, 0, 0, 0⟩, rfl, (Ox.put4 HA.out.2.1 H3.out _ _ _ _).step, (Ox.put4 HA.out.2.1 H3.out _ _ _ _).rd, ?_⟩
 refine Via.tr (via_eq (k := fun l => (must [95] l).bind fun _ l => .ok ⟨0, 0, 0, 0⟩ l) fun _ => ?_) (Tr.map HT.out fun _ => (⟨0, 0, 0, 0⟩ : Opn))
 unfold operand
 rw [kind_at HA.out.1, if_neg HK.out.1, if_neg HK.out.2.1, if_neg HK.out.2.2.1, if_pos HK.out.2.2.2, must_yes HK.out.2.2.2]
 rfl
theorem roperand_val {t : Tok} (ht : ts[s.at_]? = some t) (h4 : t.kind ≠ 4) (h5 : t.kind ≠ 5) (h6 : t.kind ≠ 6) (hu : isB (ts.drop s.at_) [95] = false) (h : Rd w p A n cp ts s) : Calls Tryz.prog 82 #[.pointer (some ⟨p, 0, none⟩)] w (OpP w p A n cp ts s) := by
 obtain ⟨w0, hw0⟩ : ∃ w0, w.alloc (.cells #[.int .i64 0, .int .i64 0, .int .i64 0, .int .i64 0] 64) = w0 := ⟨_, rfl⟩
 have hk4 : ((t.kind : Int) == 4) = false := by rw [Bqf]; omega
 have hk5 : ((t.kind : Int) == 5) = false := by rw [Bqf]; omega
 have hk6 : ((t.kind : Int) == 6) = false := by rw [Bqf]; omega
 have HK := Hh (Ai h4 (Ai h5 (Ai h6 hu)))
 clear h4 h5 h6 hu
 have HA := Hh (Ai ht (Ai h (Ox.start h hw0)))
 clear ht h
 go_enter Tryz.func82, Tryz.ntmps82
 go_wp2_with fail
 try rw [hw0]
 try clear hw0
 refine (rkind_v HA.out.1 HA.out.2.2.rd).mono ?_
 rintro e w1 ⟨rfl, hb1⟩
 have H1 := Hh (HA.out.2.2.below hb1)
 clear hb1
 go_wp2_with fail
 refine (rIs_v ⟨#[95]⟩ false HK.out.2.2.2 H1.out.rd).mono ?_
 rintro e w2 ⟨rfl, hb2⟩
 have H2 := Hh (H1.out.below hb2)
 clear hb2
 go_wp2_with fail
 refine (rvalue_v H2.out.rd).mono ?_
 rintro e w3 ⟨s3, v, rfl, hs3, hr3, htr3⟩
 have H3 := Hh (H2.out.next hs3 hr3)
 have HT := Hh htr3
 clear hs3 hr3 htr3
 obtain ⟨⟨x0, x1, x2, x3⟩, f0, f1, f2, f3⟩ := box4 H3.out.z
 go_wp2_with fail
 refine fin_op (fn := Tryz.f82) rfl rfl (Ox.put4 HA.out.2.1 H3.out _ _ _ _).z rfl ?_
 refine ⟨s3, ⟨4, 0, v, 0⟩, rfl, (Ox.put4 HA.out.2.1 H3.out _ _ _ _).step, (Ox.put4 HA.out.2.1 H3.out _ _ _ _).rd, ?_⟩
 refine Via.tr (via_eq (k := fun l => (value l).bind fun n l => .ok ⟨4, 0, n, 0⟩ l) fun _ => ?_) (Tr.map HT.out fun n => (⟨4, 0, n, 0⟩ : Opn))
 unfold operand
 rw [kind_at HA.out.1, if_neg HK.out.1, if_neg HK.out.2.1, if_neg HK.out.2.2.1, HK.out.2.2.2]
 rfl
theorem roperand_v (h : Rd w p A n cp ts s) : Calls Tryz.prog 82 #[.pointer (some ⟨p, 0, none⟩)] w (OpP w p A n cp ts s) := by
 obtain ⟨t, ht, _⟩ := h.tok
 by_cases h4 : t.kind = 4
 ·exact roperand_4 ht h4 h
 ·by_cases h5 : t.kind = 5
  ·exact roperand_5 ht h5 h
  ·by_cases h6 : t.kind = 6
   ·exact roperand_6 ht h6 h
   ·cases hu : isB (ts.drop s.at_) [95] with
    | true => exact roperand_us ht h4 h5 h6 hu h
    | false => exact roperand_val ht h4 h5 h6 hu h
end
end Go.Proofs.YtbpichjmkllfaaaGreatDoor.Par
