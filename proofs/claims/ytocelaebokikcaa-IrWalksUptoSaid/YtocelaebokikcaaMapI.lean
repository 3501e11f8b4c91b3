/- An instruction, each operand of which is turned. -/
import Derived.Test.YtocelaebokikcaaTurn
import Derived.Test.YtocelaebokikcaaLay
import Derived.Test.YtocelaebokikcaaPart
import Derived.Test.YtocelaebokikcaaPartB
namespace Go.Proofs.Ytocelaebokikcaa
open Go.ChangeShapes Go.WideShapes Go.RowKit
set_option linter.unusedVariables false
set_option maxRecDepth 20000

/-- The first so many are turned. -/
def turnTo (m : Nat) (l : List Opn) : List Opn := (l.take m).map Opn.T ++ l.drop m
theorem turnTo_zero (l : List Opn) : turnTo 0 l = l := rfl
theorem turnTo_len (m : Nat) (l : List Opn) : (turnTo m l).length = l.length := by
  unfold turnTo; rw [List.length_append, List.length_map, List.length_take, List.length_drop]; omega
theorem turnTo_all (m : Nat) (l : List Opn) (h : l.length ≤ m) : turnTo m l = l.map Opn.T := by
  unfold turnTo; rw [List.take_of_length_le h, List.drop_of_length_le h, List.append_nil]
theorem turnTo_at (m : Nat) (l : List Opn) (x : Opn) (h : l[m]? = some x) : (turnTo m l)[m]? = some x := by
  unfold turnTo
  have hm := (List.getElem?_eq_some_iff.1 h).1
  rw [List.getElem?_append_right (by rw [List.length_map, List.length_take]; omega), List.length_map, List.length_take, Nat.min_eq_left (by omega), Nat.sub_self, List.getElem?_drop]
  exact h
theorem turnTo_step (m : Nat) (l : List Opn) (x : Opn) (h : l[m]? = some x) : turnTo (m + 1) l = (turnTo m l).set m x.T := by
  apply List.ext_getElem?
  intro j
  have hm := (List.getElem?_eq_some_iff.1 h).1
  unfold turnTo
  rw [List.getElem?_set]
  by_cases hj : m = j
  · subst hj
    rw [if_pos rfl, if_pos (by rw [List.length_append, List.length_map, List.length_take, List.length_drop]; omega), List.getElem?_append_left (by rw [List.length_map, List.length_take]; omega), List.getElem?_map, List.getElem?_take_of_lt (by omega), h]
    rfl
  · rw [if_neg hj]
    by_cases hlt : j < m
    · rw [List.getElem?_append_left (by rw [List.length_map, List.length_take]; omega), List.getElem?_append_left (by rw [List.length_map, List.length_take]; omega), List.getElem?_map, List.getElem?_map, List.getElem?_take_of_lt (by omega), List.getElem?_take_of_lt hlt]
    · rw [List.getElem?_append_right (by rw [List.length_map, List.length_take]; omega), List.getElem?_append_right (by rw [List.length_map, List.length_take]; omega), List.getElem?_drop, List.getElem?_drop, List.length_map, List.length_map, List.length_take, List.length_take, Nat.min_eq_left (by omega), Nat.min_eq_left (by omega)]
      congr 1; omega
theorem IsOps.put {W : World} {g n : Nat} {l : List Opn} (h : IsOps W (some ⟨g, 0, none⟩) n l) (k : Nat) (hk : k < n) (y : Opn) : IsOps (put4 W g (k * 4) y) (some ⟨g, 0, none⟩) n (l.set k y) := by
  obtain ⟨h1, hm, h2⟩ := h
  refine ⟨by rw [List.length_set]; exact h1, hm, .inr ⟨g, 0, rfl, ?_, fun j hj => ?_⟩⟩
  · rcases h2 with h2 | ⟨b, o, e, hb, _⟩
    · rw [h2] at h1; simp at h1; omega
    · injection e with e; injection e with e1 _; subst e1; rw [put4_size]; exact hb
  · rcases h2 with h2 | ⟨b, o, e, hb, hc⟩
    · rw [h2] at h1; simp at h1; omega
    · injection e with e; injection e with e1 e2; subst e1; subst e2
      rw [List.length_set] at hj
      simp only [Nat.zero_add] at hc ⊢
      by_cases e : k = j
      · subst e
        obtain ⟨c0, c1, c2, c3⟩ := hc k hj
        rw [List.getElem_set_self]
        exact put4_cell W g (k * 4) y ⟨_, c0⟩ ⟨_, c1⟩ ⟨_, c2⟩ ⟨_, c3⟩
      · rw [List.getElem_set_ne e]
        obtain ⟨c0, c1, c2, c3⟩ := hc j hj
        exact ⟨(put4_far W g (k * 4) y _ (by right; simp; omega)).trans c0, (put4_far W g (k * 4) y _ (by right; simp; omega)).trans c1, (put4_far W g (k * 4) y _ (by right; simp; omega)).trans c2, (put4_far W g (k * 4) y _ (by right; simp; omega)).trans c3⟩
/-- An instruction in a box, its operands turned so far. -/
structure JI (F : FuncId) (w : World) (PX g1 g2 g3 C : Nat) (i : Ins) (op : Int) (name : ByteArray) (off : Int) (n : Nat) (W : World) : Prop where
  low : Below w.heap.size w W
  dst : W.heap[PX]? = some (.cells #[.int .i64 op, .int .i64 i.dst.k, .int .i64 i.dst.c, .int .i64 (if 0 < n then i.dst.t else i.dst.n), .int .i64 (if 0 < n then i.dst.n else i.dst.t), .slice (some ⟨g1, 0, none⟩) i.args.length i.args.length, .string name, .int .i64 off, .slice (some ⟨g2, 0, none⟩) i.labels.length i.labels.length, .slice (some ⟨g3, 0, none⟩) i.cases.length i.cases.length] 51 (0, 0))
  args : IsOps W (some ⟨g1, 0, none⟩) i.args.length (turnTo (n - 1) i.args)
  froz : ∀ j, W.frozen? ⟨g1, j, none⟩ = false
  clo : W.heap[C]? = some (.cells #[.func (.func F) #[] #[]] 58 (0, 0))
  labels : IsStrs W (some ⟨g2, 0, none⟩) i.labels.length i.labels
  cases : IsInts W (some ⟨g3, 0, none⟩) i.cases.length i.cases
  sep : w.heap.size ≤ PX ∧ w.heap.size ≤ g1 ∧ w.heap.size ≤ C ∧ PX ≠ g1 ∧ PX ≠ g2 ∧ PX ≠ g3 ∧ PX ≠ C ∧ g1 ≠ g2 ∧ g1 ≠ g3 ∧ g1 ≠ C ∧ PX < W.heap.size ∧ g1 < W.heap.size
theorem IsStrs.blockE {w w' : World} {g n : Nat} {l : List ByteArray} (h : IsStrs w (some ⟨g, 0, none⟩) n l) (hb : g < w.heap.size → w'.heap[g]? = w.heap[g]?) (hs : w.heap.size ≤ w'.heap.size) : IsStrs w' (some ⟨g, 0, none⟩) n l := by
  obtain ⟨h1, hm, h | ⟨b, o, e, hlt, hc⟩⟩ := h
  · exact ⟨h1, hm, .inl h⟩
  · injection e with e; injection e with e1 e2; subst e1; subst e2
    exact ⟨h1, hm, .inr ⟨g, 0, rfl, by omega, fun k hk => (World.cell?_of_block (w := w) (hb hlt)).trans (hc k hk)⟩⟩
theorem IsInts.blockE {w w' : World} {g n : Nat} {l : List Int} (h : IsInts w (some ⟨g, 0, none⟩) n l) (hb : g < w.heap.size → w'.heap[g]? = w.heap[g]?) (hs : w.heap.size ≤ w'.heap.size) : IsInts w' (some ⟨g, 0, none⟩) n l := by
  obtain ⟨h1, hm, h | ⟨b, o, e, hlt, hc⟩⟩ := h
  · exact ⟨h1, hm, .inl h⟩
  · injection e with e; injection e with e1 e2; subst e1; subst e2
    exact ⟨h1, hm, .inr ⟨g, 0, rfl, by omega, fun k hk => (World.cell?_of_block (w := w) (hb hlt)).trans (hc k hk)⟩⟩
theorem IsOps.blockE {w w' : World} {g n : Nat} {l : List Opn} (h : IsOps w (some ⟨g, 0, none⟩) n l) (hb : g < w.heap.size → w'.heap[g]? = w.heap[g]?) (hs : w.heap.size ≤ w'.heap.size) : IsOps w' (some ⟨g, 0, none⟩) n l := by
  obtain ⟨h1, hm, h | ⟨b, o, e, hlt, hc⟩⟩ := h
  · exact ⟨h1, hm, .inl h⟩
  · injection e with e; injection e with e1 e2; subst e1; subst e2
    refine ⟨h1, hm, .inr ⟨g, 0, rfl, by omega, fun k hk => ?_⟩⟩
    obtain ⟨c0, c1, c2, c3⟩ := hc k hk
    exact ⟨(World.cell?_of_block (w := w) (hb hlt)).trans c0, (World.cell?_of_block (w := w) (hb hlt)).trans c1, (World.cell?_of_block (w := w) (hb hlt)).trans c2, (World.cell?_of_block (w := w) (hb hlt)).trans c3⟩
theorem JI.keep {F : FuncId} {w : World} {PX g1 g2 g3 C : Nat} {i : Ins} {op : Int} {name : ByteArray} {off : Int} {n : Nat} {W W' : World} (h : JI F w PX g1 g2 g3 C i op name off n W) (hb : Below W.heap.size W W') : JI F w PX g1 g2 g3 C i op name off n W' :=
  ⟨h.low.trans (hb.mono h.low.size), kept_box h.dst hb, h.args.below hb, fun j => (hb.frozen (p := ⟨g1, j, none⟩) h.sep.2.2.2.2.2.2.2.2.2.2.2).trans (h.froz j), kept_box h.clo hb, h.labels.below hb, h.cases.below hb,
    ⟨h.sep.1, h.sep.2.1, h.sep.2.2.1, h.sep.2.2.2.1, h.sep.2.2.2.2.1, h.sep.2.2.2.2.2.1, h.sep.2.2.2.2.2.2.1, h.sep.2.2.2.2.2.2.2.1, h.sep.2.2.2.2.2.2.2.2.1, h.sep.2.2.2.2.2.2.2.2.2.1, Nat.lt_of_lt_of_le h.sep.2.2.2.2.2.2.2.2.2.2.1 hb.size, Nat.lt_of_lt_of_le h.sep.2.2.2.2.2.2.2.2.2.2.2 hb.size⟩⟩
theorem put4_at {w : World} {g : Nat} {y0 y1 y2 y3 y4 y5 y6 y7 y8 y9 : Value} {T : TypeId} (h : w.heap[g]? = some (.cells #[y0, y1, y2, y3, y4, y5, y6, y7, y8, y9] T (0, 0))) (x : Opn) :
    (put4 w g 1 x).heap[g]? = some (.cells #[y0, .int .i64 x.k, .int .i64 x.c, .int .i64 x.n, .int .i64 x.t, y5, y6, y7, y8, y9] T (0, 0)) := by
  unfold put4
  exact set_at (set_at (set_at (set_at h 1 _) 2 _) 3 _) 4 _
/-- The destination is turned. -/
theorem JI.dstT {F : FuncId} {w : World} {PX g1 g2 g3 C : Nat} {i : Ins} {op : Int} {name : ByteArray} {off : Int} {W : World} (h : JI F w PX g1 g2 g3 C i op name off 0 W) : JI F w PX g1 g2 g3 C i op name off 1 (put4 W PX 1 i.dst.T) := by
  obtain ⟨s1, s2, s3, s4, s5, s6, s7, s8, s9, s10, s11, s12⟩ := h.sep
  refine ⟨put4_below _ h.low s1, ?_, ?_, fun j => by rw [put4_froz]; exact h.froz j, (put4_block _ _ _ _ _ (fun e => s7 e.symm)).trans h.clo, ?_, ?_, ⟨s1, s2, s3, s4, s5, s6, s7, s8, s9, s10, by rw [put4_size]; exact s11, by rw [put4_size]; exact s12⟩⟩
  · rw [if_pos (by omega), if_pos (by omega)]
    exact put4_at h.dst i.dst.T
  · exact h.args.blockE (fun _ => put4_block _ _ _ _ _ (fun e => s4 e.symm)) (by rw [put4_size]; exact Nat.le_refl _)
  · exact h.labels.blockE (fun _ => put4_block _ _ _ _ _ (fun e => s5 e.symm)) (by rw [put4_size]; exact Nat.le_refl _)
  · exact h.cases.blockE (fun _ => put4_block _ _ _ _ _ (fun e => s6 e.symm)) (by rw [put4_size]; exact Nat.le_refl _)
/-- One more of the arguments is turned. -/
theorem JI.argT {F : FuncId} {w : World} {PX g1 g2 g3 C : Nat} {i : Ins} {op : Int} {name : ByteArray} {off : Int} {k : Nat} {x : Opn} {W : World} (h : JI F w PX g1 g2 g3 C i op name off (0 + 1 + k) W) (hx : i.args[k]? = some x) : JI F w PX g1 g2 g3 C i op name off (0 + 1 + k + 1) (put4 W g1 (k * 4) x.T) := by
  obtain ⟨s1, s2, s3, s4, s5, s6, s7, s8, s9, s10, s11, s12⟩ := h.sep
  have hk := (List.getElem?_eq_some_iff.1 hx).1
  refine ⟨put4_below _ h.low s2, ?_, ?_, fun j => by rw [put4_froz]; exact h.froz j, (put4_block _ _ _ _ _ (fun e => s10 e.symm)).trans h.clo, ?_, ?_, ⟨s1, s2, s3, s4, s5, s6, s7, s8, s9, s10, by rw [put4_size]; exact s11, by rw [put4_size]; exact s12⟩⟩
  · rw [put4_block _ _ _ _ _ s4, if_pos (by omega), if_pos (by omega), h.dst, if_pos (by omega), if_pos (by omega)]
  · have e : 0 + 1 + k + 1 - 1 = k + 1 := by omega
    have e' : 0 + 1 + k - 1 = k := by omega
    have ha := h.args
    rw [e'] at ha
    rw [e, turnTo_step k i.args x hx]
    exact ha.put k hk x.T
  · exact h.labels.blockE (fun _ => put4_block _ _ _ _ _ (fun e => s8 e.symm)) (by rw [put4_size]; exact Nat.le_refl _)
  · exact h.cases.blockE (fun _ => put4_block _ _ _ _ _ (fun e => s9 e.symm)) (by rw [put4_size]; exact Nat.le_refl _)
theorem JI.callD {F : FuncId} (hF : Inpl F) {w : World} {PX g1 g2 g3 C : Nat} {i : Ins} {op : Int} {name : ByteArray} {off : Int} {W : World} (h : JI F w PX g1 g2 g3 C i op name off 0 W) :
    Calls Try.prog 71 #[.pointer (some ⟨PX, 0 + 1, none⟩), .pointer (some ⟨C, 0, none⟩)] W fun e w' => e = .returned (.tuple #[]) ∧ JI F w PX g1 g2 g3 C i op name off (0 + 1) w' ∧ ∀ R o, W.heap[R]? = some o → R ≠ PX → w'.heap[R]? = some o := by
  have c := h.dst
  rw [if_neg (by omega), if_neg (by omega)] at c
  have d1 : W.cell? ⟨PX, 0 + 1, none⟩ = some (.int .i64 i.dst.k) := cell_in c 1
  have d2 : W.cell? ⟨PX, 0 + 1 + 1, none⟩ = some (.int .i64 i.dst.c) := cell_in c 2
  have d3 : W.cell? ⟨PX, 0 + 1 + 2, none⟩ = some (.int .i64 i.dst.n) := cell_in c 3
  have d4 : W.cell? ⟨PX, 0 + 1 + 3, none⟩ = some (.int .i64 i.dst.t) := cell_in c 4
  have hC : W.cell? ⟨C, 0, none⟩ = some (.func (.func F) #[] #[]) := cell_in h.clo 0
  have hc := hF PX (0 + 1) C i.dst W hC d1 d2 d3 d4 (froz_in c _) (froz_in c _) (froz_in c _) (froz_in c _)
  clear c d1 d2 d3 d4 hC
  refine hc.mono ?_
  rintro e w' ⟨⟨rfl, w3, hb, rfl⟩⟩
  refine ⟨rfl, (h.keep hb).dstT, fun R o hR hne => ?_⟩
  rw [put4_block _ _ _ _ _ hne, hb.block R (Array.getElem?_eq_some_iff.1 hR).1]
  exact hR
theorem JI.callA {F : FuncId} (hF : Inpl F) {w : World} {PX g1 g2 g3 C : Nat} {i : Ins} {op : Int} {name : ByteArray} {off : Int} {k : Nat} {W : World} (h : JI F w PX g1 g2 g3 C i op name off (0 + 1 + k) W) (hk : k < i.args.length) :
    Calls Try.prog 71 #[.pointer (some ⟨g1, 0 + k * 4, none⟩), .pointer (some ⟨C, 0, none⟩)] W fun e w' => e = .returned (.tuple #[]) ∧ JI F w PX g1 g2 g3 C i op name off (0 + 1 + k + 1) w' ∧ ∀ R o, W.heap[R]? = some o → R ≠ g1 → w'.heap[R]? = some o := by
  obtain ⟨b, o, e, _, x, hx, d0, d1, d2, d3⟩ := h.args.at (k := k) hk
  injection e with e
  injection e with e1 e2
  subst e1; subst e2
  have hx2 : i.args[k]? = some x := by
    have := turnTo_at k i.args i.args[k] (List.getElem?_eq_getElem hk)
    rw [show 0 + 1 + k - 1 = k by omega] at hx
    rw [List.getElem?_eq_getElem hk]
    exact this.symm.trans hx
  have hC : W.cell? ⟨C, 0, none⟩ = some (.func (.func F) #[] #[]) := cell_in h.clo 0
  have hc := hF g1 (0 + k * 4) C x W hC d0 d1 d2 d3 (h.froz _) (h.froz _) (h.froz _) (h.froz _)
  clear d0 d1 d2 d3 hC
  refine hc.mono ?_
  rintro e w' ⟨⟨rfl, w3, hb, rfl⟩⟩
  refine ⟨rfl, ?_, fun R o hR hne => ?_⟩
  · rw [show 0 + k * 4 = k * 4 from Nat.zero_add _]; exact (h.keep hb).argT hx2
  · rw [put4_block _ _ _ _ _ hne, hb.block R (Array.getElem?_eq_some_iff.1 hR).1]
    exact hR
theorem inPl_v (F : FuncId) (w : World) : Calls Try.prog 59 #[.func (.func F) #[] #[]] w fun e w' => e = .returned (.func (.func 71) #[] #[.pointer (some ⟨w.heap.size, 0, none⟩)]) ∧ w' = w.alloc (.cells #[.func (.func F) #[] #[]] 58) := by
  go_enter Try.func59, Try.ntmps59
  go_wp2_with fail
  go_ret
  exact ⟨rfl, rfl⟩
/-- What MapInstr hands back. -/
structure MapIP (i : Ins) (w : World) (e : Ending) (w' : World) : Prop where
  out : ∃ r, e = .returned (.agg (insR i.turned r)) ∧ IsIns w' i.turned r ∧ Below w.heap.size w w' ∧ r.an = i.args.length ∧ r.ln = i.labels.length ∧ r.cn = i.cases.length
set_option maxHeartbeats 4000000 in
theorem mapI_v (F : FuncId) (hF : Inpl F) (i : Ins) (r : InsV) (w : World) (h : IsIns w i r) (h1 : r.an ≤ 1048576) (h2 : r.ln ≤ 1048576) (h3 : r.cn ≤ 1048576) : Calls Try.prog 26 #[.agg (insR i r), .func (.func F) #[] #[]] w (MapIP i w) := by
  have B0 : Below w.heap.size w ((w.alloc (.cells (insR i r) 51)).alloc (.cells #[.int .i64 0, .int .i64 0, .int .i64 0, .int .i64 0, .int .i64 0, .slice none 0 0, .string ⟨#[]⟩, .int .i64 0, .slice none 0 0, .slice none 0 0] 51)) := ((Below.refl _ w).alloc (Nat.le_refl _) _).alloc (by simp) _
  have HI := h.below B0
  have D := Lib.hid (And.intro B0 (And.intro (show ((w.alloc (.cells (insR i r) 51)).alloc (.cells #[.int .i64 0, .int .i64 0, .int .i64 0, .int .i64 0, .int .i64 0, .slice none 0 0, .string ⟨#[]⟩, .int .i64 0, .slice none 0 0, .slice none 0 0] 51)).heap.size = w.heap.size + 2 by simp) (box_two w (.cells (insR i r) 51) (.cells #[.int .i64 0, .int .i64 0, .int .i64 0, .int .i64 0, .int .i64 0, .slice none 0 0, .string ⟨#[]⟩, .int .i64 0, .slice none 0 0, .slice none 0 0] 51))))
  clear B0
  obtain ⟨wa, hwa⟩ : ∃ wa, (w.alloc (.cells (insR i r) 51)).alloc (.cells #[.int .i64 0, .int .i64 0, .int .i64 0, .int .i64 0, .int .i64 0, .slice none 0 0, .string ⟨#[]⟩, .int .i64 0, .slice none 0 0, .slice none 0 0] 51) = wa := ⟨_, rfl⟩
  rw [hwa] at D HI
  have CC := Lib.hid (show Calls Try.prog 43 #[.agg (insR i r)] wa (CopyI i r wa) from copyI_v i r wa HI h1 h2 h3)
  have HA := Lib.hid (And.intro h.args.1 (And.intro h.labels.1 (And.intro h.cases.1 (And.intro hF (And.intro h1 (And.intro h2 h3))))))
  clear h h1 h2 h3 HI hF
  obtain ⟨op, dst, args, name, off, labels, cas⟩ := i
  obtain ⟨dk, dc, dn, dt⟩ := dst
  obtain ⟨aa, an, ac, la, ln, lc, ca, cn, cc⟩ := r
  unfold insR at D CC hwa ⊢
  dsimp only at D CC HA hwa ⊢
  have hP : wa.heap[w.heap.size]? = some (.cells #[.int .i64 op, .int .i64 dk, .int .i64 dc, .int .i64 dn, .int .i64 dt, .slice aa an ac, .string name, .int .i64 off, .slice la ln lc, .slice ca cn cc] 51 (0, 0)) := D.out.2.2.1
  have k0 : wa.cell? ⟨w.heap.size, 0, none⟩ = some (.int .i64 op) := cell_in hP 0
  have k1 : wa.cell? ⟨w.heap.size, 1, none⟩ = some (.int .i64 dk) := cell_in hP 1
  have k2 : wa.cell? ⟨w.heap.size, 2, none⟩ = some (.int .i64 dc) := cell_in hP 2
  have k3 : wa.cell? ⟨w.heap.size, 3, none⟩ = some (.int .i64 dn) := cell_in hP 3
  have k4 : wa.cell? ⟨w.heap.size, 4, none⟩ = some (.int .i64 dt) := cell_in hP 4
  have k5 : wa.cell? ⟨w.heap.size, 5, none⟩ = some (.slice aa an ac) := cell_in hP 5
  have k6 : wa.cell? ⟨w.heap.size, 6, none⟩ = some (.string name) := cell_in hP 6
  have k7 : wa.cell? ⟨w.heap.size, 7, none⟩ = some (.int .i64 off) := cell_in hP 7
  have k8 : wa.cell? ⟨w.heap.size, 8, none⟩ = some (.slice la ln lc) := cell_in hP 8
  have k9 : wa.cell? ⟨w.heap.size, 9, none⟩ = some (.slice ca cn cc) := cell_in hP 9
  clear hP
  go_enter Try.func26, Try.ntmps26
  go_wp2_with fail
  clear hwa
  refine CC.out.mono ?_
  rintro e w1 ⟨g1, g2, g3, rfl, b1, b2, b3, b4, m1, m2, m3, hb⟩
  clear k0 k1 k2 k3 k4 k5 k6 k7 k8 k9
  have hP1 := kept_box D.out.2.2.1 hb
  have hR1 := kept_box D.out.2.2.2 hb
  have HM := Lib.hid (And.intro b1 (And.intro b2 (And.intro b3 (And.intro b4 (And.intro m1 (And.intro m2 (And.intro m3 (And.intro hb (And.intro hP1 hR1)))))))))
  obtain ⟨P, hPP⟩ : ∃ P, w.heap.size = P := ⟨_, rfl⟩
  rw [hPP] at hP1 hR1 HM D ⊢
  have c0 : w1.cell? ⟨P, 0, none⟩ = some (.int .i64 op) := cell_in hP1 0
  have z0 : w1.frozen? ⟨P, 0, none⟩ = false := froz_in hP1 0
  have c1 : w1.cell? ⟨P, 1, none⟩ = some (.int .i64 dk) := cell_in hP1 1
  have z1 : w1.frozen? ⟨P, 1, none⟩ = false := froz_in hP1 1
  have c2 : w1.cell? ⟨P, 2, none⟩ = some (.int .i64 dc) := cell_in hP1 2
  have z2 : w1.frozen? ⟨P, 2, none⟩ = false := froz_in hP1 2
  have c3 : w1.cell? ⟨P, 3, none⟩ = some (.int .i64 dn) := cell_in hP1 3
  have z3 : w1.frozen? ⟨P, 3, none⟩ = false := froz_in hP1 3
  have c4 : w1.cell? ⟨P, 4, none⟩ = some (.int .i64 dt) := cell_in hP1 4
  have z4 : w1.frozen? ⟨P, 4, none⟩ = false := froz_in hP1 4
  have c5 : w1.cell? ⟨P, 5, none⟩ = some (.slice aa an ac) := cell_in hP1 5
  have z5 : w1.frozen? ⟨P, 5, none⟩ = false := froz_in hP1 5
  have c6 : w1.cell? ⟨P, 6, none⟩ = some (.string name) := cell_in hP1 6
  have z6 : w1.frozen? ⟨P, 6, none⟩ = false := froz_in hP1 6
  have c7 : w1.cell? ⟨P, 7, none⟩ = some (.int .i64 off) := cell_in hP1 7
  have z7 : w1.frozen? ⟨P, 7, none⟩ = false := froz_in hP1 7
  have c8 : w1.cell? ⟨P, 8, none⟩ = some (.slice la ln lc) := cell_in hP1 8
  have z8 : w1.frozen? ⟨P, 8, none⟩ = false := froz_in hP1 8
  have c9 : w1.cell? ⟨P, 9, none⟩ = some (.slice ca cn cc) := cell_in hP1 9
  have z9 : w1.frozen? ⟨P, 9, none⟩ = false := froz_in hP1 9
  have HPP := Lib.hid hPP
  clear b1 b2 b3 b4 m1 m2 m3 hb hP1 hR1 hPP
  unfold ownI insR
  dsimp only
  go_wp2_with fail
  obtain ⟨w2, hw2⟩ : ∃ w2, lay10 w1 P (.int .i64 op) (.int .i64 dk) (.int .i64 dc) (.int .i64 dn) (.int .i64 dt) (.slice (some ⟨g1, 0, none⟩) an an) (.string name) (.int .i64 off) (.slice (some ⟨g2, 0, none⟩) ln ln) (.slice (some ⟨g3, 0, none⟩) cn cn) = w2 := ⟨_, rfl⟩
  have hPl : P < w1.heap.size := spot_lt c0
  have far : ∀ g, g ≠ P → w2.heap[g]? = w1.heap[g]? := fun g hg => by rw [← hw2]; exact lay10_far hg _ _ _ _ _ _ _ _ _ _
  have hsz : w2.heap.size = w1.heap.size := by rw [← hw2]; exact lay10_size _ _ _ _ _ _ _ _ _ _ _ _
  have hPc : w2.heap[P]? = some (.cells #[.int .i64 op, .int .i64 dk, .int .i64 dc, .int .i64 dn, .int .i64 dt, .slice (some ⟨g1, 0, none⟩) an an, .string name, .int .i64 off, .slice (some ⟨g2, 0, none⟩) ln ln, .slice (some ⟨g3, 0, none⟩) cn cn] 51 (0, 0)) := by
    rw [← hw2]; exact lay10_at HM.out.2.2.2.2.2.2.2.2.1
  have hgs : P + 2 ≤ g1 := by have := HM.out.1; have := D.out.2.1; omega
  have hlow2 : Below P w w2 := by
    rw [← hw2]; exact lay10_below _ _ _ _ _ _ _ _ _ _ (D.out.1.trans (HM.out.2.2.2.2.2.2.2.1.mono (by rw [D.out.2.1]; omega))) (Nat.le_refl _)
  have hb1 := HM.out.2.1
  have hb2 := HM.out.2.2.1
  have hb3 := HM.out.2.2.2.1
  have J0 : JI F w P g1 g2 g3 w2.heap.size ⟨op, ⟨dk, dc, dn, dt⟩, args, name, off, labels, cas⟩ op name off 0 (w2.alloc (.cells #[.func (.func F) #[] #[]] 58)) := by
    have hBA : Below w2.heap.size w2 (w2.alloc (.cells #[.func (.func F) #[] #[]] 58)) := (Below.refl _ w2).alloc (Nat.le_refl _) _
    have q1 := (far g1 (by omega)).trans HM.out.2.2.2.2.1
    have q2 := (far g2 (by omega)).trans HM.out.2.2.2.2.2.1
    have q3 := (far g3 (by omega)).trans HM.out.2.2.2.2.2.2.1
    refine ⟨by rw [HPP.out]; exact hlow2.trans (hBA.mono (by rw [hsz]; omega)), ?_, ?_, fun j => froz_in (kept_box q1 hBA) j, heap_alloc_new w2 _, ?_, ?_, ⟨by rw [HPP.out]; exact Nat.le_refl _, by rw [HPP.out]; omega, by rw [HPP.out, hsz]; omega, by omega, by omega, by omega, by rw [hsz]; omega, by omega, by omega, by rw [hsz]; omega, by simp; omega, by simp; omega⟩⟩
    · rw [if_neg (by omega), if_neg (by omega)]
      show _ = some (Obj.cells #[.int .i64 op, .int .i64 dk, .int .i64 dc, .int .i64 dn, .int .i64 dt, .slice (some ⟨g1, 0, none⟩) args.length args.length, .string name, .int .i64 off, .slice (some ⟨g2, 0, none⟩) labels.length labels.length, .slice (some ⟨g3, 0, none⟩) cas.length cas.length] 51 (0, 0))
      rw [HA.out.1, HA.out.2.1, HA.out.2.2.1]
      exact kept_box hPc hBA
    · exact (ops_own q1 (by have := HA.out.2.2.2.2.1; rw [HA.out.1]; exact this)).below hBA
    · exact (strs_own q2 (by have := HA.out.2.2.2.2.2.1; rw [HA.out.2.1]; exact this)).below hBA
    · exact (ints_own q3 (by have := HA.out.2.2.2.2.2.2; rw [HA.out.2.2.1]; exact this)).below hBA
  have keepR : ∀ n W, JI F w P g1 g2 g3 w2.heap.size ⟨op, ⟨dk, dc, dn, dt⟩, args, name, off, labels, cas⟩ op name off n W → True := fun _ _ _ => trivial
  have hE := eachI71_v w2.heap.size (fun n W => JI F w P g1 g2 g3 w2.heap.size ⟨op, ⟨dk, dc, dn, dt⟩, args, name, off, labels, cas⟩ op name off n W ∧ W.heap[P + 1]? = some (.cells #[.int .i64 0, .int .i64 0, .int .i64 0, .int .i64 0, .int .i64 0, .slice none 0 0, .string ⟨#[]⟩, .int .i64 0, .slice none 0 0, .slice none 0 0] 51 (0, 0))) 0 P 0 (some ⟨g1, 0, none⟩) an an _ HA.out.2.2.2.2.1
    ⟨J0, (Below.heap_alloc w2 _ (P + 1) (by rw [hsz]; omega)).trans ((far (P + 1) (by omega)).trans HM.out.2.2.2.2.2.2.2.2.2)⟩
    ((J0.callD HA.out.2.2.2.1).mono fun e w' h => ⟨h.1, h.2.1, h.2.2 _ _ ((Below.heap_alloc w2 _ (P + 1) (by rw [hsz]; omega)).trans ((far (P + 1) (by omega)).trans HM.out.2.2.2.2.2.2.2.2.2)) (by omega)⟩)
    (fun W h => by
      have := cell_in h.1.dst 5
      rw [Nat.zero_add, this]
      show some (Value.slice _ args.length args.length) = _
      rw [HA.out.1])
    (fun k W hk h => ⟨g1, 0, rfl, (h.1.callA HA.out.2.2.2.1 (by show k < args.length; rw [HA.out.1]; exact hk)).mono fun e w' h2 => ⟨h2.1, h2.2.1, h2.2.2 _ _ h.2 (by omega)⟩⟩)
  have HE := Lib.hid hE
  have hw2e : w2.heap.size = w2.heap.size := rfl
  have H59 := Lib.hid (inPl_v F w2)
  have HX := Lib.hid (And.intro hlow2 hgs)
  clear hE J0 keepR far hsz hPc hgs hlow2 hb1 hb2 hb3 hPl c0 z0 c1 z1 c2 z2 c3 z3 c4 z4 c5 z5 c6 z6 c7 z7 c8 z8 c9 z9 hw2e
  unfold lay10 at hw2
  rw [hw2]
  clear hw2
  refine H59.out.mono ?_
  rintro e w3 ⟨rfl, rfl⟩
  go_wp2_with fail
  refine HE.out.mono ?_
  rintro e w4 ⟨rfl, hj, hr⟩
  have hd := hj.dst
  rw [if_pos (by omega), if_pos (by omega)] at hd
  have HJ := Lib.hid hj
  dsimp only at hd
  have c0 := cell_in hd 0
  have c1 := cell_in hd 1
  have c2 := cell_in hd 2
  have c3 := cell_in hd 3
  have c4 := cell_in hd 4
  have c5 := cell_in hd 5
  have c6 := cell_in hd 6
  have c7 := cell_in hd 7
  have c8 := cell_in hd 8
  have c9 := cell_in hd 9
  simp only [List.getElem?_toArray, List.getElem?_cons_zero, List.getElem?_cons_succ] at c0 c1 c2 c3 c4 c5 c6 c7 c8 c9
  have r0 : w4.cell? ⟨P + 1, 0, none⟩ = some (.int .i64 0) := cell_in hr 0
  have z0 : w4.frozen? ⟨P + 1, 0, none⟩ = false := froz_in hr 0
  have r1 : w4.cell? ⟨P + 1, 1, none⟩ = some (.int .i64 0) := cell_in hr 1
  have z1 : w4.frozen? ⟨P + 1, 1, none⟩ = false := froz_in hr 1
  have r2 : w4.cell? ⟨P + 1, 2, none⟩ = some (.int .i64 0) := cell_in hr 2
  have z2 : w4.frozen? ⟨P + 1, 2, none⟩ = false := froz_in hr 2
  have r3 : w4.cell? ⟨P + 1, 3, none⟩ = some (.int .i64 0) := cell_in hr 3
  have z3 : w4.frozen? ⟨P + 1, 3, none⟩ = false := froz_in hr 3
  have r4 : w4.cell? ⟨P + 1, 4, none⟩ = some (.int .i64 0) := cell_in hr 4
  have z4 : w4.frozen? ⟨P + 1, 4, none⟩ = false := froz_in hr 4
  have r5 : w4.cell? ⟨P + 1, 5, none⟩ = some (.slice none 0 0) := cell_in hr 5
  have z5 : w4.frozen? ⟨P + 1, 5, none⟩ = false := froz_in hr 5
  have r6 : w4.cell? ⟨P + 1, 6, none⟩ = some (.string ⟨#[]⟩) := cell_in hr 6
  have z6 : w4.frozen? ⟨P + 1, 6, none⟩ = false := froz_in hr 6
  have r7 : w4.cell? ⟨P + 1, 7, none⟩ = some (.int .i64 0) := cell_in hr 7
  have z7 : w4.frozen? ⟨P + 1, 7, none⟩ = false := froz_in hr 7
  have r8 : w4.cell? ⟨P + 1, 8, none⟩ = some (.slice none 0 0) := cell_in hr 8
  have z8 : w4.frozen? ⟨P + 1, 8, none⟩ = false := froz_in hr 8
  have r9 : w4.cell? ⟨P + 1, 9, none⟩ = some (.slice none 0 0) := cell_in hr 9
  have z9 : w4.frozen? ⟨P + 1, 9, none⟩ = false := froz_in hr 9
  have HR := Lib.hid hr
  clear hj hd hr
  go_wp2_with fail
  refine bodyPost_ret (results_cell_row (fn := Try.f26) rfl _ (lay10 w4 (P + 1) (.int .i64 op) (.int .i64 dk) (.int .i64 dc) (.int .i64 dt) (.int .i64 dn) (.slice (some ⟨g1, 0, none⟩) args.length args.length) (.string name) (.int .i64 off) (.slice (some ⟨g2, 0, none⟩) labels.length labels.length) (.slice (some ⟨g3, 0, none⟩) cas.length cas.length)) (P + 1) 51 #[.int .i64 op, .int .i64 dk, .int .i64 dc, .int .i64 dt, .int .i64 dn, .slice (some ⟨g1, 0, none⟩) args.length args.length, .string name, .int .i64 off, .slice (some ⟨g2, 0, none⟩) labels.length labels.length, .slice (some ⟨g3, 0, none⟩) cas.length cas.length] (0, 0) _ rfl (lay10_at HR.out) Try.underlying51 rfl (by kernel_rfl)) rfl ?_
  have far : ∀ g, g ≠ P + 1 → (lay10 w4 (P + 1) (.int .i64 op) (.int .i64 dk) (.int .i64 dc) (.int .i64 dt) (.int .i64 dn) (.slice (some ⟨g1, 0, none⟩) args.length args.length) (.string name) (.int .i64 off) (.slice (some ⟨g2, 0, none⟩) labels.length labels.length) (.slice (some ⟨g3, 0, none⟩) cas.length cas.length)).heap[g]? = w4.heap[g]? := fun g hg => lay10_far hg _ _ _ _ _ _ _ _ _ _
  have hs := lay10_size w4 (P + 1) (.int .i64 op) (.int .i64 dk) (.int .i64 dc) (.int .i64 dt) (.int .i64 dn) (.slice (some ⟨g1, 0, none⟩) args.length args.length) (.string name) (.int .i64 off) (.slice (some ⟨g2, 0, none⟩) labels.length labels.length) (.slice (some ⟨g3, 0, none⟩) cas.length cas.length)
  have q1 := HX.out.2
  have q2 := HM.out.2.1
  have q3 := HM.out.2.2.1
  refine ⟨⟨some ⟨g1, 0, none⟩, args.length, args.length, some ⟨g2, 0, none⟩, labels.length, labels.length, some ⟨g3, 0, none⟩, cas.length, cas.length⟩, rfl, ⟨?_, ?_, ?_⟩, ?_, rfl, rfl, rfl⟩
  · have ha := HJ.out.args
    rw [turnTo_all _ _ (by show args.length ≤ _; rw [HA.out.1]; omega)] at ha
    exact ha.blockE (fun _ => far g1 (by omega)) (Nat.le_of_eq hs.symm)
  · exact HJ.out.labels.blockE (fun _ => far g2 (by omega)) (Nat.le_of_eq hs.symm)
  · exact HJ.out.cases.blockE (fun _ => far g3 (by omega)) (Nat.le_of_eq hs.symm)
  · exact lay10_below _ _ _ _ _ _ _ _ _ _ HJ.out.low (by rw [HPP.out]; omega)
end Go.Proofs.Ytocelaebokikcaa
