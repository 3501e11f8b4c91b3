/- What the small check of each statement answers: true. -/
import Derived.Test.YtgckoiepclgofaaDoorList
import Derived.Test.YtgckoiepclgofaaDoorOnes
import Derived.Test.YtgckoiepclgofaaDoorMerge
namespace Go.Proofs.YtgckoiepclgofaaDoor
open Go.ChangeShapes Go.WideShapes Go.RowKit
set_option linter.unusedVariables false
attribute [local go_sem] Oper.semAt_some

def s1 : List Bool := puts (List.replicate 70 false) [3, 69, 3, 70]
def s2 : List Bool := puts (List.replicate 100 false) [69, 3]
def s3 : List Bool := puts (List.replicate 70 false) [4]
def s4 : List Bool := two orB s1 s3
theorem s1_facts : (all s1).length = 2 ∧ hasI s1 69 = true ∧ hasI s1 70 = false ∧ s1.length = 70 ∧ words s1.length = 2 ∧ words s2.length = 2 ∧ (s4 != s1) = true ∧ (two orB s4 s3 != s4) = false ∧ (all (List.replicate 65 true)).length = 65 := by decide +kernel
theorem s12 : ∀ i, has s1 i = has s2 i := by
  intro i
  by_cases h : i < 100
  · have : ∀ i, i < 100 → has s1 i = has s2 i := by decide +kernel
    exact this i h
  · have e1 : s1.length = 70 := s1_facts.2.2.2.1
    have e2 : s2.length = 100 := by decide +kernel
    rw [has_past (by omega), has_past (by omega)]
theorem ints_lit (w : World) (l : List Int) (cs : Array Value) (hl : cs.toList = l.map (Value.int .i64)) : Ints (w.alloc (.cells cs 3)) (some ⟨w.heap.size, 0, none⟩) l := by
  refine .inr ⟨w.heap.size, 0, rfl, by simp, fun k hk => ?_⟩
  have h := news_new w cs 3 _ hl k (.int .i64 l[k]) (by rw [List.getElem?_map, List.getElem?_eq_getElem hk]; rfl)
  rw [Nat.zero_add]
  by_cases h0 : k = 0
  · subst h0; simpa [Addr.add] using h
  · simpa [Addr.add, h0] using h
theorem has_g (i : Int) (b : Bool) (B p g : Nat) (bs : List Bool) (hb : hasI bs i = b) (w : World) (h : SetAt B w p g bs) :
    Calls Tryd.prog 14 #[.pointer (some ⟨p, 0, none⟩), .int .i64 i] w fun e w' => e = .returned (.bool b) ∧ w.grownBy w' none := by
  rw [← hb]
  refine (has_v i B p g bs w h).mono ?_
  rintro e w' ⟨h1, m, rfl⟩
  exact ⟨h1, drewN_grown _ _ _⟩
theorem func_nil (fn : Fn) (first cap : Array Value) (W : World) : (binOp .eql 44 (.func fn first cap) .nilFunc).run Tryd.prog W = .ok (.bool false) W := rfl
/-- Where the check stands behind its loop: the set, and the block for what is deferred. -/
structure Wk (w W : World) (p g D : Nat) (bs : List Bool) : Prop where
  set : SetAt (w.heap.size + 1) W p g bs
  gr : w.grownBy W none
  late : W.heap[D]? = some (.deferred (some []))
  ne : g ≠ D
  lo : w.heap.size ≤ D
theorem Wk.grow {w W W' : World} {p g D : Nat} {bs : List Bool} (h : Wk w W p g D bs) (hg : W.grownBy W' none) : Wk w W' p g D bs :=
  ⟨h.set.grow hg, gtrans h.gr hg, (hg.block D (Array.getElem?_eq_some_iff.1 h.late).1 (by simp)).trans h.late, h.ne, h.lo⟩
theorem Wk.turn {w W W' : World} {p g D : Nat} {bs cs : List Bool} (h : Wk w W p g D bs) (hs : SetAt (w.heap.size + 1) W' p g cs) (hg : W.grownBy W' (some g)) : Wk w W' p g D cs :=
  ⟨hs, gnew h.gr hg (by have := h.set.log; omega), (hg.block D (Array.getElem?_eq_some_iff.1 h.late).1 (fun e => h.ne (by injection e with e; exact e.symm))).trans h.late, h.ne, h.lo⟩
theorem or_b (B p g p' g' : Nat) (bs cs T : List Bool) (b : Bool) (hT : two orB bs cs = T) (hb : (T != bs) = b) (hne : p' ≠ g ∧ g' ≠ g) (w : World) (h : SetAt B w p g bs) (h' : SetAt B w p' g' cs) :
    Calls Tryd.prog 21 #[.pointer (some ⟨p, 0, none⟩), .pointer (some ⟨p', 0, none⟩)] w fun e w' => e = .returned (.bool b) ∧ SetAt B w' p g T ∧ w.grownBy w' (some g) := by
  rw [← hb]; exact or_v B p g p' g' bs cs T hT hne w h h'
/-- A set that is made anew, beside the one that there is. -/
theorem Wk.made {w W W' : World} {p g D q k : Nat} {bs cs : List Bool} {o : Obj} (h : Wk w W p g D bs) (hs : SetAt (W.alloc o).heap.size W' q k cs) (hg : (W.alloc o).grownBy W' none) :
    Wk w W' p g D bs ∧ SetAt (w.heap.size + 1) W' q k cs ∧ q ≠ g ∧ k ≠ g := by
  have h1 := h.set.row.lt
  have h2 := hs.lo
  have h3 := hs.log
  have h4 := h.gr.size
  simp only [World.size_alloc] at h2 h3
  exact ⟨h.grow (gtrans (galloc W o none) hg), hs.mono (by simp; omega), by omega, by omega⟩
theorem s34 : two orB s1 s3 = s4 := rfl
set_option maxRecDepth 100000 in
set_option maxHeartbeats 4000000 in
theorem works_v (w : World) (hG : Glob w) : Calls Tryd.prog 6 #[] w fun e w' => e = .returned (.bool true) ∧ w.grownBy w' none := by
  refine (callsIn_wide (n := 3)).1 ?_
  have hmf : ∀ (fn : Fn) (first cap : Array Value) (w : World), (Instr.makeFunc fn first cap).run Tryd.prog w = .ok (.func fn first cap) w := fun _ _ _ _ => rfl
  have hfn := func_nil
  have HG := Lib.hid hG
  clear hG
  refine callsIn_of_wp_marks Tryd.func6 rfl trivial ?_ rfl
  simp only [Tryd.ntmps6, List.size_toArray, List.length_nil, Nat.reduceSub, Array.replicate_succ, Array.replicate_zero, List.push_toArray, List.append_toArray, List.nil_append, List.cons_append]
  gi_wp2_with fail
  refine ⟨trivial, (callsIn_wide.2 (of_v 70 70 rfl (by omega) _ 4 4 [3, 69, 3, 70] rfl (by omega) _ (ints_lit w [3, 69, 3, 70] _ rfl))).mono ?_⟩
  rintro e w1 ⟨p, g, rfl, hs, hg⟩
  have H1 := Lib.hid (And.intro (show SetAt _ w1 p g s1 from hs) (gtrans (galloc w (.cells #[.int .i64 3, .int .i64 69, .int .i64 3, .int .i64 70] 3) none) hg))
  clear hs hg
  gi_wp2_with fail
  refine ⟨trivial, (callsIn_wide.2 (all_func p _)).mono ?_⟩
  rintro e w2 ⟨rfl, rfl⟩
  gi_wp2_with fail
  have bO := Boxed.new w1 3 (.int .i64 0)
  have hB0 : Below w1.heap.size w1 (w1.alloc (.cells #[.int .i64 0] 3)) := (Below.refl _ w1).alloc (Nat.le_refl _) _
  have hSet : ∀ W, Below w1.heap.size w1 W → SetAt (w.heap.size + 1) W p g s1 ∧ Glob W := fun W hb => ⟨by have := H1.out.1; simp only [World.size_alloc] at this; exact this.below hb this.lt this.row.lt, (HG.out.grow H1.out.2).below hb (HG.out.grow H1.out.2).1⟩
  refine range_v (w.heap.size + 1) p g s1 rfl
    (fun s W => (W.cell? ⟨w1.heap.size, 0, none⟩ = some (.int .i64 (s.length : Nat)) ∧ W.frozen? ⟨w1.heap.size, 0, none⟩ = false) ∧ Below w1.heap.size w1 W)
    (fun _ _ _ => False)
    (OwnFrom.and (Own.from (fun s A B row hs hg hr => ⟨cell_kept hs.1 hg hr, (frozen_kept hs.1 hg hr).trans hs.2⟩) _) (ownFrom_below (Nat.le_refl _) (by simp)))
    (fun _ _ _ _ _ hs _ _ => hs)
    (fun s W hW => hSet W hW.2)
    ⟨⟨bO.cell, bO.frozen⟩, hB0⟩
    (fun x => { tmps := #[.bool false, .pointer (some ⟨p, 0, none⟩), .pointer (some ⟨w1.heap.size, 0, none⟩), .func (.func 34) #[.pointer (some ⟨p, 0, none⟩)] #[], .slice (some ⟨w.heap.size, 0, none⟩) 4 4, .pointer (some ⟨p, 0, none⟩), .pointer (some ⟨p, 0, none⟩), .bool false, .pointer (some ⟨p, 0, none⟩), .func (.func 34) #[.pointer (some ⟨p, 0, none⟩)] #[], .func (.func 34) #[.pointer (some ⟨p, 0, none⟩)] #[], .bool false, .func (.func 34) #[.pointer (some ⟨p, 0, none⟩)] #[], .int .i64 (x : Int), undef, undef, undef, undef, undef, undef, undef, undef, undef, undef, undef, undef, undef, undef, undef, undef, undef, undef, undef, undef, undef, undef, undef, undef, undef, undef, undef, undef, undef, undef, undef, undef, undef, undef, undef, undef, undef, undef, undef, undef, undef, undef, undef, undef, undef, undef, undef], defers := [] }) ?assign ?body ?done ?stop
  case assign =>
    intro l x W K hK
    gi_wp2_with fail
    exact hK
  case body =>
    rintro l x W hx ⟨⟨hc, hf⟩, hB⟩
    have hpl : (low s1 x).length ≤ x := low_len _ _
    have hxl := has_lt hx
    rw [s1_facts.2.2.2.1] at hxl
    gi_wp2_with fail
    refine ⟨(KeepsOthers.setCell _ _ _).from _, trivial, ⟨?_, by rw [World.frozen?_setCell]; exact hf⟩, hB.setCell (p := ⟨w1.heap.size, 0, none⟩) (Nat.le_refl _) _⟩
    rw [low_hit hx]
    simpa using World.cell?_setCell_same' W ⟨w1.heap.size, 0, none⟩ (.int .i64 (((low s1 x).length : Int) + 1)) (by rw [hc]; rfl)
  case done =>
    rintro D W hD ⟨⟨hc, hf⟩, hB⟩ hK
    rw [s1_facts.1] at hc
    have hw : Wk w W p g D s1 := ⟨(hSet W hB).1, gtrans H1.out.2 (below_grown hB), hK, by have := H1.out.1.row.lt; simp at hD; omega, by have := H1.out.2.size; simp at hD; omega⟩
    have H2 := Lib.hid hw
    clear hw hSet bO hB0 hK hB hD
    gi_wp2_with fail
    refine ⟨trivial, (callsIn_wide.2 (has_g 69 true _ p g s1 s1_facts.2.1 _ H2.out.set)).mono ?_⟩
    rintro e w3 ⟨rfl, hg3⟩
    have H3 := Lib.hid (H2.out.grow hg3)
    clear hg3 H2
    gi_wp2_with fail
    refine ⟨trivial, (callsIn_wide.2 (has_g 70 false _ p g s1 s1_facts.2.2.1 _ H3.out.set)).mono ?_⟩
    rintro e w4 ⟨rfl, hg4⟩
    have H4 := Lib.hid (H3.out.grow hg4)
    clear hg4 H3
    gi_wp2_with fail
    refine ⟨trivial, (callsIn_wide.2 (count_v _ p g s1 2 s1_facts.1 _ H4.out.set)).mono ?_⟩
    rintro e w5 ⟨rfl, rfl⟩
    gi_wp2_with fail
    refine ⟨trivial, (callsIn_wide.2 (bound_v _ p g s1 70 s1_facts.2.2.2.1 _ H4.out.set)).mono ?_⟩
    rintro e w6 ⟨rfl, rfl⟩
    gi_wp2_with fail
    refine ⟨trivial, (callsIn_wide.2 (of_v 100 100 rfl (by omega) _ 2 2 [69, 3] rfl (by omega) _ (ints_lit _ [69, 3] _ rfl))).mono ?_⟩
    rintro e w7 ⟨p7, g7, rfl, hs7, hg7⟩
    have H7 := Lib.hid (H4.out.made (cs := s2) hs7 hg7)
    clear hs7 hg7 H4
    gi_wp2_with fail
    refine ⟨trivial, (callsIn_wide.2 (same_v _ p g p7 g7 s1 s2 2 s12 s1_facts.2.2.2.2.1 s1_facts.2.2.2.2.2.1 _ H7.out.1.set H7.out.2.1)).mono ?_⟩
    rintro e w8 ⟨rfl, rfl⟩
    gi_wp2_with fail
    refine ⟨trivial, (callsIn_wide.2 (full_v 65 (by omega) _)).mono ?_⟩
    rintro e w9 ⟨p9, g9, rfl, hs9, hg9⟩
    have H9 := Lib.hid (And.intro (H7.out.1.grow hg9) hs9)
    clear hs9 hg9 H7
    gi_wp2_with fail
    refine ⟨trivial, (callsIn_wide.2 (count_v _ p9 g9 (List.replicate 65 true) 65 s1_facts.2.2.2.2.2.2.2.2 _ H9.out.2)).mono ?_⟩
    rintro e w10 ⟨rfl, rfl⟩
    gi_wp2_with fail
    refine ⟨trivial, (callsIn_wide.2 (of_v 70 70 rfl (by omega) _ 1 1 [4] rfl (by omega) _ (ints_lit _ [4] _ rfl))).mono ?_⟩
    rintro e w11 ⟨p11, g11, rfl, hs11, hg11⟩
    have H11 := Lib.hid (H9.out.1.made (cs := s3) hs11 hg11)
    clear hs11 hg11 H9
    gi_wp2_with fail
    refine ⟨trivial, (callsIn_wide.2 (or_b _ p g p11 g11 s1 s3 s4 true s34 s1_facts.2.2.2.2.2.2.1 H11.out.2.2 _ H11.out.1.set H11.out.2.1)).mono ?_⟩
    rintro e w12 ⟨rfl, hs12, hg12⟩
    have H12 := Lib.hid (H11.out.1.turn hs12 hg12)
    clear hs12 hg12 H11
    gi_wp2_with fail
    refine ⟨trivial, (callsIn_wide.2 (of_v 70 70 rfl (by omega) _ 1 1 [4] rfl (by omega) _ (ints_lit _ [4] _ rfl))).mono ?_⟩
    rintro e w13 ⟨p13, g13, rfl, hs13, hg13⟩
    have H13 := Lib.hid (H12.out.made (cs := s3) hs13 hg13)
    clear hs13 hg13 H12
    gi_wp2_with fail
    refine ⟨trivial, (callsIn_wide.2 (or_b _ p g p13 g13 s4 s3 _ false rfl s1_facts.2.2.2.2.2.2.2.1 H13.out.2.2 _ H13.out.1.set H13.out.2.1)).mono ?_⟩
    rintro e w14 ⟨rfl, hs14, hg14⟩
    have H14 := Lib.hid (H13.out.1.turn hs14 hg14)
    clear hs14 hg14 H13
    gi_wp2_with fail
    refine ⟨by simp, .inl ⟨_, _, rfl, run_takeDeferred H14.out.late, ?_⟩⟩
    exact ⟨_, results_tmp rfl _ _ _, rfl, gnew H14.out.gr (grownBy_putObj' _ _ _) H14.out.lo⟩
  case stop =>
    rintro D c x W _ _ h _
    exact h.elim
end Go.Proofs.YtgckoiepclgofaaDoor
