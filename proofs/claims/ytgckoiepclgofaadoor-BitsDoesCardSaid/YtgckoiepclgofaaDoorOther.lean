/- What other answers: a deed's set, both ways. -/
import Derived.Test.YtgckoiepclgofaaDoorFew
import Derived.Deep.RegionHeld3
namespace Go.Proofs.YtgckoiepclgofaaDoor
open Go.ChangeShapes Go.WideShapes Go.RowKit
set_option linter.unusedVariables false

/-- A deed in a box of its own. -/
def Bx3 (W : World) (b : Nat) (kd : Nat) (n : Int) (a : Option Addr) (M c : Nat) : Prop := W.heap[b]? = some (.cells #[.int .u8 (kd : Int), .int .i64 n, .slice a M c] 35 (0, 0))
theorem Bx3.kept {W W' : World} {b kd : Nat} {n : Int} {a : Option Addr} {M c : Nat} {row : Option Nat} (h : Bx3 W b kd n a M c) (hg : W.grownBy W' row) (hne : some b ≠ row) : Bx3 W' b kd n a M c :=
  (hg.block b (Array.getElem?_eq_some_iff.1 h).1 hne).trans h
theorem Bx3.c0 {W : World} {b kd : Nat} {n : Int} {a : Option Addr} {M c : Nat} (h : Bx3 W b kd n a M c) : W.cell? ⟨b, 0, none⟩ = some (.int .u8 (kd : Int)) := by rw [Lib.cell_of_heap h]; rfl
theorem Bx3.c1 {W : World} {b kd : Nat} {n : Int} {a : Option Addr} {M c : Nat} (h : Bx3 W b kd n a M c) : W.cell? ⟨b, 1, none⟩ = some (.int .i64 n) := by rw [Lib.cell_of_heap h]; rfl
theorem Bx3.c2 {W : World} {b kd : Nat} {n : Int} {a : Option Addr} {M c : Nat} (h : Bx3 W b kd n a M c) : W.cell? ⟨b, 2, none⟩ = some (.slice a M c) := by rw [Lib.cell_of_heap h]; rfl
/-- What holds in other's loop. -/
structure OtL (w wr : World) (kd : Nat) (n : Int) (a : Option Addr) (M c b4 gx N cx : Nat) (bs : List Bool) : Prop where
  d : Bx3 wr w.heap.size kd n a M c
  r : Boxed wr (w.heap.size + 1) 29 (.slice none 0 0)
  x : Boxed wr b4 29 (.slice (some ⟨gx, 0, none⟩) N cx)
  lo : w.heap.size + 1 + 1 ≤ b4
  ne : gx ≠ b4
  lox : w.heap.size + 1 + 1 ≤ gx
  row : Bl wr gx bs
  gr : w.grownBy wr none
theorem OtL.grow {w wr w1 : World} {kd : Nat} {n : Int} {a : Option Addr} {M c b4 gx N cx : Nat} {bs : List Bool} (h : OtL w wr kd n a M c b4 gx N cx bs) (hg : wr.grownBy w1 none) : OtL w w1 kd n a M c b4 gx N cx bs :=
  ⟨h.d.kept hg (by simp), h.r.kept hg (by simp), h.x.kept hg (by simp), h.lo, h.ne, h.lox, h.row.grow hg, gtrans h.gr hg⟩
theorem OtL.done {w wr : World} {kd : Nat} {n : Int} {a : Option Addr} {M c b4 gx N cx : Nat} {bs : List Bool} (h : OtL w wr kd n a M c b4 gx N cx bs) (v : Value) :
    (wr.setCell ⟨w.heap.size + 1, 0, none⟩ v).cell? ⟨w.heap.size, 1, none⟩ = some (.int .i64 n) ∧ (wr.setCell ⟨w.heap.size + 1, 0, none⟩ v).cell? ⟨w.heap.size, 2, none⟩ = some (.slice a M c) ∧ (wr.setCell ⟨w.heap.size + 1, 0, none⟩ v).cell? ⟨b4, 0, none⟩ = some (.slice (some ⟨gx, 0, none⟩) N cx) := by
  have hs := gset wr (w.heap.size + 1) 0 v
  have hlo := h.lo
  exact ⟨(h.d.kept hs (by simp)).c1, (h.d.kept hs (by simp)).c2, (h.x.kept hs (by simp; omega)).cell⟩
theorem OtL.put {w wr w1 : World} {kd : Nat} {n : Int} {a : Option Addr} {M c b4 gx N cx g2 c2 : Nat} {bs cs : List Bool} (h : OtL w wr kd n a M c b4 gx N cx bs) (hg : wr.grownBy w1 none) (hB : Bl w1 g2 cs) (hne : g2 ≠ b4) (hlx : w.heap.size + 1 + 1 ≤ g2) :
    OtL w (w1.setCell ⟨b4, 0, none⟩ (.slice (some ⟨g2, 0, none⟩) N c2)) kd n a M c b4 g2 N c2 cs := by
  have h1 := h.grow hg
  have hs := gset w1 b4 0 (.slice (some ⟨g2, 0, none⟩) N c2)
  have hlo := h.lo
  exact ⟨h1.d.kept hs (by simp; omega), h1.r.kept hs (by simp; omega), h1.x.set _, h.lo, hne, hlx, hB.kept hs (by simpa using hne), gnew h1.gr hs (by omega)⟩
/-- What other hands back. -/
def OthP (bs : List Bool) (N : Nat) (w : World) (e : Ending) (w' : World) : Prop :=
  ∃ p g gx cx, e = .returned (.tuple #[.pointer (some ⟨p, 0, none⟩), .agg #[.slice (some ⟨gx, 0, none⟩) N cx]]) ∧ SetAt w.heap.size w' p g bs ∧ Bl w' gx bs ∧ w.grownBy w' none
set_option maxRecDepth 100000 in
set_option maxHeartbeats 4000000 in
theorem other_v (kd : Nat) (n : Int) (N : Nat) (hN : n.toNat = N) (hn : n ≤ 300) (a : Option Addr) (M c : Nat) (l : List Int) (hM : l.length = M) (hM2 : M ≤ 40) (w : World) (hl : Ints w a l) :
    Calls Tryd.prog 25 #[.agg #[.int .u8 (kd : Int), .int .i64 n, .slice a M c]] w (OthP (puts (List.replicate N false) l) N w) := by
  have HQ := Lib.hid (And.intro hN (And.intro hn (And.intro hM hl)))
  clear hN hn hM hl
  go_enter Tryd.func25, Tryd.ntmps25
  go_wp2_with fail
  refine (rnew_v n N HQ.out.1 HQ.out.2.1 _).mono ?_
  rintro e w1 ⟨gx, cx, rfl, hlo, hB, hg1⟩
  have s1 : OtL w (w1.alloc (.cells #[.slice (some ⟨gx, 0, none⟩) N cx] 29)) kd n a M c w1.heap.size gx N cx (puts (List.replicate N false) (l.take 0)) := by
    have x0 : Bx3 (w.alloc (.cells #[.int .u8 (kd : Int), .int .i64 n, .slice a M c] 35)) w.heap.size kd n a M c := heap_alloc_new w _
    have x1 := Boxed.new (w.alloc (.cells #[.int .u8 (kd : Int), .int .i64 n, .slice a M c] 35)) 29 (.slice none 0 0)
    simp only [World.size_alloc] at x1
    have g2 : (w.alloc (.cells #[.int .u8 (kd : Int), .int .i64 n, .slice a M c] 35)).grownBy (w1.alloc (.cells #[.slice (some ⟨gx, 0, none⟩) N cx] 29)) none := gtrans (galloc _ _ _) (gtrans hg1 (galloc _ _ _))
    have hsz := hg1.size
    simp only [World.size_alloc] at hsz
    exact ⟨x0.kept g2 (by simp), (x1.kept hg1 (by simp)).alloc _, Boxed.new _ _ _, by omega, by have := hB.lt; omega, by simp only [World.size_alloc] at hlo; exact hlo, hB.grow (galloc _ _ _), gtrans (galloc _ _ _) g2⟩
  have H1 := Lib.hid s1
  clear s1 hlo hB hg1
  go_wp2_with fail
  obtain ⟨b4, hb4⟩ : ∃ b4, w1.heap.size = b4 := ⟨_, rfl⟩
  rw [hb4] at H1 ⊢
  go_loopg [5] M (fun gk u wr => ∃ (k gx cx : Nat), k + gk = M ∧ u = .int .i64 (k : Int) ∧ Hid (OtL w wr kd n a M c b4 gx N cx (puts (List.replicate N false) (l.take k))))
  case atStart => exact ⟨0, gx, cx, by omega, rfl, H1.out⟩
  case round =>
    obtain ⟨k, gx, cx, hk, rfl, HH⟩ := hrel
    have e2 := HH.out.d.c2
    have e4 := HH.out.x.cell
    by_cases hlt : k < M
    · obtain ⟨hN, hn, hM, hl⟩ := HQ.out
      have hkl : k < l.length := by omega
      rcases hl.kept HH.out.gr (by simp) with h0 | ⟨b, o, rfl, hb, hc⟩
      · rw [h0] at hkl; cases hkl
      have d0 := hc k hkl
      obtain ⟨x, hx⟩ : ∃ x, l[k] = x := ⟨_, rfl⟩
      rw [hx] at d0
      have HX := Lib.hid (show ∃ h : k < l.length, l[k]'h = x from ⟨hkl, hx⟩)
      have kM : (k : Int) < (M : Int) := by omega
      have k0 : (0 : Int) ≤ (k : Int) := by omega
      have f4 := HH.out.x.frozen
      clear hN hn hM hl hc hx hkl
      go_wp2_with fail
      go_region_with ((go_at_call 22; (refine (with_v x true gx N cx _ (by rw [puts_len]; simp) _ (HH.out.row.grow (gdrew wr none))).mono ?_); rintro e w2 ⟨g2, c2, rfl, hB2, hg2, hw2⟩; have f4' := (HH.out.grow (gtrans (gdrew _ _) hg2)).x.cell; have f5' := (HH.out.grow (gtrans (gdrew _ _) hg2)).x.frozen; have S1 := Lib.hid (And.intro hB2 (And.intro (show wr.grownBy w2 none from gtrans (gdrew _ _) hg2) (show g2 = gx ∨ wr.heap.size ≤ g2 from hw2))); clear hB2 hg2 hw2))
      all_goals go_wp2_with fail
      all_goals go_roundg (gk - 1)
      all_goals first
        | omega
        | (obtain ⟨hkl, hx⟩ := HX.out
           refine ⟨k + 1, g2, c2, by omega, by go_num, ?_⟩
           rw [puts_take _ _ _ hkl, hx]; exact HH.out.put S1.out.2.1 S1.out.1 (by have h1 := S1.out.2.2; have h2 := HH.out.ne; have h3 := HH.out.x.lt; omega) (by have h1 := S1.out.2.2; have h2 := HH.out.lox; have h3 := HH.out.x.lt; have h4 := HH.out.lo; omega))
    · obtain rfl : k = M := by omega
      have hge : ¬ (k : Int) < (k : Int) := by omega
      have e1 := HH.out.d.c1
      have e5 := HH.out.r.cell
      have e6 := HH.out.r.frozen
      go_wp2_with fail
      go_region_held3 (fun W => W.cell? ⟨w.heap.size, 1, none⟩ = some (.int .i64 n) ∧ W.cell? ⟨w.heap.size, 2, none⟩ = some (.slice a k c) ∧ W.cell? ⟨b4, 0, none⟩ = some (.slice (some ⟨gx, 0, none⟩) N cx))
        (first | exact ⟨e1, e2, e4⟩ | exact S1.out.1 | exact S1.out.2.1.done _)
        ((go_at_call 17; (refine (of_v n N HQ.out.1 HQ.out.2.1 a k c l HQ.out.2.2.1 (by omega) _ (HQ.out.2.2.2.kept (gtrans HH.out.gr (gdrew _ none)) (by simp))).mono ?_); rintro e w2 ⟨p, g, rfl, hs2, hg2⟩; have f6 := (HH.out.grow (gtrans (gdrew _ _) hg2)).r.cell; have f7 := (HH.out.grow (gtrans (gdrew _ _) hg2)).r.frozen; have S1 := Lib.hid (And.intro (And.intro ((HH.out.grow (gtrans (gdrew _ _) hg2)).d.c1) (And.intro ((HH.out.grow (gtrans (gdrew _ _) hg2)).d.c2) ((HH.out.grow (gtrans (gdrew _ _) hg2)).x.cell))) (And.intro (HH.out.grow (gtrans (gdrew _ _) hg2)) hs2)); clear hs2 hg2))
      obtain ⟨_, ho, hs2⟩ := S1.out
      have hr := (ho.r.set (.slice (some ⟨gx, 0, none⟩) N cx)).cell
      have H2 := Lib.hid (And.intro ho (show SetAt wr.heap.size w2 p g _ from hs2))
      clear ho hs2 S1 e1 e2 e4 e5 e6 f6 f7
      go_wp2_with fail
      refine bodyPost_ret (v := .tuple #[.pointer (some ⟨p, 0, none⟩), .agg #[.slice (some ⟨gx, 0, none⟩) N cx]]) (by simp [results, Tryd.f25, go_sem, hr]) rfl ?_
      obtain ⟨ho, hs2⟩ := H2.out
      have hgs := gset w2 (w.heap.size + 1) 0 (.slice (some ⟨gx, 0, none⟩) N cx)
      have hsz := HH.out.gr.size
      have hxl := HH.out.x.lt
      have hlo := HH.out.lo
      have hp1 := hs2.lo
      have hp2 := hs2.log
      have hlx := ho.lox
      refine ⟨p, g, gx, cx, rfl, (hs2.mono hsz).kept hgs (by simp; omega) (by simp; omega), ?_, gnew ho.gr hgs (by omega)⟩
      have hrow := ho.row
      rw [List.take_of_length_le (by have := HQ.out.2.2.1; omega)] at hrow
      exact hrow.kept hgs (by simp; omega)
end Go.Proofs.YtgckoiepclgofaaDoor
