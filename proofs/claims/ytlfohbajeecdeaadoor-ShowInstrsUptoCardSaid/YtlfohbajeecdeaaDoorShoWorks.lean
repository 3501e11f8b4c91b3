/- What is shown first is true. -/
import Derived.Test.YtlfohbajeecdeaaDoorShoRefF
namespace Go.Proofs.YtlfohbajeecdeaaDoor
open Go.ChangeShapes Go.WideShapes Go.RowKit
set_option linter.unusedVariables false
set_option maxRecDepth 20000

theorem ops_one {w : World} {g : Nat} {x : Opn} (h : w.heap[g]? = some (.cells #[.int .i64 x.k, .int .i64 x.c, .int .i64 x.n, .int .i64 x.t] 31 (0, 0))) : IsOps w (some ⟨g, 0, none⟩) 1 [x] := by
  refine ⟨rfl, by omega, .inr ⟨g, 0, rfl, (Array.getElem?_eq_some_iff.1 h).1, fun k hk => ?_⟩⟩
  have hk0 : k = 0 := by simpa using hk
  subst hk0
  exact ⟨cell_in h 0, cell_in h 1, cell_in h 2, cell_in h 3⟩
theorem code_one {w : World} {g : Nat} {i : Ins} {r : InsV} (h : w.heap[g]? = some (.cells (insR i r) 35 (0, 0))) (hi : IsIns w i r) : IsCode w (some ⟨g, 0, none⟩) 1 (fun _ => r) [i] := by
  unfold insR at h
  refine ⟨rfl, by omega, .inr ⟨g, 0, rfl, (Array.getElem?_eq_some_iff.1 h).1, fun k hk => ?_⟩, fun k hk => ?_⟩
  · have hk0 : k = 0 := by simpa using hk
    subst hk0
    exact ⟨cell_in h 0, cell_in h 1, cell_in h 2, cell_in h 3, cell_in h 4, cell_in h 5, cell_in h 6, cell_in h 7, cell_in h 8, cell_in h 9⟩
  · have hk0 : k = 0 := by simpa using hk
    subst hk0
    exact hi
theorem blks_one {w : World} {g : Nat} {i : Blk} {r : BlkV} (h : w.heap[g]? = some (.cells (blkR i r) 38 (0, 0))) (hi : IsBlk w i r) : IsBlks w (some ⟨g, 0, none⟩) 1 (fun _ => r) [i] := by
  unfold blkR at h
  refine ⟨rfl, by omega, .inr ⟨g, 0, rfl, (Array.getElem?_eq_some_iff.1 h).1, fun k hk => ?_⟩, fun k hk => ?_⟩
  · have hk0 : k = 0 := by simpa using hk
    subst hk0
    exact ⟨cell_in h 0, cell_in h 1, cell_in h 2, cell_in h 3⟩
  · have hk0 : k = 0 := by simpa using hk
    subst hk0
    exact hi
theorem opF_one (k c n t : Int) (h1 : -9223372036854775808 ≤ n) (h2 : n ≤ 9223372036854775807) (h3 : -9223372036854775808 ≤ t) (h4 : t ≤ 9223372036854775807) : OpF ⟨k, c, n, t⟩ := ⟨⟨h1, h2⟩, ⟨h3, h4⟩⟩
def ins0 : Ins := ⟨17, ⟨1, 0, 2, 0⟩, [⟨1, 0, 1, 0⟩], ⟨#[]⟩, -8, [], []⟩
theorem ins0_f : InsF ins0 := by
  refine ⟨opF_one _ _ _ _ (by decide) (by decide) (by decide) (by decide), fun x hx => ?_, ⟨by decide, by decide⟩, fun n hn => (by cases hn), by decide, by decide, by decide, by decide⟩
  have : x = ⟨1, 0, 1, 0⟩ := by simpa [ins0] using hx
  subst this
  exact opF_one _ _ _ _ (by decide) (by decide) (by decide) (by decide)
def blk0 : Blk := ⟨⟨#[97]⟩, false, [], [ins0]⟩
theorem blk0_f : BlkF blk0 := ⟨fun y hy => (by cases hy), fun i hi => by
  have : i = ins0 := by simpa [blk0] using hi
  subst this
  exact ins0_f⟩
def fun0 : Fun := ⟨false, ⟨#[102]⟩, [], [⟨1, 0, 1, 0⟩], [blk0]⟩
theorem fun0_f : FunF fun0 := ⟨fun y hy => (by cases hy), fun x hx => by
  have : x = ⟨1, 0, 1, 0⟩ := by simpa [fun0] using hx
  subst this
  exact opF_one _ _ _ _ (by decide) (by decide) (by decide) (by decide), fun i hi => by
  have : i = blk0 := by simpa [fun0] using hi
  subst this
  exact blk0_f⟩
theorem t1 : insT ins0 = (37 :: 50 :: 32 :: 61 :: 32 :: 108 :: 111 :: 97 :: 100 :: 32 :: 37 :: 49 :: 32 :: 43 :: 32 :: 45 :: 56 :: [] : List UInt8) := by decide +kernel
theorem t2 : opnT ⟨2, 1, 3, 9⟩ = (36 :: 120 :: 51 :: 58 :: 37 :: 57 :: [] : List UInt8) := by decide +kernel
theorem t3 : blkT blk0 = (97 :: 58 :: 10 :: 32 :: 32 :: 37 :: 50 :: 32 :: 61 :: 32 :: 108 :: 111 :: 97 :: 100 :: 32 :: 37 :: 49 :: 32 :: 43 :: 32 :: 45 :: 56 :: 59 :: 10 :: [] : List UInt8) := by decide +kernel
theorem t4 : vregT 4 = (37 :: 52 :: [] : List UInt8) := by decide +kernel
theorem t5 : headT ⟨⟨#[97, 46, 98]⟩, true, [], []⟩ = (101 :: 100 :: 103 :: 101 :: 32 :: 97 :: 46 :: 98 :: 58 :: [] : List UInt8) := by decide +kernel
theorem t6 : funT fun0 = (102 :: 117 :: 110 :: 99 :: 32 :: 102 :: 40 :: 37 :: 49 :: 41 :: 32 :: 123 :: 10 :: 97 :: 58 :: 10 :: 32 :: 32 :: 37 :: 50 :: 32 :: 61 :: 32 :: 108 :: 111 :: 97 :: 100 :: 32 :: 37 :: 49 :: 32 :: 43 :: 32 :: 45 :: 56 :: 59 :: 10 :: 125 :: 10 :: [] : List UInt8) := by decide +kernel
/-- A text that is known is answered, as a letter. -/
theorem says_lit {t : List UInt8} {P : ByteArray} {W : World} {e : Ending} {w' : World} (hP : ByteArray.mk t.toArray = P) (h : Says t W e w') : e = .returned (.string P) ∧ Below W.heap.size W w' := by rw [← hP]; exact h
theorem lit_eq (t : List UInt8) (P : ByteArray) (hP : ByteArray.mk t.toArray = P) : (P.toList == (ByteArray.mk t.toArray).toList) = true := by rw [hP]; simp
theorem lit_eq2 (t : List UInt8) (P : ByteArray) (hP : ByteArray.mk t.toArray = P) : (P.toList == t) = true := by rw [← hP, ByteArray.toList_eq]; simp
theorem five_allocs (W : World) (a0 a1 a2 a3 a4 : Obj) (n : Nat) (hn : W.heap.size = n) :
    (((((W.alloc a0).alloc a1).alloc a2).alloc a3).alloc a4).heap[n]? = some a0 ∧ (((((W.alloc a0).alloc a1).alloc a2).alloc a3).alloc a4).heap[n + 1]? = some a1 ∧ (((((W.alloc a0).alloc a1).alloc a2).alloc a3).alloc a4).heap[n + 1 + 1]? = some a2 ∧ (((((W.alloc a0).alloc a1).alloc a2).alloc a3).alloc a4).heap[n + 1 + 1 + 1]? = some a3 ∧ (((((W.alloc a0).alloc a1).alloc a2).alloc a3).alloc a4).heap[n + 1 + 1 + 1 + 1]? = some a4 ∧ Below n W (((((W.alloc a0).alloc a1).alloc a2).alloc a3).alloc a4) := by
  subst hn
  have g : ∀ (w : World) (o : Obj) (k : Nat) (x : Obj), w.heap[k]? = some x → (w.alloc o).heap[k]? = some x := fun w o k x h => (heap_alloc_old w o (Array.getElem?_eq_some_iff.1 h).1).trans h
  have s1 : (W.alloc a0).heap.size = W.heap.size + 1 := by simp
  have s2 : ((W.alloc a0).alloc a1).heap.size = W.heap.size + 1 + 1 := by simp
  have s3 : (((W.alloc a0).alloc a1).alloc a2).heap.size = W.heap.size + 1 + 1 + 1 := by simp
  have s4 : ((((W.alloc a0).alloc a1).alloc a2).alloc a3).heap.size = W.heap.size + 1 + 1 + 1 + 1 := by simp
  refine ⟨g _ _ _ _ (g _ _ _ _ (g _ _ _ _ (g _ _ _ _ (heap_alloc_new W a0)))), ?_, ?_, ?_, ?_, ?_⟩
  · have h := heap_alloc_new (W.alloc a0) a1; rw [s1] at h; exact g _ _ _ _ (g _ _ _ _ (g _ _ _ _ h))
  · have h := heap_alloc_new ((W.alloc a0).alloc a1) a2; rw [s2] at h; exact g _ _ _ _ (g _ _ _ _ h)
  · have h := heap_alloc_new (((W.alloc a0).alloc a1).alloc a2) a3; rw [s3] at h; exact g _ _ _ _ h
  · have h := heap_alloc_new ((((W.alloc a0).alloc a1).alloc a2).alloc a3) a4; rw [s4] at h; exact h
  · exact (((((Below.refl _ W).alloc (Nat.le_refl _) _).alloc (by simp) _).alloc (by simp; omega) _).alloc (by simp; omega) _).alloc (by simp; omega) _
set_option maxHeartbeats 4000000 in
theorem works_v (W : World) (hG : Opr.Glob W) : Calls Tryd.prog 7 #[] W fun e w' => e = .returned (.bool true) ∧ Below W.heap.size W w' := by
  obtain ⟨P1, hP1⟩ : ∃ P : ByteArray, ByteArray.mk ((37 :: 50 :: 32 :: 61 :: 32 :: 108 :: 111 :: 97 :: 100 :: 32 :: 37 :: 49 :: 32 :: 43 :: 32 :: 45 :: 56 :: [] : List UInt8) : List UInt8).toArray = P := ⟨_, rfl⟩
  have q1 : (P1.toList == (⟨List.toArray (37 :: 50 :: 32 :: 61 :: 32 :: 108 :: 111 :: 97 :: 100 :: 32 :: 37 :: 49 :: 32 :: 43 :: 32 :: 45 :: 56 :: [] : List UInt8)⟩ : ByteArray).toList) = true := lit_eq (37 :: 50 :: 32 :: 61 :: 32 :: 108 :: 111 :: 97 :: 100 :: 32 :: 37 :: 49 :: 32 :: 43 :: 32 :: 45 :: 56 :: [] : List UInt8) P1 hP1
  have r1 : (P1.toList == (37 :: 50 :: 32 :: 61 :: 32 :: 108 :: 111 :: 97 :: 100 :: 32 :: 37 :: 49 :: 32 :: 43 :: 32 :: 45 :: 56 :: [] : List UInt8)) = true := lit_eq2 (37 :: 50 :: 32 :: 61 :: 32 :: 108 :: 111 :: 97 :: 100 :: 32 :: 37 :: 49 :: 32 :: 43 :: 32 :: 45 :: 56 :: [] : List UInt8) P1 hP1
  obtain ⟨P2, hP2⟩ : ∃ P : ByteArray, ByteArray.mk ((36 :: 120 :: 51 :: 58 :: 37 :: 57 :: [] : List UInt8) : List UInt8).toArray = P := ⟨_, rfl⟩
  have q2 : (P2.toList == (⟨List.toArray (36 :: 120 :: 51 :: 58 :: 37 :: 57 :: [] : List UInt8)⟩ : ByteArray).toList) = true := lit_eq (36 :: 120 :: 51 :: 58 :: 37 :: 57 :: [] : List UInt8) P2 hP2
  have r2 : (P2.toList == (36 :: 120 :: 51 :: 58 :: 37 :: 57 :: [] : List UInt8)) = true := lit_eq2 (36 :: 120 :: 51 :: 58 :: 37 :: 57 :: [] : List UInt8) P2 hP2
  obtain ⟨P3, hP3⟩ : ∃ P : ByteArray, ByteArray.mk ((97 :: 58 :: 10 :: 32 :: 32 :: 37 :: 50 :: 32 :: 61 :: 32 :: 108 :: 111 :: 97 :: 100 :: 32 :: 37 :: 49 :: 32 :: 43 :: 32 :: 45 :: 56 :: 59 :: 10 :: [] : List UInt8) : List UInt8).toArray = P := ⟨_, rfl⟩
  have q3 : (P3.toList == (⟨List.toArray (97 :: 58 :: 10 :: 32 :: 32 :: 37 :: 50 :: 32 :: 61 :: 32 :: 108 :: 111 :: 97 :: 100 :: 32 :: 37 :: 49 :: 32 :: 43 :: 32 :: 45 :: 56 :: 59 :: 10 :: [] : List UInt8)⟩ : ByteArray).toList) = true := lit_eq (97 :: 58 :: 10 :: 32 :: 32 :: 37 :: 50 :: 32 :: 61 :: 32 :: 108 :: 111 :: 97 :: 100 :: 32 :: 37 :: 49 :: 32 :: 43 :: 32 :: 45 :: 56 :: 59 :: 10 :: [] : List UInt8) P3 hP3
  have r3 : (P3.toList == (97 :: 58 :: 10 :: 32 :: 32 :: 37 :: 50 :: 32 :: 61 :: 32 :: 108 :: 111 :: 97 :: 100 :: 32 :: 37 :: 49 :: 32 :: 43 :: 32 :: 45 :: 56 :: 59 :: 10 :: [] : List UInt8)) = true := lit_eq2 (97 :: 58 :: 10 :: 32 :: 32 :: 37 :: 50 :: 32 :: 61 :: 32 :: 108 :: 111 :: 97 :: 100 :: 32 :: 37 :: 49 :: 32 :: 43 :: 32 :: 45 :: 56 :: 59 :: 10 :: [] : List UInt8) P3 hP3
  obtain ⟨P4, hP4⟩ : ∃ P : ByteArray, ByteArray.mk ((37 :: 52 :: [] : List UInt8) : List UInt8).toArray = P := ⟨_, rfl⟩
  have q4 : (P4.toList == (⟨List.toArray (37 :: 52 :: [] : List UInt8)⟩ : ByteArray).toList) = true := lit_eq (37 :: 52 :: [] : List UInt8) P4 hP4
  have r4 : (P4.toList == (37 :: 52 :: [] : List UInt8)) = true := lit_eq2 (37 :: 52 :: [] : List UInt8) P4 hP4
  obtain ⟨P5, hP5⟩ : ∃ P : ByteArray, ByteArray.mk ((101 :: 100 :: 103 :: 101 :: 32 :: 97 :: 46 :: 98 :: 58 :: [] : List UInt8) : List UInt8).toArray = P := ⟨_, rfl⟩
  have q5 : (P5.toList == (⟨List.toArray (101 :: 100 :: 103 :: 101 :: 32 :: 97 :: 46 :: 98 :: 58 :: [] : List UInt8)⟩ : ByteArray).toList) = true := lit_eq (101 :: 100 :: 103 :: 101 :: 32 :: 97 :: 46 :: 98 :: 58 :: [] : List UInt8) P5 hP5
  have r5 : (P5.toList == (101 :: 100 :: 103 :: 101 :: 32 :: 97 :: 46 :: 98 :: 58 :: [] : List UInt8)) = true := lit_eq2 (101 :: 100 :: 103 :: 101 :: 32 :: 97 :: 46 :: 98 :: 58 :: [] : List UInt8) P5 hP5
  obtain ⟨P6, hP6⟩ : ∃ P : ByteArray, ByteArray.mk ((102 :: 117 :: 110 :: 99 :: 32 :: 102 :: 40 :: 37 :: 49 :: 41 :: 32 :: 123 :: 10 :: 97 :: 58 :: 10 :: 32 :: 32 :: 37 :: 50 :: 32 :: 61 :: 32 :: 108 :: 111 :: 97 :: 100 :: 32 :: 37 :: 49 :: 32 :: 43 :: 32 :: 45 :: 56 :: 59 :: 10 :: 125 :: 10 :: [] : List UInt8) : List UInt8).toArray = P := ⟨_, rfl⟩
  have q6 : (P6.toList == (⟨List.toArray (102 :: 117 :: 110 :: 99 :: 32 :: 102 :: 40 :: 37 :: 49 :: 41 :: 32 :: 123 :: 10 :: 97 :: 58 :: 10 :: 32 :: 32 :: 37 :: 50 :: 32 :: 61 :: 32 :: 108 :: 111 :: 97 :: 100 :: 32 :: 37 :: 49 :: 32 :: 43 :: 32 :: 45 :: 56 :: 59 :: 10 :: 125 :: 10 :: [] : List UInt8)⟩ : ByteArray).toList) = true := lit_eq (102 :: 117 :: 110 :: 99 :: 32 :: 102 :: 40 :: 37 :: 49 :: 41 :: 32 :: 123 :: 10 :: 97 :: 58 :: 10 :: 32 :: 32 :: 37 :: 50 :: 32 :: 61 :: 32 :: 108 :: 111 :: 97 :: 100 :: 32 :: 37 :: 49 :: 32 :: 43 :: 32 :: 45 :: 56 :: 59 :: 10 :: 125 :: 10 :: [] : List UInt8) P6 hP6
  have r6 : (P6.toList == (102 :: 117 :: 110 :: 99 :: 32 :: 102 :: 40 :: 37 :: 49 :: 41 :: 32 :: 123 :: 10 :: 97 :: 58 :: 10 :: 32 :: 32 :: 37 :: 50 :: 32 :: 61 :: 32 :: 108 :: 111 :: 97 :: 100 :: 32 :: 37 :: 49 :: 32 :: 43 :: 32 :: 45 :: 56 :: 59 :: 10 :: 125 :: 10 :: [] : List UInt8)) = true := lit_eq2 (102 :: 117 :: 110 :: 99 :: 32 :: 102 :: 40 :: 37 :: 49 :: 41 :: 32 :: 123 :: 10 :: 97 :: 58 :: 10 :: 32 :: 32 :: 37 :: 50 :: 32 :: 61 :: 32 :: 108 :: 111 :: 97 :: 100 :: 32 :: 37 :: 49 :: 32 :: 43 :: 32 :: 45 :: 56 :: 59 :: 10 :: 125 :: 10 :: [] : List UInt8) P6 hP6
  have HPP := Lib.hid (And.intro hP1 (And.intro hP2 (And.intro hP3 (And.intro hP4 (And.intro hP5 hP6)))))
  clear hP1 hP2 hP3 hP4 hP5 hP6
  obtain ⟨n, hn⟩ : ∃ n, W.heap.size = n := ⟨_, rfl⟩
  have hf := five_allocs W (.cells #[.int .i64 1, .int .i64 0, .int .i64 1, .int .i64 0] 31) (.cells #[.int .i64 1, .int .i64 0, .int .i64 1, .int .i64 0] 31) (.cells #[.int .i64 17, .int .i64 1, .int .i64 0, .int .i64 2, .int .i64 0, .slice (some ⟨n + 1, 0, none⟩) 1 1, .string ⟨#[]⟩, .int .i64 (-8), .slice none 0 0, .slice none 0 0] 35) (.cells #[.int .i64 17, .int .i64 1, .int .i64 0, .int .i64 2, .int .i64 0, .slice (some ⟨n + 1, 0, none⟩) 1 1, .string ⟨#[]⟩, .int .i64 (-8), .slice none 0 0, .slice none 0 0] 35) (.cells #[.string ⟨#[97]⟩, .bool false, .slice none 0 0, .slice (some ⟨n + 1 + 1 + 1, 0, none⟩) 1 1] 38) n hn
  have HG := Lib.hid (hG.below hf.2.2.2.2.2 (by rw [← hn]; exact hG.1))
  go_enter Tryd.func7, Tryd.ntmps7
  go_upto_region 4 with fail
  try rw [hn]
  obtain ⟨wc, hwc⟩ : ∃ wc, (((((W.alloc (.cells #[.int .i64 1, .int .i64 0, .int .i64 1, .int .i64 0] 31)).alloc (.cells #[.int .i64 1, .int .i64 0, .int .i64 1, .int .i64 0] 31)).alloc (.cells #[.int .i64 17, .int .i64 1, .int .i64 0, .int .i64 2, .int .i64 0, .slice (some ⟨n + 1, 0, none⟩) 1 1, .string ⟨#[]⟩, .int .i64 (-8), .slice none 0 0, .slice none 0 0] 35)).alloc (.cells #[.int .i64 17, .int .i64 1, .int .i64 0, .int .i64 2, .int .i64 0, .slice (some ⟨n + 1, 0, none⟩) 1 1, .string ⟨#[]⟩, .int .i64 (-8), .slice none 0 0, .slice none 0 0] 35)).alloc (.cells #[.string ⟨#[97]⟩, .bool false, .slice none 0 0, .slice (some ⟨n + 1 + 1 + 1, 0, none⟩) 1 1] 38)) = wc := ⟨_, rfl⟩
  rw [hwc] at hf HG ⊢
  have HF := Lib.hid hf
  have HBX := Lib.hid (show ∀ W', Below wc.heap.size wc W' → W'.heap[n]? = some (.cells #[.int .i64 1, .int .i64 0, .int .i64 1, .int .i64 0] 31 (0, 0)) ∧ W'.heap[n + 1]? = some (.cells #[.int .i64 1, .int .i64 0, .int .i64 1, .int .i64 0] 31 (0, 0)) ∧ W'.heap[n + 1 + 1]? = some (.cells #[.int .i64 17, .int .i64 1, .int .i64 0, .int .i64 2, .int .i64 0, .slice (some ⟨n + 1, 0, none⟩) 1 1, .string ⟨#[]⟩, .int .i64 (-8), .slice none 0 0, .slice none 0 0] 35 (0, 0)) ∧ W'.heap[n + 1 + 1 + 1]? = some (.cells #[.int .i64 17, .int .i64 1, .int .i64 0, .int .i64 2, .int .i64 0, .slice (some ⟨n + 1, 0, none⟩) 1 1, .string ⟨#[]⟩, .int .i64 (-8), .slice none 0 0, .slice none 0 0] 35 (0, 0)) ∧ W'.heap[n + 1 + 1 + 1 + 1]? = some (.cells #[.string ⟨#[97]⟩, .bool false, .slice none 0 0, .slice (some ⟨n + 1 + 1 + 1, 0, none⟩) 1 1] 38 (0, 0)) from fun W' h => ⟨kept_box HF.out.1 h, kept_box HF.out.2.1 h, kept_box HF.out.2.2.1 h, kept_box HF.out.2.2.2.1 h, kept_box HF.out.2.2.2.2.1 h⟩)
  have HIn := Lib.hid (show ∀ W', Below wc.heap.size wc W' → IsIns W' ins0 ⟨some ⟨n + 1, 0, none⟩, 1, 1, none, 0, 0, none, 0, 0⟩ from fun W' h => ⟨ops_one (x := ⟨1, 0, 1, 0⟩) (HBX.out W' h).2.1, IsStrs.nil _ _, IsInts.nil _ _⟩)
  have HBl := Lib.hid (show ∀ W', Below wc.heap.size wc W' → IsBlk W' blk0 ⟨none, 0, 0, some ⟨n + 1 + 1 + 1, 0, none⟩, 1, 1, fun _ => ⟨some ⟨n + 1, 0, none⟩, 1, 1, none, 0, 0, none, 0, 0⟩⟩ from fun W' h => ⟨IsOps.nil _ _, code_one (HBX.out W' h).2.2.2.1 (HIn.out W' h)⟩)
  clear hf hwc hG
  have z0 := Lib.hid (Below.refl wc.heap.size wc)
  obtain ⟨e0, e1, e2, e3, e4, e5, e6, e7, e8, e9⟩ := ten_cells HF.out.2.2.1
  go_wp2_with fail
  clear e0 e1 e2 e3 e4 e5 e6 e7 e8 e9
  refine Calls.mono (sinstr_w 17 1 0 2 0 [⟨1, 0, 1, 0⟩] ⟨#[]⟩ (-8) [] [] (some ⟨n + 1, 0, none⟩) 1 1 none 0 0 none 0 0 _ wc HG.out (HIn.out wc z0.out) ins0_f t1 (by unfold big; decide)) ?_
  rintro e w1 hs
  obtain ⟨rfl, hb⟩ := says_lit HPP.out.1 hs
  have B1 := Lib.hid hb
  clear hb hs
  go_wp2_with fail
  refine Calls.mono (soperand_v 2 1 3 9 _ w1 (opF_one _ _ _ _ (by decide) (by decide) (by decide) (by decide)) t2 (by unfold big; decide)) ?_
  rintro e w2 hs
  obtain ⟨rfl, hb⟩ := says_lit HPP.out.2.1 hs
  have B2 := Lib.hid (B1.out.trans (hb.mono B1.out.size))
  clear hb hs
  obtain ⟨c0, c1, c2, c3⟩ := four_cells (HBX.out w2 B2.out).2.2.2.2
  go_wp2_with fail
  clear c0 c1 c2 c3
  refine Calls.mono (sblock_w ⟨#[97]⟩ false [] [ins0] none 0 0 (some ⟨n + 1 + 1 + 1, 0, none⟩) 1 1 (fun _ => ⟨some ⟨n + 1, 0, none⟩, 1, 1, none, 0, 0, none, 0, 0⟩) _ w2 (HG.out.below B2.out HG.out.1) (HBl.out w2 B2.out) blk0_f t3 (by unfold big; decide)) ?_
  rintro e w3 hs
  obtain ⟨rfl, hb⟩ := says_lit HPP.out.2.2.1 hs
  have B3 := Lib.hid (B2.out.trans (hb.mono B2.out.size))
  clear hb hs
  go_wp2_with fail
  refine Calls.mono (svreg_v 4 _ w3 ⟨by decide, by decide⟩ t4 (by unfold big; decide)) ?_
  rintro e w4 hs
  obtain ⟨rfl, hb⟩ := says_lit HPP.out.2.2.2.1 hs
  have B4 := Lib.hid (B3.out.trans (hb.mono B3.out.size))
  clear hb hs
  go_wp2_with fail
  refine Calls.mono (shead_w ⟨#[97, 46, 98]⟩ true [] [] none 0 0 none 0 0 (fun _ => ⟨none, 0, 0, none, 0, 0, none, 0, 0⟩) _ w4 ⟨IsOps.nil _ _, IsCode.nil _ _ _⟩ ⟨fun y hy => (by cases hy), fun y hy => (by cases hy)⟩ t5 (by unfold big; decide)) ?_
  rintro e w5 hs
  obtain ⟨rfl, hb⟩ := says_lit HPP.out.2.2.2.2.1 hs
  have B5 := Lib.hid (B4.out.trans (hb.mono B4.out.size))
  clear hb hs
  obtain ⟨k0, k1, k2, k3⟩ := four_cells (HBX.out w5 B5.out).1
  obtain ⟨c0, c1, c2, c3⟩ := four_cells (HBX.out w5 B5.out).2.2.2.2
  have B6 : Below wc.heap.size wc ((w5.alloc (.cells #[.int .i64 1, .int .i64 0, .int .i64 1, .int .i64 0] 31)).alloc (.cells #[.string ⟨#[97]⟩, .bool false, .slice none 0 0, .slice (some ⟨n + 1 + 1 + 1, 0, none⟩) 1 1] 38)) := (B5.out.alloc B5.out.size _).alloc (by have := B5.out.size; simp; omega) _
  have h5 := Tg.box_two w5 (.cells #[.int .i64 1, .int .i64 0, .int .i64 1, .int .i64 0] 31) (.cells #[.string ⟨#[97]⟩, .bool false, .slice none 0 0, .slice (some ⟨n + 1 + 1 + 1, 0, none⟩) 1 1] 38)
  have H6 := Lib.hid (And.intro B6 h5)
  obtain ⟨d0, d1, d2, d3⟩ := four_cells ((heap_alloc_old w5 (.cells #[.int .i64 1, .int .i64 0, .int .i64 1, .int .i64 0] 31) (Array.getElem?_eq_some_iff.1 (HBX.out w5 B5.out).2.2.2.2).1).trans (HBX.out w5 B5.out).2.2.2.2)
  clear B6 h5
  go_wp2_with fail
  clear c0 c1 c2 c3 d0 d1 d2 d3 k0 k1 k2 k3
  obtain ⟨w6, hw6⟩ : ∃ w6, (w5.alloc (.cells #[.int .i64 1, .int .i64 0, .int .i64 1, .int .i64 0] 31)).alloc (.cells #[.string ⟨#[97]⟩, .bool false, .slice none 0 0, .slice (some ⟨n + 1 + 1 + 1, 0, none⟩) 1 1] 38) = w6 := ⟨_, rfl⟩
  rw [hw6] at H6 ⊢
  refine Calls.mono (sfunc_w false ⟨#[102]⟩ [] [⟨1, 0, 1, 0⟩] [blk0] none 0 0 (some ⟨w5.heap.size, 0, none⟩) 1 1 (some ⟨w5.heap.size + 1, 0, none⟩) 1 1 (fun _ => ⟨none, 0, 0, some ⟨n + 1 + 1 + 1, 0, none⟩, 1, 1, fun _ => ⟨some ⟨n + 1, 0, none⟩, 1, 1, none, 0, 0, none, 0, 0⟩⟩) _ w6 (HG.out.below H6.out.1 HG.out.1) ⟨IsRegs.nil _ _, ops_one (x := ⟨1, 0, 1, 0⟩) H6.out.2.1, blks_one H6.out.2.2 (HBl.out w6 H6.out.1)⟩ fun0_f t6 (by unfold big; decide)) ?_
  rintro e w7 hs
  obtain ⟨rfl, hb⟩ := says_lit HPP.out.2.2.2.2.2 hs
  have B7 := Lib.hid (show Below wc.heap.size wc w7 from H6.out.1.trans (hb.mono H6.out.1.size))
  clear hb hs hw6
  go_wp2_with fail
  go_ret
  refine ⟨rfl, ?_⟩
  have h1 := HF.out.2.2.2.2.2
  have h2 := B7.out
  rw [← hn] at h1
  exact h1.trans (h2.mono h1.size)
end Go.Proofs.YtlfohbajeecdeaaDoor
