
/- What is told first is true. -/
import Derived.Test.YtakfoncdiejhaaaNotTop
namespace Go.Proofs.Ytakfoncdiejhaaa.Nt
open Go.ChangeShapes Go.WideShapes Go.RowKit
set_option linter.unusedVariables false
set_option maxRecDepth 20000

theorem six_allocs (W : World) (a0 a1 a2 a3 a4 a5 : Obj) (n : Nat) (hn : W.heap.size = n) (z : World) (hz : ((((((W.alloc a0).alloc a1).alloc a2).alloc a3).alloc a4).alloc a5) = z) :
    z.heap[n]? = some a0 ∧ z.heap[n + 1]? = some a1 ∧ z.heap[n + 1 + 1]? = some a2 ∧ z.heap[n + 1 + 1 + 1]? = some a3 ∧ z.heap[n + 1 + 1 + 1 + 1]? = some a4 ∧ z.heap[n + 1 + 1 + 1 + 1 + 1]? = some a5 ∧ Below n W z := by
  subst hn
  subst hz
  have g : ∀ (w : World) (o : Obj) (k : Nat) (x : Obj), w.heap[k]? = some x → (w.alloc o).heap[k]? = some x := fun w o k x h => (heap_alloc_old w o (Array.getElem?_eq_some_iff.1 h).1).trans h
  have s1 : (W.alloc a0).heap.size = W.heap.size + 1 := by simp
  have s2 : ((W.alloc a0).alloc a1).heap.size = W.heap.size + 1 + 1 := by simp
  have s3 : (((W.alloc a0).alloc a1).alloc a2).heap.size = W.heap.size + 1 + 1 + 1 := by simp
  have s4 : ((((W.alloc a0).alloc a1).alloc a2).alloc a3).heap.size = W.heap.size + 1 + 1 + 1 + 1 := by simp
  have s5 : (((((W.alloc a0).alloc a1).alloc a2).alloc a3).alloc a4).heap.size = W.heap.size + 1 + 1 + 1 + 1 + 1 := by simp
  refine ⟨g _ _ _ _ (g _ _ _ _ (g _ _ _ _ (g _ _ _ _ (g _ _ _ _ (heap_alloc_new W a0))))), ?_, ?_, ?_, ?_, ?_, ?_⟩
  · have h := heap_alloc_new (W.alloc a0) a1; rw [s1] at h; exact g _ _ _ _ (g _ _ _ _ (g _ _ _ _ (g _ _ _ _ h)))
  · have h := heap_alloc_new ((W.alloc a0).alloc a1) a2; rw [s2] at h; exact g _ _ _ _ (g _ _ _ _ (g _ _ _ _ h))
  · have h := heap_alloc_new (((W.alloc a0).alloc a1).alloc a2) a3; rw [s3] at h; exact g _ _ _ _ (g _ _ _ _ h)
  · have h := heap_alloc_new ((((W.alloc a0).alloc a1).alloc a2).alloc a3) a4; rw [s4] at h; exact g _ _ _ _ h
  · have h := heap_alloc_new (((((W.alloc a0).alloc a1).alloc a2).alloc a3).alloc a4) a5; rw [s5] at h; exact h
  · exact ((((((Below.refl _ W).alloc (Nat.le_refl _) _).alloc (by simp) _).alloc (by simp; omega) _).alloc (by simp; omega) _).alloc (by simp; omega) _).alloc (by simp; omega) _
theorem ints_at {w : World} {g : Nat} {l : List Int} {t : TypeId} (h : w.heap[g]? = some (.cells (l.map (Value.int .i64)).toArray t (0, 0))) (hn : l.length ≤ 9223372036854775807) : IsInts w (some ⟨g, 0, none⟩) l.length l := by
  refine ⟨rfl, hn, .inr ⟨g, 0, rfl, (Array.getElem?_eq_some_iff.1 h).1, fun k hk => ?_⟩⟩
  rw [cell_in h]
  simp [hk]
theorem segs_two {w : World} {g : Nat} {a b : Sg} {t : TypeId} (h : w.heap[g]? = some (.cells (a.cs ++ b.cs).toArray t (0, 0))) : IsSegs w (some ⟨g, 0, none⟩) 2 [a, b] := by
  refine ⟨rfl, by omega, .inr ⟨g, 0, rfl, (Array.getElem?_eq_some_iff.1 h).1, fun k hk => ?_⟩⟩
  have hk2 : k < 2 := hk
  rcases (by omega : k = 0 ∨ k = 1) with rfl | rfl
  · exact ⟨cell_in h 0, cell_in h 1, cell_in h 2, cell_in h 3, cell_in h 4, cell_in h 5⟩
  · exact ⟨cell_in h 6, cell_in h 7, cell_in h 8, cell_in h 9, cell_in h 10, cell_in h 11⟩
theorem fit_lit (n : Int) (h1 : -9223372036854775808 ≤ n) (h2 : n ≤ 9223372036854775807) : Deci.fit n := ⟨h1, h2⟩
theorem tells_lit {t : List UInt8} {P : ByteArray} {W : World} {e : Ending} {w' : World} (hP : ByteArray.mk t.toArray = P) (h : Tells t W e w') : e = .returned (.string P) ∧ Below W.heap.size W w' := by rw [← hP]; exact h
theorem lit_eq (t : List UInt8) (P : ByteArray) (hP : ByteArray.mk t.toArray = P) : (P.toList == (ByteArray.mk t.toArray).toList) = true := by rw [hP]; simp
theorem lit_eq2 (t : List UInt8) (P : ByteArray) (hP : ByteArray.mk t.toArray = P) : (P.toList == t) = true := by rw [← hP, ByteArray.toList_eq]; simp
theorem t1 : tgtT 8 4 [1] [0] 64 = (116 :: 97 :: 114 :: 103 :: 101 :: 116 :: 32 :: 103 :: 32 :: 56 :: 32 :: 120 :: 32 :: 52 :: 32 :: 115 :: 108 :: 111 :: 116 :: 115 :: 32 :: 54 :: 52 :: 32 :: 99 :: 108 :: 111 :: 98 :: 98 :: 101 :: 114 :: 32 :: 36 :: 103 :: 49 :: 32 :: 36 :: 120 :: 48 :: 59 :: 10 :: [] : List UInt8) := by decide +kernel
theorem t2 : segT ⟨2, 0, 4, 2, 0, 1⟩ = (48 :: 46 :: 46 :: 52 :: 32 :: 36 :: 103 :: 49 :: [] : List UInt8) := by decide +kernel
theorem t3 : alloT 1 [⟨2, 0, 4, 2, 0, 1⟩, ⟨2, 4, 9, 3, 0, 0⟩] = (97 :: 108 :: 108 :: 111 :: 99 :: 32 :: 115 :: 108 :: 111 :: 116 :: 115 :: 32 :: 49 :: 32 :: 123 :: 10 :: 32 :: 32 :: 37 :: 50 :: 58 :: 32 :: 48 :: 46 :: 46 :: 52 :: 32 :: 36 :: 103 :: 49 :: 44 :: 32 :: 52 :: 46 :: 46 :: 57 :: 32 :: 35 :: 48 :: 59 :: 10 :: 125 :: 10 :: [] : List UInt8) := by decide +kernel
theorem t4 : calT ⟨#[102]⟩ [1, -2] = (102 :: 40 :: 49 :: 44 :: 32 :: 45 :: 50 :: 41 :: [] : List UInt8) := by decide +kernel
set_option maxHeartbeats 4000000 in
theorem works_v (W : World) : Calls Try.prog 4 #[] W fun e w' => e = .returned (.bool true) ∧ Below W.heap.size W w' := by
  obtain ⟨Q1, hQ1⟩ : ∃ Q : ByteArray, ByteArray.mk ((116 :: 97 :: 114 :: 103 :: 101 :: 116 :: 32 :: 103 :: 32 :: 56 :: 32 :: 120 :: 32 :: 52 :: 32 :: 115 :: 108 :: 111 :: 116 :: 115 :: 32 :: 54 :: 52 :: 32 :: 99 :: 108 :: 111 :: 98 :: 98 :: 101 :: 114 :: 32 :: 36 :: 103 :: 49 :: 32 :: 36 :: 120 :: 48 :: 59 :: 10 :: [] : List UInt8)).toArray = Q := ⟨_, rfl⟩
  have q1 : (Q1.toList == (⟨List.toArray (116 :: 97 :: 114 :: 103 :: 101 :: 116 :: 32 :: 103 :: 32 :: 56 :: 32 :: 120 :: 32 :: 52 :: 32 :: 115 :: 108 :: 111 :: 116 :: 115 :: 32 :: 54 :: 52 :: 32 :: 99 :: 108 :: 111 :: 98 :: 98 :: 101 :: 114 :: 32 :: 36 :: 103 :: 49 :: 32 :: 36 :: 120 :: 48 :: 59 :: 10 :: [] : List UInt8)⟩ : ByteArray).toList) = true := lit_eq (116 :: 97 :: 114 :: 103 :: 101 :: 116 :: 32 :: 103 :: 32 :: 56 :: 32 :: 120 :: 32 :: 52 :: 32 :: 115 :: 108 :: 111 :: 116 :: 115 :: 32 :: 54 :: 52 :: 32 :: 99 :: 108 :: 111 :: 98 :: 98 :: 101 :: 114 :: 32 :: 36 :: 103 :: 49 :: 32 :: 36 :: 120 :: 48 :: 59 :: 10 :: [] : List UInt8) Q1 hQ1
  have r1 : (Q1.toList == (116 :: 97 :: 114 :: 103 :: 101 :: 116 :: 32 :: 103 :: 32 :: 56 :: 32 :: 120 :: 32 :: 52 :: 32 :: 115 :: 108 :: 111 :: 116 :: 115 :: 32 :: 54 :: 52 :: 32 :: 99 :: 108 :: 111 :: 98 :: 98 :: 101 :: 114 :: 32 :: 36 :: 103 :: 49 :: 32 :: 36 :: 120 :: 48 :: 59 :: 10 :: [] : List UInt8)) = true := lit_eq2 (116 :: 97 :: 114 :: 103 :: 101 :: 116 :: 32 :: 103 :: 32 :: 56 :: 32 :: 120 :: 32 :: 52 :: 32 :: 115 :: 108 :: 111 :: 116 :: 115 :: 32 :: 54 :: 52 :: 32 :: 99 :: 108 :: 111 :: 98 :: 98 :: 101 :: 114 :: 32 :: 36 :: 103 :: 49 :: 32 :: 36 :: 120 :: 48 :: 59 :: 10 :: [] : List UInt8) Q1 hQ1
  have HQ1 := Lib.hid hQ1
  clear hQ1
  obtain ⟨Q2, hQ2⟩ : ∃ Q : ByteArray, ByteArray.mk ((48 :: 46 :: 46 :: 52 :: 32 :: 36 :: 103 :: 49 :: [] : List UInt8)).toArray = Q := ⟨_, rfl⟩
  have q2 : (Q2.toList == (⟨List.toArray (48 :: 46 :: 46 :: 52 :: 32 :: 36 :: 103 :: 49 :: [] : List UInt8)⟩ : ByteArray).toList) = true := lit_eq (48 :: 46 :: 46 :: 52 :: 32 :: 36 :: 103 :: 49 :: [] : List UInt8) Q2 hQ2
  have r2 : (Q2.toList == (48 :: 46 :: 46 :: 52 :: 32 :: 36 :: 103 :: 49 :: [] : List UInt8)) = true := lit_eq2 (48 :: 46 :: 46 :: 52 :: 32 :: 36 :: 103 :: 49 :: [] : List UInt8) Q2 hQ2
  have HQ2 := Lib.hid hQ2
  clear hQ2
  obtain ⟨Q3, hQ3⟩ : ∃ Q : ByteArray, ByteArray.mk ((97 :: 108 :: 108 :: 111 :: 99 :: 32 :: 115 :: 108 :: 111 :: 116 :: 115 :: 32 :: 49 :: 32 :: 123 :: 10 :: 32 :: 32 :: 37 :: 50 :: 58 :: 32 :: 48 :: 46 :: 46 :: 52 :: 32 :: 36 :: 103 :: 49 :: 44 :: 32 :: 52 :: 46 :: 46 :: 57 :: 32 :: 35 :: 48 :: 59 :: 10 :: 125 :: 10 :: [] : List UInt8)).toArray = Q := ⟨_, rfl⟩
  have q3 : (Q3.toList == (⟨List.toArray (97 :: 108 :: 108 :: 111 :: 99 :: 32 :: 115 :: 108 :: 111 :: 116 :: 115 :: 32 :: 49 :: 32 :: 123 :: 10 :: 32 :: 32 :: 37 :: 50 :: 58 :: 32 :: 48 :: 46 :: 46 :: 52 :: 32 :: 36 :: 103 :: 49 :: 44 :: 32 :: 52 :: 46 :: 46 :: 57 :: 32 :: 35 :: 48 :: 59 :: 10 :: 125 :: 10 :: [] : List UInt8)⟩ : ByteArray).toList) = true := lit_eq (97 :: 108 :: 108 :: 111 :: 99 :: 32 :: 115 :: 108 :: 111 :: 116 :: 115 :: 32 :: 49 :: 32 :: 123 :: 10 :: 32 :: 32 :: 37 :: 50 :: 58 :: 32 :: 48 :: 46 :: 46 :: 52 :: 32 :: 36 :: 103 :: 49 :: 44 :: 32 :: 52 :: 46 :: 46 :: 57 :: 32 :: 35 :: 48 :: 59 :: 10 :: 125 :: 10 :: [] : List UInt8) Q3 hQ3
  have r3 : (Q3.toList == (97 :: 108 :: 108 :: 111 :: 99 :: 32 :: 115 :: 108 :: 111 :: 116 :: 115 :: 32 :: 49 :: 32 :: 123 :: 10 :: 32 :: 32 :: 37 :: 50 :: 58 :: 32 :: 48 :: 46 :: 46 :: 52 :: 32 :: 36 :: 103 :: 49 :: 44 :: 32 :: 52 :: 46 :: 46 :: 57 :: 32 :: 35 :: 48 :: 59 :: 10 :: 125 :: 10 :: [] : List UInt8)) = true := lit_eq2 (97 :: 108 :: 108 :: 111 :: 99 :: 32 :: 115 :: 108 :: 111 :: 116 :: 115 :: 32 :: 49 :: 32 :: 123 :: 10 :: 32 :: 32 :: 37 :: 50 :: 58 :: 32 :: 48 :: 46 :: 46 :: 52 :: 32 :: 36 :: 103 :: 49 :: 44 :: 32 :: 52 :: 46 :: 46 :: 57 :: 32 :: 35 :: 48 :: 59 :: 10 :: 125 :: 10 :: [] : List UInt8) Q3 hQ3
  have HQ3 := Lib.hid hQ3
  clear hQ3
  obtain ⟨Q4, hQ4⟩ : ∃ Q : ByteArray, ByteArray.mk ((102 :: 40 :: 49 :: 44 :: 32 :: 45 :: 50 :: 41 :: [] : List UInt8)).toArray = Q := ⟨_, rfl⟩
  have q4 : (Q4.toList == (⟨List.toArray (102 :: 40 :: 49 :: 44 :: 32 :: 45 :: 50 :: 41 :: [] : List UInt8)⟩ : ByteArray).toList) = true := lit_eq (102 :: 40 :: 49 :: 44 :: 32 :: 45 :: 50 :: 41 :: [] : List UInt8) Q4 hQ4
  have r4 : (Q4.toList == (102 :: 40 :: 49 :: 44 :: 32 :: 45 :: 50 :: 41 :: [] : List UInt8)) = true := lit_eq2 (102 :: 40 :: 49 :: 44 :: 32 :: 45 :: 50 :: 41 :: [] : List UInt8) Q4 hQ4
  have HQ4 := Lib.hid hQ4
  clear hQ4
  obtain ⟨P, hP⟩ : ∃ P, W.heap.size = P := ⟨_, rfl⟩
  obtain ⟨wz, hz⟩ : ∃ z, ((((((W.alloc (.cells #[.int .i64 1] 3)).alloc (.cells #[.int .i64 0] 3)).alloc (.cells #[.int .i64 8, .int .i64 4, .slice (some ⟨P, 0, none⟩) 1 1, .slice (some ⟨P + 1, 0, none⟩) 1 1, .int .i64 64] 31)).alloc (.cells #[.int .i64 2, .int .i64 0, .int .i64 4, .int .i64 2, .int .i64 0, .int .i64 1] 35)).alloc (.cells #[.int .i64 2, .int .i64 0, .int .i64 4, .int .i64 2, .int .i64 0, .int .i64 1, .int .i64 2, .int .i64 4, .int .i64 9, .int .i64 3, .int .i64 0, .int .i64 0] 35)).alloc (.cells #[.int .i64 1, .slice (some ⟨P + 1 + 1 + 1 + 1, 0, none⟩) 2 2] 38)) = z := ⟨_, rfl⟩
  have HZ := Lib.hid (six_allocs W (.cells #[.int .i64 1] 3) (.cells #[.int .i64 0] 3) (.cells #[.int .i64 8, .int .i64 4, .slice (some ⟨P, 0, none⟩) 1 1, .slice (some ⟨P + 1, 0, none⟩) 1 1, .int .i64 64] 31) (.cells #[.int .i64 2, .int .i64 0, .int .i64 4, .int .i64 2, .int .i64 0, .int .i64 1] 35) (.cells #[.int .i64 2, .int .i64 0, .int .i64 4, .int .i64 2, .int .i64 0, .int .i64 1, .int .i64 2, .int .i64 4, .int .i64 9, .int .i64 3, .int .i64 0, .int .i64 0] 35) (.cells #[.int .i64 1, .slice (some ⟨P + 1 + 1 + 1 + 1, 0, none⟩) 2 2] 38) P hP wz hz)
  have HPP := Lib.hid hP
  obtain ⟨k0, k1, k2, k3, k4⟩ := five_in HZ.out.2.2.1
  go_enter Try.func4, Try.ntmps4
  go_wp2_with fail
  clear hz k0 k1 k2 k3 k4
  refine (target_t 8 4 [1] [0] 64 (some ⟨P, 0, none⟩) 1 1 (some ⟨P + 1, 0, none⟩) 1 1 _ wz (ints_at (l := [1]) HZ.out.1 (by decide)) (ints_at (l := [0]) HZ.out.2.1 (by decide)) (fit_lit _ (by decide) (by decide)) (fit_lit _ (by decide) (by decide)) (fit_lit _ (by decide) (by decide)) (fun n hn => (by rw [List.mem_singleton] at hn; subst hn; exact fit_lit _ (by decide) (by decide))) (fun n hn => (by rw [List.mem_singleton] at hn; subst hn; exact fit_lit _ (by decide) (by decide))) (by omega) (by omega) t1 (by decide)).mono ?_
  intro e w1 hS
  obtain ⟨rfl, hb⟩ := tells_lit HQ1.out hS
  have B1 := Lib.hid hb
  clear hb hS
  obtain ⟨k0, k1, k2, k3, k4, k5⟩ := six_in (kept_box HZ.out.2.2.2.1 B1.out)
  go_wp2_with fail
  clear k0 k1 k2 k3 k4 k5 q1 r1
  refine (seg_t 2 0 4 2 0 1 _ w1 (fit_lit _ (by decide) (by decide)) (fit_lit _ (by decide) (by decide)) (fit_lit _ (by decide) (by decide)) t2 (by decide)).mono ?_
  intro e w2 hS
  obtain ⟨rfl, hb⟩ := tells_lit HQ2.out hS
  have B2 := Lib.hid (B1.out.trans (hb.mono B1.out.size))
  clear hb hS
  obtain ⟨k0, k1⟩ := two_in (kept_box HZ.out.2.2.2.2.2.1 B2.out)
  go_wp2_with fail
  clear k0 k1 q2 r2
  refine (alloc_t 1 [⟨2, 0, 4, 2, 0, 1⟩, ⟨2, 4, 9, 3, 0, 0⟩] (some ⟨P + 1 + 1 + 1 + 1, 0, none⟩) 2 2 _ w2 ((segs_two (a := ⟨2, 0, 4, 2, 0, 1⟩) (b := ⟨2, 4, 9, 3, 0, 0⟩) HZ.out.2.2.2.2.1).below B2.out) (by omega) (fit_lit _ (by decide) (by decide)) (fun s hs => (by
    rcases List.mem_cons.1 hs with rfl | hs
    · exact ⟨fit_lit _ (by decide) (by decide), fit_lit _ (by decide) (by decide), fit_lit _ (by decide) (by decide), fit_lit _ (by decide) (by decide)⟩
    · rw [List.mem_singleton] at hs; subst hs
      exact ⟨fit_lit _ (by decide) (by decide), fit_lit _ (by decide) (by decide), fit_lit _ (by decide) (by decide), fit_lit _ (by decide) (by decide)⟩)) t3 (by decide)).mono ?_
  intro e w3 hS
  obtain ⟨rfl, hb⟩ := tells_lit HQ3.out hS
  have B3 := Lib.hid (B2.out.trans (hb.mono B2.out.size))
  clear hb hS
  have hal := heap_alloc_new w3 (.cells #[.int .i64 1, .int .i64 (-2)] 3)
  have HI4 := Lib.hid (ints_at (l := [1, -2]) hal (by decide))
  have HB4 := Lib.hid (B3.out.trans (Below.mono ((Below.refl _ w3).alloc (Nat.le_refl _) (.cells #[.int .i64 1, .int .i64 (-2)] 3)) B3.out.size))
  clear hal
  go_wp2_with fail
  clear q3 r3
  refine (call_t ⟨#[102]⟩ (some ⟨w3.heap.size, 0, none⟩) 2 2 [1, -2] _ _ HI4.out (fun x hx => (by
    rcases List.mem_cons.1 hx with rfl | hx
    · exact fit_lit _ (by decide) (by decide)
    · rw [List.mem_singleton] at hx; subst hx; exact fit_lit _ (by decide) (by decide))) t4 (by decide)).mono ?_
  intro e w4 hS
  obtain ⟨rfl, hb⟩ := tells_lit HQ4.out hS
  have B4 := Lib.hid (HB4.out.trans (hb.mono HB4.out.size))
  clear hb hS
  go_wp2_with fail
  go_ret
  refine ⟨rfl, ?_⟩
  have hPz : P ≤ wz.heap.size := by rw [← HPP.out]; have := HZ.out.2.2.2.2.2.2.size; omega
  rw [HPP.out]
  exact HZ.out.2.2.2.2.2.2.trans (B4.out.mono hPz)
end Go.Proofs.Ytakfoncdiejhaaa.Nt
