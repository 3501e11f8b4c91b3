
/- What a machine has of something, a place, a segment, written. -/
import Derived.Test.YtakfoncdiejhaaaNotWr
import Derived.Test.YtakfoncdiejhaaaNotMath
import Derived.Test.YtakfoncdiejhaaaTg
namespace Go.Proofs.Ytakfoncdiejhaaa.Nt
open Go.ChangeShapes Go.WideShapes Go.RowKit
set_option linter.unusedVariables false
set_option maxRecDepth 20000

theorem Wr.to {w0 W : World} {b : Nat} {l t : List UInt8} (h : Wr w0 b l W) (e : l = t) : Wr w0 b t W := e ▸ h
theorem Wrote.to {w0 W w' : World} {b : Nat} {l t : List UInt8} (h : Wrote w0 b l W w') (e : l = t) : Wrote w0 b t W w' := e ▸ h
theorem Wrote.box {w0 W w' : World} {b : Nat} {t : List UInt8} (h : Wrote w0 b t W w') {k : Nat} {cs : Array Value} {T : TypeId} (hk : W.heap[k]? = some (.cells cs T (0, 0))) (h1 : T ≠ 47) (h2 : T ≠ 5) : w'.heap[k]? = some (.cells cs T (0, 0)) := h.2 k cs T h1 h2 hk
theorem three_in {W : World} {Q : Nat} {a0 a1 a2 : Value} {t : TypeId} (h : W.heap[Q]? = some (.cells #[a0, a1, a2] t (0, 0))) : W.cell? ⟨Q, 0, none⟩ = some a0 ∧ W.cell? ⟨Q, 1, none⟩ = some a1 ∧ W.cell? ⟨Q, 2, none⟩ = some a2 := ⟨cell_in h 0, cell_in h 1, cell_in h 2⟩
theorem six_in {W : World} {Q : Nat} {a0 a1 a2 a3 a4 a5 : Value} {t : TypeId} (h : W.heap[Q]? = some (.cells #[a0, a1, a2, a3, a4, a5] t (0, 0))) : W.cell? ⟨Q, 0, none⟩ = some a0 ∧ W.cell? ⟨Q, 1, none⟩ = some a1 ∧ W.cell? ⟨Q, 2, none⟩ = some a2 ∧ W.cell? ⟨Q, 3, none⟩ = some a3 ∧ W.cell? ⟨Q, 4, none⟩ = some a4 ∧ W.cell? ⟨Q, 5, none⟩ = some a5 := ⟨cell_in h 0, cell_in h 1, cell_in h 2, cell_in h 3, cell_in h 4, cell_in h 5⟩
set_option maxHeartbeats 1000000 in
theorem has_v (w0 : World) (b : Nat) (l t : List UInt8) (s : ByteArray) (n : Int) (W : World) (h : Wr w0 b l W) (hf : Deci.fit n) (ht : l ++ (32 :: (s.data.toList ++ (32 :: Deci.txt n))) = t) (hlen : t.length ≤ big) :
    Calls Try.prog 21 #[.pointer (some ⟨b, 0, none⟩), .string s, .int .i64 n] W fun e w' => e = .returned (.tuple #[]) ∧ Wrote w0 b t W w' := by
  obtain ⟨T1, hT1⟩ : ∃ T, l ++ [32] = T := ⟨_, rfl⟩
  obtain ⟨T2, hT2⟩ : ∃ T, T1 ++ s.data.toList = T := ⟨_, rfl⟩
  obtain ⟨T3, hT3⟩ : ∃ T, T2 ++ [32] = T := ⟨_, rfl⟩
  have t4 : T3 ++ Deci.txt n = t := by rw [← ht, ← hT3, ← hT2, ← hT1]; simp
  have l1 := congrArg List.length hT1
  have l2 := congrArg List.length hT2
  have l3 := congrArg List.length hT3
  have l4 := congrArg List.length t4
  simp only [List.length_append] at l1 l2 l3 l4
  have HP := Lib.hid (And.intro h (And.intro hf (And.intro hT1 (And.intro hT2 (And.intro hT3 (And.intro t4 (And.intro (show T1.length ≤ big by omega) (And.intro (show T2.length ≤ big by omega) (And.intro (show T3.length ≤ big by omega) hlen)))))))))
  clear h hf ht hlen hT1 hT2 hT3 t4 l1 l2 l3 l4
  go_enter Try.func21, Try.ntmps21
  go_wp2_with fail
  refine (write_b w0 b l T1 32 32 _ HP.out.1 rfl HP.out.2.2.1 HP.out.2.2.2.2.2.2.1).mono ?_
  rintro e w1 ⟨rfl, h1⟩
  have H1 := Lib.hid h1
  clear h1
  go_wp2_with fail
  refine (write_s w0 b T1 T2 s _ H1.out.1 HP.out.2.2.2.1 HP.out.2.2.2.2.2.2.2.1).mono ?_
  rintro e w2 ⟨rfl, h2⟩
  have H2 := Lib.hid (H1.out.next h2)
  clear h2
  go_wp2_with fail
  refine (write_b w0 b T2 T3 32 32 _ H2.out.1 rfl HP.out.2.2.2.2.1 HP.out.2.2.2.2.2.2.2.2.1).mono ?_
  rintro e w3 ⟨rfl, h3⟩
  have H3 := Lib.hid (H2.out.next h3)
  clear h3
  go_wp2_with fail
  refine (number_v w0 b T3 t n _ H3.out.1 HP.out.2.1 HP.out.2.2.2.2.2.1 HP.out.2.2.2.2.2.2.2.2.2).mono ?_
  rintro e w4 ⟨rfl, h4⟩
  have H4 := Lib.hid (H3.out.next h4)
  clear h4
  go_wp2_with fail
  go_end0
  exact ⟨rfl, H4.out⟩
set_option maxHeartbeats 1000000 in
theorem place_v (w0 : World) (b : Nat) (l t : List UInt8) (k c n : Int) (W : World) (h : Wr w0 b l W) (hf : Deci.fit n) (ht : l ++ Tg.nameOf k c n = t) (hlen : t.length ≤ big) :
    Calls Try.prog 25 #[.pointer (some ⟨b, 0, none⟩), .agg #[.int .i64 k, .int .i64 c, .int .i64 n]] W fun e w' => e = .returned (.tuple #[]) ∧ Wrote w0 b t W w' := by
  have HA := Lib.hid (And.intro (h.alloc (.cells #[.int .i64 k, .int .i64 c, .int .i64 n] 33)) (And.intro ((Below.refl _ W).alloc (Nat.le_refl _) (.cells #[.int .i64 k, .int .i64 c, .int .i64 n] 33)) (heap_alloc_new W (.cells #[.int .i64 k, .int .i64 c, .int .i64 n] 33))))
  obtain ⟨k0, k1, k2⟩ := three_in HA.out.2.2
  obtain ⟨x, hx⟩ : ∃ x, Tg.nameOf k c n = x := ⟨_, rfl⟩
  rw [hx] at ht
  have HP := Lib.hid (And.intro hf (And.intro hx (And.intro (show l ++ (ByteArray.mk x.toArray).data.toList = t from ht) hlen)))
  clear h ht hlen hf hx
  obtain ⟨wa, hwa⟩ : ∃ wa, W.alloc (.cells #[.int .i64 k, .int .i64 c, .int .i64 n] 33) = wa := ⟨_, rfl⟩
  rw [hwa] at HA k0 k1 k2
  go_enter Try.func25, Try.ntmps25
  go_wp2_with fail
  clear hwa
  go_region_held3 (fun w' => w'.cell? ⟨W.heap.size, 0, none⟩ = some (.int .i64 k) ∧ w'.cell? ⟨W.heap.size, 1, none⟩ = some (.int .i64 c) ∧ w'.cell? ⟨W.heap.size, 2, none⟩ = some (.int .i64 n))
    (first | exact S2.out | exact S1.out | exact ⟨k0, k1, k2⟩)
    (first
      | (go_at_call 16; (refine (write_s w0 b l t _ w1 H1.out.1 HP.out.2.2.1 HP.out.2.2.2).mono ?_); rintro e w2 ⟨rfl, h2⟩; have H2 := Lib.hid h2; have S2 := Lib.hid (three_in (h2.box H1.out.2.2 (by decide) (by decide))); clear h2)
      | (go_at_call 31; (refine (Tg.name_v k c n HP.out.1 (ByteArray.mk x.toArray) (by rw [HP.out.2.1]) wa.drew).mono ?_); rintro e w1 ⟨rfl, hb⟩; have H1 := Lib.hid (And.intro (HA.out.1.drew.below hb) (And.intro (Keeps.drew.trans (Keeps.below hb)) (kept_box (w := wa.drew) HA.out.2.2 hb))); have S1 := Lib.hid (three_in (kept_box (w := wa.drew) HA.out.2.2 hb)); clear hb))
  go_wp2_with fail
  go_end0
  exact ⟨rfl, H2.out.1, ((Keeps.below HA.out.2.1).trans H1.out.2.1).trans H2.out.2⟩
set_option maxHeartbeats 1000000 in
theorem seg_v (w0 : World) (b : Nat) (l t : List UInt8) (v f g k c n : Int) (W : World) (h : Wr w0 b l W) (f1 : Deci.fit f) (f2 : Deci.fit g) (f3 : Deci.fit n) (ht : l ++ segT ⟨v, f, g, k, c, n⟩ = t) (hlen : t.length ≤ big) :
    Calls Try.prog 14 #[.pointer (some ⟨b, 0, none⟩), .agg #[.int .i64 v, .int .i64 f, .int .i64 g, .int .i64 k, .int .i64 c, .int .i64 n]] W fun e w' => e = .returned (.tuple #[]) ∧ Wrote w0 b t W w' := by
  have HA := Lib.hid (And.intro (h.alloc (.cells #[.int .i64 v, .int .i64 f, .int .i64 g, .int .i64 k, .int .i64 c, .int .i64 n] 35)) (And.intro ((Below.refl _ W).alloc (Nat.le_refl _) (.cells #[.int .i64 v, .int .i64 f, .int .i64 g, .int .i64 k, .int .i64 c, .int .i64 n] 35)) (heap_alloc_new W (.cells #[.int .i64 v, .int .i64 f, .int .i64 g, .int .i64 k, .int .i64 c, .int .i64 n] 35))))
  obtain ⟨T1, hT1⟩ : ∃ T, l ++ Deci.txt f = T := ⟨_, rfl⟩
  obtain ⟨T2, hT2⟩ : ∃ T, T1 ++ (ByteArray.mk #[46, 46]).data.toList = T := ⟨_, rfl⟩
  obtain ⟨T3, hT3⟩ : ∃ T, T2 ++ Deci.txt g = T := ⟨_, rfl⟩
  obtain ⟨T4, hT4⟩ : ∃ T, T3 ++ [32] = T := ⟨_, rfl⟩
  have t5 : T4 ++ Tg.nameOf k c n = t := by rw [← ht, ← hT4, ← hT3, ← hT2, ← hT1]; simp [segT]
  have l2 := congrArg List.length hT2
  have l3 := congrArg List.length hT3
  have l4 := congrArg List.length hT4
  have l5 := congrArg List.length t5
  simp only [List.length_append] at l2 l3 l4 l5
  have HT := Lib.hid (And.intro hT1 (And.intro hT2 (And.intro hT3 (And.intro hT4 (And.intro t5 (And.intro (show T1.length ≤ big by omega) (And.intro (show T2.length ≤ big by omega) (And.intro (show T3.length ≤ big by omega) (And.intro (show T4.length ≤ big by omega) hlen)))))))))
  have HF := Lib.hid (And.intro f1 (And.intro f2 f3))
  clear h ht hlen f1 f2 f3 hT1 hT2 hT3 hT4 t5 l2 l3 l4 l5
  obtain ⟨wa, hwa⟩ : ∃ wa, W.alloc (.cells #[.int .i64 v, .int .i64 f, .int .i64 g, .int .i64 k, .int .i64 c, .int .i64 n] 35) = wa := ⟨_, rfl⟩
  rw [hwa] at HA
  obtain ⟨k0, k1, k2, k3, k4, k5⟩ := six_in HA.out.2.2
  go_enter Try.func14, Try.ntmps14
  go_wp2_with fail
  clear k0 k1 k2 k3 k4 k5 hwa
  refine (number_v w0 b l T1 f _ HA.out.1 HF.out.1 HT.out.1 HT.out.2.2.2.2.2.1).mono ?_
  rintro e w1 ⟨rfl, h1⟩
  have H1 := Lib.hid h1
  clear h1
  go_wp2_with fail
  refine (write_s w0 b T1 T2 _ _ H1.out.1 HT.out.2.1 HT.out.2.2.2.2.2.2.1).mono ?_
  rintro e w2 ⟨rfl, h2⟩
  have H2 := Lib.hid (H1.out.next h2)
  clear h2
  obtain ⟨k0, k1, k2, k3, k4, k5⟩ := six_in (H2.out.box HA.out.2.2 (by decide) (by decide))
  go_wp2_with fail
  clear k0 k1 k2 k3 k4 k5
  refine (number_v w0 b T2 T3 g _ H2.out.1 HF.out.2.1 HT.out.2.2.1 HT.out.2.2.2.2.2.2.2.1).mono ?_
  rintro e w3 ⟨rfl, h3⟩
  have H3 := Lib.hid (H2.out.next h3)
  clear h3
  go_wp2_with fail
  refine (write_b w0 b T3 T4 32 32 _ H3.out.1 rfl HT.out.2.2.2.1 HT.out.2.2.2.2.2.2.2.2.1).mono ?_
  rintro e w4 ⟨rfl, h4⟩
  have H4 := Lib.hid (H3.out.next h4)
  clear h4
  obtain ⟨k0, k1, k2, k3, k4, k5⟩ := six_in (H4.out.box HA.out.2.2 (by decide) (by decide))
  go_wp2_with fail
  clear k0 k1 k2 k3 k4 k5
  refine (place_v w0 b T4 t k c n _ H4.out.1 HF.out.2.2 HT.out.2.2.2.2.1 HT.out.2.2.2.2.2.2.2.2.2).mono ?_
  rintro e w5 ⟨rfl, h5⟩
  have H5 := Lib.hid (H4.out.next h5)
  clear h5
  go_wp2_with fail
  go_end0
  exact ⟨rfl, H5.out.1, (Keeps.below HA.out.2.1).trans H5.out.2⟩
end Go.Proofs.Ytakfoncdiejhaaa.Nt
