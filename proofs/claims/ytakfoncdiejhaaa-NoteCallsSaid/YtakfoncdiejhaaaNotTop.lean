
/- What the package's own calls answer. -/
import Derived.Test.YtakfoncdiejhaaaNotAllo
namespace Go.Proofs.Ytakfoncdiejhaaa.Nt
open Go.ChangeShapes Go.WideShapes Go.RowKit
set_option linter.unusedVariables false
set_option maxRecDepth 20000

theorem built_new (w : World) : Lib.IsBuilder 47 5 w.heap.size w.heap.size (Lib.byteCells []) (w.alloc (.cells #[.pointer none, .slice none 0 0] 47)) :=
  .inl ⟨Nat.le_refl _, .slice none 0 0, heap_alloc_new w _, World.ownsRow_nil _ _ _ _, by simp [Value.ownBlock]⟩
theorem wr_new (w : World) : Wr w w.heap.size [] (w.alloc (.cells #[.pointer none, .slice none 0 0] 47)) := ⟨built_new w, (Below.refl _ w).alloc (Nat.le_refl _) _⟩
/-- A text is answered, and what was there is as it was. -/
def Tells (t : List UInt8) (W : World) (e : Ending) (w' : World) : Prop := e = .returned (.string (ByteArray.mk t.toArray)) ∧ Below W.heap.size W w'
set_option maxHeartbeats 2000000 in
theorem target_t (r0 r1 : Int) (c0 c1 : List Int) (slots : Int) (a0 : Option Addr) (n0 p0 : Nat) (a1 : Option Addr) (n1 p1 : Nat) (t : List UInt8) (W : World) (h0 : IsInts W a0 n0 c0) (h1 : IsInts W a1 n1 c1) (f0 : Deci.fit r0) (f1 : Deci.fit r1) (f2 : Deci.fit slots) (g0 : ∀ n ∈ c0, Deci.fit n) (g1 : ∀ n ∈ c1, Deci.fit n) (s0 : n0 ≤ 1048576) (s1 : n1 ≤ 1048576) (ht : tgtT r0 r1 c0 c1 slots = t) (hlen : t.length ≤ big) : Calls Try.prog 7 #[.agg #[.int .i64 r0, .int .i64 r1, .slice a0 n0 p0, .slice a1 n1 p1, .int .i64 slots]] W (Tells t W) := by
  have hne : t ≠ [] := by rw [← ht]; unfold tgtT tgtT1; simp
  have HP := Lib.hid (And.intro (show [] ++ tgtT r0 r1 c0 c1 slots = t from ht) (And.intro hlen hne))
  have BA : Below W.heap.size W (W.alloc (.cells #[.int .i64 r0, .int .i64 r1, .slice a0 n0 p0, .slice a1 n1 p1, .int .i64 slots] 31)) := (Below.refl _ W).alloc (Nat.le_refl _) _
  have HX := Lib.hid (And.intro (h0.below BA) (And.intro (h1.below BA) (And.intro (f0) (And.intro (f1) (And.intro (f2) (And.intro (g0) (And.intro (g1) (And.intro (s0) (And.intro (s1) (trivial))))))))))
  have hal := heap_alloc_new W (.cells #[.int .i64 r0, .int .i64 r1, .slice a0 n0 p0, .slice a1 n1 p1, .int .i64 slots] 31)
  obtain ⟨wa, hwa⟩ : ∃ wa, W.alloc (.cells #[.int .i64 r0, .int .i64 r1, .slice a0 n0 p0, .slice a1 n1 p1, .int .i64 slots] 31) = wa := ⟨_, rfl⟩
  rw [hwa] at BA hal HX
  have H0 := Lib.hid (wr_new wa)
  have hal2 := kept_box hal ((Below.refl _ wa).alloc (Nat.le_refl _) (.cells #[.pointer none, .slice none 0 0] 47))
  obtain ⟨wb, hwb⟩ : ∃ wb, wa.alloc (.cells #[.pointer none, .slice none 0 0] 47) = wb := ⟨_, rfl⟩
  rw [hwb] at H0 hal2
  have HB := Lib.hid BA
  obtain ⟨k0, k1, k2, k3, k4⟩ := five_in hal2
  clear BA ht hlen hne h0 h1 f0 f1 f2 g0 g1 s0 s1
  go_enter Try.func7, Try.ntmps7
  go_wp2_with fail
  refine (target_v wa wa.heap.size [] t r0 r1 c0 c1 slots a0 n0 p0 a1 n1 p1 _ H0.out HX.out.1 HX.out.2.1 HX.out.2.2.1 HX.out.2.2.2.1 HX.out.2.2.2.2.1 HX.out.2.2.2.2.2.1 HX.out.2.2.2.2.2.2.1 HX.out.2.2.2.2.2.2.2.1 HX.out.2.2.2.2.2.2.2.2.1 HP.out.1 HP.out.2.1).mono ?_
  rintro e w1 ⟨rfl, h1⟩
  have H1 := Lib.hid h1
  clear h1
  go_wp2_with fail
  refine (string_v wa.heap.size wa.heap.size t _ H1.out.1.1 HP.out.2.2).mono ?_
  rintro e w2 ⟨rfl, hb⟩
  have H2 := Lib.hid (HB.out.trans ((H1.out.1.2.trans hb).mono HB.out.size))
  clear hb
  go_wp2_with fail
  go_ret
  exact ⟨rfl, H2.out⟩
set_option maxHeartbeats 2000000 in
theorem seg_t (v f g k c n : Int) (t : List UInt8) (W : World) (f1 : Deci.fit f) (f2 : Deci.fit g) (f3 : Deci.fit n) (ht : segT ⟨v, f, g, k, c, n⟩ = t) (hlen : t.length ≤ big) : Calls Try.prog 8 #[.agg #[.int .i64 v, .int .i64 f, .int .i64 g, .int .i64 k, .int .i64 c, .int .i64 n]] W (Tells t W) := by
  have hne : t ≠ [] := by rw [← ht]; unfold segT; simp
  have HP := Lib.hid (And.intro (show [] ++ segT ⟨v, f, g, k, c, n⟩ = t from ht) (And.intro hlen hne))
  have BA : Below W.heap.size W (W.alloc (.cells #[.int .i64 v, .int .i64 f, .int .i64 g, .int .i64 k, .int .i64 c, .int .i64 n] 35)) := (Below.refl _ W).alloc (Nat.le_refl _) _
  have HX := Lib.hid (And.intro (f1) (And.intro (f2) (And.intro (f3) (trivial))))
  have hal := heap_alloc_new W (.cells #[.int .i64 v, .int .i64 f, .int .i64 g, .int .i64 k, .int .i64 c, .int .i64 n] 35)
  obtain ⟨wa, hwa⟩ : ∃ wa, W.alloc (.cells #[.int .i64 v, .int .i64 f, .int .i64 g, .int .i64 k, .int .i64 c, .int .i64 n] 35) = wa := ⟨_, rfl⟩
  rw [hwa] at BA hal
  have H0 := Lib.hid (wr_new wa)
  have hal2 := kept_box hal ((Below.refl _ wa).alloc (Nat.le_refl _) (.cells #[.pointer none, .slice none 0 0] 47))
  obtain ⟨wb, hwb⟩ : ∃ wb, wa.alloc (.cells #[.pointer none, .slice none 0 0] 47) = wb := ⟨_, rfl⟩
  rw [hwb] at H0 hal2
  have HB := Lib.hid BA
  obtain ⟨k0, k1, k2, k3, k4, k5⟩ := six_in hal2
  clear BA ht hlen hne f1 f2 f3
  go_enter Try.func8, Try.ntmps8
  go_wp2_with fail
  refine (seg_v wa wa.heap.size [] t v f g k c n _ H0.out HX.out.1 HX.out.2.1 HX.out.2.2.1 HP.out.1 HP.out.2.1).mono ?_
  rintro e w1 ⟨rfl, h1⟩
  have H1 := Lib.hid h1
  clear h1
  go_wp2_with fail
  refine (string_v wa.heap.size wa.heap.size t _ H1.out.1.1 HP.out.2.2).mono ?_
  rintro e w2 ⟨rfl, hb⟩
  have H2 := Lib.hid (HB.out.trans ((H1.out.1.2.trans hb).mono HB.out.size))
  clear hb
  go_wp2_with fail
  go_ret
  exact ⟨rfl, H2.out⟩
set_option maxHeartbeats 2000000 in
theorem alloc_t (slots : Int) (segs : List Sg) (sa : Option Addr) (sn sc : Nat) (t : List UInt8) (W : World) (hl : IsSegs W sa sn segs) (hc : sn ≤ sc) (hfs : Deci.fit slots) (hf : ∀ s ∈ segs, Deci.fit s.v ∧ Deci.fit s.f ∧ Deci.fit s.t ∧ Deci.fit s.n) (ht : alloT slots segs = t) (hlen : t.length ≤ big) : Calls Try.prog 9 #[.agg #[.int .i64 slots, .slice sa sn sc]] W (Tells t W) := by
  have hne : t ≠ [] := by rw [← ht]; unfold alloT; simp
  have HP := Lib.hid (And.intro (show [] ++ alloT slots segs = t from ht) (And.intro hlen hne))
  have BA : Below W.heap.size W (W.alloc (.cells #[.int .i64 slots, .slice sa sn sc] 38)) := (Below.refl _ W).alloc (Nat.le_refl _) _
  have HX := Lib.hid (And.intro (hl.below BA) (And.intro (hc) (And.intro (hfs) (And.intro (hf) (trivial)))))
  have hal := heap_alloc_new W (.cells #[.int .i64 slots, .slice sa sn sc] 38)
  obtain ⟨wa, hwa⟩ : ∃ wa, W.alloc (.cells #[.int .i64 slots, .slice sa sn sc] 38) = wa := ⟨_, rfl⟩
  rw [hwa] at BA hal HX
  have H0 := Lib.hid (wr_new wa)
  have hal2 := kept_box hal ((Below.refl _ wa).alloc (Nat.le_refl _) (.cells #[.pointer none, .slice none 0 0] 47))
  obtain ⟨wb, hwb⟩ : ∃ wb, wa.alloc (.cells #[.pointer none, .slice none 0 0] 47) = wb := ⟨_, rfl⟩
  rw [hwb] at H0 hal2
  have HB := Lib.hid BA
  obtain ⟨k0, k1⟩ := two_in hal2
  clear BA ht hlen hne hl hc hfs hf
  go_enter Try.func9, Try.ntmps9
  go_wp2_with fail
  refine (alloc_v wa wa.heap.size [] t slots segs sa sn sc _ H0.out HX.out.1 HX.out.2.1 HX.out.2.2.1 HX.out.2.2.2.1 HP.out.1 HP.out.2.1).mono ?_
  rintro e w1 ⟨rfl, h1⟩
  have H1 := Lib.hid h1
  clear h1
  go_wp2_with fail
  refine (string_v wa.heap.size wa.heap.size t _ H1.out.1.1 HP.out.2.2).mono ?_
  rintro e w2 ⟨rfl, hb⟩
  have H2 := Lib.hid (HB.out.trans ((H1.out.1.2.trans hb).mono HB.out.size))
  clear hb
  go_wp2_with fail
  go_ret
  exact ⟨rfl, H2.out⟩
set_option maxHeartbeats 2000000 in
theorem call_t (nm : ByteArray) (A : Option Addr) (n c : Nat) (args : List Int) (t : List UInt8) (W : World) (hl : IsInts W A n args) (hf : ∀ x ∈ args, Deci.fit x) (ht : calT nm args = t) (hlen : t.length ≤ big) : Calls Try.prog 5 #[.agg #[.string nm, .slice A n c]] W (Tells t W) := by
  have hne : t ≠ [] := by rw [← ht]; unfold calT; simp
  have HP := Lib.hid (And.intro (show [] ++ calT nm args = t from ht) (And.intro hlen hne))
  have BA : Below W.heap.size W (W.alloc (.cells #[.string nm, .slice A n c] 24)) := (Below.refl _ W).alloc (Nat.le_refl _) _
  have HX := Lib.hid (And.intro (hl.below BA) (And.intro (hf) (trivial)))
  have hal := heap_alloc_new W (.cells #[.string nm, .slice A n c] 24)
  obtain ⟨wa, hwa⟩ : ∃ wa, W.alloc (.cells #[.string nm, .slice A n c] 24) = wa := ⟨_, rfl⟩
  rw [hwa] at BA hal HX
  have H0 := Lib.hid (wr_new wa)
  have hal2 := kept_box hal ((Below.refl _ wa).alloc (Nat.le_refl _) (.cells #[.pointer none, .slice none 0 0] 47))
  obtain ⟨wb, hwb⟩ : ∃ wb, wa.alloc (.cells #[.pointer none, .slice none 0 0] 47) = wb := ⟨_, rfl⟩
  rw [hwb] at H0 hal2
  have HB := Lib.hid BA
  obtain ⟨k0, k1⟩ := two_in hal2
  clear BA ht hlen hne hl hf
  go_enter Try.func5, Try.ntmps5
  go_wp2_with fail
  refine (call_v wa wa.heap.size [] t nm A n c args _ H0.out HX.out.1 HX.out.2.1 HP.out.1 HP.out.2.1).mono ?_
  rintro e w1 ⟨rfl, h1⟩
  have H1 := Lib.hid h1
  clear h1
  go_wp2_with fail
  refine (string_v wa.heap.size wa.heap.size t _ H1.out.1.1 HP.out.2.2).mono ?_
  rintro e w2 ⟨rfl, hb⟩
  have H2 := Lib.hid (HB.out.trans ((H1.out.1.2.trans hb).mono HB.out.size))
  clear hb
  go_wp2_with fail
  go_ret
  exact ⟨rfl, H2.out⟩
end Go.Proofs.Ytakfoncdiejhaaa.Nt
