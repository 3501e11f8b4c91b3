
/- A unit, written; what the package's own call on units answers. -/
import Derived.Test.YtakfoncdiejhaaaDoorNotTop
import Derived.Test.YtakfoncdiejhaaaDoorNotRefU
namespace Go.Proofs.YtakfoncdiejhaaaDoor.Nt
open Go.ChangeShapes Go.WideShapes Go.RowKit
set_option linter.unusedVariables false
set_option maxRecDepth 20000

theorem thirteen_in {W : World} {Q : Nat} {a0 a1 a2 a3 a4 a5 a6 a7 a8 a9 a10 a11 a12 : Value} {t : TypeId} (h : W.heap[Q]? = some (.cells #[a0, a1, a2, a3, a4, a5, a6, a7, a8, a9, a10, a11, a12] t (0, 0))) : W.cell? ⟨Q, 0, none⟩ = some a0 ∧ W.cell? ⟨Q, 1, none⟩ = some a1 ∧ W.cell? ⟨Q, 2, none⟩ = some a2 ∧ W.cell? ⟨Q, 3, none⟩ = some a3 ∧ W.cell? ⟨Q, 4, none⟩ = some a4 ∧ W.cell? ⟨Q, 5, none⟩ = some a5 ∧ W.cell? ⟨Q, 6, none⟩ = some a6 ∧ W.cell? ⟨Q, 7, none⟩ = some a7 ∧ W.cell? ⟨Q, 8, none⟩ = some a8 ∧ W.cell? ⟨Q, 9, none⟩ = some a9 ∧ W.cell? ⟨Q, 10, none⟩ = some a10 ∧ W.cell? ⟨Q, 11, none⟩ = some a11 ∧ W.cell? ⟨Q, 12, none⟩ = some a12 := ⟨cell_in h 0, cell_in h 1, cell_in h 2, cell_in h 3, cell_in h 4, cell_in h 5, cell_in h 6, cell_in h 7, cell_in h 8, cell_in h 9, cell_in h 10, cell_in h 11, cell_in h 12⟩
set_option maxHeartbeats 4000000 in
theorem unit_v (w0 : World) (b : Nat) (l t : List UInt8) (r0 r1 : Int) (c0 c1 : List Int) (slots : Int) (a0 : Option Addr) (n0 p0 : Nat) (a1 : Option Addr) (n1 p1 : Nat) (fm : Bool) (fname : ByteArray) (regs : List Rg) (params : List Opn) (blocks : List Blk) (ra : Option Addr) (rn rc : Nat) (pa : Option Addr) (pn pc : Nat) (ba : Option Addr) (bn bc : Nat) (R : Nat → BlkV) (has : Bool) (asl : Int) (segs : List Sg) (sa : Option Addr) (sn sc : Nat) (W : World) (h : Wr w0 b l W) (hG : Opr.Glob w0) (h0 : IsInts w0 a0 n0 c0) (h1 : IsInts w0 a1 n1 c1) (hI : IsFun w0 ⟨fm, fname, regs, params, blocks⟩ ⟨ra, rn, rc, pa, pn, pc, ba, bn, bc, R⟩) (hs : IsSegs w0 sa sn segs)
    (f0 : Deci.fit r0) (f1 : Deci.fit r1) (f2 : Deci.fit slots) (f3 : Deci.fit asl) (g0 : ∀ n ∈ c0, Deci.fit n) (g1 : ∀ n ∈ c1, Deci.fit n) (g2 : ∀ s ∈ segs, Deci.fit s.v ∧ Deci.fit s.f ∧ Deci.fit s.t ∧ Deci.fit s.n) (hF : FunF ⟨fm, fname, regs, params, blocks⟩) (s0 : n0 ≤ 1048576) (s1 : n1 ≤ 1048576) (s2 : sn ≤ sc)
    (ht : l ++ untT (tgtT r0 r1 c0 c1 slots) (funT ⟨fm, fname, regs, params, blocks⟩) has (alloT asl segs) = t) (hlen : t.length ≤ big) :
    Calls Tryd.prog 16 #[.pointer (some ⟨b, 0, none⟩), .agg #[.int .i64 r0, .int .i64 r1, .slice a0 n0 p0, .slice a1 n1 p1, .int .i64 slots, .bool fm, .string fname, .slice ra rn rc, .slice pa pn pc, .slice ba bn bc, .bool has, .int .i64 asl, .slice sa sn sc]] W fun e w' => e = .returned (.tuple #[]) ∧ Wrote w0 b t W w' := by
  have HA := Lib.hid (And.intro (h.alloc (.cells #[.int .i64 r0, .int .i64 r1, .slice a0 n0 p0, .slice a1 n1 p1, .int .i64 slots, .bool fm, .string fname, .slice ra rn rc, .slice pa pn pc, .slice ba bn bc, .bool has, .int .i64 asl, .slice sa sn sc] 36)) (And.intro ((Below.refl _ W).alloc (Nat.le_refl _) (.cells #[.int .i64 r0, .int .i64 r1, .slice a0 n0 p0, .slice a1 n1 p1, .int .i64 slots, .bool fm, .string fname, .slice ra rn rc, .slice pa pn pc, .slice ba bn bc, .bool has, .int .i64 asl, .slice sa sn sc] 36)) (heap_alloc_new W (.cells #[.int .i64 r0, .int .i64 r1, .slice a0 n0 p0, .slice a1 n1 p1, .int .i64 slots, .bool fm, .string fname, .slice ra rn rc, .slice pa pn pc, .slice ba bn bc, .bool has, .int .i64 asl, .slice sa sn sc] 36))))
  obtain ⟨fu, hfu⟩ : ∃ fu, funT ⟨fm, fname, regs, params, blocks⟩ = fu := ⟨_, rfl⟩
  rw [hfu] at ht
  obtain ⟨T1, hT1⟩ : ∃ T, l ++ tgtT r0 r1 c0 c1 slots = T := ⟨_, rfl⟩
  obtain ⟨T2, hT2⟩ : ∃ T, T1 ++ (ByteArray.mk fu.toArray).data.toList = T := ⟨_, rfl⟩
  have t3 : T2 ++ (if has then alloT asl segs else []) = t := by rw [← ht, ← hT2, ← hT1]; simp [untT]
  have l1 := congrArg List.length hT1
  have l2 := congrArg List.length hT2
  have l3 := congrArg List.length t3
  rw [List.length_append] at l1 l2 l3
  have lf : (ByteArray.mk fu.toArray).data.toList.length = fu.length := by simp
  have HT := Lib.hid (And.intro hT1 (And.intro hT2 (And.intro t3 (And.intro (show T1.length ≤ big by omega) (And.intro (show T2.length ≤ big by omega) (And.intro (show fu.length ≤ big by omega) (And.intro hlen hfu)))))))
  have HI := Lib.hid (And.intro h0 (And.intro h1 (And.intro hI (And.intro hs hG))))
  have HF := Lib.hid (And.intro f0 (And.intro f1 (And.intro f2 (And.intro f3 (And.intro g0 (And.intro g1 (And.intro g2 (And.intro hF (And.intro s0 (And.intro s1 s2))))))))))
  clear h h0 h1 hI hs hG f0 f1 f2 f3 g0 g1 g2 hF s0 s1 s2 ht hlen hfu hT1 hT2 t3 l1 l2 l3 lf
  obtain ⟨wa, hwa⟩ : ∃ wa, W.alloc (.cells #[.int .i64 r0, .int .i64 r1, .slice a0 n0 p0, .slice a1 n1 p1, .int .i64 slots, .bool fm, .string fname, .slice ra rn rc, .slice pa pn pc, .slice ba bn bc, .bool has, .int .i64 asl, .slice sa sn sc] 36) = wa := ⟨_, rfl⟩
  rw [hwa] at HA
  obtain ⟨P, hP⟩ : ∃ P, W.heap.size = P := ⟨_, rfl⟩
  have HB := Lib.hid (show wa.heap[P]? = some (.cells #[.int .i64 r0, .int .i64 r1, .slice a0 n0 p0, .slice a1 n1 p1, .int .i64 slots, .bool fm, .string fname, .slice ra rn rc, .slice pa pn pc, .slice ba bn bc, .bool has, .int .i64 asl, .slice sa sn sc] 36 (0, 0)) from by rw [← hP]; exact HA.out.2.2)
  have HPP := Lib.hid hP
  clear hP
  obtain ⟨k0, k1, k2, k3, k4, k5, k6, k7, k8, k9, k10, k11, k12⟩ := thirteen_in HA.out.2.2
  go_enter Tryd.func16, Tryd.ntmps16
  go_wp2_with fail
  clear hwa k0 k1 k2 k3 k4 k5 k6 k7 k8 k9 k10 k11 k12
  rw [HPP.out]
  refine (target_v w0 b l T1 r0 r1 c0 c1 slots a0 n0 p0 a1 n1 p1 _ HA.out.1 HI.out.1 HI.out.2.1 HF.out.1 HF.out.2.1 HF.out.2.2.1 HF.out.2.2.2.2.1 HF.out.2.2.2.2.2.1 HF.out.2.2.2.2.2.2.2.2.1 HF.out.2.2.2.2.2.2.2.2.2.1 HT.out.1 HT.out.2.2.2.1).mono ?_
  rintro e w1 ⟨rfl, h1⟩
  have H1 := Lib.hid h1
  clear h1
  obtain ⟨k0, k1, k2, k3, k4, k5, k6, k7, k8, k9, k10, k11, k12⟩ := thirteen_in (H1.out.box HB.out (by decide) (by decide))
  go_wp2_with fail
  go_region_held3 (fun w' => w'.cell? ⟨P, 5, none⟩ = some (.bool fm) ∧ w'.cell? ⟨P, 6, none⟩ = some (.string fname) ∧ w'.cell? ⟨P, 7, none⟩ = some (.slice ra rn rc) ∧ w'.cell? ⟨P, 8, none⟩ = some (.slice pa pn pc) ∧ w'.cell? ⟨P, 9, none⟩ = some (.slice ba bn bc))
    (first | exact S3.out | exact S2.out | exact ⟨k5, k6, k7, k8, k9⟩)
    (first
      | (go_at_call 28; (refine (write_s w0 b T1 T2 _ w2 H2.out.1 HT.out.2.1 HT.out.2.2.2.2.1).mono ?_); rintro e w3 ⟨rfl, h3⟩; have H3 := Lib.hid (show Wrote w0 b T2 wa w3 from ⟨h3.1, (H1.out.2.trans H2.out.2).trans h3.2⟩); have t13 := thirteen_in (H3.out.box HB.out (by decide) (by decide)); have S3 := Lib.hid (show w3.cell? ⟨P, 5, none⟩ = some (.bool fm) ∧ w3.cell? ⟨P, 6, none⟩ = some (.string fname) ∧ w3.cell? ⟨P, 7, none⟩ = some (.slice ra rn rc) ∧ w3.cell? ⟨P, 8, none⟩ = some (.slice pa pn pc) ∧ w3.cell? ⟨P, 9, none⟩ = some (.slice ba bn bc) from ⟨t13.2.2.2.2.2.1, t13.2.2.2.2.2.2.1, t13.2.2.2.2.2.2.2.1, t13.2.2.2.2.2.2.2.2.1, t13.2.2.2.2.2.2.2.2.2.1⟩); clear h3 t13)
      | (go_at_call 29; (refine (sfunc_w fm fname regs params blocks ra rn rc pa pn pc ba bn bc R fu w1.drew (HI.out.2.2.2.2.below H1.out.1.drew.2 HI.out.2.2.2.2.1) (HI.out.2.2.1.below H1.out.1.drew.2) HF.out.2.2.2.2.2.2.2.1 HT.out.2.2.2.2.2.2.2 HT.out.2.2.2.2.2.1).mono ?_); rintro e w2 ⟨rfl, hb⟩; have H2 := Lib.hid (And.intro (H1.out.1.drew.below hb) (Keeps.drew.trans (Keeps.below hb))); have t13 := thirteen_in (Keeps.trans H1.out.2 (Keeps.drew.trans (Keeps.below hb)) P _ _ (by decide) (by decide) HB.out); have S2 := Lib.hid (show w2.cell? ⟨P, 5, none⟩ = some (.bool fm) ∧ w2.cell? ⟨P, 6, none⟩ = some (.string fname) ∧ w2.cell? ⟨P, 7, none⟩ = some (.slice ra rn rc) ∧ w2.cell? ⟨P, 8, none⟩ = some (.slice pa pn pc) ∧ w2.cell? ⟨P, 9, none⟩ = some (.slice ba bn bc) from ⟨t13.2.2.2.2.2.1, t13.2.2.2.2.2.2.1, t13.2.2.2.2.2.2.2.1, t13.2.2.2.2.2.2.2.2.1, t13.2.2.2.2.2.2.2.2.2.1⟩); clear hb t13))
  clear k0 k1 k2 k3 k4 k5 k6 k7 k8 k9 k10 k11 k12 S2 S3
  obtain ⟨k0, k1, k2, k3, k4, k5, k6, k7, k8, k9, k10, k11, k12⟩ := thirteen_in (H3.out.box HB.out (by decide) (by decide))
  cases has with
  | true =>
    go_wp2_with fail
    clear k0 k1 k2 k3 k4 k5 k6 k7 k8 k9 k10 k11 k12
    refine (alloc_v w0 b T2 t asl segs sa sn sc _ H3.out.1 HI.out.2.2.2.1 HF.out.2.2.2.2.2.2.2.2.2.2 HF.out.2.2.2.1 HF.out.2.2.2.2.2.2.1 (by have := HT.out.2.2.1; simpa using this) HT.out.2.2.2.2.2.2.1).mono ?_
    rintro e w4 ⟨rfl, h4⟩
    have H4 := Lib.hid (H3.out.next h4)
    clear h4
    go_wp2_with fail
    go_end0
    exact ⟨rfl, H4.out.1, (Keeps.below HA.out.2.1).trans H4.out.2⟩
  | false =>
    go_wp2_with fail
    go_end0
    refine ⟨rfl, (H3.out.to ?_).1, (Keeps.below HA.out.2.1).trans H3.out.2⟩
    have := HT.out.2.2.1
    simpa using this
set_option maxHeartbeats 2000000 in
theorem unit_t (r0 r1 : Int) (c0 c1 : List Int) (slots : Int) (a0 : Option Addr) (n0 p0 : Nat) (a1 : Option Addr) (n1 p1 : Nat) (fm : Bool) (fname : ByteArray) (regs : List Rg) (params : List Opn) (blocks : List Blk) (ra : Option Addr) (rn rc : Nat) (pa : Option Addr) (pn pc : Nat) (ba : Option Addr) (bn bc : Nat) (R : Nat → BlkV) (has : Bool) (asl : Int) (segs : List Sg) (sa : Option Addr) (sn sc : Nat) (t : List UInt8) (W : World) (hG : Opr.Glob W) (h0 : IsInts W a0 n0 c0) (h1 : IsInts W a1 n1 c1) (hI : IsFun W ⟨fm, fname, regs, params, blocks⟩ ⟨ra, rn, rc, pa, pn, pc, ba, bn, bc, R⟩) (hs : IsSegs W sa sn segs)
    (f0 : Deci.fit r0) (f1 : Deci.fit r1) (f2 : Deci.fit slots) (f3 : Deci.fit asl) (g0 : ∀ n ∈ c0, Deci.fit n) (g1 : ∀ n ∈ c1, Deci.fit n) (g2 : ∀ s ∈ segs, Deci.fit s.v ∧ Deci.fit s.f ∧ Deci.fit s.t ∧ Deci.fit s.n) (hF : FunF ⟨fm, fname, regs, params, blocks⟩) (s0 : n0 ≤ 1048576) (s1 : n1 ≤ 1048576) (s2 : sn ≤ sc)
    (ht : untT (tgtT r0 r1 c0 c1 slots) (funT ⟨fm, fname, regs, params, blocks⟩) has (alloT asl segs) = t) (hlen : t.length ≤ big) :
    Calls Tryd.prog 7 #[.agg #[.int .i64 r0, .int .i64 r1, .slice a0 n0 p0, .slice a1 n1 p1, .int .i64 slots, .bool fm, .string fname, .slice ra rn rc, .slice pa pn pc, .slice ba bn bc, .bool has, .int .i64 asl, .slice sa sn sc]] W (Tells t W) := by
  have hne : t ≠ [] := by rw [← ht]; unfold untT tgtT tgtT1; simp
  have HP := Lib.hid (And.intro (show [] ++ untT (tgtT r0 r1 c0 c1 slots) (funT ⟨fm, fname, regs, params, blocks⟩) has (alloT asl segs) = t from ht) (And.intro hlen hne))
  have BA : Below W.heap.size W (W.alloc (.cells #[.int .i64 r0, .int .i64 r1, .slice a0 n0 p0, .slice a1 n1 p1, .int .i64 slots, .bool fm, .string fname, .slice ra rn rc, .slice pa pn pc, .slice ba bn bc, .bool has, .int .i64 asl, .slice sa sn sc] 36)) := (Below.refl _ W).alloc (Nat.le_refl _) _
  have HX := Lib.hid (And.intro (hG.below BA hG.1) (And.intro (h0.below BA) (And.intro (h1.below BA) (And.intro (hI.below BA) (hs.below BA)))))
  have HF := Lib.hid (And.intro f0 (And.intro f1 (And.intro f2 (And.intro f3 (And.intro g0 (And.intro g1 (And.intro g2 (And.intro hF (And.intro s0 (And.intro s1 s2))))))))))
  have hal := heap_alloc_new W (.cells #[.int .i64 r0, .int .i64 r1, .slice a0 n0 p0, .slice a1 n1 p1, .int .i64 slots, .bool fm, .string fname, .slice ra rn rc, .slice pa pn pc, .slice ba bn bc, .bool has, .int .i64 asl, .slice sa sn sc] 36)
  obtain ⟨wa, hwa⟩ : ∃ wa, W.alloc (.cells #[.int .i64 r0, .int .i64 r1, .slice a0 n0 p0, .slice a1 n1 p1, .int .i64 slots, .bool fm, .string fname, .slice ra rn rc, .slice pa pn pc, .slice ba bn bc, .bool has, .int .i64 asl, .slice sa sn sc] 36) = wa := ⟨_, rfl⟩
  rw [hwa] at BA hal HX
  have H0 := Lib.hid (wr_new wa)
  have hal2 := kept_box hal ((Below.refl _ wa).alloc (Nat.le_refl _) (.cells #[.pointer none, .slice none 0 0] 66))
  obtain ⟨wb, hwb⟩ : ∃ wb, wa.alloc (.cells #[.pointer none, .slice none 0 0] 66) = wb := ⟨_, rfl⟩
  rw [hwb] at H0 hal2
  have HB := Lib.hid BA
  obtain ⟨k0, k1, k2, k3, k4, k5, k6, k7, k8, k9, k10, k11, k12⟩ := thirteen_in hal2
  clear BA ht hlen hne hG h0 h1 hI hs f0 f1 f2 f3 g0 g1 g2 hF s0 s1 s2
  go_enter Tryd.func7, Tryd.ntmps7
  go_wp2_with fail
  refine (unit_v wa wa.heap.size [] t r0 r1 c0 c1 slots a0 n0 p0 a1 n1 p1 fm fname regs params blocks ra rn rc pa pn pc ba bn bc R has asl segs sa sn sc _ H0.out HX.out.1 HX.out.2.1 HX.out.2.2.1 HX.out.2.2.2.1 HX.out.2.2.2.2 HF.out.1 HF.out.2.1 HF.out.2.2.1 HF.out.2.2.2.1 HF.out.2.2.2.2.1 HF.out.2.2.2.2.2.1 HF.out.2.2.2.2.2.2.1 HF.out.2.2.2.2.2.2.2.1 HF.out.2.2.2.2.2.2.2.2.1 HF.out.2.2.2.2.2.2.2.2.2.1 HF.out.2.2.2.2.2.2.2.2.2.2 HP.out.1 HP.out.2.1).mono ?_
  rintro e w1 ⟨rfl, h1⟩
  have H1 := Lib.hid h1
  clear h1
  go_wp2_with fail
  refine (string_v wa.heap.size wa.heap.size t _ H1.out.1.1 HP.out.2.2).mono ?_
  rintro e w2 ⟨rfl, hb⟩
  have H2 := Lib.hid (HB.out.trans ((H1.out.1.2.trans hb).mono HB.out.size))
  clear hb
  go_wp2_with fail
  go_ret
  exact ⟨rfl, H2.out⟩
end Go.Proofs.YtakfoncdiejhaaaDoor.Nt
