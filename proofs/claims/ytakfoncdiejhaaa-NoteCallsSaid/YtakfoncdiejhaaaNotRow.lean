
/- How many segments are alike; a row of segments, an allocation, written. -/
import Derived.Test.YtakfoncdiejhaaaNotRowM
import Derived.Test.YtakfoncdiejhaaaNotLeaf
import Derived.Test.YtakfoncdiejhaaaShoTop
namespace Go.Proofs.Ytakfoncdiejhaaa.Nt
open Go.ChangeShapes Go.WideShapes Go.RowKit
set_option linter.unusedVariables false
set_option maxRecDepth 20000

theorem below_box {w w' : World} (h : Below w.heap.size w w') (o : Obj) : Below w.heap.size w (w'.alloc o) := h.alloc h.size o
set_option maxHeartbeats 1000000 in
theorem alike_v (A : Option Addr) (n c : Nat) (l : List Sg) (v : Int) (w : World) (h : IsSegs w A n l) (h0 : 0 < n) (hv : ∀ x, l[0]? = some x → x.v = v) :
    Calls Try.prog 26 #[.slice A n c] w fun e w' => (∃ m, e = .returned (.int .i64 ((m : Nat) : Int)) ∧ Alk l m v) ∧ Below w.heap.size w w' := by
  have hn := h.2.1
  have HP := Lib.hid (And.intro h (And.intro h0 hv))
  clear h hv
  go_enter Try.func26, Try.ntmps26
  go_wp2_with fail
  go_loopg [7] n (fun gk u wr => ∃ k : Nat, k + gk = n ∧ u = .int .i64 (k : Int) ∧ Hid (Below w.heap.size w wr ∧ ∀ (j : Nat) (x : Sg), j < k → l[j]? = some x → x.v = v))
  case atStart => exact ⟨0, by omega, rfl, Below.refl _ _, fun j x hj => by omega⟩
  case round =>
    obtain ⟨k, hk, rfl, HH⟩ := hrel
    by_cases hlt : k < n
    · obtain ⟨b, o, hA, hb, x, hx, c0, c1, c2, c3, c4, c5⟩ := (HP.out.1.below HH.out.1).at hlt
      obtain ⟨b', o', hA', hb', y, hy, d0, _⟩ := (HP.out.1.below HH.out.1).at h0
      rw [hA] at hA'
      injection hA' with hA'
      injection hA' with e1 e2
      subst e1; subst e2
      have i1 : (k : Int) < (n : Int) := by omega
      have i0 : (0 : Int) < (n : Int) := by omega
      have hyv : y.v = v := HP.out.2.2 y hy
      rw [hyv, Nat.zero_mul, Nat.add_zero] at d0
      obtain ⟨xv, xf, xt, xk, xc, xn⟩ := x
      dsimp only at c0 c1 c2 c3 c4 c5
      have HX := Lib.hid hx
      have BA := below_box HH.out.1 (.cells #[.int .i64 xv, .int .i64 xf, .int .i64 xt, .int .i64 xk, .int .i64 xc, .int .i64 xn] 35)
      have hal := heap_alloc_new wr (.cells #[.int .i64 xv, .int .i64 xf, .int .i64 xt, .int .i64 xk, .int .i64 xc, .int .i64 xn] 35)
      have hd : (wr.alloc (.cells #[.int .i64 xv, .int .i64 xf, .int .i64 xt, .int .i64 xk, .int .i64 xc, .int .i64 xn] 35)).cell? ⟨b, o, none⟩ = some (.int .i64 v) := ((Below.refl _ wr).alloc (Nat.le_refl _) _).cell hb |>.trans d0
      subst hA
      obtain ⟨wB, hwB⟩ : ∃ wB, wr.alloc (.cells #[.int .i64 xv, .int .i64 xf, .int .i64 xt, .int .i64 xk, .int .i64 xc, .int .i64 xn] 35) = wB := ⟨_, rfl⟩
      rw [hwB] at BA hal hd
      have HB := Lib.hid BA
      obtain ⟨k0, k1, k2, k3, k4, k5⟩ := six_in hal
      clear BA hal hx hy hyv hb hb'
      by_cases hq : xv = v
      · subst hq
        have E : (xv == xv) = true := by simp
        have RR : Hid (∀ (j : Nat) (x : Sg), j < k + 1 → l[j]? = some x → x.v = xv) := Lib.hid (fun j x hj h2 => by
          rcases Nat.lt_or_ge j k with h4 | h4
          · exact HH.out.2 j x h4 h2
          · obtain rfl : j = k := by omega
            rw [HX.out] at h2; injection h2 with h2; rw [← h2])
        go_wp2_with fail
        clear hwB c0 c1 c2 c3 c4 c5 d0
        go_quiet (fail)
        go_wp2_with fail
        go_roundg (gk - 1)
        case measure => omega
        case rel => exact ⟨k + 1, by omega, by go_num, Below.drewQ HB.out _, RR.out⟩
      · have E : (xv == v) = false := by simp [hq]
        have hk0 : 0 < k := by
          rcases Nat.eq_zero_or_pos k with e | e
          · subst e; exact absurd (HP.out.2.2 _ HX.out) hq
          · exact e
        have RR : Hid (Alk l k v) := Lib.hid ⟨hk0, by have := HP.out.1.1; omega, HH.out.2, fun x hx => by rw [HX.out] at hx; injection hx with hx; rw [← hx]; exact hq⟩
        go_wp2_with fail
        clear hwB c0 c1 c2 c3 c4 c5 d0
        go_quiet (fail)
        go_wp2_with fail
        go_ret
        exact ⟨⟨k, rfl, RR.out⟩, Below.drewQ HB.out _⟩
    · obtain rfl : k = n := by omega
      have hge : ¬ (k : Int) < (k : Int) := by omega
      have RR : Hid (Alk l k v) := Lib.hid ⟨h0, by have := HP.out.1.1; omega, HH.out.2, fun x hx => by
        have := (List.getElem?_eq_some_iff.1 hx).1; have := HP.out.1.1; omega⟩
      go_wp2_with fail
      go_ret
      exact ⟨⟨k, rfl, RR.out⟩, HH.out.1⟩
set_option maxHeartbeats 2000000 in
theorem row_v (w0 : World) (b : Nat) (l t : List UInt8) (A : Option Addr) (n c : Nat) (list : List Sg) (v : Int) (W : World) (h : Wr w0 b l W) (hl : IsSegs w0 A n list) (h0 : 0 < n) (hv : ∀ x, list[0]? = some x → x.v = v) (hfv : Deci.fit v)
    (hf : ∀ s ∈ list, Deci.fit s.f ∧ Deci.fit s.t ∧ Deci.fit s.n) (ht : l ++ rowsT list v = t) (hlen : t.length ≤ big) :
    Calls Try.prog 27 #[.pointer (some ⟨b, 0, none⟩), .slice A n c] W fun e w' => e = .returned (.tuple #[]) ∧ Wrote w0 b t W w' := by
  obtain ⟨L, hL⟩ : ∃ L, list.map segT = L := ⟨_, rfl⟩
  obtain ⟨T1, hT1⟩ : ∃ T, l ++ (ByteArray.mk #[32, 32]).data.toList = T := ⟨_, rfl⟩
  obtain ⟨x, hx⟩ : ∃ x, vregT v = x := ⟨_, rfl⟩
  obtain ⟨T2, hT2⟩ : ∃ T, T1 ++ (ByteArray.mk x.toArray).data.toList = T := ⟨_, rfl⟩
  obtain ⟨T3, hT3⟩ : ∃ T, T2 ++ (ByteArray.mk #[58, 32]).data.toList = T := ⟨_, rfl⟩
  have t4 : (T3 ++ rowT L) ++ [59, 10] = t := by rw [← ht, ← hT3, ← hT2, ← hT1, ← hx, ← hL]; simp [rowsT, vregT]
  have l1 := congrArg List.length hT1
  have l2 := congrArg List.length hT2
  have l3 := congrArg List.length hT3
  have l4 := congrArg List.length t4
  simp only [List.length_append] at l1 l2 l3 l4
  have hn := hl.2.1
  have hln := hl.1
  have hLn : L.length = n := by rw [← hL, List.length_map]; exact hln
  have hLx : ∀ (k : Nat) (x : Sg), list[k]? = some x → L[k]? = some (segT x) := fun k x hx => by rw [← hL, List.getElem?_map, hx]; rfl
  have hTl : ∀ k, (T3 ++ rowT (L.take k)).length ≤ big := fun k => by
    have h1 := rowT_le L k
    rw [List.length_append]
    omega
  have hxl : x.length ≤ big := by
    have : (ByteArray.mk x.toArray).data.toList.length = x.length := by simp
    omega
  have HT := Lib.hid (And.intro hT1 (And.intro hT2 (And.intro hT3 (And.intro t4 (And.intro (show T1.length ≤ big by omega) (And.intro (show T2.length ≤ big by omega) (And.intro (show T3.length ≤ big by omega) hlen)))))))
  have HP := Lib.hid (And.intro h (And.intro hl (And.intro hf (And.intro hLn (And.intro hLx (And.intro hTl (And.intro hfv (And.intro hx hxl))))))))
  obtain ⟨g, o, hA, hb, y, hy, d0, _⟩ := hl.at h0
  have hyv := hv y hy
  rw [hyv, Nat.zero_mul, Nat.add_zero] at d0
  subst hA
  have HD := Lib.hid (And.intro hb d0)
  have i0 : (0 : Int) < (n : Int) := by omega
  clear h hl hf ht hlen hL hln hLn hLx hTl hfv hx hxl hT1 hT2 hT3 t4 l1 l2 l3 l4 hy hyv hv hb d0
  go_enter Try.func27, Try.ntmps27
  go_wp2_with fail
  refine (write_s w0 b l T1 _ _ HP.out.1 HT.out.1 HT.out.2.2.2.2.1).mono ?_
  rintro e w1 ⟨rfl, h1⟩
  have H1 := Lib.hid h1
  have k0 : w1.cell? ⟨g, o, none⟩ = some (.int .i64 v) := (h1.1.2.cell HD.out.1).trans HD.out.2
  clear h1
  go_wp2_with fail
  go_region_held3 (fun w' => w'.cell? ⟨g, o, none⟩ = some (.int .i64 v))
    (first | exact S3.out | exact S2.out | exact k0)
    (first
      | (go_at_call 16; (refine (write_s w0 b T1 T2 _ w2 H2.out.1 HT.out.2.1 HT.out.2.2.2.2.2.1).mono ?_); rintro e w3 ⟨rfl, h3⟩; have H3 := Lib.hid ((H1.out.2.trans H2.out.2).trans h3.2); have W3 := Lib.hid h3.1; have S3 := Lib.hid ((h3.1.2.cell HD.out.1).trans HD.out.2); clear h3)
      | (go_at_call 32; (refine (svreg_v v x w1.drew HP.out.2.2.2.2.2.2.1 HP.out.2.2.2.2.2.2.2.1 HP.out.2.2.2.2.2.2.2.2).mono ?_); rintro e w2 ⟨rfl, hb⟩; have H2 := Lib.hid (And.intro (H1.out.1.drew.below hb) (Keeps.drew.trans (Keeps.below hb))); have S2 := Lib.hid (((H1.out.1.drew.below hb).2.cell HD.out.1).trans HD.out.2); clear hb))
  clear k0 S2 S3
  go_wp2_with fail
  refine (write_s w0 b T2 T3 _ _ W3.out HT.out.2.2.1 HT.out.2.2.2.2.2.2.1).mono ?_
  rintro e w4 ⟨rfl, h4⟩
  have H4 := Lib.hid (And.intro h4.1 (H3.out.trans h4.2))
  clear h4
  go_wp2_with fail
  go_loopg [25] n (fun gk u wr => ∃ k : Nat, k + gk = n ∧ u = .int .i64 (k : Int) ∧ Hid (Wrote w0 b (T3 ++ rowT (L.take k)) W wr))
  case atStart => exact ⟨0, by omega, rfl, H4.out.1.to (by simp [rowT]), H4.out.2⟩
  case round =>
    obtain ⟨k, hk, rfl, HH⟩ := hrel
    by_cases hlt : k < n
    · obtain ⟨bk, ok, hAk, hbk, x2, hx2, c0, c1, c2, c3, c4, c5⟩ := (HP.out.2.1.below HH.out.1.2).at hlt
      injection hAk with hAk
      injection hAk with e1 e2
      subst e1; subst e2
      have i1 : (k : Int) < (n : Int) := by omega
      have hnext := rowT_take L k (segT x2) (HP.out.2.2.2.2.1 k x2 hx2)
      have hxf := HP.out.2.2.1 x2 (List.mem_of_getElem? hx2)
      obtain ⟨xv, xf, xt, xk, xc, xn⟩ := x2
      dsimp only at c0 c1 c2 c3 c4 c5 hxf
      have HX := Lib.hid (And.intro hnext hxf)
      clear hnext hxf hx2 hbk
      have hal := heap_alloc_new wr (.cells #[.int .i64 xv, .int .i64 xf, .int .i64 xt, .int .i64 xk, .int .i64 xc, .int .i64 xn] 35)
      have HA := HH.out.1.alloc (.cells #[.int .i64 xv, .int .i64 xf, .int .i64 xt, .int .i64 xk, .int .i64 xc, .int .i64 xn] 35)
      have KA : Keeps W (wr.alloc (.cells #[.int .i64 xv, .int .i64 xf, .int .i64 xt, .int .i64 xk, .int .i64 xc, .int .i64 xn] 35)) := HH.out.2.trans (Keeps.below ((Below.refl _ wr).alloc (Nat.le_refl _) _))
      obtain ⟨wB, hwB⟩ : ∃ wB, wr.alloc (.cells #[.int .i64 xv, .int .i64 xf, .int .i64 xt, .int .i64 xk, .int .i64 xc, .int .i64 xn] 35) = wB := ⟨_, rfl⟩
      rw [hwB] at hal HA KA
      have H5 := Lib.hid (And.intro hal (And.intro HA KA))
      clear hal HA KA
      have hs : (T3 ++ rowT (L.take k) ++ sepT k).length ≤ big := by
        have h1 := HP.out.2.2.2.2.2.1 (k + 1)
        rw [HX.out.1] at h1
        simp only [List.length_append] at h1 ⊢
        omega
      have HS := Lib.hid hs
      clear hs
      go_wp2_with fail
      clear hwB c0 c1 c2 c3 c4 c5
      refine (between_v w0 b (T3 ++ rowT (L.take k)) _ k _ wB H5.out.2.1 rfl rfl HS.out).mono ?_
      rintro e w6 ⟨rfl, h6⟩
      obtain ⟨c0, c1, c2, c3, c4, c5⟩ := six_in (h6.box H5.out.1 (by decide) (by decide))
      have H6 := Lib.hid h6
      clear h6
      go_wp2_with fail
      refine (seg_v w0 b _ (T3 ++ rowT (L.take (k + 1))) xv xf xt xk xc xn w6 H6.out.1 HX.out.2.1 HX.out.2.2.1 HX.out.2.2.2 (by rw [HX.out.1]; simp) (HP.out.2.2.2.2.2.1 (k + 1))).mono ?_
      rintro e w7 ⟨rfl, h7⟩
      have H7 := Lib.hid (And.intro h7.1 ((H5.out.2.2.trans H6.out.2).trans h7.2))
      clear h7
      go_wp2_with fail
      go_roundg (gk - 1)
      case measure => omega
      case rel => exact ⟨k + 1, by omega, by go_num, H7.out⟩
    · obtain rfl : k = n := by omega
      have hge : ¬ (k : Int) < (k : Int) := by omega
      go_wp2_with fail
      refine (write_s w0 b (T3 ++ rowT (L.take k)) t _ _ HH.out.1 (by rw [List.take_of_length_le (by have := HP.out.2.2.2.1; omega)]; exact HT.out.2.2.2.1) HT.out.2.2.2.2.2.2.2).mono ?_
      rintro e w8 ⟨rfl, h8⟩
      have H8 := Lib.hid (HH.out.next h8)
      clear h8
      go_wp2_with fail
      go_end0
      exact ⟨rfl, H8.out⟩
end Go.Proofs.Ytakfoncdiejhaaa.Nt
