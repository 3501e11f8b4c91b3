
/- An allocation written. -/
import Derived.Test.YtakfoncdiejhaaaNotRow
import Derived.Test.YtakfoncdiejhaaaNotTgt
namespace Go.Proofs.Ytakfoncdiejhaaa.Nt
open Go.ChangeShapes Go.WideShapes Go.RowKit
set_option linter.unusedVariables false
set_option maxRecDepth 20000

set_option maxHeartbeats 2000000 in
theorem alloc_v (w0 : World) (b : Nat) (l t : List UInt8) (slots : Int) (segs : List Sg) (sa : Option Addr) (sn sc : Nat) (W : World) (h : Wr w0 b l W) (hl : IsSegs w0 sa sn segs) (hc : sn ≤ sc) (hfs : Deci.fit slots)
    (hf : ∀ s ∈ segs, Deci.fit s.v ∧ Deci.fit s.f ∧ Deci.fit s.t ∧ Deci.fit s.n) (ht : l ++ alloT slots segs = t) (hlen : t.length ≤ big) :
    Calls Try.prog 15 #[.pointer (some ⟨b, 0, none⟩), .agg #[.int .i64 slots, .slice sa sn sc]] W fun e w' => e = .returned (.tuple #[]) ∧ Wrote w0 b t W w' := by
  have HA := Lib.hid (And.intro (h.alloc (.cells #[.int .i64 slots, .slice sa sn sc] 38)) (And.intro ((Below.refl _ W).alloc (Nat.le_refl _) (.cells #[.int .i64 slots, .slice sa sn sc] 38)) (heap_alloc_new W (.cells #[.int .i64 slots, .slice sa sn sc] 38))))
  obtain ⟨T1, hT1⟩ : ∃ T, l ++ (ByteArray.mk #[97, 108, 108, 111, 99, 32, 115, 108, 111, 116, 115, 32]).data.toList = T := ⟨_, rfl⟩
  obtain ⟨T2, hT2⟩ : ∃ T, T1 ++ Deci.txt slots = T := ⟨_, rfl⟩
  obtain ⟨T3, hT3⟩ : ∃ T, T2 ++ (ByteArray.mk #[32, 123, 10]).data.toList = T := ⟨_, rfl⟩
  have t4 : (T3 ++ segsT segs) ++ (ByteArray.mk #[125, 10]).data.toList = t := by rw [← ht, ← hT3, ← hT2, ← hT1]; simp [alloT]
  have l1 := congrArg List.length hT1
  have l2 := congrArg List.length hT2
  have l3 := congrArg List.length hT3
  have l4 := congrArg List.length t4
  simp only [List.length_append] at l1 l2 l3 l4
  have hTl : ∀ k, (T3 ++ segsTo segs k).length ≤ big := fun k => by
    have h1 := segsTo_le segs k
    rw [List.length_append]
    omega
  have HT := Lib.hid (And.intro hT1 (And.intro hT2 (And.intro hT3 (And.intro t4 (And.intro (show T1.length ≤ big by omega) (And.intro (show T2.length ≤ big by omega) (And.intro (show T3.length ≤ big by omega) hlen)))))))
  have HP := Lib.hid (And.intro hl (And.intro hf (And.intro hTl (And.intro hfs hc))))
  clear h hl hf ht hlen hTl hfs hc hT1 hT2 hT3 t4 l1 l2 l3 l4
  obtain ⟨wa, hwa⟩ : ∃ wa, W.alloc (.cells #[.int .i64 slots, .slice sa sn sc] 38) = wa := ⟨_, rfl⟩
  rw [hwa] at HA
  go_enter Try.func15, Try.ntmps15
  go_wp2_with fail
  clear hwa
  refine (write_s w0 b l T1 _ _ HA.out.1 HT.out.1 HT.out.2.2.2.2.1).mono ?_
  rintro e w1 ⟨rfl, h1⟩
  have H1 := Lib.hid h1
  clear h1
  obtain ⟨k0, k1⟩ := two_in (H1.out.box HA.out.2.2 (by decide) (by decide))
  go_wp2_with fail
  clear k0 k1
  refine (number_v w0 b T1 T2 slots _ H1.out.1 HP.out.2.2.2.1 HT.out.2.1 HT.out.2.2.2.2.2.1).mono ?_
  rintro e w2 ⟨rfl, h2⟩
  have H2 := Lib.hid (H1.out.next h2)
  clear h2
  go_wp2_with fail
  refine (write_s w0 b T2 T3 _ _ H2.out.1 HT.out.2.2.1 HT.out.2.2.2.2.2.2.1).mono ?_
  rintro e w3 ⟨rfl, h3⟩
  have H3 := Lib.hid (H2.out.next h3)
  clear h3
  obtain ⟨k0, k1⟩ := two_in (H3.out.box HA.out.2.2 (by decide) (by decide))
  go_wp2_with fail
  clear k0 k1
  go_loopg [4] sn (fun gk u wr => ∃ (k : Nat) (A : Option Addr) (c : Nat), k + gk = sn ∧ u = .slice A gk c ∧ gk ≤ c ∧ Hid (IsSegs w0 A gk (segs.drop k) ∧ Start segs k ∧ Wrote w0 b (T3 ++ segsTo segs k) wa wr))
  case atStart => exact ⟨0, sa, sc, by omega, rfl, HP.out.2.2.2.2, by rw [List.drop_zero]; exact HP.out.1, .inl rfl, H3.out.1.to (by rw [segsTo_zero, List.append_nil]), H3.out.2⟩
  case round =>
    obtain ⟨k, A, c, hk, rfl, hgc, HH⟩ := hrel
    by_cases hlt : 0 < gk
    · obtain ⟨g, o, hA, hb, y, hy, _⟩ := HH.out.1.at hlt
      have hmem : y ∈ segs := List.mem_of_mem_drop (List.mem_of_getElem? hy)
      have HY := Lib.hid (And.intro (show ∀ x, (segs.drop k)[0]? = some x → x.v = y.v from fun x hx => by rw [hy] at hx; injection hx with hx; rw [← hx]) (HP.out.2.1 y hmem).1)
      have i1 : (0 : Int) < (gk : Int) := by omega
      have HL := Lib.hid hlt
      clear hA hb hy hmem
      go_wp2_with fail
      refine (alike_v A gk c (segs.drop k) y.v wr (HH.out.1.below HH.out.2.2.1.2) HL.out HY.out.1).mono ?_
      rintro e w4 ⟨⟨m, rfl, hm⟩, hb⟩
      have hmn : m ≤ gk := by have := hm.2.1; have := HH.out.1.1; omega
      have hm0 : 0 < m := hm.1
      have H4 := Lib.hid (Wrote.to (l := T3 ++ segsTo segs k) (t := T3 ++ segsTo segs k) ⟨HH.out.2.2.1.below hb, HH.out.2.2.2.trans (Keeps.below hb)⟩ rfl)
      have HM := Lib.hid hm
      have ehi : ∀ W : World, (Instr.slice 36 (.slice A gk c) none (some (.int .i64 (m : Int))) none).run Try.prog W = .ok (.slice A m c) W := cut_hi A gk c m (by omega)
      have elo : ∀ W : World, (Instr.slice 36 (.slice A gk c) (some (.int .i64 (m : Int))) none none).run Try.prog W = .ok (.slice (lowA A c m) (gk - m) (c - m)) W := cut_lo A gk c m hmn
      obtain ⟨A2, hA2⟩ : ∃ A2, lowA A c m = A2 := ⟨_, rfl⟩
      obtain ⟨n2, hn2⟩ : ∃ n2, gk - m = n2 := ⟨_, rfl⟩
      obtain ⟨c2, hc2⟩ : ∃ c2, c - m = c2 := ⟨_, rfl⟩
      rw [hA2, hn2, hc2] at elo
      have hrest : IsSegs w0 A2 n2 (segs.drop (k + m)) := by
        rw [← hA2, ← hn2, ← List.drop_drop]; exact HH.out.1.drop hmn hgc
      have hto := segsTo_row segs k m y.v HH.out.2.1 hm
      have HR := Lib.hid (And.intro hrest (And.intro hto (start_next segs k m y.v hm)))
      clear hm hb hrest hto hA2 i1
      go_wp2_with fail
      refine (row_v w0 b (T3 ++ segsTo segs k) (T3 ++ segsTo segs (k + m)) A m c ((segs.drop k).take m) y.v _ H4.out.1 (HH.out.1.take hmn) hm0 (fun x hx => HY.out.1 x (by rw [List.getElem?_take, if_pos hm0] at hx; exact hx)) HY.out.2 (fun s hs => (HP.out.2.1 s (List.mem_of_mem_drop (List.mem_of_mem_take hs))).2) (by rw [HR.out.2.1, List.append_assoc]) (HP.out.2.2.1 (k + m))).mono ?_
      rintro e w5 ⟨rfl, h5⟩
      have H5 := Lib.hid (H4.out.next h5)
      clear h5
      go_wp2_with fail
      go_roundg n2
      case measure => omega
      case rel => exact ⟨k + m, A2, c2, by omega, rfl, by omega, HR.out.1, HR.out.2.2, H5.out⟩
    · obtain rfl : gk = 0 := by omega
      have hge : ¬ (0 : Int) < ((0 : Nat) : Int) := by omega
      obtain rfl : k = sn := by omega
      go_wp2_with fail
      refine (write_s w0 b (T3 ++ segsTo segs k) t _ _ HH.out.2.2.1 (by rw [show k = segs.length from HP.out.1.1.symm, segsTo_all]; exact HT.out.2.2.2.1) HT.out.2.2.2.2.2.2.2).mono ?_
      rintro e w6 ⟨rfl, h6⟩
      have H6 := Lib.hid (HH.out.2.2.next h6)
      clear h6
      go_wp2_with fail
      go_end0
      exact ⟨rfl, H6.out.1, (Keeps.below HA.out.2.1).trans H6.out.2⟩
end Go.Proofs.Ytakfoncdiejhaaa.Nt
