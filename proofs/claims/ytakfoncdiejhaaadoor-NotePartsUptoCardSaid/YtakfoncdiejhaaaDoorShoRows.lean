
/- Rows of operands, of registers and of labels, written; an operation's name. -/
import Derived.Test.YtakfoncdiejhaaaDoorShoAt
namespace Go.Proofs.YtakfoncdiejhaaaDoor
open Go.ChangeShapes Go.WideShapes Go.RowKit
set_option linter.unusedVariables false
set_option maxRecDepth 20000

theorem Wr.to {w0 W : World} {b : Nat} {l t : List UInt8} (h : Wr w0 b l W) (e : l = t) : Wr w0 b t W := e ▸ h
theorem Wrote.to {w0 W w' : World} {b : Nat} {l t : List UInt8} (h : Wrote w0 b l W w') (e : l = t) : Wrote w0 b t W w' := e ▸ h
set_option maxHeartbeats 1000000 in
theorem operands_v (w0 : World) (b : Nat) (l t : List UInt8) (A : Option Addr) (n c : Nat) (list : List Opn) (W : World) (h : Wr w0 b l W) (hl : IsOps w0 A n list) (hf : ∀ x ∈ list, OpF x) (ht : l ++ rowT (list.map opnT) = t) (hlen : t.length ≤ big) :
    Calls Tryd.prog 54 #[.pointer (some ⟨b, 0, none⟩), .slice A n c] W fun e w' => e = .returned (.tuple #[]) ∧ Wrote w0 b t W w' := by
  obtain ⟨L, hL⟩ : ∃ L, list.map opnT = L := ⟨_, rfl⟩
  rw [hL] at ht
  have hn := hl.2.1
  have hln := hl.1
  have hLn : L.length = n := by rw [← hL, List.length_map]; exact hln
  have hLx : ∀ (k : Nat) (x : Opn), list[k]? = some x → L[k]? = some (opnT x) := fun k x hx => by rw [← hL, List.getElem?_map, hx]; rfl
  have hTl : ∀ k, (l ++ rowT (L.take k)).length ≤ big := fun k => by
    have h1 := rowT_le L k
    rw [← ht, List.length_append] at hlen
    rw [List.length_append]
    omega
  have HP := Lib.hid (And.intro h (And.intro hl (And.intro hf (And.intro ht (And.intro hLn (And.intro hLx hTl))))))
  clear h hl hf ht hlen hL hln hLn hLx hTl
  go_enter Tryd.func54, Tryd.ntmps54
  go_wp2_with fail
  go_loopg [8] n (fun gk u wr => ∃ k : Nat, k + gk = n ∧ u = .int .i64 (k : Int) ∧ Hid (Wrote w0 b (l ++ rowT (L.take k)) W wr))
  case atStart => exact ⟨0, by omega, rfl, (HP.out.1.to (by simp [rowT])).wrote⟩
  case round =>
    obtain ⟨k, hk, rfl, HH⟩ := hrel
    by_cases hlt : k < n
    · obtain ⟨bk, o, rfl, hb, x, hx, c0, c1, c2, c3⟩ := (HP.out.2.1.below HH.out.1.2).at hlt
      have i1 : (k : Int) < (n : Int) := by omega
      have hnext := rowT_take L k (opnT x) (HP.out.2.2.2.2.2.1 k x hx)
      have hxf := HP.out.2.2.1 x (List.mem_of_getElem? hx)
      obtain ⟨xk, xc, xn, xt⟩ := x
      dsimp only at c0 c1 c2 c3
      have HX := Lib.hid (And.intro hnext hxf)
      clear hnext hxf hx hb
      have hal := heap_alloc_new wr (.cells #[.int .i64 xk, .int .i64 xc, .int .i64 xn, .int .i64 xt] 54)
      have HA := HH.out.1.alloc (.cells #[.int .i64 xk, .int .i64 xc, .int .i64 xn, .int .i64 xt] 54)
      have KA : Keeps W (wr.alloc (.cells #[.int .i64 xk, .int .i64 xc, .int .i64 xn, .int .i64 xt] 54)) := HH.out.2.trans (Keeps.below ((Below.refl _ wr).alloc (Nat.le_refl _) _))
      obtain ⟨wB, hwB⟩ : ∃ wB, wr.alloc (.cells #[.int .i64 xk, .int .i64 xc, .int .i64 xn, .int .i64 xt] 54) = wB := ⟨_, rfl⟩
      rw [hwB] at hal HA KA
      have H1 := Lib.hid (And.intro hal (And.intro HA KA))
      clear hal HA KA
      have hs : (l ++ rowT (L.take k) ++ sepT k).length ≤ big := by
        have h1 := HP.out.2.2.2.2.2.2 (k + 1)
        rw [HX.out.1] at h1
        simp only [List.length_append] at h1 ⊢
        omega
      have HS := Lib.hid hs
      clear hs
      go_wp2_with fail
      clear hwB c0 c1 c2 c3
      refine (between_v w0 b (l ++ rowT (L.take k)) _ k _ wB H1.out.2.1 rfl rfl HS.out).mono ?_
      rintro e w2 ⟨rfl, h2⟩
      obtain ⟨c0, c1, c2, c3⟩ := four_cells (h2.box H1.out.1 (by decide) (by decide))
      have H2 := Lib.hid h2
      clear h2
      go_wp2_with fail
      refine (operand_v w0 b _ (l ++ rowT (L.take (k + 1))) ⟨xk, xc, xn, xt⟩ w2 H2.out.1 HX.out.2 (by rw [HX.out.1]; simp) (HP.out.2.2.2.2.2.2 (k + 1))).mono ?_
      rintro e w3 ⟨rfl, h3⟩
      have H3 := Lib.hid (And.intro h3.1 ((H1.out.2.2.trans H2.out.2).trans h3.2))
      clear h3
      go_wp2_with fail
      go_roundg (gk - 1)
      case measure => omega
      case rel => exact ⟨k + 1, by omega, by go_num, H3.out⟩
    · obtain rfl : k = n := by omega
      have hge : ¬ (k : Int) < (k : Int) := by omega
      go_wp2_with fail
      go_end0
      refine ⟨rfl, HH.out.to ?_⟩
      rw [← HP.out.2.2.2.1, List.take_of_length_le (by rw [HP.out.2.2.2.2.1]; exact Nat.le_refl _)]
set_option maxHeartbeats 1000000 in
theorem label_v (w0 : World) (b : Nat) (l t : List UInt8) (A : Option Addr) (n c : Nat) (labels : List ByteArray) (k : Nat) (W : World) (h : Wr w0 b l W) (hl : IsStrs w0 A n labels) (ht : l ++ nthT labels k = t) (hlen : t.length ≤ big) :
    Calls Tryd.prog 75 #[.pointer (some ⟨b, 0, none⟩), .slice A n c, .int .i64 (k : Int)] W fun e w' => e = .returned (.tuple #[]) ∧ Wrote w0 b t W w' := by
  by_cases hlt : k < n
  · have hn := hl.2.1
    obtain ⟨bk, o, rfl, hb, s, hs, c0⟩ := hl.at hlt
    have i1 : (k : Int) < (n : Int) := by omega
    have e : l ++ s.data.toList = t := by rw [← ht]; unfold nthT txs; rw [List.getD_eq_getElem?_getD, List.getElem?_map, hs]; rfl
    have HP := Lib.hid (And.intro h (And.intro e (And.intro hlen (And.intro hb c0))))
    clear h hl ht hlen hb hs c0 e
    have c0 : W.cell? ⟨bk, o + k, none⟩ = some (.string s) := (HP.out.1.2.cell (p := ⟨bk, o + k, none⟩) HP.out.2.2.2.1).trans HP.out.2.2.2.2
    have S0 := Lib.hid c0
    go_enter Tryd.func75, Tryd.ntmps75
    go_wp2_with fail
    go_region_held3 (fun W => W.cell? ⟨bk, o + k, none⟩ = some (.string s))
      (first | exact S1.out | exact S0.out)
      (first
        | (go_at_call 28; (refine (write_s w0 b l t _ W.drew HP.out.1.drew HP.out.2.1 HP.out.2.2.1).mono ?_); rintro e w1 ⟨rfl, h1⟩; have H1 := Lib.hid (And.intro h1.1 (Keeps.drew.trans h1.2)); have S1 := Lib.hid ((h1.1.2.cell (p := ⟨bk, o + k, none⟩) HP.out.2.2.2.1).trans HP.out.2.2.2.2); clear h1))
    go_wp2_with fail
    go_end0
    exact ⟨rfl, H1.out⟩
  · have i1 : ¬ (k : Int) < (n : Int) := by omega
    have e : l = t := by
      rw [← ht]; unfold nthT txs
      rw [List.getD_eq_getElem?_getD, List.getElem?_eq_none (by rw [List.length_map, hl.1]; omega)]; simp
    subst e
    have HP := Lib.hid h
    clear h hl ht hlen
    go_enter Tryd.func75, Tryd.ntmps75
    go_wp2_with fail
    go_end0
    exact ⟨rfl, HP.out.wrote⟩
set_option maxHeartbeats 1000000 in
theorem operation_v (w0 : World) (b : Nat) (l t : List UInt8) (n : Int) (W : World) (hG : Opr.Glob W) (h : Wr w0 b l W) (ht : l ++ opT n = t) (hlen : t.length ≤ big) :
    Calls Tryd.prog 67 #[.pointer (some ⟨b, 0, none⟩), .int .i64 n] W fun e w' => e = .returned (.tuple #[]) ∧ Wrote w0 b t W w' := by
  cases ho : Opr.isOp n
  · have e : l ++ (ByteArray.mk #[63]).data.toList = t := by rw [← ht]; unfold opT; rw [ho]; rfl
    have HP := Lib.hid (And.intro h (And.intro e (And.intro hlen ho)))
    clear h ht hlen e ho
    go_enter Tryd.func67, Tryd.ntmps67
    go_wp2_with fail
    refine (Opr.is_v n false HP.out.2.2.2 _).mono ?_
    rintro e w1 ⟨rfl, rfl⟩
    go_wp2_with fail
    refine (write_s w0 b l t _ _ HP.out.1 HP.out.2.1 HP.out.2.2.1).mono ?_
    rintro e w1 ⟨rfl, h1⟩
    have H1 := Lib.hid h1
    clear h1
    go_wp2_with fail
    (try simp only [Exit.inBlock, Exit.then]); refine bodyPost_ret (results_none rfl _ _ _) rfl ?_
    exact ⟨rfl, H1.out⟩
  · obtain ⟨s, hs⟩ : ∃ s, Opr.nameOf n = s := ⟨_, rfl⟩
    have e : l ++ s.data.toList = t := by rw [← ht]; unfold opT; rw [if_pos ho, hs]
    have hG2 : Opr.Glob W.drew := hG.below (Below.refl W.heap.size W).drew hG.1
    have HP := Lib.hid (And.intro h (And.intro e (And.intro hlen (And.intro ho (And.intro hs hG2)))))
    clear h ht hlen e ho hs hG hG2
    go_enter Tryd.func67, Tryd.ntmps67
    go_wp2_with fail
    refine (Opr.is_v n true HP.out.2.2.2.1 _).mono ?_
    rintro e w1 ⟨rfl, rfl⟩
    go_wp2_with fail
    go_region_held3 (fun _ => True) (exact trivial)
      (first
        | (go_at_call 28; (refine (write_s w0 b l t _ W.drew HP.out.1.drew HP.out.2.1 HP.out.2.2.1).mono ?_); rintro e w1 ⟨rfl, h1⟩; have H1 := Lib.hid (And.intro h1.1 (Keeps.drew.trans h1.2)); clear h1)
        | (go_at_call 73; (refine (Opr.name_v n s HP.out.2.2.2.2.1 W.drew HP.out.2.2.2.2.2).mono ?_); rintro e w1 ⟨rfl, rfl⟩))
    go_wp2_with fail
    go_end0
    exact ⟨rfl, H1.out⟩
set_option maxHeartbeats 2000000 in
theorem regs_v (w0 : World) (b : Nat) (l t : List UInt8) (A : Option Addr) (n c : Nat) (list : List Rg) (W : World) (h : Wr w0 b l W) (hl : IsRegs w0 A n list) (hf : ∀ r ∈ list, Deci.fit r.id) (ht : l ++ regsT list = t) (hlen : t.length ≤ big) :
    Calls Tryd.prog 55 #[.pointer (some ⟨b, 0, none⟩), .slice A n c] W fun e w' => e = .returned (.tuple #[]) ∧ Wrote w0 b t W w' := by
  have hn := hl.2.1
  have hln := hl.1
  by_cases h0 : n = 0
  · subst h0
    have e : l = t := by rw [← ht]; unfold regsT; rw [if_pos (List.eq_nil_of_length_eq_zero hln)]; simp
    subst e
    have HP := Lib.hid h
    clear h hl ht hlen hf hln
    go_enter Tryd.func55, Tryd.ntmps55
    go_wp2_with fail
    (try simp only [Exit.inBlock, Exit.then]); refine bodyPost_ret (results_none rfl _ _ _) rfl ?_
    exact ⟨rfl, HP.out.wrote⟩
  · have h0n : ¬ (n : Int) = 0 := by omega
    have hne : list ≠ [] := fun e => h0 (by rw [← hln, e]; rfl)
    have ht2 : (l ++ [114, 101, 103, 115] ++ list.flatMap regT) ++ [59, 10] = t := by rw [← ht]; unfold regsT; rw [if_neg hne]; simp
    have hTl : ∀ k, (l ++ [114, 101, 103, 115] ++ (list.take k).flatMap regT).length ≤ big := fun k => by
      have h1 := flat_le regT list k
      rw [← ht2] at hlen
      simp only [List.length_append] at hlen ⊢
      omega
    have HP := Lib.hid (And.intro h (And.intro hl (And.intro hf (And.intro ht2 (And.intro hTl (And.intro hlen hln))))))
    clear h hl hf ht hlen hln ht2 hTl hne
    have hT0 : (l ++ [114, 101, 103, 115]).length ≤ big := by have := HP.out.2.2.2.2.1 0; simpa using this
    have HT0 := Lib.hid hT0
    clear hT0
    go_enter Tryd.func55, Tryd.ntmps55
    go_wp2_with fail
    refine (write_s w0 b l (l ++ [114, 101, 103, 115]) _ _ HP.out.1 rfl HT0.out).mono ?_
    rintro e w1 ⟨rfl, h1⟩
    have H1 := Lib.hid h1
    clear h1
    go_wp2_with fail
    go_loopg [15] n (fun gk u wr => ∃ k : Nat, k + gk = n ∧ u = .int .i64 (k : Int) ∧ Hid (Wrote w0 b (l ++ [114, 101, 103, 115] ++ (list.take k).flatMap regT) W wr))
    case atStart => exact ⟨0, by omega, rfl, H1.out.to (by simp)⟩
    case round =>
      obtain ⟨k, hk, rfl, HH⟩ := hrel
      by_cases hlt : k < n
      · obtain ⟨bk, o, rfl, hb, x, hx, c0, c1⟩ := (HP.out.2.1.below HH.out.1.2).at hlt
        have i1 : (k : Int) < (n : Int) := by omega
        have hnext := flat_take regT list k x hx
        have hxf := HP.out.2.2.1 x (List.mem_of_getElem? hx)
        have hmax := HP.out.2.2.2.2.1 (k + 1)
        rw [hnext] at hmax
        obtain ⟨xi, xc⟩ := x
        dsimp only at c0 c1 hxf
        obtain ⟨T0, hT0⟩ : ∃ T0, l ++ [114, 101, 103, 115] ++ (list.take k).flatMap regT = T0 := ⟨_, rfl⟩
        have e4 : T0 ++ [32] ++ vregT xi ++ [58] ++ Tg.letter xc = l ++ [114, 101, 103, 115] ++ (list.take (k + 1)).flatMap regT := by rw [hnext, ← hT0]; simp [regT]
        have m4 : (T0 ++ [32] ++ vregT xi ++ [58] ++ Tg.letter xc).length ≤ big := by rw [e4, hnext]; exact hmax
        have m3 : (T0 ++ [32] ++ vregT xi ++ [58]).length ≤ big := by rw [List.length_append] at m4; omega
        have m2 : (T0 ++ [32] ++ vregT xi).length ≤ big := by rw [List.length_append] at m3; omega
        have m1 : (T0 ++ [32]).length ≤ big := by rw [List.length_append] at m2; omega
        have HX := Lib.hid (And.intro hxf (And.intro e4 (And.intro m4 (And.intro m3 (And.intro m2 m1)))))
        rw [hT0] at HH
        clear hnext hxf hx hb hmax e4 m4 m3 m2 m1
        have hal := heap_alloc_new wr (.cells #[.int .i64 xi, .int .i64 xc] 76)
        have HA := HH.out.1.alloc (.cells #[.int .i64 xi, .int .i64 xc] 76)
        have KA : Keeps W (wr.alloc (.cells #[.int .i64 xi, .int .i64 xc] 76)) := HH.out.2.trans (Keeps.below ((Below.refl _ wr).alloc (Nat.le_refl _) _))
        obtain ⟨wB, hwB⟩ : ∃ wB, wr.alloc (.cells #[.int .i64 xi, .int .i64 xc] 76) = wB := ⟨_, rfl⟩
        rw [hwB] at hal HA KA
        have H2 := Lib.hid (And.intro hal (And.intro HA KA))
        clear hal HA KA
        go_wp2_with fail
        clear hwB c0 c1
        refine (write_b w0 b T0 _ 32 32 wB H2.out.2.1 rfl rfl HX.out.2.2.2.2.2).mono ?_
        rintro e w2 ⟨rfl, h2⟩
        have c0 : w2.cell? ⟨wr.heap.size, 0, none⟩ = some (.int .i64 xi) := cell_in (h2.box H2.out.1 (by decide) (by decide)) 0
        have H3 := Lib.hid h2
        clear h2
        go_wp2_with fail
        clear c0
        refine (vreg_v w0 b _ _ xi w2 H3.out.1 HX.out.1 rfl HX.out.2.2.2.2.1).mono ?_
        rintro e w3 ⟨rfl, h3⟩
        have H4 := Lib.hid (H3.out.next h3)
        clear h3
        go_wp2_with fail
        refine (write_b w0 b _ _ 58 58 w3 H4.out.1 rfl rfl HX.out.2.2.2.1).mono ?_
        rintro e w4 ⟨rfl, h4⟩
        have H5 := Lib.hid (H4.out.next h4)
        clear h4
        have S0 := Lib.hid (And.intro (cell_in (H5.out.box H2.out.1 (by decide) (by decide)) 0) (cell_in (H5.out.box H2.out.1 (by decide) (by decide)) 1))
        go_wp2_with fail
        go_region_held3 (fun W => W.cell? ⟨wr.heap.size, 0, none⟩ = some (.int .i64 xi) ∧ W.cell? ⟨wr.heap.size, 1, none⟩ = some (.int .i64 xc))
          (first | exact S1.out | exact S0.out)
          (first
            | (go_at_call 28; (refine (write_s w0 b _ _ _ w4.drew H5.out.1.drew rfl HX.out.2.2.1).mono ?_); rintro e w5 ⟨rfl, h5⟩; have H6 := Lib.hid (And.intro h5.1 (Keeps.drew.trans h5.2)); have S1 := Lib.hid (And.intro (cell_in (((H5.out.next H6.out).box H2.out.1 (by decide) (by decide))) 0) (cell_in (((H5.out.next H6.out).box H2.out.1 (by decide) (by decide))) 1)); clear h5)
            | (go_at_call 31; (refine (Tg.letter_v xc _ rfl w4.drew).mono ?_); rintro e w5 ⟨rfl, rfl⟩))
        go_wp2_with fail
        go_roundg (gk - 1)
        case measure => omega
        case rel => exact ⟨k + 1, by omega, by go_num, Wrote.to (t := l ++ [114, 101, 103, 115] ++ (list.take (k + 1)).flatMap regT) ⟨H6.out.1, H2.out.2.2.trans (H5.out.2.trans H6.out.2)⟩ HX.out.2.1⟩
      · obtain rfl : k = n := by omega
        have hge : ¬ (k : Int) < (k : Int) := by omega
        have hall := HH.out
        rw [List.take_of_length_le (by rw [HP.out.2.2.2.2.2.2]; exact Nat.le_refl _)] at hall
        have H7 := Lib.hid hall
        clear hall
        go_wp2_with fail
        refine (write_s w0 b _ t _ wr H7.out.1 HP.out.2.2.2.1 HP.out.2.2.2.2.2.1).mono ?_
        rintro e w2 ⟨rfl, h2⟩
        have H8 := Lib.hid (H7.out.next h2)
        clear h2
        go_wp2_with fail
        go_end0
        exact ⟨rfl, H8.out⟩
end Go.Proofs.YtakfoncdiejhaaaDoor
