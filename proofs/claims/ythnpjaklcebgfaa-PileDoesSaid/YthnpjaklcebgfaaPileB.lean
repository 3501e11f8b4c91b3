/- What a pile's Peek, Pop and Change answer. -/
import Derived.Test.YthnpjaklcebgfaaPile
namespace Go.Proofs.Ythnpjaklcebgfaa
open Go.ChangeShapes Go.WideShapes Go.RowKit
set_option linter.unusedVariables false

theorem Kp.news {q g r : Nat} {w w1 w2 : World} (h : Kp q g w w1) (k : w1.grownBy w2 (some r)) (hr : w.heap.size ≤ r) : Kp q g w w2 :=
  ⟨k.os.trans h.os, k.tape.trans h.tape, k.output.trans h.output, Nat.le_trans h.size k.size, fun i hi h1 h2 => (k.block i (Nat.lt_of_lt_of_le hi h.size) (fun e => by injection e with e; omega)).trans (h.block i hi h1 h2)⟩
/-- What Peek, or Pop, hands back. -/
abbrev one (x : It) (b : Bool) : Ending := .returned (.tuple #[.agg #[.int .i64 x.1, .int .i64 x.2], .bool b])
theorem peek_nil (w : World) : Calls Try.prog 16 #[.pointer none] w fun e w' => e = one (0, 0) false ∧ w.grownBy w' none := by
  go_enter Try.func16, Try.ntmps16
  go_wp2_with fail
  refine (plen_nil _).mono ?_
  rintro e w1 ⟨rfl, rfl⟩
  go_wp2_with fail
  refine bodyPost_ret (v := .tuple #[.agg #[.int .i64 0, .int .i64 0], .bool false]) (by simp [results, Try.results16, go_sem]) rfl ⟨rfl, galloc _ _ _⟩
theorem peek_none (B p q g cap : Nat) (w : World) (h : Pl B w p q g cap []) : Calls Try.prog 16 #[.pointer (some ⟨p, 0, none⟩)] w fun e w' => e = one (0, 0) false ∧ w.grownBy w' none := by
  have H0 := Lib.hid h
  clear h
  go_enter Try.func16, Try.ntmps16
  go_wp2_with fail
  refine (plen_v B p q g cap 0 [] rfl _ (H0.out.grow (galloc _ _ _))).mono ?_
  rintro e w1 ⟨rfl, rfl⟩
  go_wp2_with fail
  refine bodyPost_ret (v := .tuple #[.agg #[.int .i64 0, .int .i64 0], .bool false]) (by simp [results, Try.results16, go_sem]) rfl ⟨rfl, galloc _ _ _⟩
theorem peek_some (B p q g cap : Nat) (l : List It) (hl : 0 < l.length) (w : World) (h : Pl B w p q g cap l) : Calls Try.prog 16 #[.pointer (some ⟨p, 0, none⟩)] w fun e w' => e = one (ia l 0) true ∧ w.grownBy w' none := by
  have c0 := h.ptr
  have c1 := h.at_.slice
  have k1 := h.at_.key hl
  have k2 := h.at_.val hl
  have h1 := h.lt
  have h2 := h.at_.lt
  have h3 := h.at_.ltg
  have hs := h.at_.small
  have H0 := Lib.hid h
  obtain ⟨n, hn⟩ : ∃ n, l.length = n := ⟨_, rfl⟩
  have HN := Lib.hid hn
  rw [hn] at c1 hl hs
  rw [Nat.zero_mul] at k1 k2
  rw [Nat.zero_add] at k2
  generalize hx : ia l 0 = x at *
  obtain ⟨a, b⟩ := x
  have e1 : ((n : Int) == 0) = false := by rw [beq_eq_false_iff_ne]; omega
  have e2 : (0 : Int) < (n : Int) := by omega
  clear h hn hx
  go_enter Try.func16, Try.ntmps16
  go_wp2_with fail
  refine (plen_v B p q g cap n l HN.out _ (H0.out.grow (galloc _ _ _))).mono ?_
  rintro e w1 ⟨rfl, rfl⟩
  go_wp2_with fail
  refine bodyPost_ret (v := .tuple #[.agg #[.int .i64 a, .int .i64 b], .bool true]) (by simp [results, Try.results16, go_sem]) rfl ⟨rfl, galloc _ _ _⟩
theorem pop_nil (w : World) : Calls Try.prog 9 #[.pointer none] w fun e w' => e = one (0, 0) false ∧ w.grownBy w' none := by
  go_enter Try.func9, Try.ntmps9
  go_wp2_with fail
  refine (plen_nil _).mono ?_
  rintro e w1 ⟨rfl, rfl⟩
  go_wp2_with fail
  refine bodyPost_ret (v := .tuple #[.agg #[.int .i64 0, .int .i64 0], .bool false]) (by simp [results, Try.results9, go_sem]) rfl ⟨rfl, galloc _ _ _⟩
theorem pop_none (B p q g cap : Nat) (w : World) (h : Pl B w p q g cap []) : Calls Try.prog 9 #[.pointer (some ⟨p, 0, none⟩)] w fun e w' => e = one (0, 0) false ∧ w.grownBy w' none := by
  have H0 := Lib.hid h
  clear h
  go_enter Try.func9, Try.ntmps9
  go_wp2_with fail
  refine (plen_v B p q g cap 0 [] rfl _ (H0.out.grow (galloc _ _ _))).mono ?_
  rintro e w1 ⟨rfl, rfl⟩
  go_wp2_with fail
  refine bodyPost_ret (v := .tuple #[.agg #[.int .i64 0, .int .i64 0], .bool false]) (by simp [results, Try.results9, go_sem]) rfl ⟨rfl, galloc _ _ _⟩
/-- What Pop leaves of a pile. -/
def PPopP (B p q g cap : Nat) (l : List It) (w : World) (e : Ending) (w' : World) : Prop :=
  ∃ m, e = one (ia l 0) true ∧ Pl B w' p q g cap m ∧ l.Perm (ia l 0 :: m) ∧ Kp q g w w'
set_option maxHeartbeats 1000000 in
theorem pop_some (B p q g cap : Nat) (l : List It) (hl : 0 < l.length) (w : World) (h : Pl B w p q g cap l) : Calls Try.prog 9 #[.pointer (some ⟨p, 0, none⟩)] w (PPopP B p q g cap l w) := by
  have c0 := h.ptr
  have h1 := h.lt
  have hs := h.at_.small
  have H0 := Lib.hid h
  obtain ⟨n, hn⟩ : ∃ n, l.length = n + 1 := ⟨l.length - 1, by omega⟩
  have HN := Lib.hid hn
  rw [hn] at hl hs
  have e1 : ((n : Int) + 1 == 0) = false := by rw [beq_eq_false_iff_ne]; omega
  clear h hn
  go_enter Try.func9, Try.ntmps9
  go_wp2_with fail
  refine (plen_v B p q g cap (n + 1) l HN.out _ (H0.out.grow (galloc _ _ _))).mono ?_
  rintro e w1 ⟨rfl, rfl⟩
  go_wp2_with fail
  have HG := Lib.hid (galloc w (.cells #[.int .i64 0, .int .i64 0] 28) none)
  refine (hpop_v B q g cap n l HN.out H0.out.hp _ (H0.out.grow HG.out).at_).mono ?_
  rintro e w2 ⟨m, rfl, hp2, hm2, hh2, hk2⟩
  obtain ⟨z1, z2⟩ := box_new w 28 (.int .i64 0) (.int .i64 0)
  have zf : ∀ k, (w.alloc (.cells #[.int .i64 0, .int .i64 0] 28)).frozen? ⟨w.heap.size, k, none⟩ = false := fun k => frozen_of_row _ _ _ _ _ (heap_alloc_new w _)
  have hr : w.heap.size < (w.alloc (.cells #[.int .i64 0, .int .i64 0] 28)).heap.size := by simp
  have nq : w.heap.size ≠ q := by have := H0.out.at_.lt; omega
  have ng : w.heap.size ≠ g := by have := H0.out.at_.ltg; omega
  have y1 := (hk2.cell ⟨w.heap.size, 0, none⟩ hr nq ng).trans z1
  have y2 := (hk2.cell ⟨w.heap.size, 1, none⟩ hr nq ng).trans z2
  have y3 := (hk2.frozen ⟨w.heap.size, 0, none⟩ hr nq ng).trans (zf 0)
  have y4 := (hk2.frozen ⟨w.heap.size, 1, none⟩ hr nq ng).trans (zf 1)
  have hz2 := Nat.lt_of_lt_of_le hr hk2.size
  obtain ⟨r, hr0⟩ : ∃ r, w.heap.size = r := ⟨_, rfl⟩
  have H2 := Lib.hid (And.intro hp2 (And.intro hm2 (And.intro hh2 (And.intro hk2 (And.intro hr0 (And.intro nq ng))))))
  rw [hr0] at y1 y2 y3 y4 hz2 ⊢
  have ta := assert51 (ia l 0).1 (ia l 0).2
  clear hp2 hm2 hh2 hk2 z1 z2 zf hr nq ng hr0
  generalize hx : ia l 0 = x at ta ⊢
  have HX := Lib.hid hx
  clear hx
  obtain ⟨a, b⟩ := x
  go_wp2_with fail
  refine bodyPost_ret (v := .tuple #[.agg #[.int .i64 a, .int .i64 b], .bool true]) (by simp [results, Try.results9, go_sem, y1, y2, hz2]) rfl ?_
  obtain ⟨hp2, hm2, hh2, hk2, rfl, nq, ng⟩ := H2.out
  have g3 : w2.grownBy (((w2.setCell ⟨w.heap.size, 0, none⟩ (.int .i64 a)).setCell ⟨w.heap.size, 1, none⟩ (.int .i64 b)).alloc (.cells #[.int .i64 a, .int .i64 b] 51)) (some w.heap.size) :=
    gtrans (gtrans (gset _ _ _ _) (gset _ _ _ _)) (galloc _ _ _)
  have hpl : Pl B w2 p q g cap m := (H0.out.grow HG.out).turn hk2 hp2 hh2 (.inl rfl)
  refine ⟨m, by rw [HX.out], hpl.kept g3 (fun e => by injection e with e; omega) (fun e => by injection e with e; exact nq e.symm) (fun e => by injection e with e; exact ng e.symm), hm2, ?_⟩
  exact ((Kp.nil HG.out).trans hk2 (.inl rfl)).news g3 (Nat.le_refl _)
/-- What Change leaves of a pile. -/
def PChP (B p q g cap : Nat) (l : List It) (v key : Int) (w : World) (e : Ending) (w' : World) : Prop :=
  ∃ m, e = .returned (.int .i64 ((cnt l v : Nat) : Int)) ∧ Pl B w' p q g cap m ∧ m.Perm (l.map (chg v key)) ∧ Kp q g w w'
theorem pchange_nil (v key : Int) (w : World) : Calls Try.prog 12 #[.pointer none, .int .i64 v, .int .i64 key] w fun e w' => e = .returned (.int .i64 0) ∧ w = w' := by
  go_enter Try.func12, Try.ntmps12
  go_wp2_with fail
  refine (plen_nil _).mono ?_
  rintro e w1 ⟨rfl, rfl⟩
  go_wp2_with fail
  go_ret
  exact ⟨rfl, rfl⟩
theorem pchange_none (B p q g cap : Nat) (v key : Int) (w : World) (h : Pl B w p q g cap []) : Calls Try.prog 12 #[.pointer (some ⟨p, 0, none⟩), .int .i64 v, .int .i64 key] w (PChP B p q g cap [] v key w) := by
  have H0 := Lib.hid h
  clear h
  go_enter Try.func12, Try.ntmps12
  go_wp2_with fail
  refine (plen_v B p q g cap 0 [] rfl _ H0.out).mono ?_
  rintro e w1 ⟨rfl, rfl⟩
  go_wp2_with fail
  go_ret
  exact ⟨[], rfl, H0.out, List.Perm.refl _, Kp.refl _ _ _⟩
theorem pchange_some (B p q g cap : Nat) (l : List It) (hl : 0 < l.length) (v key : Int) (w : World) (h : Pl B w p q g cap l) : Calls Try.prog 12 #[.pointer (some ⟨p, 0, none⟩), .int .i64 v, .int .i64 key] w (PChP B p q g cap l v key w) := by
  have c0 := h.ptr
  have hs := h.at_.small
  have H0 := Lib.hid h
  obtain ⟨n, hn⟩ : ∃ n, l.length = n := ⟨_, rfl⟩
  have HN := Lib.hid hn
  rw [hn] at hl hs
  have e1 : ((n : Int) == 0) = false := by rw [beq_eq_false_iff_ne]; omega
  clear h hn
  go_enter Try.func12, Try.ntmps12
  go_wp2_with fail
  refine (plen_v B p q g cap n l HN.out _ H0.out).mono ?_
  rintro e w1 ⟨rfl, rfl⟩
  go_wp2_with fail
  refine (change_v B q g cap l v key _ H0.out.at_).mono ?_
  rintro e w2 ⟨rfl, hp2, hg2⟩
  have k2 : Kp q g w w2 := Kp.of hg2 (by simp)
  have c2 := (k2.cell ⟨p, 0, none⟩ H0.out.lt H0.out.nq H0.out.ng).trans H0.out.ptr
  have H2 := Lib.hid (And.intro hp2 k2)
  clear hp2 hg2 k2
  obtain ⟨c, hc⟩ : ∃ c, cnt l v = c := ⟨_, rfl⟩
  have hc1 : c ≤ 1000 := by rw [← hc]; exact Nat.le_trans (cnt_le l v) H0.out.at_.small
  have HC := Lib.hid hc
  rw [hc]
  clear hc
  go_wp2_with fail
  refine (init_v B q g cap _ _ H2.out.1).mono ?_
  rintro e w3 ⟨m, rfl, hl3, hh3⟩
  have H3 := Lib.hid (And.intro hl3 hh3)
  clear hl3 hh3
  go_wp2_with fail
  go_ret
  have k3 : Kp q g w w3 := H2.out.2.trans (Kp.of H3.out.1.gr (by simp)) (.inl rfl)
  refine ⟨m, by rw [HC.out]; rfl, H0.out.turn k3 H3.out.1.at_ (by rw [H3.out.1.perm.length_eq]; exact H3.out.2) (.inl rfl), H3.out.1.perm, k3⟩
theorem pchange_v (B p q g cap : Nat) (l : List It) (v key : Int) (w : World) (h : Pl B w p q g cap l) : Calls Try.prog 12 #[.pointer (some ⟨p, 0, none⟩), .int .i64 v, .int .i64 key] w (PChP B p q g cap l v key w) := by
  cases l with
  | nil => exact pchange_none B p q g cap v key w h
  | cons a l => exact pchange_some B p q g cap (a :: l) (by simp) v key w h
end Go.Proofs.Ythnpjaklcebgfaa
