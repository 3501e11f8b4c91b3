/- Packed texts of one proof. Conditions: none. -/
import Derived.Test.YtbpichjmkllfaaaGreatDoorPq12
namespace Go.Proofs.YtbpichjmkllfaaaGreatDoor.Par
open Go.ChangeShapes Go.WideShapes Go.RowKit
open Lex (Tok tcl tkv tk tc)
set_option linter.unusedVariables false
set_option maxRecDepth 20000
section
variable {w : World} {p : Nat} {A : Option Addr} {n cp : Nat} {ts : List Tok} {s : St}
theorem rok_v (b : Bool) (hb : (s.code == 0) = b) (h : Rd w p A n cp ts s) : Calls Tryz.prog 22 #[.pointer (some ⟨p, 0, none⟩)] w fun e w' => e = .returned (.bool b) ∧ w = w' := by
 obtain ⟨c0, c1, c2, c3⟩ := h.cells
 clear h
 go_enter Tryz.func22, Tryz.ntmps22
 go_wp2_with fail
 go_ret
 exact ⟨rfl, rfl⟩
theorem rkind_v {t : Tok} (ht : ts[s.at_]? = some t) (h : Rd w p A n cp ts s) : Calls Tryz.prog 55 #[.pointer (some ⟨p, 0, none⟩)] w fun e w' => e = .returned (.int .i64 (t.kind : Int)) ∧ Below w.heap.size w w' := by
 obtain ⟨c0, c1, c2, c3⟩ := h.cells
 obtain ⟨b, o, rfl, hlt, d0, d1, d2, d3, d4⟩ := h.toks.at ht
 have hl := h.lt
 have hf := h.few
 obtain ⟨a, ha⟩ : ∃ a, s.at_ = a := ⟨_, rfl⟩
 rw [ha] at c1 d0 d1 d2 d3 d4 hl
 have l1 : (0 : Int) ≤ (a : Int) := by omega
 have l2 : (a : Int) < (n : Int) := by omega
 clear h ht ha
 go_enter Tryz.func55, Tryz.ntmps55
 go_wp2_with fail
 go_quiet (fail)
 go_wp2_with fail
 go_ret
 exact ⟨rfl, Quo.below_drewN _ _ _⟩
theorem rafter_yes {t : Tok} (ht : ts[s.at_ + 1]? = some t) (h : Rd w p A n cp ts s) : Calls Tryz.prog 50 #[.pointer (some ⟨p, 0, none⟩)] w fun e w' => e = .returned (.int .i64 (t.kind : Int)) ∧ Below w.heap.size w w' := by
 obtain ⟨c0, c1, c2, c3⟩ := h.cells
 obtain ⟨b, o, rfl, hlt, d0, d1, d2, d3, d4⟩ := h.toks.at ht
 have hl := (List.getElem?_eq_some_iff.1 ht).1
 rw [h.len] at hl
 have hf := h.few
 obtain ⟨a, ha⟩ : ∃ a, s.at_ = a := ⟨_, rfl⟩
 obtain ⟨a1, ha1⟩ : ∃ a1, a + 1 = a1 := ⟨_, rfl⟩
 rw [ha, ha1] at d0 d1 d2 d3 d4 hl
 rw [ha] at c1
 have l1 : (0 : Int) ≤ (a1 : Int) := by omega
 have l2 : (a1 : Int) < (n : Int) := by omega
 have q1 : (a : Int) + 1 = (a1 : Int) := by omega
 have q2 : wrap64 ((a : Int) + 1) = (a1 : Int) := by rw [q1]; unfold wrap64; omega
 have q3 : wrap64 (a1 : Int) = (a1 : Int) := by unfold wrap64; omega
 clear h ht ha ha1
 go_enter Tryz.func50, Tryz.ntmps50
 go_wp2_with fail
 go_quiet (fail)
 go_wp2_with fail
 go_quiet (fail)
 go_wp2_with fail
 go_ret
 exact ⟨rfl, (Quo.below_drewN _ _ _).trans (Quo.below_drewN _ _ _)⟩
theorem rafter_no (hn : ¬ s.at_ + 1 < n) (h : Rd w p A n cp ts s) : Calls Tryz.prog 50 #[.pointer (some ⟨p, 0, none⟩)] w fun e w' => e = .returned (.int .i64 0) ∧ Below w.heap.size w w' := by
 obtain ⟨c0, c1, c2, c3⟩ := h.cells
 have hf := h.few
 have hl := h.lt
 obtain ⟨a, ha⟩ : ∃ a, s.at_ = a := ⟨_, rfl⟩
 obtain ⟨a1, ha1⟩ : ∃ a1, a + 1 = a1 := ⟨_, rfl⟩
 rw [ha] at c1 hn hl
 rw [ha1] at hn
 have l2 : ¬ (a1 : Int) < (n : Int) := by omega
 have q1 : (a : Int) + 1 = (a1 : Int) := by omega
 have q2 : wrap64 ((a : Int) + 1) = (a1 : Int) := by rw [q1]; unfold wrap64; omega
 have q3 : wrap64 (a1 : Int) = (a1 : Int) := by unfold wrap64; omega
 clear h ha ha1 hn
 go_enter Tryz.func50, Tryz.ntmps50
 go_wp2_with fail
 go_quiet (fail)
 go_wp2_with fail
 go_ret
 exact ⟨rfl, Quo.below_drewN _ _ _⟩
theorem rafter_v (k : Nat) (hk : kindOf (ts.drop s.at_).tail = k) (h : Rd w p A n cp ts s) : Calls Tryz.prog 50 #[.pointer (some ⟨p, 0, none⟩)] w fun e w' => e = .returned (.int .i64 (k : Int)) ∧ Below w.heap.size w w' := by
 rw [tail_at] at hk
 by_cases hn : s.at_ + 1 < n
 ·have ht : ts[s.at_ + 1]? = some (ts[s.at_ + 1]'(by rw [h.len]; exact hn)) := List.getElem?_eq_getElem (by rw [h.len]; exact hn)
  rw [kind_at ht] at hk
  rw [← hk]
  exact rafter_yes ht h
 ·rw [List.drop_of_length_le (by rw [h.len]; omega)] at hk
  subst hk
  exact rafter_no hn h
theorem ris_none {a : Nat} (hn : n ≤ a) (hm : a ≤ 2000000) (x : ByteArray) (h : Rd w p A n cp ts s) : Calls Tryz.prog 81 #[.pointer (some ⟨p, 0, none⟩), .int .i64 (a : Int), .string x] w fun e w' => e = .returned (.bool false) ∧ Below w.heap.size w w' := by
 obtain ⟨c0, c1, c2, c3⟩ := h.cells
 have l2 : (n : Int) ≤ (a : Int) := by omega
 clear h hn
 go_enter Tryz.func81, Tryz.ntmps81
 go_wp2_with fail
 go_ret
 exact ⟨rfl, Below.refl _ _⟩
theorem ris_some {a : Nat} {t : Tok} (ht : ts[a]? = some t) (x : ByteArray) (r : Bool) (hr : Fol.isT t x.data.toList = r) (h : Rd w p A n cp ts s) : Calls Tryz.prog 81 #[.pointer (some ⟨p, 0, none⟩), .int .i64 (a : Int), .string x] w fun e w' => e = .returned (.bool r) ∧ Below w.heap.size w w' := by
 obtain ⟨c0, c1, c2, c3⟩ := h.cells
 obtain ⟨b, o, rfl, hlt, d0, d1, d2, d3, d4⟩ := h.toks.at ht
 have hl := (List.getElem?_eq_some_iff.1 ht).1
 rw [h.len] at hl
 have l1 : (0 : Int) ≤ (a : Int) := by omega
 have l2 : (a : Int) < (n : Int) := by omega
 have l3 : ¬ (n : Int) ≤ (a : Int) := by omega
 obtain ⟨T, hT⟩ : ∃ T : ByteArray, (⟨t.text.toArray⟩ : ByteArray) = T := ⟨_, rfl⟩
 obtain ⟨K, hK⟩ : ∃ K : Int, (t.kind : Int) = K := ⟨_, rfl⟩
 have he : (T.toList == x.toList) = decide (t.text = x.data.toList) := by
  rw [← hT, Bool.eq_iff_iff, beq_iff_eq, decide_eq_true_iff, ByteArray.toList_eq, ByteArray.toList_eq]
 have B0 := Hh ((Below.refl w.heap.size w).alloc (Nat.le_refl _) (.cells #[.int .i64 K, .string T, .int .i64 t.n, .int .i64 t.cls, .int .i64 t.at_] 72))
 rw [hT] at d1
 rw [hK] at d0
 unfold Fol.isT at hr
 rw [← he] at hr
 clear he hT
 by_cases h1 : t.kind = 1
 ·have k1 : K = 1 := by omega
  subst k1
  rw [h1] at hr
  simp only [decide_true, Bool.true_or, Bool.true_and] at hr
  clear h ht h1 hK
  go_enter Tryz.func81, Tryz.ntmps81
  go_wp2_with fail
  go_ret
  subst hr
  exact ⟨rfl, B0.out⟩
 ·by_cases h7 : t.kind = 7
  ·have k1 : K = 7 := by omega
   subst k1
   rw [h7] at hr
   simp only [decide_true, Bool.or_true, Bool.true_and] at hr
   clear h ht h1 hK h7
   go_enter Tryz.func81, Tryz.ntmps81
   go_wp2_with fail
   go_ret
   subst hr
   exact ⟨rfl, B0.out⟩
  ·have k1 : (K == 1) = false := by rw [Bqf]; omega
   have k7 : (K == 7) = false := by rw [Bqf]; omega
   have : r = false := by rw [← hr]; simp [h1, h7]
   subst this
   clear h ht h1 hK h7 hr
   go_enter Tryz.func81, Tryz.ntmps81
   go_wp2_with fail
   go_ret
   exact ⟨rfl, B0.out⟩
theorem ris_v (a : Nat) (hm : a ≤ 2000000) (x : ByteArray) (r : Bool) (hr : isB (ts.drop a) x.data.toList = r) (h : Rd w p A n cp ts s) : Calls Tryz.prog 81 #[.pointer (some ⟨p, 0, none⟩), .int .i64 (a : Int), .string x] w fun e w' => e = .returned (.bool r) ∧ Below w.heap.size w w' := by
 by_cases hn : a < n
 ·have ht : ts[a]? = some (ts[a]'(by rw [h.len]; exact hn)) := List.getElem?_eq_getElem (by rw [h.len]; exact hn)
  rw [isB_at _ ht] at hr
  exact ris_some ht x r hr h
 ·rw [List.drop_of_length_le (by rw [h.len]; omega)] at hr
  subst hr
  exact ris_none (by omega) hm x h
theorem rIs_v (x : ByteArray) (r : Bool) (hr : isB (ts.drop s.at_) x.data.toList = r) (h : Rd w p A n cp ts s) : Calls Tryz.prog 47 #[.pointer (some ⟨p, 0, none⟩), .string x] w fun e w' => e = .returned (.bool r) ∧ Below w.heap.size w w' := by
 obtain ⟨c0, c1, c2, c3⟩ := h.cells
 have hm : s.at_ ≤ 2000000 := by have := h.few; have := h.lt; omega
 have H := Hh (Ai hr h)
 clear h hr
 go_enter Tryz.func47, Tryz.ntmps47
 go_wp2_with fail
 refine (ris_v s.at_ hm x r H.out.1 H.out.2).mono ?_
 rintro e w1 ⟨rfl, hb⟩
 go_wp2_with fail
 go_ret
 exact ⟨rfl, hb⟩
theorem box_frozen {w : World} {p : Nat} {cs : Array Value} {T : TypeId} (h : w.heap[p]? = some (.cells cs T (0, 0))) (j : Nat) : w.frozen? ⟨p, j, none⟩ = false := frozen_of_row _ _ _ _ _ h
theorem Rd.bad (h : Rd w p A n cp ts s) (code : Int) (pos : Nat) : Step w.heap.size p w ((w.setCell ⟨p, 2, none⟩ (.int .i64 code)).setCell ⟨p, 3, none⟩ (.int .i64 (pos : Int))).drew ∧ Rd ((w.setCell ⟨p, 2, none⟩ (.int .i64 code)).setCell ⟨p, 3, none⟩ (.int .i64 (pos : Int))).drew p A n cp ts ⟨s.at_, code, pos⟩ := by
 refine ⟨(((Step.refl _ _ _).put _ _).put _ _).drew, h.set (((set_agree _ _ _ _).trans (set_agree _ _ _ _)).trans (drew_agree _ _)) h.lt ?_⟩
 exact (set_box ((set_box h.box).2.1 _)).2.2 _
theorem rbadp_v {t : Tok} (code : Int) (hc : s.code = 0) (ht : ts[s.at_]? = some t) (h : Rd w p A n cp ts s) : Calls Tryz.prog 56 #[.pointer (some ⟨p, 0, none⟩), .int .i64 code] w fun e w' => e = .returned (.tuple #[]) ∧ Step w.heap.size p w w' ∧ Rd w' p A n cp ts ⟨s.at_, code, t.at_⟩ := by
 obtain ⟨c0, c1, c2, c3⟩ := h.cells
 obtain ⟨b, o, rfl, hlt, d0, d1, d2, d3, d4⟩ := h.toks.at ht
 have f2 := box_frozen h.box 2
 have f3 := box_frozen h.box 3
 have hl := h.lt
 have l1 : (0 : Int) ≤ (s.at_ : Int) := by omega
 have l2 : (s.at_ : Int) < (n : Int) := by omega
 have H := Hh h
 have HC := Hh hc
 clear ht
 go_enter Tryz.func56, Tryz.ntmps56
 go_wp2_with fail
 refine (rok_v true (by rw [HC.out]; rfl) H.out).mono ?_
 rintro e w1 ⟨rfl, rfl⟩
 clear hc h
 go_wp2_with fail
 go_region
 go_end0
 exact ⟨rfl, H.out.bad code t.at_⟩
def badSt (s : St) (code : Int) (t : Tok) : St := if s.code = 0 then ⟨s.at_, code, t.at_⟩ else s
theorem rBad_v {t : Tok} (code : Int) (ht : ts[s.at_]? = some t) (h : Rd w p A n cp ts s) : Calls Tryz.prog 56 #[.pointer (some ⟨p, 0, none⟩), .int .i64 code] w fun e w' => e = .returned (.tuple #[]) ∧ Step w.heap.size p w w' ∧ Rd w' p A n cp ts (badSt s code t) := by
 by_cases hc : s.code = 0
 ·unfold badSt
  rw [if_pos hc]
  exact rbadp_v code hc ht h
 ·unfold badSt
  rw [if_neg hc]
  have H := Hh h
  have hb : (s.code == 0) = false := by rw [Bqf]; exact hc
  have HC := Hh hb
  clear h hc hb ht
  go_enter Tryz.func56, Tryz.ntmps56
  go_wp2_with fail
  refine (rok_v false HC.out H.out).mono ?_
  rintro e w1 ⟨rfl, rfl⟩
  go_wp2_with fail
  go_end0
  exact ⟨rfl, Step.refl _ _ _, H.out⟩
theorem Rd.next (h : Rd w p A n cp ts s) (hn : s.at_ + 1 < n) : Step w.heap.size p w (w.setCell ⟨p, 1, none⟩ (.int .i64 ((s.at_ + 1 : Nat) : Int))) ∧ Rd (w.setCell ⟨p, 1, none⟩ (.int .i64 ((s.at_ + 1 : Nat) : Int))) p A n cp ts ⟨s.at_ + 1, s.code, s.pos⟩ :=
 ⟨(Step.refl _ _ _).put _ _, h.set (set_agree _ _ _ _) hn ((set_box h.box).1 _)⟩
theorem isB_more (h : Rd w p A n cp ts s) {x : List UInt8} (hb : isB (ts.drop s.at_) x = true) : s.at_ + 1 < n := by
 obtain ⟨t, ht, _⟩ := h.tok
 rw [isB_at _ ht] at hb
 have := h.ends.more ht (by have := isT_kind hb; omega)
 rw [h.len] at this
 exact this
def MustP (w : World) (p : Nat) (A : Option Addr) (n cp : Nat) (ts : List Tok) (s : St) (x : List UInt8) (e : Ending) (w' : World) : Prop :=
 ∃ s', e = .returned (.tuple #[]) ∧ Step w.heap.size p w w' ∧ Rd w' p A n cp ts s' ∧ Tr ts (must x) s s' ()
theorem rmust_yes (x : ByteArray) (hb : isB (ts.drop s.at_) x.data.toList = true) (hc : s.code = 0) (h : Rd w p A n cp ts s) : Calls Tryz.prog 48 #[.pointer (some ⟨p, 0, none⟩), .string x] w (MustP w p A n cp ts s x.data.toList) := by
 have hn := isB_more h hb
 have hm := h.few
 have HA := Hh (Ai hb (Ai hc (Ai h hn)))
 clear hb hc h hn
 go_enter Tryz.func48, Tryz.ntmps48
 go_wp2_with fail
 refine (rIs_v x true HA.out.1 HA.out.2.2.1).mono ?_
 rintro e w1 ⟨rfl, hb1⟩
 have R1 := Hh (HA.out.2.2.1.below hb1)
 have HB := Hh hb1
 clear hb1
 go_wp2_with fail
 refine (rok_v true (by rw [HA.out.2.1]; rfl) R1.out).mono ?_
 rintro e w2 ⟨rfl, rfl⟩
 have f1 := box_frozen R1.out.box 1
 obtain ⟨c0, c1, c2, c3⟩ := R1.out.cells
 obtain ⟨a1, ha1⟩ : ∃ a1, s.at_ + 1 = a1 := ⟨_, rfl⟩
 have g := R1.out.next HA.out.2.2.2
 rw [ha1] at g
 have G := Hh g
 have HA1 := Hh ha1
 have hl := HA.out.2.2.2
 have q1 : (s.at_ : Int) + 1 = (a1 : Int) := by omega
 have q2 : wrap64 ((s.at_ : Int) + 1) = (a1 : Int) := by rw [q1]; unfold wrap64; omega
 have q3 : wrap64 (a1 : Int) = (a1 : Int) := by unfold wrap64; omega
 clear g ha1 hl
 go_wp2_with fail
 go_end0
 refine ⟨⟨a1, s.code, s.pos⟩, rfl, (Step.of HB.out).trans (G.out.1.mono HB.out.size), G.out.2, .inr (.inl ⟨HA.out.2.1, HA.out.2.1, ?_⟩)⟩
 rw [must_yes HA.out.1, tail_at, HA1.out]
theorem rmust_bad (x : ByteArray) (hb : isB (ts.drop s.at_) x.data.toList = false) (h : Rd w p A n cp ts s) : Calls Tryz.prog 48 #[.pointer (some ⟨p, 0, none⟩), .string x] w (MustP w p A n cp ts s x.data.toList) := by
 obtain ⟨t, ht, _⟩ := h.tok
 have hc : ((badSt s 20 t).code == 0) = false := by
  rw [Bqf]
  unfold badSt
  split
  ·exact (by decide : (20 : Int) ≠ 0)
  ·assumption
 have HA := Hh (Ai hb (Ai hc (Ai h ht)))
 clear hb hc h ht
 go_enter Tryz.func48, Tryz.ntmps48
 go_wp2_with fail
 refine (rIs_v x false HA.out.1 HA.out.2.2.1).mono ?_
 rintro e w1 ⟨rfl, hb1⟩
 have R1 := Hh (HA.out.2.2.1.below hb1)
 have HB := Hh hb1
 clear hb1
 go_wp2_with fail
 refine (rBad_v 20 HA.out.2.2.2 R1.out).mono ?_
 rintro e w2 ⟨rfl, hs2, hr2⟩
 have R2 := Hh (Ai hs2 hr2)
 clear hs2 hr2
 go_wp2_with fail
 refine (rok_v false HA.out.2.1 R2.out.2).mono ?_
 rintro e w3 ⟨rfl, rfl⟩
 go_wp2_with fail
 go_end0
 refine ⟨badSt s 20 t, rfl, (Step.of HB.out).trans (R2.out.1.mono HB.out.size), R2.out.2, ?_⟩
 unfold badSt
 by_cases hc : s.code = 0
 ·rw [if_pos hc]
  refine .inr (.inr ⟨hc, (by decide : (20 : Int) ≠ 0), ?_⟩)
  rw [must_no HA.out.1]
  unfold err
  rw [head_at HA.out.2.2.2]
 ·rw [if_neg hc]
  exact .inl ⟨hc, rfl⟩
theorem rmust_idle (x : ByteArray) (hb : isB (ts.drop s.at_) x.data.toList = true) (hc : ¬ s.code = 0) (h : Rd w p A n cp ts s) : Calls Tryz.prog 48 #[.pointer (some ⟨p, 0, none⟩), .string x] w (MustP w p A n cp ts s x.data.toList) := by
 have hc' : (s.code == 0) = false := by rw [Bqf]; exact hc
 have HA := Hh (Ai hb (Ai hc' (Ai h hc)))
 clear hb hc hc' h
 go_enter Tryz.func48, Tryz.ntmps48
 go_wp2_with fail
 refine (rIs_v x true HA.out.1 HA.out.2.2.1).mono ?_
 rintro e w1 ⟨rfl, hb1⟩
 have R1 := Hh (HA.out.2.2.1.below hb1)
 have HB := Hh hb1
 clear hb1
 go_wp2_with fail
 refine (rok_v false HA.out.2.1 R1.out).mono ?_
 rintro e w3 ⟨rfl, rfl⟩
 go_wp2_with fail
 go_end0
 exact ⟨s, rfl, Step.of HB.out, R1.out, tr_idle HA.out.2.2.2⟩
theorem rmust_v (x : ByteArray) (h : Rd w p A n cp ts s) : Calls Tryz.prog 48 #[.pointer (some ⟨p, 0, none⟩), .string x] w (MustP w p A n cp ts s x.data.toList) := by
 cases hb : isB (ts.drop s.at_) x.data.toList with
 | false => exact rmust_bad x hb h
 | true =>
  by_cases hc : s.code = 0
  ·exact rmust_yes x hb hc h
  ·exact rmust_idle x hb hc h
end
section
variable {w : World} {p : Nat} {A : Option Addr} {n cp : Nat} {ts : List Tok} {s : St}
theorem sizeTok : (Tryz.prog.info? 72).map (·.size) = some 5 := by kernel_rfl
theorem fin_tok {fn : Func} {q : Tmp} (h : fn.results = #[.cell q 72]) {act : Act} {w : World} {g : Nat} {x0 x1 x2 x3 x4 : Value} {R : Ending → World → Prop}
  (hp : act.tmps.getD q undef = .pointer (some ⟨g, 0, none⟩)) (hg : w.heap[g]? = some (.cells #[x0, x1, x2, x3, x4] 72 (0, 0))) (hd : act.defers = [])
  (hR : R (.returned (.agg #[x0, x1, x2, x3, x4])) w) : bodyPost Tryz.prog fn R .ret act w :=
 bodyPost_ret (results_cell_row h _ _ g 72 _ (0, 0) _ hp hg Tryz.underlying72 rfl sizeTok) hd hR
theorem hb1' {w w1 : World} {o : Obj} (h : Below (w.alloc o).heap.size (w.alloc o) w1) : Below w.heap.size (w.alloc o) w1 := h.mono (by simp)
def tok0 : Tok := ⟨0, [], 0, 0, 0⟩
def OfP (w : World) (p : Nat) (A : Option Addr) (n cp : Nat) (ts : List Tok) (s : St) (k : Nat) (e : Ending) (w' : World) : Prop :=
 ∃ s' t, e = .returned (tkv t) ∧ Step w.heap.size p w w' ∧ Rd w' p A n cp ts s' ∧ Tr ts (ofk k) s s' t
theorem Rd.alloc (h : Rd w p A n cp ts s) (o : Obj) : Rd (w.alloc o) p A n cp ts s := h.below ((Below.refl _ w).alloc (Nat.le_refl _) o)
set_option maxHeartbeats 2000000 in
theorem rof_yes {t : Tok} (k : Nat) (hk : t.kind = k) (h0 : k ≠ 0) (ht : ts[s.at_]? = some t) (hc : s.code = 0) (h : Rd w p A n cp ts s) : Calls Tryz.prog 27 #[.pointer (some ⟨p, 0, none⟩), .int .i64 (k : Int)] w (OfP w p A n cp ts s k) := by
 have hn : s.at_ + 1 < n := by have := h.ends.more ht (by omega); rwa [h.len] at this
 have hm := h.few
 have hkk : ((t.kind : Int) != (k : Int)) = false := by rw [hk]; simp
 have HA := Hh (Ai hk (Ai ht (Ai hc (Ai h hn))))
 clear hk ht hc h hn
 go_enter Tryz.func27, Tryz.ntmps27
 go_wp2_with fail
 refine (rkind_v HA.out.2.1 (HA.out.2.2.2.1.alloc _)).mono ?_
 rintro e w1 ⟨rfl, hb1⟩
 have R1 := Hh ((HA.out.2.2.2.1.alloc (.cells #[.int .i64 0, .string ⟨#[]⟩, .int .i64 0, .int .i64 0, .int .i64 0] 72)).below hb1)
 have HB := Hh hb1
 clear hb1
 go_wp2_with fail
 refine (rok_v true (by rw [HA.out.2.2.1]; rfl) R1.out).mono ?_
 rintro e w2 ⟨rfl, rfl⟩
 have hp := HA.out.2.2.2.1.plt
 have z1 : w1.heap[w.heap.size]? = some (.cells #[.int .i64 0, .string ⟨#[]⟩, .int .i64 0, .int .i64 0, .int .i64 0] 72 (0, 0)) := by
  rw [HB.out.block w.heap.size (by simp)]
  exact heap_alloc_new w _
 have f1 := box_frozen R1.out.box 1
 obtain ⟨c0, c1, c2, c3⟩ := R1.out.cells
 obtain ⟨a1, ha1⟩ : ∃ a1, s.at_ + 1 = a1 := ⟨_, rfl⟩
 obtain ⟨w3, hw3⟩ : ∃ w3, w1.setCell ⟨p, 1, none⟩ (.int .i64 (a1 : Int)) = w3 := ⟨_, rfl⟩
 have g := R1.out.next HA.out.2.2.2.2
 rw [ha1, hw3] at g
 have z3 : w3.heap[w.heap.size]? = some (.cells #[.int .i64 0, .string ⟨#[]⟩, .int .i64 0, .int .i64 0, .int .i64 0] 72 (0, 0)) := by
  rw [← hw3, Below.heap_setCell _ _ _ _ (by simp; omega)]
  exact z1
 have S3 : Step w.heap.size p w w3 := ((Step.refl _ _ w).alloc (Nat.le_refl _) _).trans ((Step.of (hb1' HB.out)).trans (g.1.mono (by have := HB.out.size; simp at this; omega)))
 have G := Hh (Ai g (Ai z3 S3))
 have HA1 := Hh ha1
 have hl := HA.out.2.2.2.2
 obtain ⟨a, ha⟩ : ∃ a, s.at_ = a := ⟨_, rfl⟩
 have HA2 := Hh ha
 rw [ha] at ha1 hl c1
 have q1 : (a : Int) + 1 = (a1 : Int) := by omega
 have q2 : wrap64 ((a : Int) + 1) = (a1 : Int) := by rw [q1]; unfold wrap64; omega
 have q3 : wrap64 (a1 : Int) = (a1 : Int) := by unfold wrap64; omega
 clear g ha1 z1 z3 S3
 go_wp2_with fail
 try rw [hw3]
 clear c0 c1 c2 c3 f1 q1 q2
 obtain ⟨c0, c1, c2, c3⟩ := G.out.1.2.cells
 obtain ⟨b, o, rfl, hlt, d0, d1, d2, d3, d4⟩ := G.out.1.2.toks.at HA.out.2.1
 rw [ha] at d0 d1 d2 d3 d4
 have l1 : (0 : Int) ≤ (a : Int) := Int.natCast_nonneg _
 have l2 : (a : Int) < (n : Int) := by clear q3; omega
 have q1 : (a1 : Int) - 1 = (a : Int) := by have := HA1.out; clear q3; omega
 have q2 : wrap64 ((a1 : Int) - 1) = (a : Int) := by rw [q1]; unfold wrap64; omega
 have q4 : wrap64 (a : Int) = (a : Int) := by unfold wrap64; omega
 have e0 := box_frozen G.out.2.1 0
 have e1 := box_frozen G.out.2.1 1
 have e2 := box_frozen G.out.2.1 2
 have e3 := box_frozen G.out.2.1 3
 have e4 := box_frozen G.out.2.1 4
 have x0 : w3.cell? ⟨w.heap.size, 0, none⟩ = some (.int .i64 0) := cell_in G.out.2.1 0
 have x1 : w3.cell? ⟨w.heap.size, 1, none⟩ = some (.string ⟨#[]⟩) := cell_in G.out.2.1 1
 have x2 : w3.cell? ⟨w.heap.size, 2, none⟩ = some (.int .i64 0) := cell_in G.out.2.1 2
 have x3 : w3.cell? ⟨w.heap.size, 3, none⟩ = some (.int .i64 0) := cell_in G.out.2.1 3
 have x4 : w3.cell? ⟨w.heap.size, 4, none⟩ = some (.int .i64 0) := cell_in G.out.2.1 4
 clear ha hl hw3 hlt
 go_region
 go_wp2_with fail
 go_wp2_with fail
 refine fin_tok (fn := Tryz.f27) rfl rfl (Lex.five_heap G.out.2.1) rfl ?_
 have hg : Agree (fun k => k < w.heap.size) w3 (Lex.five w3 w.heap.size (.int .i64 t.kind) (.string ⟨t.text.toArray⟩) (.int .i64 t.n) (.int .i64 t.cls) (.int .i64 t.at_)).drew :=
  (below_agree (Lex.five_below (Below.refl _ w3) (Nat.le_refl _))).trans (drew_agree _ _)
 refine ⟨⟨a1, s.code, s.pos⟩, t, rfl, ?_, G.out.1.2.keep HA.out.2.2.2.1 hg, .inr (.inl ⟨HA.out.2.2.1, HA.out.2.2.1, ?_⟩)⟩
 ·exact (G.out.2.2.trans (Step.of (Lex.five_below (Below.refl _ w3) (Nat.le_refl _)))).drew
 ·rw [drop_at HA.out.2.1, HA1.out]
  unfold ofk
  simp only
  rw [if_pos HA.out.1]
theorem rof_end {w1 : World} (h0 : Rd w p A n cp ts s) {s1 : St} (h : Rd w1 p A n cp ts s1) (hs : Step w.heap.size p w w1) (z : w1.heap[w.heap.size]? = some (.cells #[.int .i64 0, .string ⟨#[]⟩, .int .i64 0, .int .i64 0, .int .i64 0] 72 (0, 0))) :
  (Lex.five w1 w.heap.size (.int .i64 0) (.string ⟨#[]⟩) (.int .i64 0) (.int .i64 0) (.int .i64 0)).heap[w.heap.size]? = some (.cells #[.int .i64 0, .string ⟨#[]⟩, .int .i64 0, .int .i64 0, .int .i64 0] 72 (0, 0)) ∧
  Step w.heap.size p w (Lex.five w1 w.heap.size (.int .i64 0) (.string ⟨#[]⟩) (.int .i64 0) (.int .i64 0) (.int .i64 0)) ∧ Rd (Lex.five w1 w.heap.size (.int .i64 0) (.string ⟨#[]⟩) (.int .i64 0) (.int .i64 0) (.int .i64 0)) p A n cp ts s1 := by
 have hb := Lex.five_below (B := w.heap.size) (x0 := .int .i64 0) (x1 := .string ⟨#[]⟩) (x2 := .int .i64 0) (x3 := .int .i64 0) (x4 := .int .i64 0) (Below.refl _ w1) (Nat.le_refl _)
 exact ⟨Lex.five_heap z, hs.trans (Step.of hb), h.keep h0 (below_agree hb)⟩
theorem rof_bad {t : Tok} (k : Nat) (hk : t.kind ≠ k) (ht : ts[s.at_]? = some t) (h : Rd w p A n cp ts s) : Calls Tryz.prog 27 #[.pointer (some ⟨p, 0, none⟩), .int .i64 (k : Int)] w (OfP w p A n cp ts s k) := by
 have hkk : ((t.kind : Int) != (k : Int)) = true := by simp; omega
 have hc : ((badSt s 20 t).code == 0) = false := by
  rw [Bqf]
  unfold badSt
  split
  ·exact (by decide : (20 : Int) ≠ 0)
  ·assumption
 have HA := Hh (Ai hk (Ai ht (Ai hc h)))
 clear hk ht h hc
 go_enter Tryz.func27, Tryz.ntmps27
 go_wp2_with fail
 refine (rkind_v HA.out.2.1 (HA.out.2.2.2.alloc _)).mono ?_
 rintro e w1 ⟨rfl, hb1⟩
 have R1 := Hh ((HA.out.2.2.2.alloc (.cells #[.int .i64 0, .string ⟨#[]⟩, .int .i64 0, .int .i64 0, .int .i64 0] 72)).below hb1)
 have HB := Hh hb1
 clear hb1
 go_wp2_with fail
 refine (rBad_v 20 HA.out.2.1 R1.out).mono ?_
 rintro e w2 ⟨rfl, hs2, hr2⟩
 have R2 := Hh (Ai hs2 hr2)
 clear hs2 hr2
 go_wp2_with fail
 refine (rok_v false HA.out.2.2.1 R2.out.2).mono ?_
 rintro e w3 ⟨rfl, rfl⟩
 have z1 : w2.heap[w.heap.size]? = some (.cells #[.int .i64 0, .string ⟨#[]⟩, .int .i64 0, .int .i64 0, .int .i64 0] 72 (0, 0)) := by
  have hp := HA.out.2.2.2.plt
  have hs := HB.out.size
  rw [World.size_alloc] at hs
  rw [R2.out.1.2.2.2.2 w.heap.size (by omega) (by omega), HB.out.block w.heap.size (by simp)]
  exact heap_alloc_new w _
 have S1 : Step w.heap.size p w w2 := ((Step.refl _ _ w).alloc (Nat.le_refl _) _).trans ((Step.of (hb1' HB.out)).trans (R2.out.1.mono (by have := HB.out.size; simp at this; omega)))
 have e0 := box_frozen z1 0
 have e1 := box_frozen z1 1
 have e2 := box_frozen z1 2
 have e3 := box_frozen z1 3
 have e4 := box_frozen z1 4
 have x0 : w2.cell? ⟨w.heap.size, 0, none⟩ = some (.int .i64 0) := cell_in z1 0
 have x1 : w2.cell? ⟨w.heap.size, 1, none⟩ = some (.string ⟨#[]⟩) := cell_in z1 1
 have x2 : w2.cell? ⟨w.heap.size, 2, none⟩ = some (.int .i64 0) := cell_in z1 2
 have x3 : w2.cell? ⟨w.heap.size, 3, none⟩ = some (.int .i64 0) := cell_in z1 3
 have x4 : w2.cell? ⟨w.heap.size, 4, none⟩ = some (.int .i64 0) := cell_in z1 4
 have E := Hh (rof_end HA.out.2.2.2 R2.out.2 S1 z1)
 clear z1 S1
 go_wp2_with fail
 refine fin_tok (fn := Tryz.f27) rfl rfl E.out.1 rfl ?_
 refine ⟨badSt s 20 t, tok0, rfl, E.out.2.1, E.out.2.2, ?_⟩
 unfold badSt
 by_cases hc : s.code = 0
 ·rw [if_pos hc]
  refine .inr (.inr ⟨hc, (by decide : (20 : Int) ≠ 0), ?_⟩)
  rw [drop_at HA.out.2.1]
  unfold ofk
  simp only
  rw [if_neg HA.out.1]
  rfl
 ·rw [if_neg hc]
  exact .inl ⟨hc, rfl⟩
theorem rof_idle {t : Tok} (k : Nat) (hk : t.kind = k) (ht : ts[s.at_]? = some t) (hc : ¬ s.code = 0) (h : Rd w p A n cp ts s) : Calls Tryz.prog 27 #[.pointer (some ⟨p, 0, none⟩), .int .i64 (k : Int)] w (OfP w p A n cp ts s k) := by
 have hkk : ((t.kind : Int) != (k : Int)) = false := by rw [hk]; simp
 have hc' : (s.code == 0) = false := by rw [Bqf]; exact hc
 have HA := Hh (Ai hc (Ai ht (Ai hc' h)))
 clear hk ht h hc hc'
 go_enter Tryz.func27, Tryz.ntmps27
 go_wp2_with fail
 refine (rkind_v HA.out.2.1 (HA.out.2.2.2.alloc _)).mono ?_
 rintro e w1 ⟨rfl, hb1⟩
 have R1 := Hh ((HA.out.2.2.2.alloc (.cells #[.int .i64 0, .string ⟨#[]⟩, .int .i64 0, .int .i64 0, .int .i64 0] 72)).below hb1)
 have HB := Hh hb1
 clear hb1
 go_wp2_with fail
 refine (rok_v false HA.out.2.2.1 R1.out).mono ?_
 rintro e w3 ⟨rfl, rfl⟩
 have z1 : w1.heap[w.heap.size]? = some (.cells #[.int .i64 0, .string ⟨#[]⟩, .int .i64 0, .int .i64 0, .int .i64 0] 72 (0, 0)) := by
  rw [HB.out.block w.heap.size (by simp)]
  exact heap_alloc_new w _
 have S1 : Step w.heap.size p w w1 := ((Step.refl _ _ w).alloc (Nat.le_refl _) _).trans (Step.of (hb1' HB.out))
 have e0 := box_frozen z1 0
 have e1 := box_frozen z1 1
 have e2 := box_frozen z1 2
 have e3 := box_frozen z1 3
 have e4 := box_frozen z1 4
 have x0 : w1.cell? ⟨w.heap.size, 0, none⟩ = some (.int .i64 0) := cell_in z1 0
 have x1 : w1.cell? ⟨w.heap.size, 1, none⟩ = some (.string ⟨#[]⟩) := cell_in z1 1
 have x2 : w1.cell? ⟨w.heap.size, 2, none⟩ = some (.int .i64 0) := cell_in z1 2
 have x3 : w1.cell? ⟨w.heap.size, 3, none⟩ = some (.int .i64 0) := cell_in z1 3
 have x4 : w1.cell? ⟨w.heap.size, 4, none⟩ = some (.int .i64 0) := cell_in z1 4
 have E := Hh (rof_end HA.out.2.2.2 R1.out S1 z1)
 clear z1 S1
 go_wp2_with fail
 refine fin_tok (fn := Tryz.f27) rfl rfl E.out.1 rfl ?_
 exact ⟨s, tok0, rfl, E.out.2.1, E.out.2.2, tr_idle HA.out.1⟩
theorem rof_v (k : Nat) (h0 : k ≠ 0) (h : Rd w p A n cp ts s) : Calls Tryz.prog 27 #[.pointer (some ⟨p, 0, none⟩), .int .i64 (k : Int)] w (OfP w p A n cp ts s k) := by
 obtain ⟨t, ht, _⟩ := h.tok
 by_cases hk : t.kind = k
 ·by_cases hc : s.code = 0
  ·exact rof_yes k hk h0 ht hc h
  ·exact rof_idle k hk ht hc h
 ·exact rof_bad k hk ht h
end
end Go.Proofs.YtbpichjmkllfaaaGreatDoor.Par
