/- What Class, Find and Count answer, the program's and the document's. -/
import Derived.Test.YtocelaebokikcaaSmall
import Derived.Test.YtocelaebokikcaaLarge
namespace Go.Proofs.Ytocelaebokikcaa
open Go.ChangeShapes Go.WideShapes Go.RowKit
set_option linter.unusedVariables false
set_option maxRecDepth 20000

def clsOf (v : Int) : List Rg → Int × Bool
  | [] => (0, false)
  | r :: l => if r.id = v then (r.cl, true) else clsOf v l
def rclsOf (v : Int) : List Rg → Int
  | [] => -1
  | r :: l => if r.id = v then r.cl else rclsOf v l
def findAt (s : ByteArray) : Nat → List Blk → Int
  | _, [] => -1
  | k, b :: l => if b.label.toList = s.toList then (k : Int) else findAt s (k + 1) l
theorem clsOf_hit (v : Int) (l : List Rg) (k : Nat) (x : Rg) (hx : l[k]? = some x) (h : x.id = v) (hn : ∀ (j : Nat) (y : Rg), j < k → l[j]? = some y → ¬ y.id = v) : clsOf v l = (x.cl, true) ∧ rclsOf v l = x.cl := by
  induction l generalizing k with
  | nil => simp at hx
  | cons a l ih =>
    cases k with
    | zero =>
      have : a = x := by simpa using hx
      subst this
      unfold clsOf rclsOf
      rw [if_pos h, if_pos h]
      exact ⟨rfl, rfl⟩
    | succ k =>
      have h0 := hn 0 a (by omega) rfl
      have := ih k (by simpa using hx) (fun j y hj hy => hn (j + 1) y (by omega) (by simpa using hy))
      unfold clsOf rclsOf
      rw [if_neg h0, if_neg h0]
      exact this
theorem clsOf_miss (v : Int) (l : List Rg) (hn : ∀ (j : Nat) (y : Rg), l[j]? = some y → ¬ y.id = v) : clsOf v l = (0, false) ∧ rclsOf v l = -1 := by
  induction l with
  | nil => exact ⟨rfl, rfl⟩
  | cons a l ih =>
    have h0 := hn 0 a rfl
    have := ih (fun j y hy => hn (j + 1) y (by simpa using hy))
    unfold clsOf rclsOf
    rw [if_neg h0, if_neg h0]
    exact this
theorem findAt_hit (s : ByteArray) (l : List Blk) (m k : Nat) (x : Blk) (hx : l[k]? = some x) (h : x.label.toList = s.toList) (hn : ∀ (j : Nat) (y : Blk), j < k → l[j]? = some y → ¬ y.label.toList = s.toList) : findAt s m l = ((m + k : Nat) : Int) := by
  induction l generalizing k m with
  | nil => simp at hx
  | cons a l ih =>
    cases k with
    | zero =>
      have : a = x := by simpa using hx
      subst this
      unfold findAt
      rw [if_pos h]
      rfl
    | succ k =>
      have h0 := hn 0 a (by omega) rfl
      have := ih (m + 1) k (by simpa using hx) (fun j y hj hy => hn (j + 1) y (by omega) (by simpa using hy))
      unfold findAt
      rw [if_neg h0, this]
      congr 1
      omega
theorem findAt_miss (s : ByteArray) (l : List Blk) (m : Nat) (hn : ∀ (j : Nat) (y : Blk), l[j]? = some y → ¬ y.label.toList = s.toList) : findAt s m l = -1 := by
  induction l generalizing m with
  | nil => rfl
  | cons a l ih =>
    have h0 := hn 0 a rfl
    unfold findAt
    rw [if_neg h0]
    exact ih (m + 1) (fun j y hy => hn (j + 1) y (by simpa using hy))
set_option maxHeartbeats 2000000 in
theorem ask23_v (f : Fun) (v : FunV) (x : Int) (w : World) (h : IsFun w f v) : Calls Try.prog 23 #[.agg (funR f v), .int .i64 x] w fun e w' => e = .returned (.tuple #[.int .i64 (clsOf x f.regs).1, .bool (clsOf x f.regs).2]) ∧ Below w.heap.size w w' := by
  have hm := h.regs.2.1
  have hl := h.regs.1
  have B0 : Below w.heap.size w (w.alloc (.cells (funR f v) 31)) := (Below.refl _ w).alloc (Nat.le_refl _) _
  have D := Lib.hid (And.intro (h.below B0) (And.intro (show w.heap.size ≤ (w.alloc (.cells (funR f v) 31)).heap.size by simp) (And.intro B0 (heap_alloc_new w (.cells (funR f v) 31)))))
  clear h B0
  obtain ⟨machine, name, regs, params, blocks⟩ := f
  obtain ⟨ra, rn, rc, pa, pn, pc, ba, bn, bc, rr⟩ := v
  unfold funR at D ⊢
  dsimp only at D hm hl ⊢
  obtain ⟨wa, hwa⟩ : ∃ wa, w.alloc (.cells #[.bool machine, .string name, .slice ra rn rc, .slice pa pn pc, .slice ba bn bc] 31) = wa := ⟨_, rfl⟩
  rw [hwa] at D
  have z : wa.cell? ⟨w.heap.size, 2, none⟩ = some (.slice ra rn rc) := cell_in D.out.2.2.2 2
  have HL := Lib.hid hl
  clear hl
  go_enter Try.func23, Try.ntmps23
  go_wp2_with fail
  clear z
  go_loopg [11] rn (fun gk u wr => ∃ k : Nat, k + gk = rn ∧ u = .int .i64 (k : Int) ∧ Hid (Below wa.heap.size wa wr ∧ ∀ (j : Nat) (y : Rg), j < k → regs[j]? = some y → ¬ y.id = x))
  case atStart => exact ⟨0, by omega, rfl, Below.refl _ _, fun j y hj => by omega⟩
  case round =>
    obtain ⟨k, hk, rfl, HH⟩ := hrel
    have z : wr.cell? ⟨w.heap.size, 2, none⟩ = some (.slice ra rn rc) := cell_in (kept_box D.out.2.2.2 HH.out.1) 2
    have BB := Lib.hid (D.out.2.2.1.trans (HH.out.1.mono D.out.2.1))
    by_cases hlt : k < rn
    · obtain ⟨b, o, rfl, hb, y, hy, c0, c1⟩ := (D.out.1.below HH.out.1).regs.at hlt
      have i1 : (k : Int) < (rn : Int) := by omega
      by_cases hq : y.id = x
      · have HX := Lib.hid (clsOf_hit x regs k y hy hq (fun j y hj hy => HH.out.2 j y hj hy))
        have HY := Lib.hid hq
        obtain ⟨id, cl⟩ := y
        dsimp only at c0 c1 hq
        subst hq
        clear hy
        go_wp2_with fail
        go_ret2
        rw [HX.out.1]
        exact ⟨rfl, (BB.out.alloc BB.out.size _)⟩
      · have RR : Hid (∀ (j : Nat) (y : Rg), j < k + 1 → regs[j]? = some y → ¬ y.id = x) := Lib.hid (fun j y2 hj h2 => by
          rcases Nat.lt_or_ge j k with h4 | h4
          · exact HH.out.2 j y2 h4 h2
          · obtain rfl : j = k := by omega
            rw [hy] at h2; injection h2 with h2; subst h2; exact hq)
        obtain ⟨id, cl⟩ := y
        dsimp only at c0 c1 hq
        clear hy
        go_wp2_with fail
        go_roundg (gk - 1)
        case measure => omega
        case rel => exact ⟨k + 1, by omega, by go_num, (HH.out.1.alloc HH.out.1.size _), RR.out⟩
    · obtain rfl : k = rn := by omega
      have hge : ¬ (k : Int) < (k : Int) := by omega
      have HX := Lib.hid (clsOf_miss x regs (fun j y hy => HH.out.2 j y (by
        have := (List.getElem?_eq_some_iff.1 hy).1; have := HL.out; omega) hy))
      go_wp2_with fail
      go_ret2
      rw [HX.out.1]
      exact ⟨rfl, BB.out⟩
set_option maxHeartbeats 2000000 in
theorem ask24_v (f : Fun) (v : FunV) (x : Int) (w : World) (h : IsFun w f v) : Calls Try.prog 24 #[.agg (funR f v), .int .i64 x] w fun e w' => e = .returned (.int .i64 (rclsOf x f.regs)) ∧ Below w.heap.size w w' := by
  have hm := h.regs.2.1
  have hl := h.regs.1
  have B0 : Below w.heap.size w (w.alloc (.cells (funR f v) 31)) := (Below.refl _ w).alloc (Nat.le_refl _) _
  have D := Lib.hid (And.intro (h.below B0) (And.intro (show w.heap.size ≤ (w.alloc (.cells (funR f v) 31)).heap.size by simp) (And.intro B0 (heap_alloc_new w (.cells (funR f v) 31)))))
  clear h B0
  obtain ⟨machine, name, regs, params, blocks⟩ := f
  obtain ⟨ra, rn, rc, pa, pn, pc, ba, bn, bc, rr⟩ := v
  unfold funR at D ⊢
  dsimp only at D hm hl ⊢
  obtain ⟨wa, hwa⟩ : ∃ wa, w.alloc (.cells #[.bool machine, .string name, .slice ra rn rc, .slice pa pn pc, .slice ba bn bc] 31) = wa := ⟨_, rfl⟩
  rw [hwa] at D
  have z : wa.cell? ⟨w.heap.size, 2, none⟩ = some (.slice ra rn rc) := cell_in D.out.2.2.2 2
  have HL := Lib.hid hl
  clear hl
  go_enter Try.func24, Try.ntmps24
  go_wp2_with fail
  clear z
  go_loopg [5] rn (fun gk u wr => ∃ k : Nat, k + gk = rn ∧ u = .int .i64 (k : Int) ∧ Hid (Below wa.heap.size wa wr ∧ ∀ (j : Nat) (y : Rg), j < k → regs[j]? = some y → ¬ y.id = x))
  case atStart => exact ⟨0, by omega, rfl, Below.refl _ _, fun j y hj => by omega⟩
  case round =>
    obtain ⟨k, hk, rfl, HH⟩ := hrel
    have z : wr.cell? ⟨w.heap.size, 2, none⟩ = some (.slice ra rn rc) := cell_in (kept_box D.out.2.2.2 HH.out.1) 2
    have BB := Lib.hid (D.out.2.2.1.trans (HH.out.1.mono D.out.2.1))
    by_cases hlt : k < rn
    · obtain ⟨b, o, rfl, hb, y, hy, c0, c1⟩ := (D.out.1.below HH.out.1).regs.at hlt
      have i1 : (k : Int) < (rn : Int) := by omega
      by_cases hq : y.id = x
      · have HX := Lib.hid (clsOf_hit x regs k y hy hq (fun j y hj hy => HH.out.2 j y hj hy))
        have HY := Lib.hid hq
        obtain ⟨id, cl⟩ := y
        dsimp only at c0 c1 hq
        subst hq
        clear hy
        go_wp2_with fail
        go_ret
        rw [HX.out.2]
        exact ⟨rfl, BB.out⟩
      · have RR : Hid (∀ (j : Nat) (y : Rg), j < k + 1 → regs[j]? = some y → ¬ y.id = x) := Lib.hid (fun j y2 hj h2 => by
          rcases Nat.lt_or_ge j k with h4 | h4
          · exact HH.out.2 j y2 h4 h2
          · obtain rfl : j = k := by omega
            rw [hy] at h2; injection h2 with h2; subst h2; exact hq)
        obtain ⟨id, cl⟩ := y
        dsimp only at c0 c1 hq
        clear hy
        go_wp2_with fail
        go_roundg (gk - 1)
        case measure => omega
        case rel => exact ⟨k + 1, by omega, by go_num, HH.out.1, RR.out⟩
    · obtain rfl : k = rn := by omega
      have hge : ¬ (k : Int) < (k : Int) := by omega
      have HX := Lib.hid (clsOf_miss x regs (fun j y hy => HH.out.2 j y (by
        have := (List.getElem?_eq_some_iff.1 hy).1; have := HL.out; omega) hy))
      go_wp2_with fail
      go_ret
      rw [HX.out.2]
      exact ⟨rfl, BB.out⟩
set_option maxHeartbeats 2000000 in
theorem ask36_v (f : Fun) (v : FunV) (x : ByteArray) (w : World) (h : IsFun w f v) : Calls Try.prog 36 #[.agg (funR f v), .string x] w fun e w' => e = .returned (.int .i64 (findAt x 0 f.blocks)) ∧ Below w.heap.size w w' := by
  have hm := h.blocks.2.1
  have hl := h.blocks.1
  have B0 : Below w.heap.size w (w.alloc (.cells (funR f v) 31)) := (Below.refl _ w).alloc (Nat.le_refl _) _
  have D := Lib.hid (And.intro (h.below B0) (And.intro (show w.heap.size ≤ (w.alloc (.cells (funR f v) 31)).heap.size by simp) (And.intro B0 (heap_alloc_new w (.cells (funR f v) 31)))))
  clear h B0
  obtain ⟨machine, name, regs, params, blocks⟩ := f
  obtain ⟨ra, rn, rc, pa, pn, pc, ba, bn, bc, rr⟩ := v
  unfold funR at D ⊢
  dsimp only at D hm hl ⊢
  obtain ⟨wa, hwa⟩ : ∃ wa, w.alloc (.cells #[.bool machine, .string name, .slice ra rn rc, .slice pa pn pc, .slice ba bn bc] 31) = wa := ⟨_, rfl⟩
  rw [hwa] at D
  have z : wa.cell? ⟨w.heap.size, 4, none⟩ = some (.slice ba bn bc) := cell_in D.out.2.2.2 4
  have HL := Lib.hid hl
  clear hl
  go_enter Try.func36, Try.ntmps36
  go_wp2_with fail
  clear z
  go_loopg [10] bn (fun gk u wr => ∃ k : Nat, k + gk = bn ∧ u = .int .i64 (k : Int) ∧ Hid (Below wa.heap.size wa wr ∧ ∀ (j : Nat) (y : Blk), j < k → blocks[j]? = some y → ¬ y.label.toList = x.toList))
  case atStart => exact ⟨0, by omega, rfl, Below.refl _ _, fun j y hj => by omega⟩
  case round =>
    obtain ⟨k, hk, rfl, HH⟩ := hrel
    have z : wr.cell? ⟨w.heap.size, 4, none⟩ = some (.slice ba bn bc) := cell_in (kept_box D.out.2.2.2 HH.out.1) 4
    have BB := Lib.hid (D.out.2.2.1.trans (HH.out.1.mono D.out.2.1))
    by_cases hlt : k < bn
    · obtain ⟨b, o, rfl, hb, y, hy, hi, c0, c1, c2, c3⟩ := (D.out.1.below HH.out.1).blocks.at hlt
      have i1 : (k : Int) < (bn : Int) := by omega
      by_cases hq : y.label.toList = x.toList
      · have HX := Lib.hid (findAt_hit x blocks 0 k y hy hq (fun j y hj hy => HH.out.2 j y hj hy))
        have HY := Lib.hid hq
        clear hi
        obtain ⟨label, edge, ins, code⟩ := y
        dsimp only at c0 c1 c2 c3 hq
        generalize rr k = r at c2 c3
        obtain ⟨ia, il, ic, ka, kn, kc, R⟩ := r
        dsimp only at c2 c3
        clear hy
        go_wp2_with fail
        go_ret
        rw [HX.out, Nat.zero_add]
        exact ⟨rfl, (BB.out.alloc BB.out.size _)⟩
      · have RR : Hid (∀ (j : Nat) (y : Blk), j < k + 1 → blocks[j]? = some y → ¬ y.label.toList = x.toList) := Lib.hid (fun j y2 hj h2 => by
          rcases Nat.lt_or_ge j k with h4 | h4
          · exact HH.out.2 j y2 h4 h2
          · obtain rfl : j = k := by omega
            rw [hy] at h2; injection h2 with h2; subst h2; exact hq)
        clear hi
        obtain ⟨label, edge, ins, code⟩ := y
        dsimp only at c0 c1 c2 c3 hq
        generalize rr k = r at c2 c3
        obtain ⟨ia, il, ic, ka, kn, kc, R⟩ := r
        dsimp only at c2 c3
        have hqb : (label.toList == x.toList) = false := by rw [beq_eq_false_iff_ne]; exact hq
        clear hy
        go_wp2_with fail
        go_roundg (gk - 1)
        case measure => omega
        case rel => exact ⟨k + 1, by omega, by go_num, (HH.out.1.alloc HH.out.1.size _), RR.out⟩
    · obtain rfl : k = bn := by omega
      have hge : ¬ (k : Int) < (k : Int) := by omega
      have HX := Lib.hid (findAt_miss x blocks 0 (fun j y hy => HH.out.2 j y (by
        have := (List.getElem?_eq_some_iff.1 hy).1; have := HL.out; omega) hy))
      go_wp2_with fail
      go_ret
      rw [HX.out]
      exact ⟨rfl, BB.out⟩
set_option maxHeartbeats 2000000 in
theorem ask37_v (f : Fun) (v : FunV) (x : ByteArray) (w : World) (h : IsFun w f v) : Calls Try.prog 37 #[.agg (funR f v), .string x] w fun e w' => e = .returned (.int .i64 (findAt x 0 f.blocks)) ∧ Below w.heap.size w w' := by
  have hm := h.blocks.2.1
  have hl := h.blocks.1
  have B0 : Below w.heap.size w (w.alloc (.cells (funR f v) 31)) := (Below.refl _ w).alloc (Nat.le_refl _) _
  have D := Lib.hid (And.intro (h.below B0) (And.intro (show w.heap.size ≤ (w.alloc (.cells (funR f v) 31)).heap.size by simp) (And.intro B0 (heap_alloc_new w (.cells (funR f v) 31)))))
  clear h B0
  obtain ⟨machine, name, regs, params, blocks⟩ := f
  obtain ⟨ra, rn, rc, pa, pn, pc, ba, bn, bc, rr⟩ := v
  unfold funR at D ⊢
  dsimp only at D hm hl ⊢
  obtain ⟨wa, hwa⟩ : ∃ wa, w.alloc (.cells #[.bool machine, .string name, .slice ra rn rc, .slice pa pn pc, .slice ba bn bc] 31) = wa := ⟨_, rfl⟩
  rw [hwa] at D
  have z : wa.cell? ⟨w.heap.size, 4, none⟩ = some (.slice ba bn bc) := cell_in D.out.2.2.2 4
  have HL := Lib.hid hl
  clear hl
  go_enter Try.func37, Try.ntmps37
  go_wp2_with fail
  clear z
  go_loopg [5] bn (fun gk u wr => ∃ k : Nat, k + gk = bn ∧ u = .int .i64 (k : Int) ∧ Hid (Below wa.heap.size wa wr ∧ ∀ (j : Nat) (y : Blk), j < k → blocks[j]? = some y → ¬ y.label.toList = x.toList))
  case atStart => exact ⟨0, by omega, rfl, Below.refl _ _, fun j y hj => by omega⟩
  case round =>
    obtain ⟨k, hk, rfl, HH⟩ := hrel
    have z : wr.cell? ⟨w.heap.size, 4, none⟩ = some (.slice ba bn bc) := cell_in (kept_box D.out.2.2.2 HH.out.1) 4
    have BB := Lib.hid (D.out.2.2.1.trans (HH.out.1.mono D.out.2.1))
    by_cases hlt : k < bn
    · obtain ⟨b, o, rfl, hb, y, hy, hi, c0, c1, c2, c3⟩ := (D.out.1.below HH.out.1).blocks.at hlt
      have i1 : (k : Int) < (bn : Int) := by omega
      by_cases hq : y.label.toList = x.toList
      · have HX := Lib.hid (findAt_hit x blocks 0 k y hy hq (fun j y hj hy => HH.out.2 j y hj hy))
        have HY := Lib.hid hq
        clear hi
        obtain ⟨label, edge, ins, code⟩ := y
        dsimp only at c0 c1 c2 c3 hq
        generalize rr k = r at c2 c3
        obtain ⟨ia, il, ic, ka, kn, kc, R⟩ := r
        dsimp only at c2 c3
        clear hy
        go_wp2_with fail
        go_ret
        rw [HX.out, Nat.zero_add]
        exact ⟨rfl, BB.out⟩
      · have RR : Hid (∀ (j : Nat) (y : Blk), j < k + 1 → blocks[j]? = some y → ¬ y.label.toList = x.toList) := Lib.hid (fun j y2 hj h2 => by
          rcases Nat.lt_or_ge j k with h4 | h4
          · exact HH.out.2 j y2 h4 h2
          · obtain rfl : j = k := by omega
            rw [hy] at h2; injection h2 with h2; subst h2; exact hq)
        clear hi
        obtain ⟨label, edge, ins, code⟩ := y
        dsimp only at c0 c1 c2 c3 hq
        generalize rr k = r at c2 c3
        obtain ⟨ia, il, ic, ka, kn, kc, R⟩ := r
        dsimp only at c2 c3
        have hqb : (label.toList == x.toList) = false := by rw [beq_eq_false_iff_ne]; exact hq
        clear hy
        go_wp2_with fail
        go_roundg (gk - 1)
        case measure => omega
        case rel => exact ⟨k + 1, by omega, by go_num, HH.out.1, RR.out⟩
    · obtain rfl : k = bn := by omega
      have hge : ¬ (k : Int) < (k : Int) := by omega
      have HX := Lib.hid (findAt_miss x blocks 0 (fun j y hy => HH.out.2 j y (by
        have := (List.getElem?_eq_some_iff.1 hy).1; have := HL.out; omega) hy))
      go_wp2_with fail
      go_ret
      rw [HX.out]
      exact ⟨rfl, BB.out⟩
end Go.Proofs.Ytocelaebokikcaa
