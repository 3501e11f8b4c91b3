/- Targets and places as plain data; what it is that memory holds them; the small questions. -/
import Derived.Test.YtmfodjdgekafoaaDeciRef
import Derived.WalkKit
import Derived.Below
import Derived.Lib.Hide
import Derived.Deep.QuietTactic
import Derived.Deep.Slices
import Derived.Laws.StructEq
import Derived.ChangeKeysEq
import Derived.BigQuiet
namespace Go.Proofs.Ytmfodjdgekafoaa
open Go.ChangeShapes Go.WideShapes Go.RowKit
set_option linter.unusedVariables false
set_option maxRecDepth 20000

theorem spot_lt {w : World} {a : Addr} {v : Value} (h : w.cell? a = some v) : a.block < w.heap.size := by
  unfold World.cell? at h
  cases hb : w.heap[a.block]? with
  | none => simp [hb] at h
  | some c => exact (Array.getElem?_eq_some_iff.1 hb).1
theorem add_at (b o j : Nat) : (⟨b, o, none⟩ : Addr).add j = ⟨b, o + j, none⟩ := by unfold Addr.add; split <;> simp_all
theorem Below.drewQ {B : Nat} {a w : World} (h : Below B a w) (n : Nat) : Below B a (w.drewN n) := ⟨h.os, h.tape, h.output, h.size, h.block⟩
theorem cell_in {w : World} {g : Nat} {cs : Array Value} {t : TypeId} (h : w.heap[g]? = some (.cells cs t (0, 0))) (j : Nat) : w.cell? ⟨g, j, none⟩ = cs[j]? := by
  simp only [World.cell?, h]
  simp
theorem froz_in {w : World} {g : Nat} {cs : Array Value} {t : TypeId} (h : w.heap[g]? = some (.cells cs t (0, 0))) (j : Nat) : w.frozen? ⟨g, j, none⟩ = false := by
  simp only [World.frozen?, h]
  simp
theorem kept_box {w w1 : World} {cs : Array Value} {t : TypeId} {g : Nat} {fr : Nat × Nat} (h : w.heap[g]? = some (.cells cs t fr)) (hb : Below w.heap.size w w1) : w1.heap[g]? = some (.cells cs t fr) := by
  rw [hb.block g (Array.getElem?_eq_some_iff.1 h).1]; exact h
theorem box_two (w : World) (a b : Obj) : ((w.alloc a).alloc b).heap[w.heap.size]? = some a ∧ ((w.alloc a).alloc b).heap[w.heap.size + 1]? = some b := by
  constructor
  · rw [Below.heap_alloc _ _ _ (by simp)]; exact heap_alloc_new w a
  · have := heap_alloc_new (w.alloc a) b
    simpa using this
theorem below_drewN (w : World) (n : Nat) : Below w.heap.size w (w.drewN n) := ⟨rfl, rfl, rfl, Nat.le_refl _, fun _ _ => rfl⟩
/-- Ints: what a slice holds. -/
def IsInts (w : World) (A : Option Addr) (n : Nat) (l : List Int) : Prop :=
  l.length = n ∧ n ≤ 9223372036854775807 ∧ (l = [] ∨ ∃ b o, A = some ⟨b, o, none⟩ ∧ b < w.heap.size ∧ ∀ k (h : k < l.length), w.cell? ⟨b, o + k, none⟩ = some (.int .i64 l[k]))
theorem IsInts.below {w w' : World} {A : Option Addr} {n : Nat} {l : List Int} (h : IsInts w A n l) (hb : Below w.heap.size w w') : IsInts w' A n l := by
  obtain ⟨h1, hm, h | ⟨b, o, rfl, hlt, hc⟩⟩ := h
  · exact ⟨h1, hm, .inl h⟩
  · refine ⟨h1, hm, .inr ⟨b, o, rfl, Nat.lt_of_lt_of_le hlt hb.size, fun k hk => ?_⟩⟩
    obtain c0 := hc k hk
    exact (hb.cell hlt).trans c0
theorem IsInts.at {w : World} {A : Option Addr} {n : Nat} {l : List Int} (h : IsInts w A n l) {k : Nat} (hk : k < n) : ∃ b o, A = some ⟨b, o, none⟩ ∧ b < w.heap.size ∧ ∃ x, l[k]? = some x ∧ w.cell? ⟨b, o + k, none⟩ = some (.int .i64 x) := by
  obtain ⟨h1, hm, h | ⟨b, o, rfl, hlt, hc⟩⟩ := h
  · rw [h] at h1; simp at h1; omega
  · exact ⟨b, o, rfl, hlt, l[k]'(by omega), List.getElem?_eq_getElem (by omega), hc k (by omega)⟩
structure Tgt where
  r0 : Int
  r1 : Int
  c0 : List Int
  c1 : List Int
  slots : Int
structure TgtV where
  a0 : Option Addr
  n0 : Nat
  m0 : Nat
  a1 : Option Addr
  n1 : Nat
  m1 : Nat
def tgtR (i : Tgt) (r : TgtV) : Array Value := #[.int .i64 i.r0, .int .i64 i.r1, .slice r.a0 r.n0 r.m0, .slice r.a1 r.n1 r.m1, .int .i64 i.slots]
structure IsTgt (w : World) (i : Tgt) (r : TgtV) : Prop where
  c0 : IsInts w r.a0 r.n0 i.c0
  c1 : IsInts w r.a1 r.n1 i.c1
theorem IsTgt.below {w w' : World} {i : Tgt} {r : TgtV} (h : IsTgt w i r) (hb : Below w.heap.size w w') : IsTgt w' i r := ⟨h.c0.below hb, h.c1.below hb⟩
/-- A class's registers, and its list. -/
def Tgt.r (i : Tgt) (c : Nat) : Int := if c = 0 then i.r0 else i.r1
def Tgt.c (i : Tgt) (c : Nat) : List Int := if c = 0 then i.c0 else i.c1
def TgtV.a (i : TgtV) (c : Nat) : Option Addr := if c = 0 then i.a0 else i.a1
def TgtV.n (i : TgtV) (c : Nat) : Nat := if c = 0 then i.n0 else i.n1
def TgtV.m (i : TgtV) (c : Nat) : Nat := if c = 0 then i.m0 else i.m1
theorem IsTgt.ints {w : World} {i : Tgt} {r : TgtV} (h : IsTgt w i r) (c : Nat) : IsInts w (r.a c) (r.n c) (i.c c) := by
  unfold Tgt.c TgtV.a TgtV.n
  by_cases e : c = 0
  · simp only [if_pos e]; exact h.c0
  · simp only [if_neg e]; exact h.c1
theorem tgt_r (i : Tgt) (r : TgtV) (c : Nat) (hc : c < 2) : (tgtR i r)[c]? = some (.int .i64 (i.r c)) := by
  have : c = 0 ∨ c = 1 := by omega
  rcases this with rfl | rfl <;> rfl
theorem tgt_c (i : Tgt) (r : TgtV) (c : Nat) (hc : c < 2) : (tgtR i r)[2 + c]? = some (.slice (r.a c) (r.n c) (r.m c)) := by
  have : c = 0 ∨ c = 1 := by omega
  rcases this with rfl | rfl <;> rfl
theorem up_v (n l : Int) (b : Bool) (hb : (decide (0 ≤ n) && decide (n ≤ l)) = b) (w : World) : Calls Try.prog 23 #[.int .i64 n, .int .i64 l] w fun e w' => e = .returned (.bool b) ∧ w = w' := by
  subst hb
  cases h0 : decide (0 ≤ n) <;> cases h1 : decide (n ≤ l)
  all_goals
    go_enter Try.func23, Try.ntmps23
    go_wp2_with fail
    go_ret
    exact ⟨rfl, rfl⟩
theorem below_v (n l : Int) (b : Bool) (hb : (decide (0 ≤ n) && decide (n < l)) = b) (w : World) : Calls Try.prog 25 #[.int .i64 n, .int .i64 l] w fun e w' => e = .returned (.bool b) ∧ w = w' := by
  subst hb
  cases h0 : decide (0 ≤ n) <;> cases h1 : decide (n < l)
  all_goals
    go_enter Try.func25, Try.ntmps25
    go_wp2_with fail
    go_ret
    exact ⟨rfl, rfl⟩
theorem class_v (n : Int) (b : Bool) (hb : (decide (0 ≤ n) && decide (n < 2)) = b) (w : World) : Calls Try.prog 29 #[.int .i64 n] w fun e w' => e = .returned (.bool b) ∧ w = w' := by
  subst hb
  cases h0 : decide (0 ≤ n) <;> cases h1 : decide (n < 2)
  all_goals
    go_enter Try.func29, Try.ntmps29
    go_wp2_with fail
    go_ret
    exact ⟨rfl, rfl⟩
/-- A class's letter. -/
def letter (n : Int) : List UInt8 := if n = 0 then [103] else if n = 1 then [120] else []
theorem letter_v (n : Int) (s : ByteArray) (hs : (⟨(letter n).toArray⟩ : ByteArray) = s) (w : World) : Calls Try.prog 18 #[.int .i64 n] w fun e w' => e = .returned (.string s) ∧ w = w' := by
  by_cases h0 : n = 0
  · subst h0; subst hs
    go_enter Try.func18, Try.ntmps18
    go_wp2_with fail
    refine (class_v 0 true (by decide) _).mono ?_
    rintro e w1 ⟨rfl, rfl⟩
    go_wp2_with fail
    go_ret
    exact ⟨rfl, rfl⟩
  by_cases h1 : n = 1
  · subst h1; subst hs
    go_enter Try.func18, Try.ntmps18
    go_wp2_with fail
    refine (class_v 1 true (by decide) _).mono ?_
    rintro e w1 ⟨rfl, rfl⟩
    go_wp2_with fail
    go_ret
    exact ⟨rfl, rfl⟩
  · have hb : (decide (0 ≤ n) && decide (n < 2)) = false := by
      rw [← Bool.decide_and, decide_eq_false_iff_not]; omega
    have he : letter n = [] := by unfold letter; rw [if_neg h0, if_neg h1]
    rw [he] at hs
    subst hs
    go_enter Try.func18, Try.ntmps18
    go_wp2_with fail
    refine (class_v n false hb _).mono ?_
    rintro e w1 ⟨rfl, rfl⟩
    go_wp2_with fail
    go_ret
    exact ⟨rfl, rfl⟩
/-- Is a place a register of a class? -/
def regB (k c : Int) : Bool := decide (k = 2) && (decide (0 ≤ c) && decide (c < 2))
theorem reg_v (k c n : Int) (b : Bool) (hb : regB k c = b) (w : World) : Calls Try.prog 24 #[.agg #[.int .i64 k, .int .i64 c, .int .i64 n]] w fun e w' => e = .returned (.bool b) ∧ Below w.heap.size w w' := by
  have B := Lib.hid ((Below.refl _ w).alloc (Nat.le_refl _) (.cells #[.int .i64 k, .int .i64 c, .int .i64 n] 28))
  by_cases h2 : k = 2
  · subst h2
    have hb' : (decide (0 ≤ c) && decide (c < 2)) = b := by rw [← hb]; rfl
    have HB := Lib.hid hb'
    clear hb hb'
    go_enter Try.func24, Try.ntmps24
    go_wp2_with fail
    refine (class_v c b HB.out _).mono ?_
    rintro e w1 ⟨rfl, rfl⟩
    go_wp2_with fail
    go_ret
    exact ⟨rfl, B.out⟩
  · have hb' : b = false := by rw [← hb]; unfold regB; rw [decide_eq_false h2]; rfl
    have d1 : (k == 2) = false := by rw [beq_eq_false_iff_ne]; exact h2
    subst hb'
    clear hb
    go_enter Try.func24, Try.ntmps24
    go_wp2_with fail
    go_ret
    exact ⟨rfl, B.out⟩
end Go.Proofs.Ytmfodjdgekafoaa
