/- The program's each: a set's numbers, rising, handed on as long as they are wanted. -/
import Derived.Test.YtgckoiepclgofaaDoorNext
import Derived.RangeFuncNested
import Derived.RangeFuncBound
import Derived.RangeFuncCalls
import Derived.RangeFuncLeaves
import Derived.RangeFuncBox
import Derived.Shelf.Abstract
import Derived.Shelf.RegionOpen
import Derived.OwnWalkIn
import Derived.TacticsInMore
import Derived.LoopNIn
import Derived.LoopIn
namespace Go.Proofs.YtgckoiepclgofaaDoor
open Go.ChangeShapes Go.WideShapes Go.RowKit
set_option linter.unusedVariables false
attribute [local go_sem] Oper.semAt_some

/-- How much is still to come, by what next handed back. -/
def left (n : Nat) (v u : Value) : Nat := match v, u with
  | .int _ i, .bool true => n + 1 - i.toNat
  | _, _ => 0
theorem left_more (n i : Nat) : left n (.int .i64 (i : Int)) (.bool true) = n + 1 - i := by simp [left]
theorem left_none (n : Nat) (v : Value) : left n v (.bool false) = 0 := by unfold left; cases v <;> rfl
/-- What next hands back, as values. -/
def Nxt (bs : List Bool) (fr : Nat) (v u : Value) : Prop :=
  (∃ i : Nat, v = .int .i64 (i : Int) ∧ u = .bool true ∧ fr ≤ i ∧ has bs i = true ∧ ∀ j, fr ≤ j → j < i → has bs j = false) ∨ (v = .int .i64 0 ∧ u = .bool false ∧ ∀ j, fr ≤ j → has bs j = false)
theorem next_w (fr : Nat) (hfr : fr ≤ 1000) (B p g : Nat) (bs : List Bool) (w : World) (h : SetAt B w p g bs) (hG : Glob w) (n : Nat) :
    CallsIn Fence.wide n Tryd.prog 42 #[.pointer (some ⟨p, 0, none⟩), .int .i64 (fr : Int)] w fun e w' => w' = w ∧ ∃ v u, e = .returned (.tuple #[v, u]) ∧ Nxt bs fr v u := by
  refine callsIn_wide.2 ((next_v fr hfr B p g bs w h hG).mono ?_)
  rintro e w' ⟨h1, (⟨i, h2, h3⟩ | ⟨h2, h3⟩)⟩
  · exact ⟨h1, _, _, h2, .inl ⟨i, rfl, rfl, h3⟩⟩
  · exact ⟨h1, _, _, h2, .inr ⟨rfl, rfl, h3⟩⟩
theorem next_x (x : Int) (fr : Nat) (hx : x = (fr : Int)) (hfr : fr ≤ 1000) (B p g : Nat) (bs : List Bool) (w : World) (h : SetAt B w p g bs) (hG : Glob w) (n : Nat) :
    CallsIn Fence.wide n Tryd.prog 42 #[.pointer (some ⟨p, 0, none⟩), .int .i64 x] w fun e w' => w' = w ∧ ∃ v u, e = .returned (.tuple #[v, u]) ∧ Nxt bs fr v u := by
  subst hx; exact next_w fr hfr B p g bs w h hG n
set_option maxRecDepth 100000 in
set_option maxHeartbeats 1000000 in
theorem each_in (n : Nat) (l B p g : Nat) (bs : List Bool) (J Jx : List Nat → World → Prop)
    (hJ : ∀ t W, J t W → SetAt B W p g bs ∧ Glob W)
    (hY : ∀ (x : Nat) W, has bs x = true → J (low bs x) W → YieldAt Fence.wide (n - 1) Tryd.prog l #[.int .i64 (x : Int)] W fun e W' =>
      (e = .returned (.bool true) ∧ J (low bs (x + 1)) W') ∨ (e = .returned (.bool false) ∧ Jx (low bs (x + 1)) W'))
    (W : World) (h0 : J [] W) :
    CallsIn Fence.wide n Tryd.prog 34 #[.pointer (some ⟨p, 0, none⟩), .func (.yield l) #[] #[]] W fun e W' => (∃ v, e = .returned v) ∧
      (J (all bs) W' ∨ ∃ x, has bs x = true ∧ Jx (low bs (x + 1)) W') := by
  have hsm := (hJ _ _ h0).1.small
  have HJ := Lib.hid (And.intro hJ (And.intro hY h0))
  clear hJ hY h0
  refine callsIn_of_wp Tryd.func34 rfl trivial ?_ rfl
  simp only [Tryd.ntmps34, List.size_toArray, List.length_cons, List.length_nil, Nat.reduceAdd, Nat.reduceSub, Array.replicate_succ, Array.replicate_zero, List.push_toArray, List.append_toArray, List.nil_append, List.cons_append]
  gi_wp2_with fail
  refine ⟨trivial, (fun h => by cases h), (next_w 0 (by omega) B p g bs W (HJ.out.1 _ _ HJ.out.2.2).1 (HJ.out.1 _ _ HJ.out.2.2).2 _).mono ?_⟩
  rintro e w1 ⟨rfl, v, u, rfl, hnx⟩
  have HN := Lib.hid hnx
  clear hnx
  gi_wp2_with fail
  gi_loopw [4, 5] (fun v u wr => ∃ fr : Nat, fr ≤ 301 ∧ Hid (Nxt bs fr v u ∧ J (low bs fr) wr)) (fun v u wr => left bs.length v u)
  case atStart => exact ⟨0, by omega, HN.out, HJ.out.2.2⟩
  case round =>
    obtain ⟨fr, hfr, HH⟩ := hrel
    rcases HH.out.1 with ⟨i, rfl, rfl, h1, h2, h3⟩ | ⟨rfl, rfl, h1⟩
    · have hi := has_lt h2
      have hJi : J (low bs i) wr := by rw [low_to h1 h3]; exact HH.out.2
      obtain ⟨fn, tmps, assign, body, hy, hR⟩ := HJ.out.2.1 i wr h2 hJi
      have HI := Lib.hid (And.intro h1 h2)
      clear h1 h2 h3 hJi
      gi_wp2_with fail
      refine ⟨(fun h => by cases h), hR.mono ?_⟩
      rintro e w3 (⟨rfl, hJ3⟩ | ⟨rfl, hJx3⟩)
      · have H3 := Lib.hid hJ3
        clear hJ3 hy hR
        gi_wp2_with fail
        refine ⟨trivial, (fun h => by cases h), (next_x ((i : Int) + 1) (i + 1) rfl (by omega) B p g bs w3 (HJ.out.1 _ _ H3.out).1 (HJ.out.1 _ _ H3.out).2 _).mono ?_⟩
        rintro e w4 ⟨rfl, v', u', rfl, hnx⟩
        have H4 := Lib.hid hnx
        clear hnx
        gi_wp2_with fail
        go_roundw
        case rel => exact ⟨i + 1, by omega, H4.out, H3.out⟩
        case measure =>
          rcases H4.out with ⟨k, rfl, rfl, h1, h2, _⟩ | ⟨rfl, rfl, _⟩
          · have := has_lt h2
            show left bs.length (.int .i64 (k : Int)) (.bool true) < left bs.length (.int .i64 (i : Int)) (.bool true)
            rw [left_more, left_more]; omega
          · show left bs.length (.int .i64 0) (.bool false) < left bs.length (.int .i64 (i : Int)) (.bool true)
            rw [left_none, left_more]; omega
      · have H3 := Lib.hid hJx3
        clear hJx3 hy hR
        gi_wp2_with fail
        go_end0
        exact ⟨⟨_, rfl⟩, .inr ⟨i, HI.out.2, H3.out⟩⟩
    · have H1 := Lib.hid h1
      clear h1
      gi_wp2_with fail
      refine ⟨fun _ h => (by cases h), ?_⟩
      gi_wp2_with fail
      go_end0
      refine ⟨⟨_, rfl⟩, .inl ?_⟩
      rw [← low_none H1.out]; exact HH.out.2
end Go.Proofs.YtgckoiepclgofaaDoor
