/- A loop over a slice's operands, handed on by the library's Values: what its body must keep, and what holds behind it. -/
import Derived.Test.YtocelaebokikcaaOpd
import Derived.RangeFuncNested
import Derived.RangeFuncBound
import Derived.RangeFuncCalls
import Derived.RangeFuncLeaves
import Derived.RangeFuncBox
import Derived.Shelf.Abstract
import Derived.Shelf.RegionOpen
import Derived.OwnWalkIn
import Derived.TacticsInMore
import Derived.LoopNIn
import Derived.LoopIn
namespace Go.Proofs.Ytocelaebokikcaa
open Go.ChangeShapes Go.WideShapes Go.RowKit
set_option linter.unusedVariables false
attribute [local go_sem] Oper.semAt_some

def opV (x : Opn) : Value := .agg #[.int .i64 x.k, .int .i64 x.c, .int .i64 x.n, .int .i64 x.t]
def toCome (N : Nat) (u : Value) : Nat := match u with
  | .int _ i => N - i.toNat
  | _ => 0
theorem toCome_int (N k : Nat) : toCome N (.int .i64 (k : Int)) = N - k := by simp [toCome]
set_option maxRecDepth 100000 in
set_option maxHeartbeats 1000000 in
theorem values_in (n : Nat) (l V : Nat) (A : Option Addr) (N c : Nat) (ops : List Opn) (J Jx : Nat → World → Prop) (hN : N ≤ 1048576)
    (hJ : ∀ k W, J k W → W.heap[V]? = some (.cells #[.slice A N c] 28 (0, 0)) ∧ IsOps W A N ops)
    (hJa : ∀ k W o, J k W → J k (W.alloc o))
    (hY : ∀ (k : Nat) (x : Opn) W, ops[k]? = some x → J k W → YieldAt Fence.wide (n - 1) Try.prog l #[opV x] W fun e W' =>
      (e = .returned (.bool true) ∧ J (k + 1) W') ∨ (e = .returned (.bool false) ∧ Jx (k + 1) W'))
    (W : World) (h0 : J 0 W) :
    CallsIn Fence.wide n Try.prog 70 #[.func (.yield l) #[] #[], .pointer (some ⟨V, 0, none⟩)] W fun e W' => (∃ v, e = .returned v) ∧
      (J N W' ∨ ∃ k, k < N ∧ Jx (k + 1) W') := by
  have b0 : W.cell? ⟨V, 0, none⟩ = some (.slice A N c) := cell_in (hJ _ _ h0).1 0
  have HJ := Lib.hid (And.intro hJ (And.intro hJa (And.intro hY h0)))
  clear hJ hJa hY h0
  refine callsIn_of_wp Try.func70 rfl trivial ?_ rfl
  simp only [Try.ntmps70, List.size_toArray, List.length_cons, List.length_nil, Nat.reduceAdd, Nat.reduceSub, Array.replicate_succ, Array.replicate_zero, List.push_toArray, List.append_toArray, List.nil_append, List.cons_append]
  gi_wp2_with fail
  clear b0
  gi_loopw [7] (fun u wr => ∃ k : Nat, k ≤ N ∧ u = .int .i64 (k : Int) ∧ Hid (J k wr)) (fun u wr => toCome N u)
  case atStart => exact ⟨0, by omega, rfl, HJ.out.2.2.2⟩
  case round =>
    obtain ⟨k, hk, rfl, HH⟩ := hrel
    by_cases hlt : k < N
    · have i1 : (k : Int) < (N : Int) := by omega
      obtain ⟨b, o, x, rfl, hb, hx, c0, c1, c2, c3⟩ := ops_at (HJ.out.1 _ _ HH.out).2 hlt
      have HA := Lib.hid (HJ.out.2.1 k wr (.cells #[.int .i64 x.k, .int .i64 x.c, .int .i64 x.n, .int .i64 x.t] 44) HH.out)
      obtain ⟨fn, tmps, assign, body, hy, hR⟩ := HJ.out.2.2.1 k x _ hx HA.out
      have HX := Lib.hid hx
      clear hx
      unfold opV at hy
      gi_wp2_with fail
      refine ⟨(fun h => by cases h), hR.mono ?_⟩
      rintro e w3 (⟨rfl, hJ3⟩ | ⟨rfl, hJx3⟩)
      · have H3 := Lib.hid hJ3
        clear hJ3 hy hR
        gi_wp2_with fail
        go_roundw
        case rel => exact ⟨k + 1, by omega, by go_num, H3.out⟩
        case measure =>
          have e1 : toCome N (.int .i64 (k : Int)) = N - k := toCome_int N k
          have e2 : toCome N (.int .i64 ((k : Int) + 1)) = N - (k + 1) := toCome_int N (k + 1)
          ((show toCome N (.int .i64 ((k : Int) + 1)) < toCome N (.int .i64 (k : Int)); rw [e1, e2]; omega))
      · have H3 := Lib.hid hJx3
        clear hJx3 hy hR
        gi_wp2_with fail
        (try simp only [Exit.inBlock, Exit.then])
        refine bodyPost_ret (results_none rfl _ _ _) rfl ?_
        exact ⟨⟨_, rfl⟩, .inr ⟨k, hlt, H3.out⟩⟩
    · obtain rfl : k = N := by omega
      have hge : ¬ (k : Int) < (k : Int) := by omega
      gi_wp2_with fail
      go_end0
      exact ⟨⟨_, rfl⟩, .inl HH.out⟩
/-- The loop's record. -/
def lp (fn : FuncId) (tmps : Array Value) (t : Tmp) (assign body : Code) (D : Nat) (s : LoopState) (c : Option Code) : Loop :=
  { state := s, pending := c, fn := fn, tmps := tmps, params := #[t], assign := assign, body := body, defers := D }
/-- The record lies in block b + 1, and nothing is deferred in block b. -/
def Rec (W : World) (b : Nat) (r : Loop) : Prop := W.heap[b + 1]? = some (.loop r) ∧ W.heap[b]? = some (.deferred (some []))
theorem Rec.turn {W : World} {b : Nat} {r : Loop} (h : Rec W b r) (r' : Loop) : Rec (W.putObj (b + 1) (.loop r')) b r' :=
  ⟨World.putObj_heap_same (Array.getElem?_eq_some_iff.1 h.1).1, (World.putObj_heap_other (by omega)).trans h.2⟩
theorem Rec.kept {W W' : World} {b : Nat} {r : Loop} (h : Rec W b r) (hk : KeepsFrom b W W') : Rec W' b r :=
  ⟨hk.same _ _ (by omega) h.1 rfl, hk.same _ _ (Nat.le_refl _) h.2 rfl⟩
theorem Rec.alloc {W : World} {b : Nat} {r : Loop} (h : Rec W b r) (o : Obj) : Rec (W.alloc o) b r :=
  ⟨(Below.heap_alloc _ _ _ (Array.getElem?_eq_some_iff.1 h.1).1).trans h.1, (Below.heap_alloc _ _ _ (Array.getElem?_eq_some_iff.1 h.2).1).trans h.2⟩
theorem Rec.fresh (w : World) (r : Loop) : Rec ((w.alloc (.deferred (some []))).alloc (.loop r)) w.heap.size r := by
  have h := World.alloc_heap_new (w.alloc (.deferred (some []))) (.loop r)
  rw [World.size_alloc] at h
  exact ⟨h, (Below.heap_alloc _ _ _ (by simp)).trans (World.alloc_heap_new w _)⟩
/-- The end of a round, by the way in which its body was left. -/
theorem round_end {W : World} {b : Nat} {fn : FuncId} {tmps : Array Value} {t : Tmp} {assign body : Code} {s : LoopState} {c : Option Code} (h : Rec W b (lp fn tmps t assign body b s c)) (jump : Option Code) :
    (Instr.endRound (b + 1) jump).run Try.prog W = .ok (.bool jump.isNone) (W.putObj (b + 1) (.loop (lp fn tmps t assign body b (if jump.isNone then .ready else .done) jump))) := run_endRound jump h.1
theorem range_v {n : Nat} {op : Operand} {t : Tmp} {assign body : Code} {Q : Exit → Act → World → Prop} {a : Act} {w : World}
    (V : Nat) (A : Option Addr) (N c0 : Nat) (ops : List Opn) (hN : N ≤ 1048576) (hg : a.eval op = .func (.func 70) #[] #[.pointer (some ⟨V, 0, none⟩)])
    (I : List Opn → World → Prop) (Ix : Code → List Opn → World → Prop)
    (hI : OwnFrom w.heap.size I) (hIx : ∀ c, OwnFrom w.heap.size (Ix c))
    (hS : ∀ s W, I s W → W.heap[V]? = some (.cells #[.slice A N c0] 28 (0, 0)) ∧ IsOps W A N ops) (h0 : I [] w) (a₁ : Opn → Act)
    (hassign : ∀ (l : Nat) (x : Opn) (W : World) (K : Act → World → Prop), K (a₁ x) W →
      assign.wpIn (Fence.wide.inRound l) (n - 1 - 1) Try.prog (Exit.then K (fun _ _ _ => False)) { tmps := a.tmps.setIfInBounds t (opV x), defers := [] } W)
    (hbody : ∀ (l k : Nat) (x : Opn) (W : World), ops[k]? = some x → I (ops.take k) W →
      body.wpIn (Fence.wide.inRound l) (n - 1 - 1) Try.prog (ownPostG w.heap.size (fun _ _ => True) I Ix (ops.take (k + 1)) W) (a₁ x) W)
    (hdone : ∀ (D : Nat) (W : World), w.heap.size ≤ D → I (ops.take N) W → W.heap[D]? = some (.deferred (some [])) → Q .normal { a with defers := { target := .collected D, args := #[] } :: a.defers } W)
    (hstop : ∀ (D : Nat) (c : Code) (k : Nat) (W : World), w.heap.size ≤ D → k < N → Ix c (ops.take (k + 1)) W → W.heap[D]? = some (.deferred (some [])) →
      c.wpIn Fence.wide n Try.prog Q { a with defers := { target := .collected D, args := #[] } :: a.defers } W) :
    (Code.rangeFunc op #[t] assign body).wpIn Fence.wide n Try.prog Q a w := by
  refine wpIn_rangeFunc fun fn hfn => ?_
  have hnew := Rec.fresh w (lp fn a.tmps t assign body w.heap.size .ready none)
  have hI1 : I [] ((w.alloc (.deferred (some []))).alloc (.loop (lp fn a.tmps t assign body w.heap.size .ready none))) := hI.alloc _ (hI.alloc _ h0)
  refine ⟨w.heap.size + 1, [{ target := .collected w.heap.size, args := #[] }], (w.alloc (.deferred (some []))).alloc (.loop (lp fn a.tmps t assign body w.heap.size .ready none)), { target := .fn (.func 70) #[.pointer (some ⟨V, 0, none⟩)], args := #[.func (.yield (w.heap.size + 1)) #[] #[]] }, (w.alloc (.deferred (some []))).alloc (.loop (lp fn a.tmps t assign body w.heap.size .ready none)), 70,
    #[.func (.yield (w.heap.size + 1)) #[] #[], .pointer (some ⟨V, 0, none⟩)], (w.alloc (.deferred (some []))).alloc (.loop (lp fn a.tmps t assign body w.heap.size .ready none)),
    run_enterLoop_outer _ _ _ _ _, ?_, (fun _ _ => trivial), ?_, (fun h => by cases h), ?_⟩
  · simp only [resolve, hg]
    simp [go_sem]
  · simp [invoke, go_sem]
  · refine (values_in (n - 1) (w.heap.size + 1) V A N c0 ops
      (fun k W => I (ops.take k) W ∧ Rec W w.heap.size (lp fn a.tmps t assign body w.heap.size .ready none))
      (fun k W => ∃ c, Ix c (ops.take k) W ∧ Rec W w.heap.size (lp fn a.tmps t assign body w.heap.size .done (some c)))
      hN (fun s W h => hS _ W h.1) (fun s W o h => ⟨hI.alloc _ h.1, h.2.alloc o⟩) ?_ _ ⟨by rw [List.take_zero]; exact hI1, hnew⟩).mono ?_
    · rintro k x W hx ⟨hi, hr⟩
      have hy : (Instr.yield (w.heap.size + 1) #[opV x]).run Try.prog W = .ok (.round (w.heap.size + 1) fn (a.tmps.setIfInBounds t (opV x)) assign body) W := by
        have h := run_yield (P := Try.prog) (args := #[opV x]) hr.1 rfl
        simpa [lp] using h
      refine ⟨fn, _, assign, body, hy, roundIn_of_wpIn hfn (hassign _ x W _ ?_)⟩
      refine ⟨_, run_beginRound hr.1 rfl, ?_⟩
      have hr2 := hr.turn (lp fn a.tmps t assign body w.heap.size .busy none)
      have step : ∀ (jump : Option Code) (W3 : World), KeepsFrom w.heap.size (W.putObj (w.heap.size + 1) (.loop (lp fn a.tmps t assign body w.heap.size .busy none))) W3 →
          Rec W3 w.heap.size (lp fn a.tmps t assign body w.heap.size .busy none) := fun _ W3 hk => hr2.kept hk
      refine wpIn_mono (hbody _ k x _ hx (hI.putObj _ hi (by omega) hr.1 rfl)) ?_
      rintro e a3 W3 hp
      cases e with
      | normal =>
        have hr3 := step none W3 hp.1
        exact ⟨_, _, round_end hr3 none, .inl ⟨rfl, hI.putObj _ hp.2.2 (by omega) hr3.1 rfl, hr3.turn _⟩⟩
      | ret =>
        have hr3 := step none W3 hp.1
        exact ⟨_, _, round_end hr3 (some .ret), .inr ⟨rfl, .ret, (hIx _).putObj _ hp.2 (by omega) hr3.1 rfl, hr3.turn _⟩⟩
      | exit id =>
        have hr3 := step none W3 hp.1
        exact ⟨_, _, round_end hr3 (some (.exit id)), .inr ⟨rfl, .exit id, (hIx _).putObj _ hp.2 (by omega) hr3.1 rfl, hr3.turn _⟩⟩
      | goto q =>
        have hr3 := step none W3 hp.1
        exact ⟨_, _, round_end hr3 (some (.goto q)), .inr ⟨rfl, .goto q, (hIx _).putObj _ hp.2 (by omega) hr3.1 rfl, hr3.turn _⟩⟩
      | panic ch => exact hp.elim
      | outgrown => exact hp.elim
    · rintro e W2 ⟨⟨v, rfl⟩, (⟨hi, hr⟩ | ⟨x, hx, c, hi, hr⟩)⟩
      · exact ⟨none, _, run_endLoop hr.1 (by simp [lp]), hdone _ _ (Nat.le_refl _) (hI.putObj _ hi (by omega) hr.1 rfl) (hr.turn _).2⟩
      · exact ⟨some c, _, run_endLoop hr.1 (by simp [lp]), hstop _ c x _ (Nat.le_refl _) hx ((hIx c).putObj _ hi (by omega) hr.1 rfl) (hr.turn (lp fn a.tmps t assign body w.heap.size .exhausted (some c))).2⟩
end Go.Proofs.Ytocelaebokikcaa
