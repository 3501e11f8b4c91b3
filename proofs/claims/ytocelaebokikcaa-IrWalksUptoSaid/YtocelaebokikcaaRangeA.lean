/- A loop over a slice's operands, each laid in a variable of its own: what a round must keep, and what holds behind it, whichever way it ends. -/
import Derived.Test.YtocelaebokikcaaVals
namespace Go.Proofs.Ytocelaebokikcaa
open Go.ChangeShapes Go.WideShapes Go.RowKit
set_option linter.unusedVariables false

theorem range_a {n : Nat} {op : Operand} {t : Tmp} {assign body : Code} {Q : Exit → Act → World → Prop} {a : Act} {w : World}
    (V : Nat) (A : Option Addr) (N c0 : Nat) (ops : List Opn) (hN : N ≤ 1048576) (hg : a.eval op = .func (.func 70) #[] #[.pointer (some ⟨V, 0, none⟩)])
    (I : List Opn → World → Prop) (Ix : List Opn → World → Prop) (Ia : Array Value → Nat → Opn → Act → World → Prop) (id : Nat)
    (hI : OwnFrom w.heap.size I) (hIx : OwnFrom w.heap.size Ix) (hIa : ∀ k x a1, OwnFrom w.heap.size (fun (_ : Unit) W => Ia a.tmps k x a1 W))
    (hS : ∀ s W, I s W → W.heap[V]? = some (.cells #[.slice A N c0] 28 (0, 0)) ∧ IsOps W A N ops) (h0 : I [] w)
    (hassign : ∀ (l k : Nat) (x : Opn) (W : World) (K : Act → World → Prop), ops[k]? = some x → I (ops.take k) W → (∀ a1 W1, KeepsFrom w.heap.size W W1 → Ia a.tmps k x a1 W1 → K a1 W1) →
      assign.wpIn (Fence.wide.inRound l) (n - 1 - 1) Try.prog (Exit.then K (fun _ _ _ => False)) { tmps := a.tmps.setIfInBounds t (opV x), defers := [] } W)
    (hbody : ∀ (l k : Nat) (x : Opn) (a1 : Act) (W : World), ops[k]? = some x → Ia a.tmps k x a1 W →
      body.wpIn (Fence.wide.inRound l) (n - 1 - 1) Try.prog (ownPostG w.heap.size (fun _ _ => True) I (fun c s W => c = .exit id ∧ Ix s W) (ops.take (k + 1)) W) a1 W)
    (hQ : ∀ a W, Q .normal a W → Q (.exit id) a W)
    (hrest : ∀ (D : Nat) (W : World), w.heap.size ≤ D → (I (ops.take N) W ∨ ∃ k, k < N ∧ Ix (ops.take (k + 1)) W) → W.heap[D]? = some (.deferred (some [])) → Q .normal { a with defers := { target := .collected D, args := #[] } :: a.defers } W) :
    (Code.rangeFunc op #[t] assign body).wpIn Fence.wide n Try.prog Q a w := by
  refine wpIn_rangeFunc fun fn hfn => ?_
  have hnew := Rec.fresh w (lp fn a.tmps t assign body w.heap.size .ready none)
  have hI1 : I [] ((w.alloc (.deferred (some []))).alloc (.loop (lp fn a.tmps t assign body w.heap.size .ready none))) := hI.alloc _ (hI.alloc _ h0)
  refine ⟨w.heap.size + 1, [{ target := .collected w.heap.size, args := #[] }], (w.alloc (.deferred (some []))).alloc (.loop (lp fn a.tmps t assign body w.heap.size .ready none)), { target := .fn (.func 70) #[.pointer (some ⟨V, 0, none⟩)], args := #[.func (.yield (w.heap.size + 1)) #[] #[]] }, (w.alloc (.deferred (some []))).alloc (.loop (lp fn a.tmps t assign body w.heap.size .ready none)), 70,
    #[.func (.yield (w.heap.size + 1)) #[] #[], .pointer (some ⟨V, 0, none⟩)], (w.alloc (.deferred (some []))).alloc (.loop (lp fn a.tmps t assign body w.heap.size .ready none)),
    run_enterLoop_outer _ _ _ _ _, ?_, (fun _ _ => trivial), ?_, (fun h => by cases h), ?_⟩
  · simp only [resolve, hg]
    simp [go_sem]
  · simp [invoke, go_sem]
  · refine (values_in (n - 1) (w.heap.size + 1) V A N c0 ops
      (fun k W => I (ops.take k) W ∧ Rec W w.heap.size (lp fn a.tmps t assign body w.heap.size .ready none))
      (fun k W => ∃ c, (c = .exit id ∧ Ix (ops.take k) W) ∧ Rec W w.heap.size (lp fn a.tmps t assign body w.heap.size .done (some c)))
      hN (fun s W h => hS _ W h.1) (fun s W o h => ⟨hI.alloc _ h.1, h.2.alloc o⟩) ?_ _ ⟨by rw [List.take_zero]; exact hI1, hnew⟩).mono ?_
    · rintro k x W hx ⟨hi, hr⟩
      have hy : (Instr.yield (w.heap.size + 1) #[opV x]).run Try.prog W = .ok (.round (w.heap.size + 1) fn (a.tmps.setIfInBounds t (opV x)) assign body) W := by
        have h := run_yield (P := Try.prog) (args := #[opV x]) hr.1 rfl
        simpa [lp] using h
      refine ⟨fn, _, assign, body, hy, roundIn_of_wpIn hfn (hassign _ k x W _ hx hi (fun a1 W1 hk1 ha => ?_))⟩
      have hr1 := hr.kept hk1
      refine ⟨_, run_beginRound hr1.1 rfl, ?_⟩
      have hr2 := hr1.turn (lp fn a.tmps t assign body w.heap.size .busy none)
      have step : ∀ (jump : Option Code) (W3 : World), KeepsFrom w.heap.size (W1.putObj (w.heap.size + 1) (.loop (lp fn a.tmps t assign body w.heap.size .busy none))) W3 →
          Rec W3 w.heap.size (lp fn a.tmps t assign body w.heap.size .busy none) := fun _ W3 hk => hr2.kept hk
      refine wpIn_mono (hbody _ k x a1 _ hx ((hIa k x a1).putObj (s := ()) _ ha (by omega) hr1.1 rfl)) ?_
      rintro e a3 W3 hp
      cases e with
      | normal =>
        have hr3 := step none W3 hp.1
        exact ⟨_, _, round_end hr3 none, .inl ⟨rfl, hI.putObj _ hp.2.2 (by omega) hr3.1 rfl, hr3.turn _⟩⟩
      | ret => exact absurd hp.2.1 (by simp)
      | exit id' =>
        have hr3 := step none W3 hp.1
        exact ⟨_, _, round_end hr3 (some (.exit id')), .inr ⟨rfl, .exit id', ⟨hp.2.1, hIx.putObj _ hp.2.2 (by omega) hr3.1 rfl⟩, hr3.turn _⟩⟩
      | goto q => exact absurd hp.2.1 (by simp)
      | panic ch => exact hp.elim
      | outgrown => exact hp.elim
    · rintro e W2 ⟨⟨v, rfl⟩, (⟨hi, hr⟩ | ⟨x, hx, c, ⟨rfl, hi⟩, hr⟩)⟩
      · exact ⟨none, _, run_endLoop hr.1 (by simp [lp]), hrest _ _ (Nat.le_refl _) (.inl (hI.putObj _ hi (by omega) hr.1 rfl)) (hr.turn _).2⟩
      · exact ⟨some (.exit id), _, run_endLoop hr.1 (by simp [lp]), wpIn_exit (hQ _ _ (hrest _ _ (Nat.le_refl _) (.inr ⟨x, hx, hIx.putObj _ hi (by omega) hr.1 rfl⟩) (hr.turn (lp fn a.tmps t assign body w.heap.size .exhausted (some (.exit id)))).2))⟩
end Go.Proofs.Ytocelaebokikcaa
