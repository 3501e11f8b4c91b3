/- A loop over the numbers of a set: what its body must keep, and what holds behind it. The function that is ranged over is a method's value, with the set bound to it. -/
import Derived.Test.YtgckoiepclgofaaDoorEach
namespace Go.Proofs.YtgckoiepclgofaaDoor
open Go.ChangeShapes Go.WideShapes Go.RowKit
set_option linter.unusedVariables false

/-- The loop's record. -/
def lp (fn : FuncId) (tmps : Array Value) (t : Tmp) (assign body : Code) (D : Nat) (s : LoopState) (c : Option Code) : Loop :=
  { state := s, pending := c, fn := fn, tmps := tmps, params := #[t], assign := assign, body := body, defers := D }
/-- The record lies in block b + 1, and nothing is deferred in block b. -/
def Rec (W : World) (b : Nat) (r : Loop) : Prop := W.heap[b + 1]? = some (.loop r) ∧ W.heap[b]? = some (.deferred (some []))
theorem Rec.turn {W : World} {b : Nat} {r : Loop} (h : Rec W b r) (r' : Loop) : Rec (W.putObj (b + 1) (.loop r')) b r' :=
  ⟨World.putObj_heap_same (Array.getElem?_eq_some_iff.1 h.1).1, (World.putObj_heap_other (by omega)).trans h.2⟩
theorem Rec.kept {W W' : World} {b : Nat} {r : Loop} (h : Rec W b r) (hk : KeepsFrom b W W') : Rec W' b r :=
  ⟨hk.same _ _ (by omega) h.1 rfl, hk.same _ _ (Nat.le_refl _) h.2 rfl⟩
theorem Rec.fresh (w : World) (r : Loop) : Rec ((w.alloc (.deferred (some []))).alloc (.loop r)) w.heap.size r := by
  have h := World.alloc_heap_new (w.alloc (.deferred (some []))) (.loop r)
  rw [World.size_alloc] at h
  exact ⟨h, (Below.heap_alloc _ _ _ (by simp)).trans (World.alloc_heap_new w _)⟩
/-- The end of a round, by the way in which its body was left. -/
theorem round_end {W : World} {b : Nat} {fn : FuncId} {tmps : Array Value} {t : Tmp} {assign body : Code} {s : LoopState} {c : Option Code} (h : Rec W b (lp fn tmps t assign body b s c)) (jump : Option Code) :
    (Instr.endRound (b + 1) jump).run Tryd.prog W = .ok (.bool jump.isNone) (W.putObj (b + 1) (.loop (lp fn tmps t assign body b (if jump.isNone then .ready else .done) jump))) := run_endRound jump h.1
theorem range_v {n : Nat} {op : Operand} {t : Tmp} {assign body : Code} {Q : Exit → Act → World → Prop} {a : Act} {w : World}
    (B p g : Nat) (bs : List Bool) (hg : a.eval op = .func (.func 34) #[.pointer (some ⟨p, 0, none⟩)] #[])
    (I : List Nat → World → Prop) (Ix : Code → List Nat → World → Prop)
    (hI : OwnFrom w.heap.size I) (hIx : ∀ c, OwnFrom w.heap.size (Ix c))
    (hS : ∀ t W, I t W → SetAt B W p g bs ∧ Glob W) (h0 : I [] w) (a₁ : Nat → Act)
    (hassign : ∀ (l x : Nat) (W : World) (K : Act → World → Prop), K (a₁ x) W →
      assign.wpIn (Fence.wide.inRound l) (n - 1 - 1) Tryd.prog (Exit.then K (fun _ _ _ => False)) { tmps := a.tmps.setIfInBounds t (.int .i64 (x : Int)), defers := [] } W)
    (hbody : ∀ (l x : Nat) (W : World), has bs x = true → I (low bs x) W →
      body.wpIn (Fence.wide.inRound l) (n - 1 - 1) Tryd.prog (ownPostG w.heap.size (fun _ _ => True) I Ix (low bs (x + 1)) W) (a₁ x) W)
    (hdone : ∀ (D : Nat) (W : World), w.heap.size ≤ D → I (all bs) W → W.heap[D]? = some (.deferred (some [])) → Q .normal { a with defers := { target := .collected D, args := #[] } :: a.defers } W)
    (hstop : ∀ (D : Nat) (c : Code) (x : Nat) (W : World), w.heap.size ≤ D → has bs x = true → Ix c (low bs (x + 1)) W → W.heap[D]? = some (.deferred (some [])) →
      c.wpIn Fence.wide n Tryd.prog Q { a with defers := { target := .collected D, args := #[] } :: a.defers } W) :
    (Code.rangeFunc op #[t] assign body).wpIn Fence.wide n Tryd.prog Q a w := by
  refine wpIn_rangeFunc fun fn hfn => ?_
  have hnew := Rec.fresh w (lp fn a.tmps t assign body w.heap.size .ready none)
  have hI1 : I [] ((w.alloc (.deferred (some []))).alloc (.loop (lp fn a.tmps t assign body w.heap.size .ready none))) := hI.alloc _ (hI.alloc _ h0)
  refine ⟨w.heap.size + 1, [{ target := .collected w.heap.size, args := #[] }], (w.alloc (.deferred (some []))).alloc (.loop (lp fn a.tmps t assign body w.heap.size .ready none)), { target := .fn (.func 34) #[], args := #[.pointer (some ⟨p, 0, none⟩), .func (.yield (w.heap.size + 1)) #[] #[]] }, (w.alloc (.deferred (some []))).alloc (.loop (lp fn a.tmps t assign body w.heap.size .ready none)), 34,
    #[.pointer (some ⟨p, 0, none⟩), .func (.yield (w.heap.size + 1)) #[] #[]], (w.alloc (.deferred (some []))).alloc (.loop (lp fn a.tmps t assign body w.heap.size .ready none)),
    run_enterLoop_outer _ _ _ _ _, ?_, (fun _ _ => trivial), ?_, (fun h => by cases h), ?_⟩
  · simp only [resolve, hg]
    simp [go_sem]
  · simp [invoke, go_sem]
  · refine (each_in (n - 1) (w.heap.size + 1) B p g bs
      (fun s W => I s W ∧ Rec W w.heap.size (lp fn a.tmps t assign body w.heap.size .ready none))
      (fun s W => ∃ c, Ix c s W ∧ Rec W w.heap.size (lp fn a.tmps t assign body w.heap.size .done (some c)))
      (fun s W h => hS s W h.1) ?_ _ ⟨hI1, hnew⟩).mono ?_
    · rintro x W hx ⟨hi, hr⟩
      have hy : (Instr.yield (w.heap.size + 1) #[.int .i64 (x : Int)]).run Tryd.prog W = .ok (.round (w.heap.size + 1) fn (a.tmps.setIfInBounds t (.int .i64 (x : Int))) assign body) W := by
        have h := run_yield (P := Tryd.prog) (args := #[.int .i64 (x : Int)]) hr.1 rfl
        simpa [lp] using h
      refine ⟨fn, _, assign, body, hy, roundIn_of_wpIn hfn (hassign _ x W _ ?_)⟩
      refine ⟨_, run_beginRound hr.1 rfl, ?_⟩
      have hr2 := hr.turn (lp fn a.tmps t assign body w.heap.size .busy none)
      have step : ∀ (jump : Option Code) (W3 : World), KeepsFrom w.heap.size (W.putObj (w.heap.size + 1) (.loop (lp fn a.tmps t assign body w.heap.size .busy none))) W3 →
          Rec W3 w.heap.size (lp fn a.tmps t assign body w.heap.size .busy none) := fun _ W3 hk => hr2.kept hk
      refine wpIn_mono (hbody _ x _ hx (hI.putObj _ hi (by omega) hr.1 rfl)) ?_
      rintro e a3 W3 hp
      cases e with
      | normal =>
        have hr3 := step none W3 hp.1
        exact ⟨_, _, round_end hr3 none, .inl ⟨rfl, hI.putObj _ hp.2.2 (by omega) hr3.1 rfl, hr3.turn _⟩⟩
      | ret =>
        have hr3 := step none W3 hp.1
        exact ⟨_, _, round_end hr3 (some .ret), .inr ⟨rfl, .ret, (hIx _).putObj _ hp.2 (by omega) hr3.1 rfl, hr3.turn _⟩⟩
      | exit id =>
        have hr3 := step none W3 hp.1
        exact ⟨_, _, round_end hr3 (some (.exit id)), .inr ⟨rfl, .exit id, (hIx _).putObj _ hp.2 (by omega) hr3.1 rfl, hr3.turn _⟩⟩
      | goto q =>
        have hr3 := step none W3 hp.1
        exact ⟨_, _, round_end hr3 (some (.goto q)), .inr ⟨rfl, .goto q, (hIx _).putObj _ hp.2 (by omega) hr3.1 rfl, hr3.turn _⟩⟩
      | panic ch => exact hp.elim
      | outgrown => exact hp.elim
    · rintro e W2 ⟨⟨v, rfl⟩, (⟨hi, hr⟩ | ⟨x, hx, c, hi, hr⟩)⟩
      · exact ⟨none, _, run_endLoop hr.1 (by simp [lp]), hdone _ _ (Nat.le_refl _) (hI.putObj _ hi (by omega) hr.1 rfl) (hr.turn _).2⟩
      · exact ⟨some c, _, run_endLoop hr.1 (by simp [lp]), hstop _ c x _ (Nat.le_refl _) hx ((hIx c).putObj _ hi (by omega) hr.1 rfl) (hr.turn (lp fn a.tmps t assign body w.heap.size .exhausted (some c))).2⟩
end Go.Proofs.YtgckoiepclgofaaDoor
