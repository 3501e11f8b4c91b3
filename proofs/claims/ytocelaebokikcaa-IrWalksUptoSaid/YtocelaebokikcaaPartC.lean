/- One more instruction of a function that is copied. -/
import Derived.Test.YtocelaebokikcaaPartB
namespace Go.Proofs.Ytocelaebokikcaa
open Go.ChangeShapes Go.WideShapes Go.RowKit
set_option linter.unusedVariables false

def updI (S : Spots) (b k : Nat) (d : FunD) (g1 g2 g3 : Nat) : Spots :=
  updS (updS (updS S (.args b k) (some ⟨g1, 0, none⟩, d.len (.args b k))) (.labels b k) (some ⟨g2, 0, none⟩, d.len (.labels b k))) (.cases b k) (some ⟨g3, 0, none⟩, d.len (.cases b k))
def updGI (G : Pos → Nat) (b k : Nat) (g1 g2 g3 : Nat) : Pos → Nat := updG (updG (updG G (.args b k) g1) (.labels b k) g2) (.cases b k) g3
theorem rows_inst (d : FunD) (S : Spots) (b k g1 g2 g3 : Nat) (r : Pos) (hr : r ≠ .code b) : d.rows (updI S b k d g1 g2 g3) r = d.rows S r := by
  cases r with
  | blocks =>
    refine flat_congr _ _ _ (fun x _ => ?_)
    unfold FunD.blkV blkR updI updS; simp
  | code b' =>
    have hb : b' ≠ b := fun e => hr (by rw [e])
    refine flat_congr _ _ _ (fun x _ => ?_)
    unfold FunD.insV updI updS; simp [hb]
  | _ => rfl
theorem Part.inst {f : Fun} {v : FunV} {w wr w1 : World} {V : Pos → Prop} {G : Pos → Nat} {S : Spots} (h : Part f v w V wr G S) (b k : Nat) (hk : k < (f.blk b).code.length) (hV : V (.code b)) (g1 g2 g3 : Nat)
    (r : InsV) (hr1 : r.an = (f.inst b k).args.length) (hr2 : r.ln = (f.inst b k).labels.length) (hr3 : r.cn = (f.inst b k).cases.length)
    (h1 : wr.heap.size ≤ g1) (h2 : g1 < g2) (h3 : g2 < g3)
    (m1 : w1.heap[g1]? = some (.cells ((f.inst b k).args.flatMap Opn.cs).toArray 44 (0, 0))) (m2 : w1.heap[g2]? = some (.cells ((f.inst b k).labels.flatMap strC).toArray 9 (0, 0))) (m3 : w1.heap[g3]? = some (.cells ((f.inst b k).cases.flatMap intC).toArray 3 (0, 0)))
    (hB : Below wr.heap.size wr w1) :
    Part f v w (fun r => ((V r ∨ r = .args b k) ∨ r = .labels b k) ∨ r = .cases b k)
      (rowTen w1 (G (.code b)) k (.int .i64 (f.inst b k).op) (.int .i64 (f.inst b k).dst.k) (.int .i64 (f.inst b k).dst.c) (.int .i64 (f.inst b k).dst.n) (.int .i64 (f.inst b k).dst.t) (.slice (some ⟨g1, 0, none⟩) r.an r.an) (.string (f.inst b k).name) (.int .i64 (f.inst b k).off) (.slice (some ⟨g2, 0, none⟩) r.ln r.ln) (.slice (some ⟨g3, 0, none⟩) r.cn r.cn))
      (updGI G b k g1 g2 g3) (updI S b k f.parts g1 g2 g3) := by
  obtain ⟨aa, an, ac, la, ln, lc, ca, cn, cc⟩ := r
  dsimp only at hr1 hr2 hr3 ⊢
  subst hr1 hr2 hr3
  have hGq := h.lay.lt hV
  have hqb := (h.lay.mem _ hV).1
  have hsz := h.size
  have l0 : Lay w1 (w.heap.size + 2) V G (f.parts.rows S) := h.lay.below hB
  have z1 := (Array.getElem?_eq_some_iff.1 m1).1
  have z2 := (Array.getElem?_eq_some_iff.1 m2).1
  have z3 := (Array.getElem?_eq_some_iff.1 m3).1
  -- the three lists, each told of the world behind all of them
  have inj : ∀ p, V p → G p < wr.heap.size := fun p hp => h.lay.lt hp
  have l3 : Lay w1 (w.heap.size + 2) (fun r => ((V r ∨ r = .args b k) ∨ r = .labels b k) ∨ r = .cases b k) (updGI G b k g1 g2 g3) (fun q => if q = .cases b k then ((f.inst b k).cases.flatMap intC) else if q = .labels b k then ((f.inst b k).labels.flatMap strC) else if q = .args b k then ((f.inst b k).args.flatMap Opn.cs) else f.parts.rows S q) := by
    refine ⟨fun p hp => ?_, fun p q hp hq e => ?_⟩
    · unfold updGI updG
      by_cases e3 : p = .cases b k
      · subst e3; simp only [if_true]; exact ⟨by omega, m3⟩
      by_cases e2 : p = .labels b k
      · subst e2; simp only [if_neg e3, if_true]; exact ⟨by omega, m2⟩
      by_cases e1 : p = .args b k
      · subst e1; simp only [if_neg e3, if_neg e2, if_true]; exact ⟨by omega, m1⟩
      · simp only [if_neg e3, if_neg e2, if_neg e1]
        exact l0.mem p (((hp.resolve_right e3).resolve_right e2).resolve_right e1)
    · unfold updGI updG at e
      by_cases e3 : p = .cases b k <;> by_cases f3 : q = .cases b k
      · rw [e3, f3]
      · simp only [if_pos e3, if_neg f3] at e
        by_cases f2 : q = .labels b k
        · simp only [if_pos f2] at e; omega
        by_cases f1 : q = .args b k
        · simp only [if_neg f2, if_pos f1] at e; omega
        · simp only [if_neg f2, if_neg f1] at e
          have := inj q (((hq.resolve_right f3).resolve_right f2).resolve_right f1)
          omega
      · simp only [if_neg e3, if_pos f3] at e
        by_cases f2 : p = .labels b k
        · simp only [if_pos f2] at e; omega
        by_cases f1 : p = .args b k
        · simp only [if_neg f2, if_pos f1] at e; omega
        · simp only [if_neg f2, if_neg f1] at e
          have := inj p (((hp.resolve_right e3).resolve_right f2).resolve_right f1)
          omega
      · simp only [if_neg e3, if_neg f3] at e
        by_cases e2 : p = .labels b k <;> by_cases f2 : q = .labels b k
        · rw [e2, f2]
        · simp only [if_pos e2, if_neg f2] at e
          by_cases f1 : q = .args b k
          · simp only [if_pos f1] at e; omega
          · simp only [if_neg f1] at e
            have := inj q (((hq.resolve_right f3).resolve_right f2).resolve_right f1)
            omega
        · simp only [if_neg e2, if_pos f2] at e
          by_cases f1 : p = .args b k
          · simp only [if_pos f1] at e; omega
          · simp only [if_neg f1] at e
            have := inj p (((hp.resolve_right e3).resolve_right e2).resolve_right f1)
            omega
        · simp only [if_neg e2, if_neg f2] at e
          by_cases e1 : p = .args b k <;> by_cases f1 : q = .args b k
          · rw [e1, f1]
          · simp only [if_pos e1, if_neg f1] at e
            have := inj q (((hq.resolve_right f3).resolve_right f2).resolve_right f1)
            omega
          · simp only [if_neg e1, if_pos f1] at e
            have := inj p (((hp.resolve_right e3).resolve_right e2).resolve_right e1)
            omega
          · simp only [if_neg e1, if_neg f1] at e
            exact h.lay.inj p q (((hp.resolve_right e3).resolve_right e2).resolve_right e1) (((hq.resolve_right f3).resolve_right f2).resolve_right f1) e
  have hGc : updGI G b k g1 g2 g3 (.code b) = G (.code b) := by unfold updGI updG; simp
  have hm : w1.heap[G (.code b)]? = some (.cells (f.parts.rows S (.code b)).toArray 51 (0, 0)) := (l0.mem _ hV).2
  have far : ∀ y, y ≠ G (.code b) → (rowTen w1 (G (.code b)) k (.int .i64 (f.inst b k).op) (.int .i64 (f.inst b k).dst.k) (.int .i64 (f.inst b k).dst.c) (.int .i64 (f.inst b k).dst.n) (.int .i64 (f.inst b k).dst.t) (.slice (some ⟨g1, 0, none⟩) (f.inst b k).args.length (f.inst b k).args.length) (.string (f.inst b k).name) (.int .i64 (f.inst b k).off) (.slice (some ⟨g2, 0, none⟩) (f.inst b k).labels.length (f.inst b k).labels.length) (.slice (some ⟨g3, 0, none⟩) (f.inst b k).cases.length (f.inst b k).cases.length)).heap[y]? = w1.heap[y]? := fun y hy => rowTen_far hy _ _ _ _ _ _ _ _ _ _
  have l4 := l3.put (W' := rowTen w1 (G (.code b)) k (.int .i64 (f.inst b k).op) (.int .i64 (f.inst b k).dst.k) (.int .i64 (f.inst b k).dst.c) (.int .i64 (f.inst b k).dst.n) (.int .i64 (f.inst b k).dst.t) (.slice (some ⟨g1, 0, none⟩) (f.inst b k).args.length (f.inst b k).args.length) (.string (f.inst b k).name) (.int .i64 (f.inst b k).off) (.slice (some ⟨g2, 0, none⟩) (f.inst b k).labels.length (f.inst b k).labels.length) (.slice (some ⟨g3, 0, none⟩) (f.inst b k).cases.length (f.inst b k).cases.length)) (.code b) (.inl (.inl (.inl hV))) (f.parts.rows (updI S b k f.parts g1 g2 g3) (.code b)) (by
      rw [hGc]
      refine rowTen_at (n := (f.blk b).code.length) (fun _ => rfl) hk _ _ _ _ _ _ _ _ _ _ hm ?_ (fun x hx => ?_)
      · show (insR (f.inst b k) (f.parts.insV (updI S b k f.parts g1 g2 g3) b k)).toList = _
        unfold FunD.insV updI updS insR
        simp
        exact ⟨rfl, rfl, rfl⟩
      · show (insR (f.inst b x) (f.parts.insV (updI S b k f.parts g1 g2 g3) b x)).toList = (insR (f.inst b x) (f.parts.insV S b x)).toList
        unfold FunD.insV updI updS insR
        simp [hx]) (fun y _ _ hy => far y (by rw [hGc] at hy; exact hy))
  refine ⟨l4.congr (fun _ h => h) (fun _ _ => rfl) (fun q hq => ?_), fun q hq => ?_, fun q hq => ?_, ?_, ?_, ?_, ?_⟩
  · by_cases e : q = .code b
    · rw [e]; simp
    · simp only [if_neg e]
      rw [rows_inst f.parts S b k g1 g2 g3 q e]
      by_cases e3 : q = .cases b k
      · subst e3; simp; rfl
      by_cases e2 : q = .labels b k
      · subst e2; simp; rfl
      by_cases e1 : q = .args b k
      · subst e1; simp; rfl
      · simp [e3, e2, e1]
  · unfold updGI updI updG updS
    by_cases e3 : q = .cases b k
    · subst e3; simp
    by_cases e2 : q = .labels b k
    · subst e2; simp
    by_cases e1 : q = .args b k
    · subst e1; simp
    · simp only [if_neg e3, if_neg e2, if_neg e1]
      exact h.spots q (((hq.resolve_right e3).resolve_right e2).resolve_right e1)
  · unfold updI updS
    rw [if_neg (fun e => hq (.inr e)), if_neg (fun e => hq (.inl (.inr e))), if_neg (fun e => hq (.inl (.inl (.inr e))))]
    exact h.old q (fun k => hq (.inl (.inl (.inl k))))
  · exact rowTen_below _ _ _ _ _ _ _ _ _ _ (h.below.trans (hB.mono (by omega))) (by omega)
  · have := hB.size; rw [rowTen_size]; omega
  · have e : funR f (f.parts.funV (updI S b k f.parts g1 g2 g3)) = funR f (f.parts.funV S) := by
      unfold funR FunD.funV updI updS
      simp
    rw [e, far _ (by omega), hB.block _ (by omega)]
    exact h.box
  · rw [far _ (by omega), hB.block _ (by omega)]
    exact h.res
end Go.Proofs.Ytocelaebokikcaa
