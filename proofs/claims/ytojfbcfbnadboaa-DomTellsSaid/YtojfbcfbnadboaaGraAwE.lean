
/- From which blocks one is reached: what lies in memory; a block is entered. -/
import Derived.Test.YtojfbcfbnadboaaGraNext
import Derived.Test.YtojfbcfbnadboaaGraAwM
import Derived.Test.YtojfbcfbnadboaaBitChangeB
import Derived.Test.YtojfbcfbnadboaaGraJn
import Derived.Test.YtojfbcfbnadboaaGraRea
namespace Go.Proofs.Ytojfbcfbnadboaa.Gra
open Go.ChangeShapes Go.WideShapes Go.RowKit
set_option linter.unusedVariables false
set_option maxRecDepth 20000
set_option maxHeartbeats 2000000

/-- The last one of a list of the call's own is left out. -/
theorem OwnL.pop {α : Type} {T : TypeId} {sz : Nat} {cs : α → List Value} {N : Nat} {w : World} {A : Option Addr} {c : Nat} {l : List α} {x : α} (hc : ∀ x, (cs x).length = sz) (h : OwnL T sz cs N w A c (l ++ [x])) : OwnL T sz cs N w A c l := by
  obtain ⟨h1, ⟨_, h2⟩ | ⟨g, cap, cur, e, h3, h4, h5, h6, h7, h8⟩⟩ := h
  · simp at h2
  · injection e with e1 e2 e3
    subst e1 e3
    rw [List.length_append, List.length_singleton] at h5 h8
    refine ⟨by rw [flat_len hc], .inr ⟨g, c, cur, rfl, h3, h4, by omega, h6, h7, ?_⟩⟩
    have h9 := congrArg (List.take (l.length * sz)) h8
    rw [List.take_take, Nat.min_eq_left (Nat.mul_le_mul_right sz (Nat.le_succ _)), List.flatMap_append] at h9
    rw [h9, ← flat_len hc l, List.take_left]
structure Av (w0 W : World) (bw be bv p g : Nat) (wo : Int) (sn : List Bool) (A : Option Addr) (m c : Nat) (ws : List Nat) : Prop where
  bel : Below w0.heap.size w0 W
  xw : W.heap[bw]? = some (.cells #[.int .i64 wo] 3 (0, 0))
  xe : W.heap[be]? = some (.cells #[.pointer (some ⟨p, 0, none⟩)] 44 (0, 0))
  xv : W.heap[bv]? = some (.cells #[.slice A m c] 37 (0, 0))
  set : Bit.SetAt w0.heap.size W p g sn
  row : OwnL 3 1 intC w0.heap.size W A c (nn ws)
  len : ws.length = m
  lw : w0.heap.size ≤ bw
  le : w0.heap.size ≤ be
  lv : w0.heap.size ≤ bv
  nd : [bw, be, bv, p, g].Nodup
  ap : ∀ b, Value.ownBlock (.slice A m c) = some b → b ∉ [bw, be, bv, p, g]
section
variable {w0 W W' : World} {bw be bv p g : Nat} {wo : Int} {sn sn' : List Bool} {A : Option Addr} {m c : Nat} {ws : List Nat}
theorem Av.rowlt (h : Av w0 W bw be bv p g wo sn A m c ws) {b : Nat} (hb : Value.ownBlock (.slice A m c) = some b) : w0.heap.size ≤ b ∧ b < W.heap.size := h.row.lo b (by rw [nn_len, h.len]; exact hb)
theorem Av.mv {M : Nat → Prop} (h : Av w0 W bw be bv p g wo sn A m c ws) (hv : Mv M W W') (hM : ∀ k, M k → w0.heap.size ≤ k ∧ k ∉ [bw, be, bv] ∧ Value.ownBlock (.slice A m c) ≠ some k) (hs : Bit.SetAt w0.heap.size W' p g sn') : Av w0 W' bw be bv p g wo sn' A m c ws := by
  have hk : ∀ k, k ∈ [bw, be, bv] → ¬ M k := fun k hk hm => (hM k hm).2.1 hk
  have hb : ∀ k o, k ∈ [bw, be, bv] → W.heap[k]? = some o → W'.heap[k]? = some o := fun k o h1 h2 => (hv.agree.2 k (Array.getElem?_eq_some_iff.1 h2).1 (hk k h1)).trans h2
  exact ⟨hv.below h.bel h.bel.size (fun k hm => (hM k hm).1), hb _ _ (by simp) h.xw, hb _ _ (by simp) h.xe, hb _ _ (by simp) h.xv, hs, mown_mv h.row hv (fun k hk hm => (hM k hm).2.2 (by rw [← h.len, ← nn_len ws]; exact hk)), h.len, h.lw, h.le, h.lv, h.nd, h.ap⟩
theorem Av.below (h : Av w0 W bw be bv p g wo sn A m c ws) (hb : Below W.heap.size W W') : Av w0 W' bw be bv p g wo sn A m c ws :=
  h.mv (M := fun _ => False) (Mv.of hb) (fun _ h => h.elim) (h.set.grow ⟨hb.os, hb.tape, hb.output, hb.size, fun k hk _ => hb.block k hk⟩)
theorem Av.added (h : Av w0 W bw be bv p g wo sn A m c ws) (hs : Bit.SetAt w0.heap.size W' p g sn') (hg : W.grownBy W' (some g)) : Av w0 W' bw be bv p g wo sn' A m c ws :=
  h.mv (M := fun k => k = g) (grown_mv hg (fun k e => by injection e with e; exact e.symm)) (fun k e => by
    subst e
    have := h.nd
    exact ⟨h.set.log, by simp at this ⊢; omega, fun e => h.ap k e (by simp)⟩) hs
/-- The row, and its box, are other ones. -/
theorem Av.turn {W1 : World} {M : Nat → Prop} {A' : Option Addr} {m' c' : Nat} {ws' : List Nat} (h : Av w0 W bw be bv p g wo sn A m c ws) (hv : Mv M W W1) (hM : ∀ k, M k → w0.heap.size ≤ k ∧ k ∉ [bw, be, bv, p, g]) (ho : OwnL 3 1 intC w0.heap.size W1 A' c' (nn ws')) (hl : ws'.length = m') (hn : ∀ b, Value.ownBlock (.slice A' m' c') = some b → b ∉ [bw, be, bv, p, g]) :
    Av w0 (W1.setCell ⟨bv, 0, none⟩ (.slice A' m' c')) bw be bv p g wo sn A' m' c' ws' := by
  have hk : ∀ k, k ∈ [bw, be, bv, p, g] → ¬ M k := fun k hk hm => (hM k hm).2 hk
  have hb : ∀ k o, k ∈ [bw, be, bv, p, g] → W.heap[k]? = some o → W1.heap[k]? = some o := fun k o h1 h2 => (hv.agree.2 k (Array.getElem?_eq_some_iff.1 h2).1 (hk k h1)).trans h2
  have nd := h.nd
  simp at nd
  have v1 := hb _ _ (by simp) h.xv
  have g1 : W.grownBy W1 none ∨ True := .inr trivial
  have s1 : Bit.SetAt w0.heap.size W1 p g sn := by
    have hp := h.set.lt
    have hg := h.set.row.lt
    have kp := hv.agree.2 p hp (hk p (by simp))
    have kg := hv.agree.2 g hg (hk g (by simp))
    refine ⟨h.set.lo, h.set.log, h.set.ne, h.set.small, Nat.lt_of_lt_of_le hp hv.size, (World.cell?_of_block (a := ⟨p, 0, none⟩) kp).trans h.set.bound, (World.cell?_of_block (a := ⟨p, 1, none⟩) kp).trans h.set.slice, Nat.lt_of_lt_of_le hg hv.size, fun k hk => (World.cell?_of_block (a := ⟨g, k, none⟩) kg).trans (h.set.row.cell k hk), fun k => (World.frozen?_of_block (a := ⟨g, k, none⟩) kg).trans (h.set.row.free k)⟩
  refine ⟨(hv.below h.bel h.bel.size (fun k hm => (hM k hm).1)).setCell (p := ⟨bv, 0, none⟩) h.lv _, (Below.heap_setCell _ _ _ _ (by show bw ≠ bv; omega)).trans (hb _ _ (by simp) h.xw), (Below.heap_setCell _ _ _ _ (by show be ≠ bv; omega)).trans (hb _ _ (by simp) h.xe), by simp [World.setCell, Array.getElem?_modify, v1], s1.kept (Bit.gset W1 bv 0 _) (by simp; omega) (by simp; omega), mown_mv ho (put_mv (M := fun k => k = bv) _ rfl) (fun k hk e => hn k (by rw [← hl, ← nn_len ws']; exact hk) (by rw [e]; simp)), hl, h.lw, h.le, h.lv, h.nd, hn⟩
end
def EntP (w0 : World) (bw be bv p g : Nat) (wo : Int) (sn : List Bool) (ws : List Nat) (i : Int) (e : Ending) (W' : World) : Prop :=
  e = .returned (.tuple #[]) ∧ ∃ sn' A' m' c' ws', Av w0 W' bw be bv p g wo sn' A' m' c' ws' ∧ (((i = wo ∨ ¬ (0 ≤ i ∧ i < (sn.length : Int)) ∨ at_ sn i.toNat = true) ∧ sn' = sn ∧ ws' = ws) ∨ (¬ i = wo ∧ ∃ k : Nat, i = (k : Int) ∧ k < sn.length ∧ at_ sn k = false ∧ sn' = sn.set k true ∧ ws' = ws ++ [k]))
theorem enter_v (w0 : World) (bw be bv p g : Nat) (wo : Int) (sn : List Bool) (A : Option Addr) (m c : Nat) (ws : List Nat) (W : World) (i : Int) (h : Av w0 W bw be bv p g wo sn A m c ws) (hm : m ≤ 1000) :
    Calls Try.prog 52 #[.int .i64 i, .pointer (some ⟨bw, 0, none⟩), .pointer (some ⟨be, 0, none⟩), .pointer (some ⟨bv, 0, none⟩)] W (EntP w0 bw be bv p g wo sn ws i) := by
  have H := Lib.hid h
  have c0 := cell_i h.xw 0
  have c1 := cell_i h.xe 0
  clear h
  cases hq : (i == wo)
  · have hne := beq_eq_false_iff_ne.1 hq
    have HA := Lib.hid (Bit.add_v i w0.heap.size p g sn W H.out.set)
    go_enter Try.func52, Try.ntmps52
    go_wp2_with fail
    clear c0 c1
    refine HA.out.mono ?_
    rintro e w1 ⟨rfl, hs, hg⟩
    have H1 := Lib.hid (H.out.added hs hg)
    have HN := Lib.hid hne
    obtain ⟨b, hb⟩ : ∃ b, Bit.chg sn i true = b := ⟨_, rfl⟩
    rw [hb]
    have HB := Lib.hid hb
    clear hs hg hb hne
    cases b with
    | false =>
      have hout : ¬ (0 ≤ i ∧ i < (sn.length : Int)) ∨ at_ sn i.toNat = true := by
        have h1 := HB.out
        unfold Bit.chg at h1
        rw [decide_eq_false_iff_not] at h1
        by_cases h0 : 0 ≤ i ∧ i < (sn.length : Int)
        · right
          cases hx : at_ sn i.toNat with
          | true => rfl
          | false => exact (h1 ⟨h0.1, by omega, by show at_ sn i.toNat ≠ true; rw [hx]; simp⟩).elim
        · exact .inl h0
      have hw : Bit.wth sn i true = sn := by
        by_cases h0 : 0 ≤ i ∧ i.toNat < sn.length
        · obtain ⟨k, rfl⟩ : ∃ k : Nat, i = (k : Int) := ⟨i.toNat, by omega⟩
          refine (Bit.wth_same (b := true) ?_).1
          rcases hout with h1 | h1
          · exact (h1 ⟨by omega, by omega⟩).elim
          · exact h1
        · exact (Bit.wth_out h0).1
      have HE := Lib.hid hout
      rw [hw] at H1
      clear hw hout
      go_wp2_with fail
      (try simp only [Exit.inBlock, Exit.then]); (first | refine bodyPost_ret (results_none rfl _ _ _) rfl ?_ | go_end0)
      exact ⟨rfl, sn, A, m, c, ws, H1.out, .inl ⟨.inr HE.out, rfl, rfl⟩⟩
    | true =>
      have h1 := HB.out
      unfold Bit.chg at h1
      rw [decide_eq_true_eq] at h1
      obtain ⟨k, rfl⟩ : ∃ k : Nat, i = (k : Int) := ⟨i.toNat, by omega⟩
      have hk : k < sn.length := by simpa using h1.2.1
      have hf : at_ sn k = false := by
        have := h1.2.2
        cases hx : at_ sn k with
        | false => rfl
        | true => exact (this hx).elim
      have hw : Bit.wth sn (k : Int) true = sn.set k true := by unfold Bit.wth; rw [if_pos ⟨by omega, hk⟩]; rfl
      rw [hw] at H1
      have HE := Lib.hid (And.intro hk hf)
      have c1 := cell_i H1.out.xv 0
      have c2 := froz_i H1.out.xv 0
      obtain ⟨wn, hwn⟩ : ∃ wn, w1.alloc (.cells #[.int .i64 (k : Int)] 3) = wn := ⟨_, rfl⟩
      have mb := m_box w1 _ 3 hwn
      have HP := Lib.hid (H1.out.below mb.1)
      have Fn := Lib.hid mb.2
      have hsz : w0.heap.size ≤ wn.heap.size := HP.out.bel.size
      clear mb h1 hk hf hw
      go_wp2_with (at_builtin; refine mapp1 (N := w0.heap.size) mInt rfl _ _ rfl ((nn_len _).trans HP.out.len) rfl HP.out.row w1.heap.size (k : Int) rfl Fn.out (by omega) hsz ?_)
      intro g' c' wh ho hgr hat hlt2
      have HV := Lib.hid (HP.out.turn (ws' := ws ++ [k]) (m' := m + 1) (A' := some ⟨g', 0, none⟩) (c' := c') (grown_mv (M := fun x => Value.ownBlock (.slice A m c) = some x) hgr (fun x e => e)) (fun x hx => ⟨(HP.out.rowlt hx).1, HP.out.ap x hx⟩) (by rw [nn_app]; exact ho) (by rw [List.length_append, HP.out.len]; rfl) (fun b hb => by
        have e : g' = b := by injection hb
        subst e
        rcases hat with e | e
        · exact HP.out.ap _ e
        · intro hm
          have h1 := (Array.getElem?_eq_some_iff.1 HP.out.xw).1
          have h2 := (Array.getElem?_eq_some_iff.1 HP.out.xe).1
          have h3 := (Array.getElem?_eq_some_iff.1 HP.out.xv).1
          have h4 := HP.out.set.lt
          have h5 := HP.out.set.row.lt
          simp at hm
          omega))
      have d1 : wh.cell? ⟨bv, 0, none⟩ = some (.slice A m c) := (hgr.cell_far ⟨bv, 0, none⟩ (Array.getElem?_eq_some_iff.1 HP.out.xv).1 (fun e => HP.out.ap bv e.symm (by simp))).trans (cell_i HP.out.xv 0)
      have d2 : wh.frozen? ⟨bv, 0, none⟩ = false := (hgr.frozen_far ⟨bv, 0, none⟩ (Array.getElem?_eq_some_iff.1 HP.out.xv).1 (fun e => HP.out.ap bv e.symm (by simp))).trans (froz_i HP.out.xv 0)
      clear ho hgr hat hlt2
      go_wp2_with fail
      (try simp only [Exit.inBlock, Exit.then]); (first | refine bodyPost_ret (results_none rfl _ _ _) rfl ?_ | go_end0)
      exact ⟨rfl, _, _, _, _, _, HV.out, .inr ⟨HN.out, k, rfl, HE.out.1, HE.out.2, rfl, rfl⟩⟩
  · have he := Lib.hid (eq_of_beq hq)
    go_enter Try.func52, Try.ntmps52
    go_wp2_with fail
    (try simp only [Exit.inBlock, Exit.then]); (first | refine bodyPost_ret (results_none rfl _ _ _) rfl ?_ | go_end0)
    exact ⟨rfl, sn, A, m, c, ws, H.out, .inl ⟨.inl he.out, rfl, rfl⟩⟩
end Go.Proofs.Ytojfbcfbnadboaa.Gra
