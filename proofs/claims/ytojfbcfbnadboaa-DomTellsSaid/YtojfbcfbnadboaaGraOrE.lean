
/- The order of the blocks that are reached: what lies in memory; a block is entered. -/
import Derived.Test.YtojfbcfbnadboaaGraAway
import Derived.Test.YtojfbcfbnadboaaGraEdg
namespace Go.Proofs.Ytojfbcfbnadboaa.Gra
open Go.ChangeShapes Go.WideShapes Go.RowKit
set_option linter.unusedVariables false
set_option maxRecDepth 20000
set_option maxHeartbeats 2000000

theorem mSt : MRow 82 81 2 prC := ⟨Try.underlying81, minfo (z := .agg #[.int .i64 0, .int .i64 0]) (by kernel_rfl) rfl, by decide, fun x => rfl, fun x u hu => by simp [prC] at hu; rcases hu with rfl | rfl <;> rfl⟩
structure Ov (w0 W : World) (be bv p g : Nat) (sn : List Bool) (A : Option Addr) (m c : Nat) (ws : List (Nat × Nat)) (B : Option Addr) (e d : Nat) (out : List Nat) : Prop where
  bel : Below w0.heap.size w0 W
  xe : W.heap[be]? = some (.cells #[.pointer (some ⟨p, 0, none⟩)] 44 (0, 0))
  xv : W.heap[bv]? = some (.cells #[.slice A m c] 81 (0, 0))
  set : Bit.SetAt w0.heap.size W p g sn
  row : OwnL 82 2 prC w0.heap.size W A c ws
  len : ws.length = m
  left : OwnL 3 1 intC w0.heap.size W B d (nn out)
  ll : out.length = e
  le : w0.heap.size ≤ be
  lv : w0.heap.size ≤ bv
  nd : [be, bv, p, g].Nodup
  ap : ∀ b, Value.ownBlock (.slice A m c) = some b → b ∉ [be, bv, p, g]
  al : ∀ b, Value.ownBlock (.slice B e d) = some b → b ∉ [be, bv, p, g]
  aa : Apt (.slice A m c) (.slice B e d)
section
variable {w0 W W' W1 : World} {be bv p g : Nat} {sn sn' : List Bool} {A A' B B' : Option Addr} {m c m' c' e d e' d' : Nat} {ws ws' : List (Nat × Nat)} {out out' : List Nat} {M : Nat → Prop}
theorem Ov.rowlt (h : Ov w0 W be bv p g sn A m c ws B e d out) {b : Nat} (hb : Value.ownBlock (.slice A m c) = some b) : w0.heap.size ≤ b ∧ b < W.heap.size := h.row.lo b (by rw [h.len]; exact hb)
theorem Ov.leftlt (h : Ov w0 W be bv p g sn A m c ws B e d out) {b : Nat} (hb : Value.ownBlock (.slice B e d) = some b) : w0.heap.size ≤ b ∧ b < W.heap.size := h.left.lo b (by rw [nn_len, h.ll]; exact hb)
theorem Ov.hs (h : Ov w0 W be bv p g sn A m c ws B e d out) {k : Nat} (hk : k ∈ [be, bv, p, g]) : w0.heap.size ≤ k ∧ k < W.heap.size := by
  have h1 := (Array.getElem?_eq_some_iff.1 h.xe).1
  have h2 := (Array.getElem?_eq_some_iff.1 h.xv).1
  have h3 := h.set.lt
  have h4 := h.set.row.lt
  have h5 := h.set.lo
  have h6 := h.set.log
  have h7 := h.le
  have h8 := h.lv
  simp at hk
  omega
theorem set_mv {N : Nat} (h : Bit.SetAt N W p g sn) (hv : Mv M W W') (hp : ¬ M p) (hg : ¬ M g) : Bit.SetAt N W' p g sn := by
  have kp := hv.agree.2 p h.lt hp
  have kg := hv.agree.2 g h.row.lt hg
  exact ⟨h.lo, h.log, h.ne, h.small, Nat.lt_of_lt_of_le h.lt hv.size, (World.cell?_of_block (a := ⟨p, 0, none⟩) kp).trans h.bound, (World.cell?_of_block (a := ⟨p, 1, none⟩) kp).trans h.slice, Nat.lt_of_lt_of_le h.row.lt hv.size, fun k hk => (World.cell?_of_block (a := ⟨g, k, none⟩) kg).trans (h.row.cell k hk), fun k => (World.frozen?_of_block (a := ⟨g, k, none⟩) kg).trans (h.row.free k)⟩
theorem Ov.mv (h : Ov w0 W be bv p g sn A m c ws B e d out) (hv : Mv M W W') (hM : ∀ k, M k → w0.heap.size ≤ k ∧ k ∉ [be, bv] ∧ Value.ownBlock (.slice A m c) ≠ some k ∧ Value.ownBlock (.slice B e d) ≠ some k) (hs : Bit.SetAt w0.heap.size W' p g sn') : Ov w0 W' be bv p g sn' A m c ws B e d out := by
  have hb : ∀ k o, k ∈ [be, bv] → W.heap[k]? = some o → W'.heap[k]? = some o := fun k o h1 h2 => (hv.agree.2 k (Array.getElem?_eq_some_iff.1 h2).1 (fun hm => (hM k hm).2.1 h1)).trans h2
  exact ⟨hv.below h.bel h.bel.size (fun k hm => (hM k hm).1), hb _ _ (by simp) h.xe, hb _ _ (by simp) h.xv, hs, mown_mv h.row hv (fun k hk hm => (hM k hm).2.2.1 (by rw [← h.len]; exact hk)), h.len, mown_mv h.left hv (fun k hk hm => (hM k hm).2.2.2 (by rw [← h.ll, ← nn_len]; exact hk)), h.ll, h.le, h.lv, h.nd, h.ap, h.al, h.aa⟩
theorem Ov.below (h : Ov w0 W be bv p g sn A m c ws B e d out) (hb : Below W.heap.size W W') : Ov w0 W' be bv p g sn A m c ws B e d out :=
  h.mv (M := fun _ => False) (Mv.of hb) (fun _ h => h.elim) (set_mv h.set (Mv.of (M := fun _ => False) hb) id id)
theorem Ov.added (h : Ov w0 W be bv p g sn A m c ws B e d out) (hs : Bit.SetAt w0.heap.size W' p g sn') (hg : W.grownBy W' (some g)) : Ov w0 W' be bv p g sn' A m c ws B e d out :=
  h.mv (M := fun k => k = g) (grown_mv hg (fun k e => by injection e with e; exact e.symm)) (fun k e => by
    subst e
    have := h.nd
    exact ⟨h.set.log, by simp at this ⊢; omega, fun e => h.ap k e (by simp), fun e => h.al k e (by simp)⟩) hs
/-- The way, and its box, are other ones. -/
theorem Ov.turn (h : Ov w0 W be bv p g sn A m c ws B e d out) (hv : Mv M W W1) (hM : ∀ k, M k → w0.heap.size ≤ k ∧ k ∉ [be, bv, p, g] ∧ Value.ownBlock (.slice B e d) ≠ some k) (ho : OwnL 82 2 prC w0.heap.size W1 A' c' ws') (hl : ws'.length = m') (hn : ∀ b, Value.ownBlock (.slice A' m' c') = some b → b ∉ [be, bv, p, g] ∧ Value.ownBlock (.slice B e d) ≠ some b) :
    Ov w0 (W1.setCell ⟨bv, 0, none⟩ (.slice A' m' c')) be bv p g sn A' m' c' ws' B e d out := by
  have hb : ∀ k o, k ∈ [be, bv, p, g] → W.heap[k]? = some o → W1.heap[k]? = some o := fun k o h1 h2 => (hv.agree.2 k (Array.getElem?_eq_some_iff.1 h2).1 (fun hm => (hM k hm).2.1 h1)).trans h2
  have nd := h.nd
  simp at nd
  have v1 := hb _ _ (by simp) h.xv
  have s1 := set_mv h.set hv (fun hm => (hM p hm).2.1 (by simp)) (fun hm => (hM g hm).2.1 (by simp))
  have pm : Mv (fun k => k = bv) W1 (W1.setCell ⟨bv, 0, none⟩ (.slice A' m' c')) := put_mv _ rfl
  exact ⟨(hv.below h.bel h.bel.size (fun k hm => (hM k hm).1)).setCell (p := ⟨bv, 0, none⟩) h.lv _, (Below.heap_setCell _ _ _ _ (by show be ≠ bv; omega)).trans (hb _ _ (by simp) h.xe), by simp [World.setCell, Array.getElem?_modify, v1], set_mv s1 pm (by omega) (by omega), mown_mv ho pm (fun k hk q => (hn k (by rw [← hl]; exact hk)).1 (by rw [q]; simp)), hl, mown_mv (mown_mv h.left hv (fun k hk hm => (hM k hm).2.2 (by rw [← h.ll, ← nn_len]; exact hk))) pm (fun k hk q => h.al k (by rw [← h.ll, ← nn_len out]; exact hk) (by rw [q]; simp)), h.ll, h.le, h.lv, h.nd, fun b hb => (hn b hb).1, h.al, fun k hk => (hn k hk).2⟩
/-- One more is left. -/
theorem Ov.leave (h : Ov w0 W be bv p g sn A m c ws B e d out) {g' j : Nat} (ho : OwnL 3 1 intC w0.heap.size W' (some ⟨g', 0, none⟩) d' (nn out ++ [(j : Int)])) (hg : W.grownBy W' (Value.ownBlock (.slice B e d))) (hat : Value.ownBlock (.slice B e d) = some g' ∨ g' = W.heap.size) : Ov w0 W' be bv p g sn A m c ws (some ⟨g', 0, none⟩) (e + 1) d' (out ++ [j]) := by
  have hv : Mv (fun k => Value.ownBlock (.slice B e d) = some k) W W' := grown_mv hg (fun k q => q)
  have hb : ∀ k o, k ∈ [be, bv] → W.heap[k]? = some o → W'.heap[k]? = some o := fun k o h1 h2 => (hv.agree.2 k (Array.getElem?_eq_some_iff.1 h2).1 (fun hm => h.al k hm (by simp at h1 ⊢; omega))).trans h2
  have hnew : ∀ b, Value.ownBlock (.slice (some ⟨g', 0, none⟩) (e + 1) d') = some b → b = g' := fun b hb => by injection hb with hb; exact hb.symm
  refine ⟨hv.below h.bel h.bel.size (fun k hm => (h.leftlt hm).1), hb _ _ (by simp) h.xe, hb _ _ (by simp) h.xv, set_mv h.set hv (fun hm => h.al _ hm (by simp)) (fun hm => h.al _ hm (by simp)), mown_mv h.row hv (fun k hk hm => h.aa k (by rw [← h.len]; exact hk) hm), h.len, by rw [nn_app]; exact ho, by rw [List.length_append, h.ll]; rfl, h.le, h.lv, h.nd, h.ap, fun b hb => ?_, fun k hk hb => ?_⟩
  · have := hnew b hb
    subst this
    rcases hat with hat | hat
    · exact h.al b hat
    · intro hm
      have := (h.hs hm).2
      omega
  · have := hnew k hb
    subst this
    rcases hat with hat | hat
    · exact h.aa k hk hat
    · have := (h.rowlt hk).2
      omega
end
theorem pr_len : ∀ x : Nat × Nat, (prC x).length = 2 := fun _ => rfl
theorem own_bump {T : TypeId} {N g c b k k' : Nat} {w : World} {l : List (Nat × Nat)} (h : OwnL T 2 prC N w (some ⟨g, 0, none⟩) c (l ++ [(b, k)])) : OwnL T 2 prC N (w.setCell ⟨g, l.length * 2 + 1, none⟩ (.int .i64 (k' : Int))) (some ⟨g, 0, none⟩) c (l ++ [(b, k')]) := by
  have h1 := (World.ownsRow.stored h (l.length * 2 + 1) (.int .i64 (k' : Int))).1
  have e : ((l ++ [(b, k)]).flatMap prC).set (l.length * 2 + 1) (.int .i64 (k' : Int)) = (l ++ [(b, k')]).flatMap prC := by
    rw [List.flatMap_append, List.flatMap_append, List.set_append, if_neg (by rw [flat_len pr_len]; omega), flat_len pr_len]
    congr 1
    have : l.length * 2 + 1 - l.length * 2 = 1 := by omega
    rw [this]
    rfl
  rw [e] at h1
  unfold OwnL
  have e2 : (l ++ [(b, k')]).length = (l ++ [(b, k)]).length := by simp
  rw [e2]
  exact h1
theorem Ov.bump {w0 W : World} {be bv p g gA : Nat} {sn : List Bool} {m c e d b k k' : Nat} {r : List (Nat × Nat)} {B : Option Addr} {out : List Nat} (h : Ov w0 W be bv p g sn (some ⟨gA, 0, none⟩) m c (r ++ [(b, k)]) B e d out) :
    Ov w0 (W.setCell ⟨gA, r.length * 2 + 1, none⟩ (.int .i64 (k' : Int))) be bv p g sn (some ⟨gA, 0, none⟩) m c (r ++ [(b, k')]) B e d out := by
  have hv : Mv (fun x => x = gA) W (W.setCell ⟨gA, r.length * 2 + 1, none⟩ (.int .i64 (k' : Int))) := put_mv _ rfl
  have hA : gA ∉ [be, bv, p, g] := h.ap gA rfl
  have hne : ∀ x, x ∈ [be, bv, p, g] → ¬ x = gA := fun x hx q => hA (q ▸ hx)
  have hb : ∀ k o, k ∈ [be, bv, p, g] → W.heap[k]? = some o → (W.setCell ⟨gA, r.length * 2 + 1, none⟩ (.int .i64 (k' : Int))).heap[k]? = some o := fun k o h1 h2 => (hv.agree.2 k (Array.getElem?_eq_some_iff.1 h2).1 (hne k h1)).trans h2
  exact ⟨hv.below h.bel h.bel.size (fun x hx => by subst hx; exact (h.rowlt rfl).1), hb _ _ (by simp) h.xe, hb _ _ (by simp) h.xv, set_mv h.set hv (hne _ (by simp)) (hne _ (by simp)), own_bump h.row, by rw [← h.len]; simp, mown_mv h.left hv (fun x hx q => h.aa gA rfl (by rw [← h.ll, ← nn_len]; exact q ▸ hx)), h.ll, h.le, h.lv, h.nd, h.ap, h.al, h.aa⟩
def EntO (w0 : World) (be bv p g : Nat) (sn : List Bool) (ws : List (Nat × Nat)) (B : Option Addr) (e d : Nat) (out : List Nat) (i : Nat) (en : Ending) (W' : World) : Prop :=
  en = .returned (.tuple #[]) ∧ ∃ sn' A' m' c' ws', Ov w0 W' be bv p g sn' A' m' c' ws' B e d out ∧ (((sn.length ≤ i ∨ at_ sn i = true) ∧ sn' = sn ∧ ws' = ws) ∨ (i < sn.length ∧ at_ sn i = false ∧ sn' = sn.set i true ∧ ws' = ws ++ [(i, 0)]))
theorem ento_v (w0 : World) (be bv p g : Nat) (sn : List Bool) (A : Option Addr) (m c : Nat) (ws : List (Nat × Nat)) (B : Option Addr) (e d : Nat) (out : List Nat) (W : World) (i : Nat) (h : Ov w0 W be bv p g sn A m c ws B e d out) (hm : m ≤ 1000) :
    Calls Try.prog 48 #[.int .i64 (i : Int), .pointer (some ⟨be, 0, none⟩), .pointer (some ⟨bv, 0, none⟩)] W (EntO w0 be bv p g sn ws B e d out i) := by
  have H := Lib.hid h
  have c1 := cell_i h.xe 0
  clear h
  have HA := Lib.hid (Bit.add_v (i : Int) w0.heap.size p g sn W H.out.set)
  go_enter Try.func48, Try.ntmps48
  go_wp2_with fail
  clear c1
  refine HA.out.mono ?_
  rintro en w1 ⟨rfl, hs, hg⟩
  have H1 := Lib.hid (H.out.added hs hg)
  obtain ⟨b, hb⟩ : ∃ b, Bit.chg sn (i : Int) true = b := ⟨_, rfl⟩
  rw [hb]
  have HB := Lib.hid hb
  clear hs hg hb
  cases b with
  | false =>
    have hout : sn.length ≤ i ∨ at_ sn i = true := by
      have h1 := HB.out
      unfold Bit.chg at h1
      rw [decide_eq_false_iff_not] at h1
      by_cases h0 : i < sn.length
      · right
        cases hx : at_ sn i with
        | true => rfl
        | false => exact (h1 ⟨by omega, by omega, by show at_ sn i ≠ true; rw [hx]; simp⟩).elim
      · exact .inl (by omega)
    have hw : Bit.wth sn (i : Int) true = sn := by
      by_cases h0 : 0 ≤ (i : Int) ∧ (i : Int).toNat < sn.length
      · refine (Bit.wth_same (b := true) ?_).1
        rcases hout with h1 | h1
        · omega
        · exact h1
      · exact (Bit.wth_out h0).1
    have HE := Lib.hid hout
    rw [hw] at H1
    clear hw hout
    go_wp2_with fail
    (try simp only [Exit.inBlock, Exit.then]); (first | refine bodyPost_ret (results_none rfl _ _ _) rfl ?_ | go_end0)
    exact ⟨rfl, sn, A, m, c, ws, H1.out, .inl ⟨HE.out, rfl, rfl⟩⟩
  | true =>
    have h1 := HB.out
    unfold Bit.chg at h1
    rw [decide_eq_true_eq] at h1
    have hk : i < sn.length := by simpa using h1.2.1
    have hf : at_ sn i = false := by
      have := h1.2.2
      cases hx : at_ sn i with
      | false => rfl
      | true => exact (this hx).elim
    have hw : Bit.wth sn (i : Int) true = sn.set i true := by unfold Bit.wth; rw [if_pos ⟨by omega, hk⟩]; rfl
    rw [hw] at H1
    have HE := Lib.hid (And.intro hk hf)
    have c1 := cell_i H1.out.xv 0
    have c2 := froz_i H1.out.xv 0
    obtain ⟨wn, hwn⟩ : ∃ wn, w1.alloc (.cells #[.int .i64 (i : Int), .int .i64 0] 82) = wn := ⟨_, rfl⟩
    have mb := m_box w1 _ 82 hwn
    have HP := Lib.hid (H1.out.below mb.1)
    have Fn := Lib.hid mb.2
    have hsz : w0.heap.size ≤ wn.heap.size := HP.out.bel.size
    clear mb h1 hk hf hw
    go_wp2_with (at_builtin; refine mapp1 (N := w0.heap.size) mSt rfl _ _ rfl HP.out.len rfl HP.out.row w1.heap.size (i, 0) rfl Fn.out (by omega) hsz ?_)
    intro g' c' wh ho hgr hat hlt2
    have HV := Lib.hid (HP.out.turn (ws' := ws ++ [(i, 0)]) (m' := m + 1) (A' := some ⟨g', 0, none⟩) (c' := c') (grown_mv (M := fun x => Value.ownBlock (.slice A m c) = some x) hgr (fun x e => e)) (fun x hx => ⟨(HP.out.rowlt hx).1, HP.out.ap x hx, fun q => HP.out.aa x hx q⟩) ho (by rw [List.length_append, HP.out.len]; rfl) (fun b hb => by
      have e : g' = b := by injection hb
      subst e
      rcases hat with e | e
      · exact ⟨HP.out.ap _ e, fun q => HP.out.aa _ e q⟩
      · refine ⟨fun hm => ?_, fun q => ?_⟩
        · have := (HP.out.hs hm).2
          omega
        · have := (HP.out.leftlt q).2
          omega))
    have d1 : wh.cell? ⟨bv, 0, none⟩ = some (.slice A m c) := (hgr.cell_far ⟨bv, 0, none⟩ (Array.getElem?_eq_some_iff.1 HP.out.xv).1 (fun e => HP.out.ap bv e.symm (by simp))).trans (cell_i HP.out.xv 0)
    have d2 : wh.frozen? ⟨bv, 0, none⟩ = false := (hgr.frozen_far ⟨bv, 0, none⟩ (Array.getElem?_eq_some_iff.1 HP.out.xv).1 (fun e => HP.out.ap bv e.symm (by simp))).trans (froz_i HP.out.xv 0)
    clear ho hgr hat hlt2
    go_wp2_with fail
    (try simp only [Exit.inBlock, Exit.then]); (first | refine bodyPost_ret (results_none rfl _ _ _) rfl ?_ | go_end0)
    exact ⟨rfl, _, _, _, _, _, HV.out, .inr ⟨HE.out.1, HE.out.2, rfl, rfl⟩⟩
end Go.Proofs.Ytojfbcfbnadboaa.Gra
