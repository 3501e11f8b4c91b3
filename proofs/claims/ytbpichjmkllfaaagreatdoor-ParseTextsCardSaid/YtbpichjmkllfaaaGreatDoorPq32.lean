/- Packed texts of one proof. Conditions: none. -/
import Derived.Test.YtbpichjmkllfaaaGreatDoorPq31
namespace Go.Proofs.YtbpichjmkllfaaaGreatDoor.Par
open Go.ChangeShapes Go.WideShapes Go.RowKit
open Lex (Tok tcl tkv tk tc)
set_option linter.unusedVariables false
set_option maxRecDepth 20000
theorem Ev.far {ts : List Tok} {md : Md} {d a : Nat} {R : Fol.Res} (h : Ev ts md d a R) : ∀ v b, R = .val v b → a ≤ b ∧ (md = .fac ∨ md = .pro ∨ md = .sum → a < b) := by
 induction h with
 | deep => intro v b e; cases e
 | @paren d a p t0 t R h0 hp ht h1 h2 h3 h4 ih =>
  intro v b e
  have : a ≤ p := by rw [← hp]; split <;> omega
  cases R with
  | val n c =>
   injection e with _ e
   have := (ih n c rfl).1
   exact ⟨by omega, fun _ => by omega⟩
  | bad c p => cases e
 | none => intro v b e; cases e
 | range => intro v b e; cases e
 | @num d a p t0 t h0 hp ht h1 h2 =>
  intro v b e
  injection e with _ e
  have : a ≤ p := by rw [← hp]; split <;> omega
  exact ⟨by omega, fun _ => by omega⟩
 | proBad => intro v b e; cases e
 | proGo h k ih1 ih2 => intro v b e; have := (ih1 _ _ rfl).2 (.inl rfl); have := (ih2 v b e).1; exact ⟨by omega, fun _ => by omega⟩
 | proStop => intro v b e; injection e with _ e; exact ⟨by omega, fun h => by rcases h with h | h | h <;> cases h⟩
 | proLBad => intro v b e; cases e
 | proLGo h1 h2 h3 h4 ih1 ih2 => intro v b e; have := (ih1 _ _ rfl).1; have := (ih2 v b e).1; exact ⟨by omega, fun h => by rcases h with h | h | h <;> cases h⟩
 | sumBad => intro v b e; cases e
 | sumGo h k ih1 ih2 => intro v b e; have := (ih1 _ _ rfl).2 (.inr (.inl rfl)); have := (ih2 v b e).1; exact ⟨by omega, fun _ => by omega⟩
 | sumEnd => intro v b e; injection e with _ e; exact ⟨by omega, fun h => by rcases h with h | h | h <;> cases h⟩
 | sumNo => intro v b e; cases e
 | sumLBad => intro v b e; cases e
 | sumLGo h1 h2 h3 h4 ih1 ih2 => intro v b e; have := (ih1 _ _ rfl).1; have := (ih2 v b e).1; exact ⟨by omega, fun h => by rcases h with h | h | h <;> cases h⟩
section
variable {A : Option Addr} {n cp : Nat} {ts : List Tok}
def RdC (f : FuncId) (md : Md) (A : Option Addr) (n cp : Nat) (ts : List Tok) (d : Nat) : Prop :=
 ∀ w a, IsToks w A n ts → a < n → (d = 0 → ∀ t0, ts[a]? = some t0 → Fol.isT t0 [40] = false) → Calls Tryz.prog f #[.slice A n cp, .int .i64 (a : Int), .int .i64 (d : Int)] w fun e w' => ∃ R, Ev ts md d a R ∧ OutP n R e ∧ Below w.heap.size w w'
theorem factor_v (hW : ∀ t ∈ ts, Wf t) (hE : Ends ts) (d : Nat) (hd : d ≤ 32) (hS : d < 32 → RdC 161 .sum A n cp ts (d + 1)) : RdC 162 .fac A n cp ts d := by
 intro w a hT ha h40
 have hl : ts.length = n := hT.1
 have h0 : ts[a]? = some (ts[a]'(by omega)) := List.getElem?_eq_getElem (by omega)
 generalize ts[a]'(by omega) = t0 at h0
 have hf : ∀ {t : Tok}, t ∈ ts → Wf t := fun h => hW _ h
 cases hm : Fol.isT t0 [45] with
 | false =>
  have hp : (if Fol.isT t0 [45] = true then a + 1 else a) = a := by rw [hm]; rfl
  have hw := hW _ (List.mem_of_getElem? h0)
  cases h1 : Fol.isT t0 [40] with
  | true =>
   have hd0 : d ≠ 0 := fun e => by rw [h40 e _ h0] at h1; cases h1
   by_cases h32 : 32 ≤ d
   ·refine (fac_deep_p (d : Int) h0 hm hT hW h1 (by omega) (by omega)).mono ?_
    rintro e w' ⟨rfl, hb⟩
    exact ⟨_, .deep h0 hp h0 h1 (by omega), ⟨by decide, 0, 0, rfl⟩, hb⟩
   ·have hn := hE.more h0 (by have := isT_kind h1; omega)
    refine (fac_paren_p (d : Int) h0 hm hT hW h1 (by omega) (by omega) (by omega) ((d + 1 : Nat) : Int) (by omega) (fun R => Ev ts .sum (d + 1) (a + 1) R) (fun W hTW => hS (by omega) W (a + 1) hTW (by omega) (fun e => by omega))).mono ?_
    rintro e w' ⟨R, hR, hO, hb⟩
    exact ⟨_, (Ev.paren h0 hp h0 h1 (by omega) (by omega) hR).as (by rw [hm]), hO, hb⟩
  | false =>
   by_cases hk : t0.kind = 2
   ·have hk' : ((t0.kind : Int) != 2) = false := by rw [hk]; rfl
    by_cases hn : t0.n < 0
    ·have hv : t0.n = -9223372036854775808 := by have := hw.num hk; omega
     refine (fac_range_p (d : Int) h0 hm hT hW h1 hk' hn).mono ?_
     rintro e w' ⟨rfl, hb⟩
     exact ⟨_, .range h0 hm hk hv, ⟨by decide, 0, 0, rfl⟩, hb⟩
    ·refine (fac_num_p (d : Int) h0 hm hT hW h1 hk' hn).mono ?_
     rintro e w' ⟨rfl, hb⟩
     have hn1 := hE.more h0 (by omega)
     refine ⟨_, .num h0 hp h0 hk (.inr (by omega)), ⟨by omega, ?_⟩, hb⟩
     unfold negIf
     rw [hm]; rfl
   ·have hk' : ((t0.kind : Int) != 2) = true := by simp; omega
    refine (fac_none_p (d : Int) h0 hm hT hW h1 hk').mono ?_
    rintro e w' ⟨rfl, hb⟩
    exact ⟨_, .none h0 hp h0 (.inl h1) hk, ⟨by decide, 0, 0, rfl⟩, hb⟩
 | true =>
  have hn0 := hE.more h0 (by have := isT_kind hm; omega)
  have hp : (if Fol.isT t0 [45] = true then a + 1 else a) = a + 1 := by rw [hm]; rfl
  have ht : ts[a + 1]? = some (ts[a + 1]'hn0) := List.getElem?_eq_getElem hn0
  generalize ts[a + 1]'hn0 = t at ht
  have hw := hW _ (List.mem_of_getElem? ht)
  by_cases hk : t.kind = 2
  ·have h1 : Fol.isT t [40] = false := by unfold Fol.isT; simp [hk]
   have hk' : ((t.kind : Int) != 2) = false := by rw [hk]; rfl
   have hn1 := hE.more ht (by omega)
   have hneg : negIf (Fol.isT t0 [45]) t.n = subV 0 t.n := by unfold negIf; rw [hm]; rfl
   by_cases hn : t.n < 0
   ·refine (fac_numl_m (d : Int) rfl h0 hm ht hT hW h1 hk' _ rfl hn).mono ?_
    rintro e w' ⟨rfl, hb⟩
    exact ⟨.val (subV 0 t.n) (a + 1 + 1), (Ev.num h0 hp ht hk (.inl hm)).as (by rw [hneg]), ⟨by omega, rfl⟩, hb⟩
   ·refine (fac_num_m (d : Int) rfl h0 hm ht hT hW h1 hk' _ rfl hn).mono ?_
    rintro e w' ⟨rfl, hb⟩
    exact ⟨.val (subV 0 t.n) (a + 1 + 1), (Ev.num h0 hp ht hk (.inl hm)).as (by rw [hneg]), ⟨by omega, rfl⟩, hb⟩
  ·have hk' : ((t.kind : Int) != 2) = true := by simp; omega
   cases h1 : Fol.isT t [40] with
   | false =>
    refine (fac_none_m (d : Int) rfl h0 hm ht hT hW h1 hk').mono ?_
    rintro e w' ⟨rfl, hb⟩
    exact ⟨_, .none h0 hp ht (.inl h1) hk, ⟨by decide, 0, 0, rfl⟩, hb⟩
   | true =>
    by_cases hd0 : d = 0
    ·refine (fac_nonz_m (d : Int) rfl h0 hm ht hT hW h1 (by omega) hk').mono ?_
     rintro e w' ⟨rfl, hb⟩
     exact ⟨_, .none h0 hp ht (.inr ⟨hd0, hm⟩) hk, ⟨by decide, 0, 0, rfl⟩, hb⟩
    ·by_cases h32 : 32 ≤ d
     ·refine (fac_deep_m (d : Int) rfl h0 hm ht hT hW h1 (by omega) (by omega)).mono ?_
      rintro e w' ⟨rfl, hb⟩
      exact ⟨_, .deep h0 hp ht h1 (by omega), ⟨by decide, 0, 0, rfl⟩, hb⟩
     ·have hn := hE.more ht (by have := isT_kind h1; omega)
      refine (fac_paren_m (d : Int) rfl h0 hm ht hT hW h1 (by omega) (by omega) (by omega) ((d + 1 : Nat) : Int) (by omega) (fun R => Ev ts .sum (d + 1) (a + 1 + 1) R) (fun W hTW => hS (by omega) W (a + 1 + 1) hTW (by omega) (fun e => by omega))).mono ?_
      rintro e w' ⟨R, hR, hO, hb⟩
      exact ⟨_, (Ev.paren h0 hp ht h1 (by omega) (by omega) hR).as (by rw [hm]), hO, hb⟩
def OutR (n : Nat) (R : Fol.Res) (N At C P : Int) : Prop :=
 match R with
 | .val v b => b < n ∧ N = v ∧ At = b ∧ C = 0 ∧ P = 0
 | .bad c q => c ≠ 0 ∧ C = c ∧ P = q
theorem OutP.out {n : Nat} {R : Fol.Res} {e : Ending} (h : OutP n R e) : ∃ N At C P : Int, e = .returned (.agg (outA N At C P)) ∧ OutR n R N At C P := by
 cases R with
 | val v b => obtain ⟨h1, h2⟩ := h; exact ⟨v, b, 0, 0, h2, h1, rfl, rfl, rfl, rfl⟩
 | bad c q => obtain ⟨h1, x, y, h2⟩ := h; exact ⟨x, y, c, q, h2, h1, rfl, rfl⟩
theorem OutR.outP {n : Nat} {R : Fol.Res} {N At C P : Int} (h : OutR n R N At C P) : OutP n R (.returned (.agg (outA N At C P))) := by
 cases R with
 | val v b => obtain ⟨h1, rfl, rfl, rfl, rfl⟩ := h; exact ⟨h1, rfl⟩
 | bad c q => obtain ⟨h1, rfl, rfl⟩ := h; exact ⟨h1, N, At, rfl⟩
theorem box_frozen' {w : World} {p : Nat} {cs : Array Value} {T : TypeId} (h : w.heap[p]? = some (.cells cs T (0, 0))) (j : Nat) : w.frozen? ⟨p, j, none⟩ = false := frozen_of_row _ _ _ _ _ h
structure Px (w W : World) (H : Nat) (N At C P : Int) : Prop where
 below : Below w.heap.size w W
 lo : w.heap.size < H
 z : W.heap[w.heap.size]? = some (.cells (outA 0 0 0 0) 213 (0, 0))
 ob : W.heap[H]? = some (.cells (outA N At C P) 213 (0, 0))
theorem Px.next {w W W' : World} {H : Nat} {N At C P : Int} (h : Px w W H N At C P) (k : Below W.heap.size W W') : Px w W' H N At C P :=
 ⟨h.below.trans (k.mono h.below.size), h.lo, kept_box h.z k, kept_box h.ob k⟩
theorem Px.cells {w W : World} {H : Nat} {N At C P : Int} (h : Px w W H N At C P) :
  (W.cell? ⟨H, 0, none⟩ = some (.int .i64 N) ∧ W.cell? ⟨H, 1, none⟩ = some (.int .i64 At) ∧ W.cell? ⟨H, 2, none⟩ = some (.int .i64 C) ∧ W.cell? ⟨H, 3, none⟩ = some (.int .i64 P)) ∧
  (W.cell? ⟨w.heap.size, 0, none⟩ = some (.int .i64 0) ∧ W.cell? ⟨w.heap.size, 1, none⟩ = some (.int .i64 0) ∧ W.cell? ⟨w.heap.size, 2, none⟩ = some (.int .i64 0) ∧ W.cell? ⟨w.heap.size, 3, none⟩ = some (.int .i64 0)) :=
 ⟨⟨cell_in h.ob 0, cell_in h.ob 1, cell_in h.ob 2, cell_in h.ob 3⟩, cell_in h.z 0, cell_in h.z 1, cell_in h.z 2, cell_in h.z 3⟩
theorem Px.frozen {w W : World} {H : Nat} {N At C P : Int} (h : Px w W H N At C P) :
  (W.frozen? ⟨H, 0, none⟩ = false ∧ W.frozen? ⟨H, 1, none⟩ = false ∧ W.frozen? ⟨H, 2, none⟩ = false ∧ W.frozen? ⟨H, 3, none⟩ = false) ∧
  (W.frozen? ⟨w.heap.size, 0, none⟩ = false ∧ W.frozen? ⟨w.heap.size, 1, none⟩ = false ∧ W.frozen? ⟨w.heap.size, 2, none⟩ = false ∧ W.frozen? ⟨w.heap.size, 3, none⟩ = false) :=
 ⟨⟨frozen_of_row _ _ _ _ _ h.ob, frozen_of_row _ _ _ _ _ h.ob, frozen_of_row _ _ _ _ _ h.ob, frozen_of_row _ _ _ _ _ h.ob⟩, frozen_of_row _ _ _ _ _ h.z, frozen_of_row _ _ _ _ _ h.z, frozen_of_row _ _ _ _ _ h.z, frozen_of_row _ _ _ _ _ h.z⟩
theorem Px.set {w W : World} {H : Nat} {N At C P : Int} (h : Px w W H N At C P) (N' At' C' P' : Int) : Px w (four W H (.int .i64 N') (.int .i64 At') (.int .i64 C') (.int .i64 P')) H N' At' C' P' :=
 ⟨four_below h.below (by have := h.lo; omega), h.lo, by rw [four_far (by have := h.lo; omega)]; exact h.z, four_heap h.ob⟩
theorem Px.far {w W : World} {H : Nat} {N At C P : Int} (h : Px w W H N At C P) {b o : Nat} (hb : H < b) (v : Value) : Px w (W.setCell ⟨b, o, none⟩ v) H N At C P :=
 ⟨h.below.setCell (p := ⟨b, o, none⟩) (by have := h.lo; show w.heap.size ≤ b; omega) _, h.lo, by rw [Below.heap_setCell _ _ _ _ (by have := h.lo; show w.heap.size ≠ b; omega)]; exact h.z, by rw [Below.heap_setCell _ _ _ _ (by show H ≠ b; omega)]; exact h.ob⟩
theorem Px.end {w W : World} {H : Nat} {N At C P : Int} (h : Px w W H N At C P) (x0 x1 x2 x3 : Value) :
  (four W w.heap.size x0 x1 x2 x3).heap[w.heap.size]? = some (.cells #[x0, x1, x2, x3] 213 (0, 0)) ∧ Below w.heap.size w (four W w.heap.size x0 x1 x2 x3) := ⟨four_heap h.z, four_below h.below (Nat.le_refl _)⟩
theorem px_start {w w1 : World} {N At C P : Int} (hb1 : Below (w.alloc (.cells (outA 0 0 0 0) 213)).heap.size (w.alloc (.cells (outA 0 0 0 0) 213)) w1) : Px w (w1.alloc (.cells (outA N At C P) 213)) w1.heap.size N At C P := by
 have hs := hb1.size
 rw [World.size_alloc] at hs
 refine ⟨((Below.refl _ w).alloc (Nat.le_refl _) _).trans ((hb1.mono (by simp)).alloc (by omega) _), by omega, ?_, heap_alloc_new w1 _⟩
 rw [Below.heap_alloc _ _ _ (by omega), hb1.block w.heap.size (by simp)]
 exact heap_alloc_new w _
def LpP (ts : List Tok) (d : Nat) : Fol.Res → Fol.Res → Prop
 | .val v b, R => Ev ts (.proL v) d b R
 | .bad c q, R => R = .bad c q
structure ProS (ts : List Tok) (n d a : Nat) (R : Fol.Res) (N At C P : Int) : Prop where
 out : OutR n R N At C P
 fit : FitR R
 ev : ∀ R', LpP ts d R R' → Ev ts .pro d a R'
def left (n : Nat) : Fol.Res → Nat
 | .val _ b => n - b + 1
 | .bad _ _ => 0
theorem ProS.start {ts : List Tok} {n d a : Nat} {R : Fol.Res} {N At C P : Int} (hf : ∀ t ∈ ts, Fit64 t.n) (h : Ev ts .fac d a R) (ho : OutR n R N At C P) : ProS ts n d a R N At C P := by
 refine ⟨ho, h.fit hf trivial, fun R' hl => ?_⟩
 cases R with
 | val v b => exact .proGo h hl
 | bad c q => rw [show R' = .bad c q from hl]; exact .proBad h
theorem ProS.more {ts : List Tok} {n d a : Nat} {v : Int} {b : Nat} {R : Fol.Res} {N At C P N2 At2 C2 P2 : Int} {t : Tok} (hf : ∀ t ∈ ts, Fit64 t.n) (h : ProS ts n d a (.val v b) N At C P) (ht : ts[b]? = some t) (hs : Fol.isT t [42] = true)
  (hk : Ev ts .fac d (b + 1) R) (ho : OutR n R N2 At2 C2 P2) : ∃ R', ProS ts n d a R' (mulV N N2) At2 C2 P2 ∧ left n R' < left n (.val v b) := by
 have hb := h.out.1
 have hN := h.out.2.1
 cases R with
 | val y c =>
  obtain ⟨h1, h2, h3, h4, h5⟩ := ho
  have := (hk.far y c rfl).1
  refine ⟨.val (mulV v y) c, ⟨⟨h1, by rw [hN, h2], h3, h4, h5⟩, wrap_in _, fun R' hl => h.ev R' (.proLGo ht hs hk hl)⟩, ?_⟩
  show n - c + 1 < n - b + 1
  omega
 | bad c q =>
  obtain ⟨h1, h2, h3⟩ := ho
  refine ⟨.bad c q, ⟨⟨h1, h2, h3⟩, trivial, fun R' hl => h.ev R' ?_⟩, ?_⟩
  ·rw [show R' = .bad c q from hl]; exact .proLBad ht hs hk
  ·show 0 < n - b + 1
   omega
set_option maxHeartbeats 2000000 in
theorem product_v (hW : ∀ t ∈ ts, Wf t) (hE : Hid (Ends ts)) (d : Nat) (hd : 0 < d) (hF : RdC 162 .fac A n cp ts d) : RdC 169 .pro A n cp ts d := by
 intro w a hT ha _
 have hfit : ∀ t ∈ ts, Fit64 t.n := fun t h => (hW t h).fit
 have hfew := hT.2.1
 obtain ⟨D, hD⟩ : ∃ D : Int, (d : Int) = D := ⟨_, rfl⟩
 rw [hD]
 have HH := Hh (Ai hW (Ai hF (Ai hT (Ai ha (Ai hD (Ai hfit hd))))))
 clear hW hF hT ha hD hfit hd
 go_enter Tryz.func169, Tryz.ntmps169
 go_wp2_with fail
 have hcall := HH.out.2.1 (w.alloc (.cells (outA 0 0 0 0) 213)) a (HH.out.2.2.1.below ((Below.refl _ w).alloc (Nat.le_refl _) _)) HH.out.2.2.2.1 (fun e => absurd e (by have := HH.out.2.2.2.2.2.2; omega))
 rw [HH.out.2.2.2.2.1] at hcall
 refine hcall.mono ?_
 rintro e w1 ⟨R, hR, hO, hb1⟩
 obtain ⟨N, At, C, P, rfl, hO'⟩ := hO.out
 have P0 := Hh (px_start (N := N) (At := At) (C := C) (P := P) hb1)
 have S0 := Hh (ProS.start HH.out.2.2.2.2.2.1 hR hO')
 clear hR hO hO' hb1 hcall
 unfold outA
 go_wp2_with fail
 go_loopg [9, 10] (left n R) (fun gk u x wr => ∃ (R : Fol.Res) (N At C P : Int), gk = left n R ∧ Hid (Px w wr w1.heap.size N At C P ∧ ProS ts n d a R N At C P))
 case atStart => exact ⟨R, N, At, C, P, rfl, P0.out, S0.out⟩
 case round =>
  obtain ⟨R, N, At, C, P, hk, HP⟩ := hrel
  have hrow := HP.out.2.out
  obtain ⟨⟨y0, y1, y2, y3⟩, x0, x1, x2, x3⟩ := HP.out.1.cells
  obtain ⟨⟨g0, g1, g2, g3⟩, f0, f1, f2, f3⟩ := HP.out.1.frozen
  cases R with
  | bad c q =>
   have hc : (C == 0) = false := by rw [Bqf, hrow.2.1]; exact hrow.1
   clear hrow hk
   go_wp2_with fail
   refine fin_out (fn := Tryz.f169) rfl rfl (HP.out.1.end _ _ _ _).1 rfl ?_
   exact ⟨_, HP.out.2.ev _ rfl, HP.out.2.out.outP, (HP.out.1.end _ _ _ _).2⟩
  | val v b =>
   obtain ⟨hb, hN, hAt, hC, hP⟩ := hrow
   subst hN hAt hC hP
   have ht : ts[b]? = some (ts[b]'(by rw [HH.out.2.2.1.1]; exact hb)) := List.getElem?_eq_getElem (by rw [HH.out.2.2.1.1]; exact hb)
   obtain ⟨t, ht'⟩ : ∃ t, (ts[b]'(by rw [HH.out.2.2.1.1]; exact hb)) = t := ⟨_, rfl⟩
   rw [ht'] at ht
   have T1 := HH.out.2.2.1.below HP.out.1.below
   obtain ⟨bb, o, rfl, hlt, d0, d1, d2, d3, d4⟩ := T1.at ht
   have l1 : (0 : Int) ≤ (b : Int) := Int.natCast_nonneg _
   have l2 : (b : Int) < (n : Int) := by omega
   have HT := Hh (Ai ht (Ai T1 hb))
   clear ht' T1 hlt
   cases hs : Fol.isT t [42] with
   | false =>
    have HS := Hh hs
    clear hs hk ht hb
    go_wp2_with fail
    refine (sg_v (HH.out.1 _ (List.mem_of_getElem? HT.out.1)) 42 (by decide) false HS.out _).mono ?_
    rintro e w3 ⟨rfl, hb3⟩
    have P3 := Hh (HP.out.1.next hb3)
    clear hb3 y0 y1 y2 y3 x0 x1 x2 x3 g0 g1 g2 g3 f0 f1 f2 f3
    obtain ⟨⟨y0, y1, y2, y3⟩, x0, x1, x2, x3⟩ := P3.out.cells
    obtain ⟨⟨g0, g1, g2, g3⟩, f0, f1, f2, f3⟩ := P3.out.frozen
    go_wp2_with fail
    refine fin_out (fn := Tryz.f169) rfl rfl (P3.out.end _ _ _ _).1 rfl ?_
    exact ⟨_, HP.out.2.ev _ (.proStop HT.out.1 HS.out), HP.out.2.out.outP, (P3.out.end _ _ _ _).2⟩
   | true =>
    have HE := Hh (Ai hs hk)
    have hn1 := hE.out.more ht (by have := isT_kind hs; omega)
    rw [HH.out.2.2.1.1] at hn1
    obtain ⟨b1, hb1⟩ : ∃ b1, b + 1 = b1 := ⟨_, rfl⟩
    rw [hb1] at hn1
    have q1 : (b : Int) + 1 = (b1 : Int) := by omega
    have q2 : wrap64 ((b : Int) + 1) = (b1 : Int) := by rw [q1]; unfold wrap64; omega
    have HB := Hh (Ai hb1 hn1)
    clear hs hk ht hb hb1 hn1
    go_wp2_with fail
    refine (sg_v (HH.out.1 _ (List.mem_of_getElem? HT.out.1)) 42 (by decide) true HE.out.1 _).mono ?_
    rintro e w3 ⟨rfl, hb3⟩
    have P3 := Hh (HP.out.1.next hb3)
    clear hb3 y0 y1 y2 y3 x0 x1 x2 x3 g0 g1 g2 g3 f0 f1 f2 f3 d0 d1 d2 d3 d4
    obtain ⟨⟨y0, y1, y2, y3⟩, _⟩ := P3.out.cells
    go_wp2_with fail
    have hcall := HH.out.2.1 w3 b1 (HH.out.2.2.1.below P3.out.below) HB.out.2 (fun e => absurd e (by have := HH.out.2.2.2.2.2.2; omega))
    rw [HH.out.2.2.2.2.1] at hcall
    refine hcall.mono ?_
    rintro e w4 ⟨R2, hR2, hO2, hb4⟩
    obtain ⟨N2, At2, C2, P2, rfl, hO2'⟩ := hO2.out
    obtain ⟨R3, hS3, hl3⟩ := ProS.more HH.out.2.2.2.2.2.1 HP.out.2 HT.out.1 HE.out.1 (by rw [HB.out.1]; exact hR2) hO2'
    have P4 := P3.out.next hb4
    have hfn : fit N := HP.out.2.fit
    have HS3 := Hh (Ai hS3 (Ai hl3 hfn))
    have P5 := P4.next ((Below.refl _ w4).alloc (Nat.le_refl _) (.cells (outA N2 At2 C2 P2) 213))
    have hlo : w1.heap.size < w4.heap.size := Nat.lt_of_lt_of_le (Array.getElem?_eq_some_iff.1 P4.ob).1 (Nat.le_refl _)
    have HP5 := Hh (Ai P5 hlo)
    clear hcall hR2 hO2 hO2' hb4 P4 P5 hS3 hl3 hfn hlo y0 y1 y2 y3 q1 q2
    obtain ⟨⟨y0, y1, y2, y3⟩, _⟩ := HP5.out.1.cells
    unfold outA at y0 y1 y2 y3
    unfold outA
    go_wp2_with fail
    refine (rdo3 N N2 HS3.out.2.2 _).mono ?_
    rintro e w5 ⟨rfl, hb5⟩
    have ob5 := kept_box (heap_alloc_new w4 (.cells (outA N2 At2 C2 P2) 213 (0, 0))) hb5
    have P6 := HP5.out.1.next hb5
    obtain ⟨m, hm⟩ : ∃ m, mulV N N2 = m := ⟨_, rfl⟩
    rw [hm] at HS3
    rw [hm]
    obtain ⟨w6, hw6⟩ : ∃ w6, w5.setCell ⟨w4.heap.size, 0, none⟩ (.int .i64 m) = w6 := ⟨_, rfl⟩
    have ob6 : w6.heap[w4.heap.size]? = some (.cells (outA m At2 C2 P2) 213 (0, 0)) := by
     rw [← hw6]
     simp [World.setCell, Array.getElem?_modify, ob5, outA]
    have P7 := P6.far HP5.out.2 (o := 0) (.int .i64 m)
    rw [hw6] at P7
    have zf := box_frozen' ob5 0
    have z0 : w5.cell? ⟨w4.heap.size, 0, none⟩ = some (.int .i64 N2) := cell_in ob5 0
    have v0 : w6.cell? ⟨w4.heap.size, 0, none⟩ = some (.int .i64 m) := cell_in ob6 0
    have v1 : w6.cell? ⟨w4.heap.size, 1, none⟩ = some (.int .i64 At2) := cell_in ob6 1
    have v2 : w6.cell? ⟨w4.heap.size, 2, none⟩ = some (.int .i64 C2) := cell_in ob6 2
    have v3 : w6.cell? ⟨w4.heap.size, 3, none⟩ = some (.int .i64 P2) := cell_in ob6 3
    obtain ⟨⟨y0', y1', y2', y3'⟩, _⟩ := P7.cells
    obtain ⟨⟨g0, g1, g2, g3⟩, _⟩ := P7.frozen
    have P8 := Hh (P7.set m At2 C2 P2)
    clear y0 y1 y2 y3 ob5 ob6 P6 P7 hb5 hm
    go_wp2_with fail
    go_roundg (left n R3)
    case measure =>
     rw [HE.out.2]
     exact HS3.out.2.1
    case rel => exact ⟨R3, m, At2, C2, P2, rfl, P8.out, HS3.out.1⟩
end
end Go.Proofs.YtbpichjmkllfaaaGreatDoor.Par
