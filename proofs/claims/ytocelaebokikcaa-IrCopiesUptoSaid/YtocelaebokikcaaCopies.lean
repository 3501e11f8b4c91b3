/- The statement on copies. -/
import Derived.Test.YtocelaebokikcaaCopiesR
import Derived.StillTailTactics
import Derived.Test.YtocelaebokikcaaWorks
import Derived.Test.YtocelaebokikcaaRefF
import Derived.Deep.RegionHeld3
import Derived.Deep.RegionWith
import Derived.Deep.CutRange
namespace Go.Proofs.Ytocelaebokikcaa
open Go.ChangeShapes Go.WideShapes Go.RowKit
set_option linter.unusedVariables false
set_option maxRecDepth 20000

/-- The world while the first copy is written. -/
structure CW (d : FunD) (X : XX) (w6 : World) (F : Nat → Nat → Nat → Prop) (W : World) : Prop where
  mid : Mid X.b1 X.c1 w6 W
  typed : Typed d X.S1 X.G1 F W
/-- What of the first copy never turns. -/
structure CK (d : FunD) (X : XX) (w6 : World) : Prop where
  inj : ∀ p q, d.valid p → d.valid q → X.G1 p = X.G1 q → p = q
  spots : ∀ p, d.valid p → X.S1 p = (some ⟨X.G1 p, 0, none⟩, d.len p)
  lo : ∀ p, d.valid p → X.b1 ≤ X.G1 p
  hi : ∀ p, d.valid p → X.G1 p < X.c1
  top : X.c1 ≤ w6.heap.size
  small : ∀ p, d.valid p → d.len p ≤ 1048576
theorem CW.put {d : FunD} {X : XX} {w6 : World} {F : Nat → Nat → Nat → Prop} {W : World} (h : CW d X w6 F W) (hk : CK d X w6) (x : Cel) (hx : x.ok d) (v : Value) (hv : Kind d X.S1 F x v) : CW d X w6 F (W.setCell (x.spot X.G1) v) :=
  ⟨h.mid.setCell (hk.lo _ (Cel.valid hx)) (hk.hi _ (Cel.valid hx)) v, h.typed.put hk.inj x hx v hv⟩
theorem CW.put4 {d : FunD} {X : XX} {w6 : World} {F : Nat → Nat → Nat → Prop} {W : World} (h : CW d X w6 F W) (hk : CK d X w6) (x0 x1 x2 x3 : Cel) (h0 : x0.ok d) (h1 : x1.ok d) (h2 : x2.ok d) (h3 : x3.ok d) (v0 v1 v2 v3 : Value) (k0 : Kind d X.S1 F x0 v0) (k1 : Kind d X.S1 F x1 v1) (k2 : Kind d X.S1 F x2 v2) (k3 : Kind d X.S1 F x3 v3) :
    CW d X w6 F ((((W.setCell (x0.spot X.G1) v0).setCell (x1.spot X.G1) v1).setCell (x2.spot X.G1) v2).setCell (x3.spot X.G1) v3) :=
  (((h.put hk x0 h0 v0 k0).put hk x1 h1 v1 k1).put hk x2 h2 v2 k2).put hk x3 h3 v3 k3
theorem CW.alloc {d : FunD} {X : XX} {w6 : World} {F : Nat → Nat → Nat → Prop} {W : World} (h : CW d X w6 F W) (o : Obj) : CW d X w6 F (W.alloc o) :=
  ⟨h.mid.trans (Mid.of ((Below.refl _ W).alloc (Nat.le_refl _) o)), h.typed.keep fun g hg => Below.heap_alloc W o g hg⟩
theorem CW.drew {d : FunD} {X : XX} {w6 : World} {F : Nat → Nat → Nat → Prop} {W : World} (h : CW d X w6 F W) : CW d X w6 F W.drew :=
  ⟨h.mid.drew, h.typed.keep fun g hg => rfl⟩
theorem CW.weak {d : FunD} {X : XX} {w6 : World} {F F' : Nat → Nat → Nat → Prop} {W : World} (h : CW d X w6 F W) (hF : ∀ b k j, F' b k j → F b k j) : CW d X w6 F' W := ⟨h.mid, h.typed.weak hF⟩
theorem CW.blk3 {d : FunD} {X : XX} {w6 : World} {F : Nat → Nat → Nat → Prop} {W : World} (h : CW d X w6 F W) (hk : CK d X w6) (b : Nat) (hb : b < d.nb) : W.cell? ⟨X.G1 .blocks, b * 4 + 3, none⟩ = some (.slice (some ⟨X.G1 (.code b), 0, none⟩) (d.nk b) (d.nk b)) := by
  obtain ⟨v, hv, e⟩ := h.typed.cell (.blk b 3) ⟨hb, by omega⟩
  have e := e rfl
  rw [hk.spots (.code b) hb] at e
  rw [show (⟨X.G1 .blocks, b * 4 + 3, none⟩ : Addr) = (Cel.blk b 3).spot X.G1 from rfl, hv, e]
  rfl
theorem CW.ten {d : FunD} {X : XX} {w6 : World} {F : Nat → Nat → Nat → Prop} {W : World} (h : CW d X w6 F W) (hk : CK d X w6) (b k : Nat) (hb : b < d.nb) (hq : k < d.nk b) :
    ∃ (o0 o1 o2 o3 o4 o7 : Int) (nm : ByteArray), W.cell? ⟨X.G1 (.code b), k * 10, none⟩ = some (.int .i64 o0) ∧ W.cell? ⟨X.G1 (.code b), k * 10 + 1, none⟩ = some (.int .i64 o1) ∧ W.cell? ⟨X.G1 (.code b), k * 10 + 2, none⟩ = some (.int .i64 o2) ∧ W.cell? ⟨X.G1 (.code b), k * 10 + 3, none⟩ = some (.int .i64 o3) ∧ W.cell? ⟨X.G1 (.code b), k * 10 + 4, none⟩ = some (.int .i64 o4) ∧
      W.cell? ⟨X.G1 (.code b), k * 10 + 5, none⟩ = some (.slice (some ⟨X.G1 (.args b k), 0, none⟩) (d.len (.args b k)) (d.len (.args b k))) ∧ W.cell? ⟨X.G1 (.code b), k * 10 + 6, none⟩ = some (.string nm) ∧ W.cell? ⟨X.G1 (.code b), k * 10 + 7, none⟩ = some (.int .i64 o7) ∧
      W.cell? ⟨X.G1 (.code b), k * 10 + 8, none⟩ = some (.slice (some ⟨X.G1 (.labels b k), 0, none⟩) (d.len (.labels b k)) (d.len (.labels b k))) ∧ W.cell? ⟨X.G1 (.code b), k * 10 + 9, none⟩ = some (.slice (some ⟨X.G1 (.cases b k), 0, none⟩) (d.len (.cases b k)) (d.len (.cases b k))) := by
  have at_ : ∀ c, c < 10 → ∃ v, W.cell? ⟨X.G1 (.code b), k * 10 + c, none⟩ = some v ∧ Kind d X.S1 F (.cod b k c) v := fun c hc => h.typed.cell (.cod b k c) ⟨hb, hq, hc⟩
  obtain ⟨v0, c0, _, _, _, _, e0⟩ := at_ 0 (by omega)
  obtain ⟨v1, c1, _, _, _, _, e1⟩ := at_ 1 (by omega)
  obtain ⟨v2, c2, _, _, _, _, e2⟩ := at_ 2 (by omega)
  obtain ⟨v3, c3, _, _, _, _, e3⟩ := at_ 3 (by omega)
  obtain ⟨v4, c4, _, _, _, _, e4⟩ := at_ 4 (by omega)
  obtain ⟨v5, c5, e5, _⟩ := at_ 5 (by omega)
  obtain ⟨v6, c6, _, _, _, e6, _⟩ := at_ 6 (by omega)
  obtain ⟨v7, c7, _, _, _, _, e7⟩ := at_ 7 (by omega)
  obtain ⟨v8, c8, _, e8, _⟩ := at_ 8 (by omega)
  obtain ⟨v9, c9, _, _, e9, _⟩ := at_ 9 (by omega)
  obtain ⟨z0, rfl⟩ := e0 (.inl (by omega))
  obtain ⟨z1, rfl⟩ := e1 (.inl (by omega))
  obtain ⟨z2, rfl⟩ := e2 (.inl (by omega))
  obtain ⟨z3, rfl⟩ := e3 (.inl (by omega))
  obtain ⟨z4, rfl⟩ := e4 (.inl (by omega))
  obtain ⟨z7, rfl⟩ := e7 (.inr rfl)
  obtain ⟨z6, rfl⟩ := e6 rfl
  have e5 := e5 rfl
  have e8 := e8 rfl
  have e9 := e9 rfl
  rw [hk.spots (.args b k) ⟨hb, hq⟩] at e5
  rw [hk.spots (.labels b k) ⟨hb, hq⟩] at e8
  rw [hk.spots (.cases b k) ⟨hb, hq⟩] at e9
  subst e5 e8 e9
  exact ⟨z0, z1, z2, z3, z4, z7, z6, c0, c1, c2, c3, c4, c5, c6, c7, c8, c9⟩
theorem CW.any {d : FunD} {X : XX} {w6 : World} {F : Nat → Nat → Nat → Prop} {W : World} (h : CW d X w6 F W) (x : Cel) (hx : x.ok d) : (∃ v, W.cell? (x.spot X.G1) = some v) ∧ W.frozen? (x.spot X.G1) = false := by
  obtain ⟨v, hv, _⟩ := h.typed.cell x hx
  exact ⟨⟨v, hv⟩, h.typed.froz x hx⟩
theorem add_run (a b c : ByteArray) (h : a.size + b.size ≤ 9223372036854775807) (hc : a ++ b = c) (W : World) : (Op.stringOp .add a b).run Try.prog W = .ok (.string c) W := by
  rw [run_string_add_sum W a b h, hc]
theorem Mid.box {c0 c1 : Nat} {a w : World} {g : Nat} {o : Obj} (h : Mid c0 c1 a w) (hg : a.heap[g]? = some o) (hc : g < c0 ∨ c1 ≤ g) : w.heap[g]? = some o := by
  rw [h.block g (Array.getElem?_eq_some_iff.1 hg).1 hc]; exact hg
theorem CW.keep {d : FunD} {X : XX} {w6 : World} {F : Nat → Nat → Nat → Prop} {W W' : World} (h : CW d X w6 F W) (hb : Below W.heap.size W W') : CW d X w6 F W' :=
  ⟨h.mid.trans (Mid.of hb), h.typed.keep hb.block⟩
/-- .. and a box beside it. -/
structure CB (d : FunD) (X : XX) (w6 : World) (F : Nat → Nat → Nat → Prop) (PX : Nat) (XB : Array Value) (W : World) : Prop where
  cw : CW d X w6 F W
  box : W.heap[PX]? = some (.cells XB 51 (0, 0))
theorem CB.put {d : FunD} {X : XX} {w6 : World} {F : Nat → Nat → Nat → Prop} {PX : Nat} {XB : Array Value} {W : World} (h : CB d X w6 F PX XB W) (hk : CK d X w6) (hP : X.c1 ≤ PX) (x : Cel) (hx : x.ok d) (v : Value) (hv : Kind d X.S1 F x v) : CB d X w6 F PX XB (W.setCell (x.spot X.G1) v) :=
  ⟨h.cw.put hk x hx v hv, by
    have := hk.hi _ (Cel.valid hx)
    rw [Below.heap_setCell W (x.spot X.G1) v PX (by show PX ≠ X.G1 x.pos; omega)]; exact h.box⟩
theorem CB.put4 {d : FunD} {X : XX} {w6 : World} {F : Nat → Nat → Nat → Prop} {PX : Nat} {XB : Array Value} {W : World} (h : CB d X w6 F PX XB W) (hk : CK d X w6) (hP : X.c1 ≤ PX) (x0 x1 x2 x3 : Cel) (h0 : x0.ok d) (h1 : x1.ok d) (h2 : x2.ok d) (h3 : x3.ok d) (v0 v1 v2 v3 : Value) (k0 : Kind d X.S1 F x0 v0) (k1 : Kind d X.S1 F x1 v1) (k2 : Kind d X.S1 F x2 v2) (k3 : Kind d X.S1 F x3 v3) :
    CB d X w6 F PX XB ((((W.setCell (x0.spot X.G1) v0).setCell (x1.spot X.G1) v1).setCell (x2.spot X.G1) v2).setCell (x3.spot X.G1) v3) :=
  (((h.put hk hP x0 h0 v0 k0).put hk hP x1 h1 v1 k1).put hk hP x2 h2 v2 k2).put hk hP x3 h3 v3 k3
theorem CB.drew {d : FunD} {X : XX} {w6 : World} {F : Nat → Nat → Nat → Prop} {PX : Nat} {XB : Array Value} {W : World} (h : CB d X w6 F PX XB W) : CB d X w6 F PX XB W.drew := ⟨h.cw.drew, h.box⟩
theorem CB.weak {d : FunD} {X : XX} {w6 : World} {F F' : Nat → Nat → Nat → Prop} {PX : Nat} {XB : Array Value} {W : World} (h : CB d X w6 F PX XB W) (hF : ∀ b k j, F' b k j → F b k j) : CB d X w6 F' PX XB W := ⟨h.cw.weak hF, h.box⟩
def fr1 (i : Nat) : Nat → Nat → Nat → Prop := fun b _ _ => i ≤ b
def fr2 (i k : Nat) : Nat → Nat → Nat → Prop := fun b k' _ => i < b ∨ (b = i ∧ k ≤ k')
def fr3 (i k j : Nat) : Nat → Nat → Nat → Prop := fun b k' j' => i < b ∨ (b = i ∧ (k < k' ∨ (k' = k ∧ j ≤ j')))
theorem CB.lab {d : FunD} {X : XX} {w6 : World} {i k j : Nat} {PX : Nat} {XB : Array Value} {W : World} (h : CB d X w6 (fr3 i k j) PX XB W) (hk : CK d X w6) (hP : X.c1 ≤ PX) (hx : (Cel.lab i k j).ok d) (T : ByteArray) (hT : T.size ≤ 1048577) :
    CB d X w6 (fr3 i k (j + 1)) PX XB (W.setCell ⟨X.G1 (.labels i k), j, none⟩ (.string T)) := by
  have h2 : CB d X w6 (fr3 i k (j + 1)) PX XB W := h.weak (fun b k' j' e => by unfold fr3 at e ⊢; omega)
  exact h2.put hk hP (.lab i k j) hx (.string T) ⟨T, rfl, hT, fun e => by unfold fr3 at e; omega⟩
set_option maxHeartbeats 4000000 in
theorem copies_v (f : Fun) (v : FunV) (x : Opn) (w : World) (h : IsFun w f v) (hB : FunB 1048576 f) :
    Calls Try.prog 4 #[.agg (funR f v), .agg #[.int .i64 x.k, .int .i64 x.c, .int .i64 x.n, .int .i64 x.t]] w fun e w' => e = .returned (.bool true) ∧ Below w.heap.size w w' := by
  have B0 : Below w.heap.size w ((w.alloc (.cells (funR f v) 31)).alloc (.cells #[.int .i64 x.k, .int .i64 x.c, .int .i64 x.n, .int .i64 x.t] 44)) := ((Below.refl _ w).alloc (Nat.le_refl _) _).alloc (by simp) _
  have HI := h.below B0
  have D := Lib.hid (And.intro B0 (And.intro (show ((w.alloc (.cells (funR f v) 31)).alloc (.cells #[.int .i64 x.k, .int .i64 x.c, .int .i64 x.n, .int .i64 x.t] 44)).heap.size = w.heap.size + 2 by simp) (box_two w (.cells (funR f v) 31) (.cells #[.int .i64 x.k, .int .i64 x.c, .int .i64 x.n, .int .i64 x.t] 44))))
  clear h B0
  obtain ⟨wa, hwa⟩ : ∃ wa, (w.alloc (.cells (funR f v) 31)).alloc (.cells #[.int .i64 x.k, .int .i64 x.c, .int .i64 x.n, .int .i64 x.t] 44) = wa := ⟨_, rfl⟩
  rw [hwa] at D HI
  have CL := Lib.hid (show ∀ W, Below wa.heap.size wa W → Calls Try.prog 7 #[.agg (funR f v)] W fun e w' => SomeBool e ∧ Below W.heap.size W w' from fun W hb => large_v f v W (HI.below hb))
  have CC := Lib.hid (show ∀ W, Below wa.heap.size wa W → Calls Try.prog 17 #[.agg (funR f v)] W (CopyP f W) from fun W hb => copy_v f v W (HI.below hb) hB.small)
  have HF := Lib.hid (And.intro HI hB)
  clear HI hB
  have hbox := Lib.hid (show ∀ W, Below wa.heap.size wa W → W.heap[w.heap.size]? = some (.cells (funR f v) 31 (0, 0)) ∧ W.heap[w.heap.size + 1]? = some (.cells #[.int .i64 x.k, .int .i64 x.c, .int .i64 x.n, .int .i64 x.t] 44 (0, 0)) from fun W hb => ⟨kept_box D.out.2.2.1 hb, kept_box D.out.2.2.2 hb⟩)
  obtain ⟨fm, fname, ra, rn, rc, pa, pn, pc, ba, bn, bc, hfr⟩ : ∃ fm fname ra rn rc pa pn pc ba bn bc, funR f v = #[.bool fm, .string fname, .slice ra rn rc, .slice pa pn pc, .slice ba bn bc] := ⟨_, _, _, _, _, _, _, _, _, _, _, rfl⟩
  have HFR := Lib.hid hfr
  rw [hfr] at CL CC D hbox hwa ⊢
  clear hfr
  have hcells := Lib.hid (show ∀ W, Below wa.heap.size wa W → W.cell? ⟨w.heap.size, 0, none⟩ = some (.bool fm) ∧ W.cell? ⟨w.heap.size, 1, none⟩ = some (.string fname) ∧ W.cell? ⟨w.heap.size, 2, none⟩ = some (.slice ra rn rc) ∧ W.cell? ⟨w.heap.size, 3, none⟩ = some (.slice pa pn pc) ∧ W.cell? ⟨w.heap.size, 4, none⟩ = some (.slice ba bn bc) from fun W hb => ⟨cell_in (hbox.out W hb).1 0, cell_in (hbox.out W hb).1 1, cell_in (hbox.out W hb).1 2, cell_in (hbox.out W hb).1 3, cell_in (hbox.out W hb).1 4⟩)
  obtain ⟨xk, xc, xn, xt⟩ := x
  dsimp only at D hwa hbox ⊢
  obtain ⟨k0, k1, k2, k3, k4⟩ := hcells.out wa (Below.refl _ _)
  go_enter Try.func4, Try.ntmps4
  go_wp2_with fail
  clear hwa
  refine (CL.out _ (Below.refl _ _)).mono ?_
  rintro e w1 ⟨⟨b1, rfl⟩, hb⟩
  have B1 := Lib.hid hb
  clear hb k0 k1 k2 k3 k4
  obtain ⟨k0, k1, k2, k3, k4⟩ := hcells.out _ B1.out
  cases b1
  case true =>
    go_wp2_with fail
    refine (works_v _).mono ?_
    rintro e w2 ⟨rfl, hb⟩
    have B2 := Lib.hid (B1.out.trans (hb.mono B1.out.size))
    clear hb
    go_wp2_with fail
    go_ret
    exact ⟨rfl, D.out.1.trans (B2.out.mono (by rw [D.out.2.1]; omega))⟩
  go_wp2_with fail
  have hPb := (hbox.out _ B1.out).1
  have hCC := CC.out
  have hR := region41 fm fname ra rn rc pa pn pc ba bn bc xk xc xn xt w.heap.size f w1 hPb (fun W hb => CC.out W (B1.out.trans (hb.mono B1.out.size)))
  refine Code.wp_mono (Q := Post41 fm fname ra rn rc pa pn pc ba bn bc xk xc xn xt w.heap.size f w1) ?post hR
  case post =>
    intro e a w6 hq
    cases e with
    | normal =>
      obtain ⟨X, rfl, hfin⟩ := hq
      unfold act41
      clear hR hCC hPb k0 k1 k2 k3 k4
      have hlab : ∀ b k, b < f.parts.nb → k < f.parts.nk b → ∀ s ∈ f.parts.labels b k, s.size ≤ 1048576 := fun b k hb hk => (HF.out.2.inst b k hb hk).texts
      have hck : CK f.parts X w6 := ⟨hfin.o1.1.lay.inj, hfin.o1.1.spots, fun p hp => (hfin.o1.1.lay.mem p hp).1, hfin.o1.2.2.1, hfin.o1.2.2.2, hfin.o1.1.small⟩
      have hcw : CW f.parts X w6 (fun _ _ _ => True) w6 := ⟨Mid.refl _ _ _, hfin.o1.1.typed hlab⟩
      have hb1s : X.b1 ≤ w6.heap.size := by have := hck.lo .params trivial; have := hck.hi .params trivial; have := hck.top; omega
      have hbel : ∀ W, Mid X.b1 X.c1 w6 W → Below wa.heap.size wa W := fun W hm => B1.out.trans ((hfin.bel.mono B1.out.size).trans ((hm.below hb1s).mono (by have := hfin.o1.2.1; have := B1.out.size; omega)))
      have hsame : ∀ W (S : Spots), IsFun W f (f.parts.funV S) → Below wa.heap.size wa W → Calls Try.prog 12 #[.agg (funR f (f.parts.funV S)), .agg #[.bool fm, .string fname, .slice ra rn rc, .slice pa pn pc, .slice ba bn bc]] W fun e w' => e = .returned (.bool true) ∧ Below W.heap.size W w' := fun W S hi hb => by
        have := eq12_v f f (f.parts.funV S) v W hi (HF.out.1.below hb)
        rw [funEq_refl, HFR.out] at this
        exact this
      have hfun : ∀ W base G S, Own W base G f.parts S → IsFun W f (f.parts.funV S) := fun W base G S ho => by
        have := ho.isFun; rw [parts_fun] at this; exact this
      have HB := Lib.hid (And.intro hbel (And.intro hsame hfun))
      have HK := Lib.hid hck
      clear hlab hbel hsame hfun
      obtain ⟨d, hd⟩ : ∃ d, f.parts = d := ⟨_, rfl⟩
      rw [hd] at HB HK hcw
      have e5 := hfin.e5
      have e6 := hfin.e6
      have hown1 := hfin.o1
      have hown2 := hfin.o2
      rw [hd] at e5 e6 hown1 hown2
      obtain ⟨g5, hg5⟩ : ∃ g, X.g5 = g := ⟨_, rfl⟩
      obtain ⟨g6, hg6⟩ : ∃ g, X.g6 = g := ⟨_, rfl⟩
      have hs1 := hck.spots .blocks trivial
      have hs2 := hck.spots .params trivial
      rw [hd] at hs1 hs2
      have hfa : funR f (d.funV X.S1) = #[.bool f.machine, .string f.name, .slice (X.S1 .regs).1 (d.len .regs) (X.S1 .regs).2, .slice (some ⟨X.G1 .params, 0, none⟩) (d.len .params) (d.len .params), .slice (some ⟨X.G1 .blocks, 0, none⟩) d.nb d.nb] := by
        show #[Value.bool f.machine, Value.string f.name, Value.slice (X.S1 .regs).1 (d.len .regs) (X.S1 .regs).2, Value.slice (X.S1 .params).1 (d.len .params) (X.S1 .params).2, Value.slice (X.S1 .blocks).1 d.nb (X.S1 .blocks).2] = _
        rw [hs1, hs2]; rfl
      rw [hg5] at e5
      rw [hg6] at e6
      rw [hg5] at hg5
      rw [e5.1, e6.1]
      have hbx5 := e5.2.2.1
      have hbx6 := e6.2.2.1
      obtain ⟨fa3, fa4, fa5, hfa2⟩ : ∃ a b c, funR f (d.funV X.S1) = #[.bool f.machine, .string f.name, .slice a b c, .slice (some ⟨X.G1 .params, 0, none⟩) (d.len .params) (d.len .params), .slice (some ⟨X.G1 .blocks, 0, none⟩) d.nb d.nb] := ⟨_, _, _, hfa⟩
      obtain ⟨gb3, gb4, gb5, gb6, gb7, gb8, gb9, gb10, gb11, hfb⟩ : ∃ a b c a1 b1 c1 a2 b2 c2, funR f (d.funV X.S2) = #[.bool f.machine, .string f.name, .slice a b c, .slice a1 b1 c1, .slice a2 b2 c2] := ⟨_, _, _, _, _, _, _, _, _, rfl⟩
      rw [hfa2] at hbx5
      rw [hfb] at hbx6
      have hne : g5 < X.b1 ∨ X.c1 ≤ g5 := e5.2.2.2.1
      have hne6 : g6 < X.b1 ∨ X.c1 ≤ g6 := e6.2.2.2.1
      have HBX := Lib.hid (show ∀ W, Mid X.b1 X.c1 w6 W → W.heap[g5]? = some (.cells #[.bool f.machine, .string f.name, .slice fa3 fa4 fa5, .slice (some ⟨X.G1 .params, 0, none⟩) (d.len .params) (d.len .params), .slice (some ⟨X.G1 .blocks, 0, none⟩) d.nb d.nb] 31 (0, 0)) ∧ W.heap[g6]? = some (.cells #[.bool f.machine, .string f.name, .slice gb3 gb4 gb5, .slice gb6 gb7 gb8, .slice gb9 gb10 gb11] 31 (0, 0)) from fun W hm => ⟨hm.box hbx5 hne, hm.box hbx6 hne6⟩)
      have HCW := Lib.hid hcw
      have HFA := Lib.hid (And.intro hfa2 hfb)
      have HF2 := Lib.hid (And.intro hown1 (And.intro hown2 hb1s))
      have hsmB : d.nb ≤ 1048576 := HK.out.small .blocks trivial
      have hsmP : d.len .params ≤ 1048576 := HK.out.small .params trivial
      obtain ⟨fmc, hfmc⟩ : ∃ x, f.machine = x := ⟨_, rfl⟩
      obtain ⟨fnm, hfnm⟩ : ∃ x, f.name = x := ⟨_, rfl⟩
      rw [hfmc, hfnm] at HBX HFA
      have hA := (HBX.out w6 (Mid.refl _ _ _)).1
      have a0 : w6.cell? ⟨g5, 0, none⟩ = some (.bool fmc) := cell_in hA 0
      have a1 : w6.cell? ⟨g5, 1, none⟩ = some (.string fnm) := cell_in hA 1
      have a2 : w6.cell? ⟨g5, 2, none⟩ = some (.slice fa3 fa4 fa5) := cell_in hA 2
      have a3 : w6.cell? ⟨g5, 3, none⟩ = some (.slice (some ⟨X.G1 .params, 0, none⟩) (d.len .params) (d.len .params)) := cell_in hA 3
      have a4 : w6.cell? ⟨g5, 4, none⟩ = some (.slice (some ⟨X.G1 .blocks, 0, none⟩) d.nb d.nb) := cell_in hA 4
      obtain ⟨k0, k1, k2, k3, k4⟩ := hcells.out w6 (HB.out.1 w6 (Mid.refl _ _ _))
      clear hg5 hg6 hfa hfa2 hfb hbx5 hbx6 hcw hck e5 e6 hs1 hs2 hd hfmc hfnm hA hfin hne hne6 hown1 hown2 hb1s
      have hs12 := HB.out.2.1 w6 X.S1 (HB.out.2.2 w6 _ _ _ HF2.out.1.1) (HB.out.1 w6 (Mid.refl _ _ _))
      rw [HFA.out.1] at hs12
      have HS12 := Lib.hid hs12
      clear hs12
      go_wp2_with fail
      refine HS12.out.mono ?_
      rintro e w7 ⟨rfl, hb⟩
      have HC7 := Lib.hid (HCW.out.keep hb)
      have hA := (HBX.out w7 HC7.out.mid).1
      have a4 : w7.cell? ⟨g5, 4, none⟩ = some (.slice (some ⟨X.G1 .blocks, 0, none⟩) d.nb d.nb) := cell_in hA 4
      clear hb hA a0 a1 a2 a3 k0 k1 k2 k3 k4
      go_wp2_with fail
      clear a4
      go_loopg [7] d.nb (fun gk u wr => ∃ i : Nat, i + gk = d.nb ∧ u = .int .i64 (i : Int) ∧ Hid (CW d X w6 (fr1 i) wr))
      case atStart => exact ⟨0, by omega, rfl, HC7.out.weak fun _ _ _ _ => trivial⟩
      case round =>
        obtain ⟨i, hi, rfl, HH⟩ := hrel
        have hA := (HBX.out wr HH.out.mid).1
        have a4 : wr.cell? ⟨g5, 4, none⟩ = some (.slice (some ⟨X.G1 .blocks, 0, none⟩) d.nb d.nb) := cell_in hA 4
        by_cases hli : i < d.nb
        · have i1 : (i : Int) < (d.nb : Int) := by omega
          have hsK : d.nk i ≤ 1048576 := HK.out.small (.code i) hli
          have bk := HH.out.blk3 HK.out i hli
          clear hA
          go_wp2_with fail
          clear a4 bk
          go_loopg [8] (d.nk i) (fun gk u wr => ∃ k : Nat, k + gk = d.nk i ∧ u = .int .i64 (k : Int) ∧ Hid (CW d X w6 (fr2 i k) wr))
          case atStart => exact ⟨0, by omega, rfl, HH.out.weak fun b k' j' e => by unfold fr2 at e; unfold fr1; omega⟩
          case round =>
            obtain ⟨k, hk, rfl, HQ⟩ := hrel
            have hA := (HBX.out wr HQ.out.mid).1
            have a4 : wr.cell? ⟨g5, 4, none⟩ = some (.slice (some ⟨X.G1 .blocks, 0, none⟩) d.nb d.nb) := cell_in hA 4
            have bk := HQ.out.blk3 HK.out i hli
            clear hA
            by_cases hlk : k < d.nk i
            · have i2 : (k : Int) < (d.nk i : Int) := by omega
              obtain ⟨o0, o1, o2, o3, o4, o7, nm, c0, c1, c2, c3, c4, c5, c6, c7, c8, c9⟩ := HQ.out.ten HK.out i k hli hlk
              have hsA : d.len (.args i k) ≤ 1048576 := HK.out.small (.args i k) ⟨hli, hlk⟩
              have hsL : d.len (.labels i k) ≤ 1048576 := HK.out.small (.labels i k) ⟨hli, hlk⟩
              have hsC : d.len (.cases i k) ≤ 1048576 := HK.out.small (.cases i k) ⟨hli, hlk⟩
              go_wp2_with fail
              obtain ⟨PX, hPX⟩ : ∃ PX, wr.heap.size = PX := ⟨_, rfl⟩
              have HPX := Lib.hid (show X.c1 ≤ PX from by rw [← hPX]; exact Nat.le_trans HK.out.top HQ.out.mid.size)
              have CB0 : CB d X w6 (fr2 i k) PX #[.int .i64 o0, .int .i64 o1, .int .i64 o2, .int .i64 o3, .int .i64 o4, .slice (some ⟨X.G1 (.args i k), 0, none⟩) (d.len (.args i k)) (d.len (.args i k)), .string nm, .int .i64 o7, .slice (some ⟨X.G1 (.labels i k), 0, none⟩) (d.len (.labels i k)) (d.len (.labels i k)), .slice (some ⟨X.G1 (.cases i k), 0, none⟩) (d.len (.cases i k)) (d.len (.cases i k))] (wr.alloc (.cells #[.int .i64 o0, .int .i64 o1, .int .i64 o2, .int .i64 o3, .int .i64 o4, .slice (some ⟨X.G1 (.args i k), 0, none⟩) (d.len (.args i k)) (d.len (.args i k)), .string nm, .int .i64 o7, .slice (some ⟨X.G1 (.labels i k), 0, none⟩) (d.len (.labels i k)) (d.len (.labels i k)), .slice (some ⟨X.G1 (.cases i k), 0, none⟩) (d.len (.cases i k)) (d.len (.cases i k))] 51)) :=
                ⟨HQ.out.alloc _, by rw [← hPX]; exact heap_alloc_new wr _⟩
              have HB0 := Lib.hid CB0
              rw [hPX]
              clear a4 bk c0 c1 c2 c3 c4 c5 c6 c7 c8 c9 CB0 hPX
              go_loopg [10] (d.len (.args i k)) (fun gk u wr => ∃ j : Nat, j + gk = d.len (.args i k) ∧ u = .int .i64 (j : Int) ∧ Hid (CB d X w6 (fr2 i k) PX #[.int .i64 o0, .int .i64 o1, .int .i64 o2, .int .i64 o3, .int .i64 o4, .slice (some ⟨X.G1 (.args i k), 0, none⟩) (d.len (.args i k)) (d.len (.args i k)), .string nm, .int .i64 o7, .slice (some ⟨X.G1 (.labels i k), 0, none⟩) (d.len (.labels i k)) (d.len (.labels i k)), .slice (some ⟨X.G1 (.cases i k), 0, none⟩) (d.len (.cases i k)) (d.len (.cases i k))] wr))
              case atStart => exact ⟨0, by omega, rfl, HB0.out⟩
              case round =>
                obtain ⟨j, hj, rfl, HJ⟩ := hrel
                have x5 : wr.cell? ⟨PX, 5, none⟩ = some (.slice (some ⟨X.G1 (.args i k), 0, none⟩) (d.len (.args i k)) (d.len (.args i k))) := cell_in HJ.out.box 5
                by_cases hlj : j < d.len (.args i k)
                · have i3 : (j : Int) < (d.len (.args i k) : Int) := by omega
                  have ok : ∀ c, c < 4 → (Cel.arg i k (j * 4 + c)).ok d := fun c hc => ⟨hli, hlk, by omega⟩
                  obtain ⟨⟨q0, d0⟩, z0⟩ := HJ.out.cw.any _ (ok 0 (by omega))
                  obtain ⟨⟨q1, d1⟩, z1⟩ := HJ.out.cw.any _ (ok 1 (by omega))
                  obtain ⟨⟨q2, d2⟩, z2⟩ := HJ.out.cw.any _ (ok 2 (by omega))
                  obtain ⟨⟨q3, d3⟩, z3⟩ := HJ.out.cw.any _ (ok 3 (by omega))
                  have hput := Lib.hid (HJ.out.put4 HK.out HPX.out _ _ _ _ (ok 0 (by omega)) (ok 1 (by omega)) (ok 2 (by omega)) (ok 3 (by omega)) (.int .i64 xk) (.int .i64 xc) (.int .i64 xn) (.int .i64 xt) ⟨_, rfl⟩ ⟨_, rfl⟩ ⟨_, rfl⟩ ⟨_, rfl⟩)
                  simp only [Cel.spot, Cel.pos, Cel.off, Nat.add_zero] at d0 d1 d2 d3 z0 z1 z2 z3 hput
                  have hT := (hbox.out wr (HB.out.1 wr HJ.out.cw.mid)).2
                  have t0 : wr.cell? ⟨w.heap.size + 1, 0, none⟩ = some (.int .i64 xk) := cell_in hT 0
                  have t1 : wr.cell? ⟨w.heap.size + 1, 1, none⟩ = some (.int .i64 xc) := cell_in hT 1
                  have t2 : wr.cell? ⟨w.heap.size + 1, 2, none⟩ = some (.int .i64 xn) := cell_in hT 2
                  have t3 : wr.cell? ⟨w.heap.size + 1, 3, none⟩ = some (.int .i64 xt) := cell_in hT 3
                  clear ok hT
                  go_wp2_with fail
                  go_roundg (gk - 1)
                  case measure => omega
                  case rel => exact ⟨j + 1, by omega, by go_num, hput.out⟩
                · obtain rfl : j = d.len (.args i k) := by omega
                  have hge : ¬ (d.len (.args i k) : Int) < (d.len (.args i k) : Int) := by omega
                  have x8 : wr.cell? ⟨PX, 8, none⟩ = some (.slice (some ⟨X.G1 (.labels i k), 0, none⟩) (d.len (.labels i k)) (d.len (.labels i k))) := cell_in HJ.out.box 8
                  go_wp2_with fail
                  clear x5 x8
                  have HL0 := Lib.hid (HJ.out.weak (F' := fr3 i k 0) (fun b k' j' e => by unfold fr3 at e; unfold fr2; omega))
                  go_loopg [11] (d.len (.labels i k)) (fun gk u wr => ∃ j : Nat, j + gk = d.len (.labels i k) ∧ u = .int .i64 (j : Int) ∧ Hid (CB d X w6 (fr3 i k j) PX #[.int .i64 o0, .int .i64 o1, .int .i64 o2, .int .i64 o3, .int .i64 o4, .slice (some ⟨X.G1 (.args i k), 0, none⟩) (d.len (.args i k)) (d.len (.args i k)), .string nm, .int .i64 o7, .slice (some ⟨X.G1 (.labels i k), 0, none⟩) (d.len (.labels i k)) (d.len (.labels i k)), .slice (some ⟨X.G1 (.cases i k), 0, none⟩) (d.len (.cases i k)) (d.len (.cases i k))] wr))
                  case atStart => exact ⟨0, by omega, rfl, HL0.out⟩
                  case round =>
                    obtain ⟨j, hj, rfl, HJ⟩ := hrel
                    have x8 : wr.cell? ⟨PX, 8, none⟩ = some (.slice (some ⟨X.G1 (.labels i k), 0, none⟩) (d.len (.labels i k)) (d.len (.labels i k))) := cell_in HJ.out.box 8
                    by_cases hlj : j < d.len (.labels i k)
                    · have i3 : (j : Int) < (d.len (.labels i k) : Int) := by omega
                      obtain ⟨v, d0, s, rfl, hs1, hs2⟩ := HJ.out.cw.typed.cell (.lab i k j) ⟨hli, hlk, hlj⟩
                      have z0 := HJ.out.cw.typed.froz (.lab i k j) ⟨hli, hlk, hlj⟩
                      have hs3 : s.size ≤ 1048576 := hs2 (by unfold fr3; omega)
                      obtain ⟨T, hT⟩ : ∃ T : ByteArray, s ++ (⟨#[120]⟩ : ByteArray) = T := ⟨_, rfl⟩
                      have hTz : T.size ≤ 1048577 := by
                        rw [← hT, ByteArray.size_append]; have : (⟨#[120]⟩ : ByteArray).size = 1 := rfl; omega
                      have hadd := add_run s ⟨#[120]⟩ T (by have : (⟨#[120]⟩ : ByteArray).size = 1 := rfl; omega) hT
                      have hput := Lib.hid ((HJ.out.drew).lab HK.out HPX.out ⟨hli, hlk, hlj⟩ T hTz)
                      simp only [Cel.spot, Cel.pos, Cel.off] at d0 z0
                      clear hs1 hs2 hs3 hT hTz
                      go_wp2_with fail
                      go_still_tail 10, (by kernel_rfl)
                      go_wp2_with fail
                      go_roundg (gk - 1)
                      case measure => omega
                      case rel => exact ⟨j + 1, by omega, by go_num, hput.out⟩
                    · obtain rfl : j = d.len (.labels i k) := by omega
                      have hge : ¬ (d.len (.labels i k) : Int) < (d.len (.labels i k) : Int) := by omega
                      have x9 : wr.cell? ⟨PX, 9, none⟩ = some (.slice (some ⟨X.G1 (.cases i k), 0, none⟩) (d.len (.cases i k)) (d.len (.cases i k))) := cell_in HJ.out.box 9
                      go_wp2_with fail
                      clear x8 x9
                      have HC0 := Lib.hid (HJ.out.weak (F' := fr2 i (k + 1)) (fun b k' j' e => by unfold fr2 at e; unfold fr3; omega))
                      go_loopg [12] (d.len (.cases i k)) (fun gk u wr => ∃ j : Nat, j + gk = d.len (.cases i k) ∧ u = .int .i64 (j : Int) ∧ Hid (CB d X w6 (fr2 i (k + 1)) PX #[.int .i64 o0, .int .i64 o1, .int .i64 o2, .int .i64 o3, .int .i64 o4, .slice (some ⟨X.G1 (.args i k), 0, none⟩) (d.len (.args i k)) (d.len (.args i k)), .string nm, .int .i64 o7, .slice (some ⟨X.G1 (.labels i k), 0, none⟩) (d.len (.labels i k)) (d.len (.labels i k)), .slice (some ⟨X.G1 (.cases i k), 0, none⟩) (d.len (.cases i k)) (d.len (.cases i k))] wr))
                      case atStart => exact ⟨0, by omega, rfl, HC0.out⟩
                      case round =>
                        obtain ⟨j, hj, rfl, HJ⟩ := hrel
                        have x9 : wr.cell? ⟨PX, 9, none⟩ = some (.slice (some ⟨X.G1 (.cases i k), 0, none⟩) (d.len (.cases i k)) (d.len (.cases i k))) := cell_in HJ.out.box 9
                        have hT := (hbox.out wr (HB.out.1 wr HJ.out.cw.mid)).2
                        have t0 : wr.cell? ⟨w.heap.size + 1, 0, none⟩ = some (.int .i64 xk) := cell_in hT 0
                        have t1 : wr.cell? ⟨w.heap.size + 1, 1, none⟩ = some (.int .i64 xc) := cell_in hT 1
                        have t2 : wr.cell? ⟨w.heap.size + 1, 2, none⟩ = some (.int .i64 xn) := cell_in hT 2
                        have t3 : wr.cell? ⟨w.heap.size + 1, 3, none⟩ = some (.int .i64 xt) := cell_in hT 3
                        clear hT
                        by_cases hlj : j < d.len (.cases i k)
                        · have i3 : (j : Int) < (d.len (.cases i k) : Int) := by omega
                          obtain ⟨⟨q0, d0⟩, z0⟩ := HJ.out.cw.any (.cas i k j) ⟨hli, hlk, hlj⟩
                          have hput := Lib.hid (HJ.out.put HK.out HPX.out (.cas i k j) ⟨hli, hlk, hlj⟩ (.int .i64 xn) ⟨_, rfl⟩)
                          simp only [Cel.spot, Cel.pos, Cel.off] at d0 z0 hput
                          go_wp2_with fail
                          go_roundg (gk - 1)
                          case measure => omega
                          case rel => exact ⟨j + 1, by omega, by go_num, hput.out⟩
                        · obtain rfl : j = d.len (.cases i k) := by omega
                          have hge : ¬ (d.len (.cases i k) : Int) < (d.len (.cases i k) : Int) := by omega
                          have hA := (HBX.out wr HJ.out.cw.mid).1
                          have a4 : wr.cell? ⟨g5, 4, none⟩ = some (.slice (some ⟨X.G1 .blocks, 0, none⟩) d.nb d.nb) := cell_in hA 4
                          have bk := HJ.out.cw.blk3 HK.out i hli
                          have ok : ∀ c, c < 10 → (Cel.cod i k c).ok d := fun c hc => ⟨hli, hlk, hc⟩
                          have kd : ∀ c z, c < 5 → Kind d X.S1 (fr2 i (k + 1)) (.cod i k c) (.int .i64 z) := fun c z hc => ⟨fun e => by omega, fun e => by omega, fun e => by omega, fun e => by omega, fun _ => ⟨z, rfl⟩⟩
                          obtain ⟨⟨q0, d0⟩, z0⟩ := HJ.out.cw.any _ (ok 1 (by omega))
                          obtain ⟨⟨q1, d1⟩, z1⟩ := HJ.out.cw.any _ (ok 2 (by omega))
                          obtain ⟨⟨q2, d2⟩, z2⟩ := HJ.out.cw.any _ (ok 3 (by omega))
                          obtain ⟨⟨q3, d3⟩, z3⟩ := HJ.out.cw.any _ (ok 4 (by omega))
                          have hput := Lib.hid (HJ.out.cw.drew.put4 HK.out _ _ _ _ (ok 1 (by omega)) (ok 2 (by omega)) (ok 3 (by omega)) (ok 4 (by omega)) (.int .i64 xk) (.int .i64 xc) (.int .i64 xn) (.int .i64 xt) (kd 1 _ (by omega)) (kd 2 _ (by omega)) (kd 3 _ (by omega)) (kd 4 _ (by omega)))
                          simp only [Cel.spot, Cel.pos, Cel.off] at d0 d1 d2 d3 z0 z1 z2 z3 hput
                          clear hA ok kd
                          go_wp2_with fail
                          go_still_tail 10, (by kernel_rfl)
                          go_wp2_with fail
                          go_roundg (d.nk i - k - 1)
                          case measure => omega
                          case rel => exact ⟨k + 1, by omega, by go_num, hput.out⟩
            · obtain rfl : k = d.nk i := by omega
              have hge : ¬ (d.nk i : Int) < (d.nk i : Int) := by omega
              obtain ⟨⟨q0, d0⟩, z0⟩ := HQ.out.any (.blk i 0) ⟨hli, by omega⟩
              have hput := Lib.hid (HQ.out.put HK.out (.blk i 0) ⟨hli, by omega⟩ (.string ⟨#[120]⟩) (fun e => by omega))
              simp only [Cel.spot, Cel.pos, Cel.off, Nat.add_zero] at d0 z0 hput
              go_wp2_with fail
              go_roundg (d.nb - i - 1)
              case measure => omega
              case rel => exact ⟨i + 1, by omega, by go_num, hput.out.weak fun b k' j' e => by unfold fr1 at e; unfold fr2; omega⟩
        · obtain rfl : i = d.nb := by omega
          have hge : ¬ (d.nb : Int) < (d.nb : Int) := by omega
          have a3 : wr.cell? ⟨g5, 3, none⟩ = some (.slice (some ⟨X.G1 .params, 0, none⟩) (d.len .params) (d.len .params)) := cell_in hA 3
          clear hA
          go_wp2_with fail
          clear a3 a4
          go_loopg [13] (d.len .params) (fun gk u wr => ∃ j : Nat, j + gk = d.len .params ∧ u = .int .i64 (j : Int) ∧ Hid (CW d X w6 (fr1 d.nb) wr))
          case atStart => exact ⟨0, by omega, rfl, HH.out⟩
          case round =>
            obtain ⟨j, hj, rfl, HJ⟩ := hrel
            have hA := HBX.out wr HJ.out.mid
            have a3 : wr.cell? ⟨g5, 3, none⟩ = some (.slice (some ⟨X.G1 .params, 0, none⟩) (d.len .params) (d.len .params)) := cell_in hA.1 3
            by_cases hlj : j < d.len .params
            · have i3 : (j : Int) < (d.len .params : Int) := by omega
              have ok : ∀ c, c < 4 → (Cel.par (j * 4 + c)).ok d := fun c hc => by show j * 4 + c < d.len .params * 4; omega
              obtain ⟨⟨q0, d0⟩, z0⟩ := HJ.out.any _ (ok 0 (by omega))
              obtain ⟨⟨q1, d1⟩, z1⟩ := HJ.out.any _ (ok 1 (by omega))
              obtain ⟨⟨q2, d2⟩, z2⟩ := HJ.out.any _ (ok 2 (by omega))
              obtain ⟨⟨q3, d3⟩, z3⟩ := HJ.out.any _ (ok 3 (by omega))
              have hput := Lib.hid (HJ.out.put4 HK.out _ _ _ _ (ok 0 (by omega)) (ok 1 (by omega)) (ok 2 (by omega)) (ok 3 (by omega)) (.int .i64 xk) (.int .i64 xc) (.int .i64 xn) (.int .i64 xt) ⟨_, rfl⟩ ⟨_, rfl⟩ ⟨_, rfl⟩ ⟨_, rfl⟩)
              simp only [Cel.spot, Cel.pos, Cel.off, Nat.add_zero] at d0 d1 d2 d3 z0 z1 z2 z3 hput
              have hT := (hbox.out wr (HB.out.1 wr HJ.out.mid)).2
              have t0 : wr.cell? ⟨w.heap.size + 1, 0, none⟩ = some (.int .i64 xk) := cell_in hT 0
              have t1 : wr.cell? ⟨w.heap.size + 1, 1, none⟩ = some (.int .i64 xc) := cell_in hT 1
              have t2 : wr.cell? ⟨w.heap.size + 1, 2, none⟩ = some (.int .i64 xn) := cell_in hT 2
              have t3 : wr.cell? ⟨w.heap.size + 1, 3, none⟩ = some (.int .i64 xt) := cell_in hT 3
              clear ok hT hA
              go_wp2_with fail
              go_roundg (gk - 1)
              case measure => omega
              case rel => exact ⟨j + 1, by omega, by go_num, hput.out⟩
            · obtain rfl : j = d.len .params := by omega
              have hge : ¬ (d.len .params : Int) < (d.len .params : Int) := by omega
              have b0 : wr.cell? ⟨g6, 0, none⟩ = some (.bool fmc) := cell_in hA.2 0
              have b1 : wr.cell? ⟨g6, 1, none⟩ = some (.string fnm) := cell_in hA.2 1
              have b2 : wr.cell? ⟨g6, 2, none⟩ = some (.slice gb3 gb4 gb5) := cell_in hA.2 2
              have b3 : wr.cell? ⟨g6, 3, none⟩ = some (.slice gb6 gb7 gb8) := cell_in hA.2 3
              have b4 : wr.cell? ⟨g6, 4, none⟩ = some (.slice gb9 gb10 gb11) := cell_in hA.2 4
              have HBW := Lib.hid (HB.out.1 wr HJ.out.mid)
              obtain ⟨k0, k1, k2, k3, k4⟩ := hcells.out wr HBW.out
              have ho2 := HF2.out.2.1.1.keep (W' := wr) (fun g hg hg2 _ => HJ.out.mid.block g hg2 (.inr (Nat.le_trans HF2.out.2.1.2.1 hg)))
              have hs12 := HB.out.2.1 wr X.S2 (HB.out.2.2 wr _ _ _ ho2) HBW.out
              rw [HFA.out.2] at hs12
              have HS := Lib.hid hs12
              clear hs12 ho2 hA
              go_wp2_with fail
              refine HS.out.mono ?_
              rintro e w8 ⟨rfl, hb⟩
              have HB8 := Lib.hid (HBW.out.trans (hb.mono HBW.out.size))
              clear hb
              go_wp2_with fail
              refine (works_v _).mono ?_
              rintro e w9 ⟨rfl, hb⟩
              have HB9 := Lib.hid (HB8.out.trans (hb.mono HB8.out.size))
              clear hb
              go_wp2_with fail
              go_ret
              exact ⟨rfl, D.out.1.trans (HB9.out.mono (by rw [D.out.2.1]; omega))⟩
    | ret => exact hq.elim
    | exit _ => exact hq.elim
    | goto _ => exact hq.elim
    | panic _ => exact hq.elim
    | outgrown => exact hq.elim
end Go.Proofs.Ytocelaebokikcaa
