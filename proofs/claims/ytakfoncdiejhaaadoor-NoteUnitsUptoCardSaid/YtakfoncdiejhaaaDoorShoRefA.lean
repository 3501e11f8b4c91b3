
/- The document's own texts of operands, and of rows. -/
import Derived.Test.YtakfoncdiejhaaaDoorShoTop
import Derived.Maps.AppendAt
import Derived.Deep.AppendLies
import Derived.OwnWalk
import Derived.Laws.AppendOwnNone
import Derived.Laws.OwnMore
import Derived.Deep.Upon
import Derived.Deep.RegionWith
namespace Go.Proofs.YtakfoncdiejhaaaDoor
open Go.ChangeShapes Go.WideShapes Go.RowKit
set_option linter.unusedVariables false
set_option maxRecDepth 20000

/-- A text as a value. -/
def tx (l : List UInt8) : ByteArray := ⟨l.toArray⟩
theorem tx_size (l : List UInt8) : (tx l).size = l.length := Tg.size_text l
theorem tx_data (s : ByteArray) : tx s.data.toList = s := by unfold tx; simp
theorem data_tx (l : List UInt8) : (tx l).data.toList = l := by unfold tx; simp
theorem add_tx (a b c : List UInt8) (h : a ++ b = c) (hl : c.length ≤ big) (W : World) : (Op.stringOp .add (tx a) (tx b)).run Tryd.prog W = .ok (.string (tx c)) W :=
  Tg.add_run (tx a) (tx b) (tx c) (by rw [tx_size, tx_size, ← List.length_append, h]; unfold big at hl; omega) (by unfold tx; rw [Tg.cat_text, h]) W
/-- A text is answered, as a letter. -/
def SaysT (t : List UInt8) (W : World) (e : Ending) (w' : World) : Prop := e = .returned (.string (tx t)) ∧ Below W.heap.size W w'
theorem rput_t (n : Int) (t : List UInt8) (ht : Deci.txt n = t) (hf : Deci.fit n) (W : World) : Calls Tryd.prog 19 #[.int .i64 n] W (SaysT t W) := Deci.refput_v n t ht hf W
theorem rname_t (k c n : Int) (t : List UInt8) (ht : Tg.nameOf k c n = t) (hf : Deci.fit n) (W : World) : Calls Tryd.prog 20 #[.agg #[.int .i64 k, .int .i64 c, .int .i64 n]] W (SaysT t W) := Tg.rname_v k c n hf (tx t) (by rw [ht]; rfl) W
theorem rquote_t (s : ByteArray) (t : List UInt8) (ht : Quo.put s.data.toList = t) (hs : s.size ≤ 20000000) (W : World) : Calls Tryd.prog 40 #[.string s] W (SaysT t W) := Quo.refput_v s t ht hs W
theorem name_le (k c n : Int) (hf : Deci.fit n) : (Tg.nameOf k c n).length ≤ 22 := by
  have := txt_le n hf
  unfold Tg.nameOf
  split
  · split
    · simp; omega
    · split
      · simp; omega
      · simp
  · split
    · simp; omega
    · simp
set_option maxHeartbeats 2000000 in
theorem rop_0 (c n tg : Int) (t : List UInt8) (W : World) (hf : Deci.fit n) (hg : Deci.fit tg) (ht : [95] = t) :
    Calls Tryd.prog 38 #[.agg #[.int .i64 0, .int .i64 c, .int .i64 n, .int .i64 tg]] W (SaysT t W) := by
  have BA : Below W.heap.size W (W.alloc (.cells #[.int .i64 0, .int .i64 c, .int .i64 n, .int .i64 tg] 54)) := (Below.refl _ W).alloc (Nat.le_refl _) _
  have hal := heap_alloc_new W (.cells #[.int .i64 0, .int .i64 c, .int .i64 n, .int .i64 tg] 54)
  obtain ⟨wa, hwa⟩ : ∃ wa, W.alloc (.cells #[.int .i64 0, .int .i64 c, .int .i64 n, .int .i64 tg] 54) = wa := ⟨_, rfl⟩
  rw [hwa] at BA hal
  obtain ⟨k0, k1, k2, k3⟩ := four_cells hal
  have HA := Lib.hid (And.intro BA hal)
  clear BA hal
  obtain ⟨x, hx⟩ : ∃ x, Deci.txt tg = x := ⟨_, rfl⟩
  have lx : x.length ≤ 20 := by rw [← hx]; exact txt_le tg hg
  obtain ⟨g, hgx⟩ : ∃ g, [58, 37] ++ x = g := ⟨_, rfl⟩
  have lg : g.length ≤ 22 := by rw [← hgx]; simp; omega
  have e1 : ∀ W : World, (Op.stringOp .add ⟨#[58, 37]⟩ (tx x)).run Tryd.prog W = .ok (.string (tx g)) W := add_tx [58, 37] x g hgx (by unfold big; omega)
  have HX := Lib.hid (And.intro hx (And.intro hg hgx))
  clear hx hgx lx
  go_enter Tryd.func38, Tryd.ntmps38
  go_wp2_with fail
  clear hwa
  refine (rput_t tg x HX.out.1 HX.out.2.1 wa).mono ?_
  rintro e w1 ⟨rfl, hb⟩
  have H1 := Lib.hid (And.intro (HA.out.1.trans (hb.mono HA.out.1.size)) (kept_box HA.out.2 hb))
  clear hb k0 k1 k2 k3
  obtain ⟨k0, k1, k2, k3⟩ := four_cells H1.out.2
  go_wp2_with fail
  go_ret
  exact ⟨by rw [← ht]; rfl, H1.out.1⟩
set_option maxHeartbeats 2000000 in
theorem rop_1 (c n tg : Int) (t : List UInt8) (W : World) (hf : Deci.fit n) (hg : Deci.fit tg) (ht : vregT n = t) :
    Calls Tryd.prog 38 #[.agg #[.int .i64 1, .int .i64 c, .int .i64 n, .int .i64 tg]] W (SaysT t W) := by
  have BA : Below W.heap.size W (W.alloc (.cells #[.int .i64 1, .int .i64 c, .int .i64 n, .int .i64 tg] 54)) := (Below.refl _ W).alloc (Nat.le_refl _) _
  have hal := heap_alloc_new W (.cells #[.int .i64 1, .int .i64 c, .int .i64 n, .int .i64 tg] 54)
  obtain ⟨wa, hwa⟩ : ∃ wa, W.alloc (.cells #[.int .i64 1, .int .i64 c, .int .i64 n, .int .i64 tg] 54) = wa := ⟨_, rfl⟩
  rw [hwa] at BA hal
  obtain ⟨k0, k1, k2, k3⟩ := four_cells hal
  have HA := Lib.hid (And.intro BA hal)
  clear BA hal
  obtain ⟨x, hx⟩ : ∃ x, Deci.txt tg = x := ⟨_, rfl⟩
  have lx : x.length ≤ 20 := by rw [← hx]; exact txt_le tg hg
  obtain ⟨g, hgx⟩ : ∃ g, [58, 37] ++ x = g := ⟨_, rfl⟩
  have lg : g.length ≤ 22 := by rw [← hgx]; simp; omega
  have e1 : ∀ W : World, (Op.stringOp .add ⟨#[58, 37]⟩ (tx x)).run Tryd.prog W = .ok (.string (tx g)) W := add_tx [58, 37] x g hgx (by unfold big; omega)
  obtain ⟨y, hy⟩ : ∃ y, Deci.txt n = y := ⟨_, rfl⟩
  have ly : y.length ≤ 20 := by rw [← hy]; exact txt_le n hf
  have hyt : [37] ++ y = t := by rw [← ht, ← hy]; rfl
  have e2 : ∀ W : World, (Op.stringOp .add ⟨#[37]⟩ (tx y)).run Tryd.prog W = .ok (.string (tx t)) W := add_tx [37] y t hyt (by rw [← hyt]; unfold big; simp; omega)
  have HY := Lib.hid (And.intro hy (And.intro hf hyt))
  clear hy hf hyt ly ht
  have HX := Lib.hid (And.intro hx (And.intro hg hgx))
  clear hx hgx lx
  go_enter Tryd.func38, Tryd.ntmps38
  go_wp2_with fail
  clear hwa
  refine (rput_t tg x HX.out.1 HX.out.2.1 wa).mono ?_
  rintro e w1 ⟨rfl, hb⟩
  have H1 := Lib.hid (And.intro (HA.out.1.trans (hb.mono HA.out.1.size)) (kept_box HA.out.2 hb))
  clear hb k0 k1 k2 k3
  obtain ⟨k0, k1, k2, k3⟩ := four_cells H1.out.2
  go_wp2_with fail
  refine (rput_t n y HY.out.1 HY.out.2.1 w1).mono ?_
  rintro e w2 ⟨rfl, hb⟩
  have H2 := Lib.hid (H1.out.1.trans (hb.mono H1.out.1.size))
  clear hb
  go_wp2_with fail
  go_ret
  exact ⟨rfl, H2.out⟩
set_option maxHeartbeats 2000000 in
theorem rop_4 (c n tg : Int) (t : List UInt8) (W : World) (hf : Deci.fit n) (hg : Deci.fit tg) (ht : Deci.txt n = t) :
    Calls Tryd.prog 38 #[.agg #[.int .i64 4, .int .i64 c, .int .i64 n, .int .i64 tg]] W (SaysT t W) := by
  have BA : Below W.heap.size W (W.alloc (.cells #[.int .i64 4, .int .i64 c, .int .i64 n, .int .i64 tg] 54)) := (Below.refl _ W).alloc (Nat.le_refl _) _
  have hal := heap_alloc_new W (.cells #[.int .i64 4, .int .i64 c, .int .i64 n, .int .i64 tg] 54)
  obtain ⟨wa, hwa⟩ : ∃ wa, W.alloc (.cells #[.int .i64 4, .int .i64 c, .int .i64 n, .int .i64 tg] 54) = wa := ⟨_, rfl⟩
  rw [hwa] at BA hal
  obtain ⟨k0, k1, k2, k3⟩ := four_cells hal
  have HA := Lib.hid (And.intro BA hal)
  clear BA hal
  obtain ⟨x, hx⟩ : ∃ x, Deci.txt tg = x := ⟨_, rfl⟩
  have lx : x.length ≤ 20 := by rw [← hx]; exact txt_le tg hg
  obtain ⟨g, hgx⟩ : ∃ g, [58, 37] ++ x = g := ⟨_, rfl⟩
  have lg : g.length ≤ 22 := by rw [← hgx]; simp; omega
  have e1 : ∀ W : World, (Op.stringOp .add ⟨#[58, 37]⟩ (tx x)).run Tryd.prog W = .ok (.string (tx g)) W := add_tx [58, 37] x g hgx (by unfold big; omega)
  have HY := Lib.hid (And.intro ht hf)
  clear hf ht
  have HX := Lib.hid (And.intro hx (And.intro hg hgx))
  clear hx hgx lx
  go_enter Tryd.func38, Tryd.ntmps38
  go_wp2_with fail
  clear hwa
  refine (rput_t tg x HX.out.1 HX.out.2.1 wa).mono ?_
  rintro e w1 ⟨rfl, hb⟩
  have H1 := Lib.hid (And.intro (HA.out.1.trans (hb.mono HA.out.1.size)) (kept_box HA.out.2 hb))
  clear hb k0 k1 k2 k3
  obtain ⟨k0, k1, k2, k3⟩ := four_cells H1.out.2
  go_wp2_with fail
  refine (rput_t n t HY.out.1 HY.out.2 w1).mono ?_
  rintro e w2 ⟨rfl, hb⟩
  have H2 := Lib.hid (H1.out.1.trans (hb.mono H1.out.1.size))
  clear hb
  go_wp2_with fail
  go_ret
  exact ⟨rfl, H2.out⟩
set_option maxHeartbeats 2000000 in
theorem rop_2 (c n tg : Int) (t : List UInt8) (W : World) (hf : Deci.fit n) (hg : Deci.fit tg) (ht : (Tg.nameOf 2 c n ++ 58 :: vregT tg) = t) :
    Calls Tryd.prog 38 #[.agg #[.int .i64 2, .int .i64 c, .int .i64 n, .int .i64 tg]] W (SaysT t W) := by
  have BA : Below W.heap.size W (W.alloc (.cells #[.int .i64 2, .int .i64 c, .int .i64 n, .int .i64 tg] 54)) := (Below.refl _ W).alloc (Nat.le_refl _) _
  have hal := heap_alloc_new W (.cells #[.int .i64 2, .int .i64 c, .int .i64 n, .int .i64 tg] 54)
  obtain ⟨wa, hwa⟩ : ∃ wa, W.alloc (.cells #[.int .i64 2, .int .i64 c, .int .i64 n, .int .i64 tg] 54) = wa := ⟨_, rfl⟩
  rw [hwa] at BA hal
  obtain ⟨k0, k1, k2, k3⟩ := four_cells hal
  have HA := Lib.hid (And.intro BA hal)
  clear BA hal
  obtain ⟨x, hx⟩ : ∃ x, Deci.txt tg = x := ⟨_, rfl⟩
  have lx : x.length ≤ 20 := by rw [← hx]; exact txt_le tg hg
  obtain ⟨g, hgx⟩ : ∃ g, [58, 37] ++ x = g := ⟨_, rfl⟩
  have lg : g.length ≤ 22 := by rw [← hgx]; simp; omega
  have e1 : ∀ W : World, (Op.stringOp .add ⟨#[58, 37]⟩ (tx x)).run Tryd.prog W = .ok (.string (tx g)) W := add_tx [58, 37] x g hgx (by unfold big; omega)
  obtain ⟨y, hy⟩ : ∃ y, Tg.nameOf 2 c n = y := ⟨_, rfl⟩
  have ly : y.length ≤ 22 := by rw [← hy]; exact name_le 2 c n hf
  have hyt : y ++ g = t := by rw [← ht, ← hy, ← hgx, ← hx]; rfl
  have e2 : ∀ W : World, (Op.stringOp .add (tx y) (tx g)).run Tryd.prog W = .ok (.string (tx t)) W := add_tx y g t hyt (by rw [← hyt]; unfold big; simp; omega)
  have HY := Lib.hid (And.intro hy hf)
  clear hy hf hyt ly ht lg
  have HX := Lib.hid (And.intro hx (And.intro hg hgx))
  clear hx hgx lx
  go_enter Tryd.func38, Tryd.ntmps38
  go_wp2_with fail
  clear hwa
  refine (rput_t tg x HX.out.1 HX.out.2.1 wa).mono ?_
  rintro e w1 ⟨rfl, hb⟩
  have H1 := Lib.hid (And.intro (HA.out.1.trans (hb.mono HA.out.1.size)) (kept_box HA.out.2 hb))
  clear hb k0 k1 k2 k3
  obtain ⟨k0, k1, k2, k3⟩ := four_cells H1.out.2
  go_wp2_with fail
  refine (rname_t 2 c n y HY.out.1 HY.out.2 w1).mono ?_
  rintro e w2 ⟨rfl, hb⟩
  have H2 := Lib.hid (H1.out.1.trans (hb.mono H1.out.1.size))
  clear hb
  go_wp2_with fail
  go_ret
  exact ⟨rfl, H2.out⟩
set_option maxHeartbeats 2000000 in
theorem rop_3 (c n tg : Int) (t : List UInt8) (W : World) (hf : Deci.fit n) (hg : Deci.fit tg) (ht : (Tg.nameOf 3 c n ++ 58 :: vregT tg) = t) :
    Calls Tryd.prog 38 #[.agg #[.int .i64 3, .int .i64 c, .int .i64 n, .int .i64 tg]] W (SaysT t W) := by
  have BA : Below W.heap.size W (W.alloc (.cells #[.int .i64 3, .int .i64 c, .int .i64 n, .int .i64 tg] 54)) := (Below.refl _ W).alloc (Nat.le_refl _) _
  have hal := heap_alloc_new W (.cells #[.int .i64 3, .int .i64 c, .int .i64 n, .int .i64 tg] 54)
  obtain ⟨wa, hwa⟩ : ∃ wa, W.alloc (.cells #[.int .i64 3, .int .i64 c, .int .i64 n, .int .i64 tg] 54) = wa := ⟨_, rfl⟩
  rw [hwa] at BA hal
  obtain ⟨k0, k1, k2, k3⟩ := four_cells hal
  have HA := Lib.hid (And.intro BA hal)
  clear BA hal
  obtain ⟨x, hx⟩ : ∃ x, Deci.txt tg = x := ⟨_, rfl⟩
  have lx : x.length ≤ 20 := by rw [← hx]; exact txt_le tg hg
  obtain ⟨g, hgx⟩ : ∃ g, [58, 37] ++ x = g := ⟨_, rfl⟩
  have lg : g.length ≤ 22 := by rw [← hgx]; simp; omega
  have e1 : ∀ W : World, (Op.stringOp .add ⟨#[58, 37]⟩ (tx x)).run Tryd.prog W = .ok (.string (tx g)) W := add_tx [58, 37] x g hgx (by unfold big; omega)
  obtain ⟨y, hy⟩ : ∃ y, Deci.txt n = y := ⟨_, rfl⟩
  have ly : y.length ≤ 20 := by rw [← hy]; exact txt_le n hf
  obtain ⟨z, hz⟩ : ∃ z, [35] ++ y = z := ⟨_, rfl⟩
  have lz : z.length ≤ 21 := by rw [← hz]; simp; omega
  have hyt : z ++ g = t := by rw [← ht, ← hz, ← hy, ← hgx, ← hx]; rfl
  have e2 : ∀ W : World, (Op.stringOp .add ⟨#[35]⟩ (tx y)).run Tryd.prog W = .ok (.string (tx z)) W := add_tx [35] y z hz (by unfold big; omega)
  have e3 : ∀ W : World, (Op.stringOp .add (tx z) (tx g)).run Tryd.prog W = .ok (.string (tx t)) W := add_tx z g t hyt (by rw [← hyt]; unfold big; simp; omega)
  have HY := Lib.hid (And.intro hy hf)
  clear hy hf hyt ly lz hz ht lg
  have HX := Lib.hid (And.intro hx (And.intro hg hgx))
  clear hx hgx lx
  go_enter Tryd.func38, Tryd.ntmps38
  go_wp2_with fail
  clear hwa
  refine (rput_t tg x HX.out.1 HX.out.2.1 wa).mono ?_
  rintro e w1 ⟨rfl, hb⟩
  have H1 := Lib.hid (And.intro (HA.out.1.trans (hb.mono HA.out.1.size)) (kept_box HA.out.2 hb))
  clear hb k0 k1 k2 k3
  obtain ⟨k0, k1, k2, k3⟩ := four_cells H1.out.2
  go_wp2_with fail
  refine (rput_t n y HY.out.1 HY.out.2 w1).mono ?_
  rintro e w2 ⟨rfl, hb⟩
  have H2 := Lib.hid (H1.out.1.trans (hb.mono H1.out.1.size))
  clear hb
  go_wp2_with fail
  go_ret
  exact ⟨rfl, H2.out⟩
set_option maxHeartbeats 2000000 in
theorem rop_no (k c n tg : Int) (t : List UInt8) (W : World) (hf : Deci.fit n) (hg : Deci.fit tg) (d0 : (k == 0) = false) (d1 : (k == 1) = false) (d2 : (k == 2) = false) (d3 : (k == 3) = false) (d4 : (k == 4) = false) (ht : [63] = t) :
    Calls Tryd.prog 38 #[.agg #[.int .i64 k, .int .i64 c, .int .i64 n, .int .i64 tg]] W (SaysT t W) := by
  have BA : Below W.heap.size W (W.alloc (.cells #[.int .i64 k, .int .i64 c, .int .i64 n, .int .i64 tg] 54)) := (Below.refl _ W).alloc (Nat.le_refl _) _
  have hal := heap_alloc_new W (.cells #[.int .i64 k, .int .i64 c, .int .i64 n, .int .i64 tg] 54)
  obtain ⟨wa, hwa⟩ : ∃ wa, W.alloc (.cells #[.int .i64 k, .int .i64 c, .int .i64 n, .int .i64 tg] 54) = wa := ⟨_, rfl⟩
  rw [hwa] at BA hal
  obtain ⟨k0, k1, k2, k3⟩ := four_cells hal
  have HA := Lib.hid (And.intro BA hal)
  clear BA hal
  obtain ⟨x, hx⟩ : ∃ x, Deci.txt tg = x := ⟨_, rfl⟩
  have lx : x.length ≤ 20 := by rw [← hx]; exact txt_le tg hg
  obtain ⟨g, hgx⟩ : ∃ g, [58, 37] ++ x = g := ⟨_, rfl⟩
  have lg : g.length ≤ 22 := by rw [← hgx]; simp; omega
  have e1 : ∀ W : World, (Op.stringOp .add ⟨#[58, 37]⟩ (tx x)).run Tryd.prog W = .ok (.string (tx g)) W := add_tx [58, 37] x g hgx (by unfold big; omega)
  have HX := Lib.hid (And.intro hx (And.intro hg hgx))
  clear hx hgx lx
  go_enter Tryd.func38, Tryd.ntmps38
  go_wp2_with fail
  clear hwa
  refine (rput_t tg x HX.out.1 HX.out.2.1 wa).mono ?_
  rintro e w1 ⟨rfl, hb⟩
  have H1 := Lib.hid (And.intro (HA.out.1.trans (hb.mono HA.out.1.size)) (kept_box HA.out.2 hb))
  clear hb k0 k1 k2 k3
  obtain ⟨k0, k1, k2, k3⟩ := four_cells H1.out.2
  go_wp2_with fail
  go_ret
  exact ⟨by rw [← ht]; rfl, H1.out.1⟩
theorem rop_v (x : Opn) (t : List UInt8) (W : World) (hf : OpF x) (ht : opnT x = t) :
    Calls Tryd.prog 38 #[.agg #[.int .i64 x.k, .int .i64 x.c, .int .i64 x.n, .int .i64 x.t]] W (SaysT t W) := by
  obtain ⟨k, c, n, tg⟩ := x
  obtain ⟨hn, hg⟩ := hf
  unfold opnT at ht
  dsimp only at ht hn hg ⊢
  by_cases e0 : k = 0
  · rw [if_pos e0] at ht; subst e0; exact rop_0 c n tg t W hn hg ht
  rw [if_neg e0] at ht
  by_cases e1 : k = 1
  · rw [if_pos e1] at ht; subst e1; exact rop_1 c n tg t W hn hg ht
  rw [if_neg e1] at ht
  by_cases e4 : k = 4
  · rw [if_pos e4] at ht; subst e4; exact rop_4 c n tg t W hn hg ht
  rw [if_neg e4] at ht
  by_cases e2 : k = 2
  · rw [if_pos (.inl e2)] at ht; subst e2; exact rop_2 c n tg t W hn hg ht
  by_cases e3 : k = 3
  · rw [if_pos (.inr e3)] at ht; subst e3; exact rop_3 c n tg t W hn hg ht
  rw [if_neg (by rintro (h | h); exact e2 h; exact e3 h)] at ht
  exact rop_no k c n tg t W hn hg (by simpa using e0) (by simpa using e1) (by simpa using e2) (by simpa using e3) (by simpa using e4) ht
/-- Texts as cells. -/
def texts (L : List (List UInt8)) : List Value := L.map fun l => Value.string (tx l)
theorem texts_len (L : List (List UInt8)) : (texts L).length = L.length := by simp [texts]
theorem texts_append (I J : List (List UInt8)) : texts (I ++ J) = texts I ++ texts J := by simp [texts]
theorem texts_at (L : List (List UInt8)) (k : Nat) (l : List UInt8) (h : L[k]? = some l) : (texts L)[k]? = some (.string (tx l)) := by
  unfold texts; rw [List.getElem?_map, h]; rfl
theorem texts_one (L : List (List UInt8)) : ∀ u ∈ texts L, u.oneCell' = true := by
  intro u hu
  obtain ⟨s, _, rfl⟩ := List.mem_map.1 hu
  rfl
/-- The texts L are those of a slice that the call has made. -/
def OwnS (base : Nat) (w : World) (A : Option Addr) (N c : Nat) (L : List (List UInt8)) : Prop := L.length = N ∧ w.ownsRow base 9 1 (.slice A N c) N (texts L)
theorem OwnS.nil (base : Nat) (w : World) : OwnS base w none 0 0 [] := ⟨rfl, World.ownsRow_nil _ _ _ _⟩
theorem OwnS.below {base : Nat} {w w' : World} {A : Option Addr} {N c : Nat} {L : List (List UInt8)} (h : OwnS base w A N c L) (hb : Below w.heap.size w w') : OwnS base w' A N c L :=
  ⟨h.1, World.ownsRow.kept (row := none) h.2 ⟨hb.os, hb.tape, hb.output, hb.size, fun k hk _ => hb.block k hk⟩ (by cases hv : Value.ownBlock (.slice A N c) <;> simp)⟩
theorem OwnS.alloc {base : Nat} {w : World} {A : Option Addr} {N c : Nat} {L : List (List UInt8)} (h : OwnS base w A N c L) (o : Obj) : OwnS base (w.alloc o) A N c L := ⟨h.1, h.2.alloc o⟩
theorem OwnS.mono {base base' : Nat} {w : World} {A : Option Addr} {N c : Nat} {L : List (List UInt8)} (h : OwnS base w A N c L) (hb : base' ≤ base) : OwnS base' w A N c L := by
  refine ⟨h.1, h.2.1, ?_⟩
  rcases h.2.2 with e | ⟨g', cap, cur, hv, h1, rest⟩
  · exact .inl e
  · exact .inr ⟨g', cap, cur, hv, by omega, rest⟩
/-- What it is to whoever reads it. -/
theorem OwnS.strs {base : Nat} {w : World} {A : Option Addr} {N c : Nat} {L : List (List UInt8)} (h : OwnS base w A N c L) (hN : N ≤ 9223372036854775807) : IsStrs w A N (L.map tx) := by
  refine ⟨by rw [List.length_map]; exact h.1, hN, ?_⟩
  rcases h.2.2 with ⟨e, h0⟩ | ⟨g, cap, cur, hv, h1, h2, _⟩
  · left
    rw [List.eq_nil_of_length_eq_zero (h.1.trans h0)]; rfl
  · right
    injection hv with e1 e2 e3
    refine ⟨g, 0, e1, (Array.getElem?_eq_some_iff.1 h2).1, fun k hk => ?_⟩
    have hk2 : k < L.length := by simpa using hk
    have ho : w.ownsRow base 9 1 (.slice (some ⟨g, 0, none⟩) N c) N (texts L) := by rw [← e1]; exact h.2
    have := ho.cellAt k (by rw [← h.1]; omega)
    rw [Nat.zero_add, this, texts_at L k _ (List.getElem?_eq_getElem hk2)]
    simp
theorem info9 : (Tryd.prog.info? 9).map (fun i => (i.zero, i.size, i.bytes)) = some (some (.string ⟨#[]⟩), 1, 16) := by kernel_rfl
theorem news_new (w : World) (cs : Array Value) (t : TypeId) (l : List Value) (hl : cs.toList = l) : ∀ j u, l[j]? = some u → (w.alloc (.cells cs t)).cell? ((⟨w.heap.size, 0, none⟩ : Addr).add j) = some u := by
  subst hl
  exact World.news_of_block (heap_alloc_new w _)
theorem ownS_next {base base0 : Nat} {w wr w1 : World} {A : Option Addr} {N c m : Nat} {L J : List (List UInt8)} {v' : Value}
    (ho : w1.ownsRow base 9 1 v' (N + m) (texts L ++ texts J)) (hJ : J.length = m)
    (hg : wr.grownBy w1 (Value.ownBlock (.slice A N c))) (hown : OwnS base wr A N c L) (hb : Below base0 w wr) (hB : base0 ≤ base) (hBs : base ≤ wr.heap.size) :
    ∃ A' c', v' = .slice A' (N + m) c' ∧ OwnS base w1 A' (N + m) c' (L ++ J) ∧ Below base0 w w1 := by
  have hform : ∃ A' c', v' = .slice A' (N + m) c' := by
    rcases ho.2 with ⟨e, h0⟩ | ⟨g, cap, cur, e, _⟩
    · exact ⟨none, 0, by rw [e]; congr 1; exact h0.symm⟩
    · exact ⟨_, _, e⟩
  obtain ⟨A', c', rfl⟩ := hform
  refine ⟨A', c', rfl, ⟨by rw [List.length_append, hown.1, hJ], by rw [texts_append]; exact ho⟩, ?_⟩
  exact hb.grown hg (by omega) (fun k hk => Nat.le_trans hB (World.ownsRow.lt hown.2 k hk).1)
/-- 'append(own, xs...)', xs nil or not. -/
theorem wpList_strs {w : World} {ops : Array Oper} {rest : List Oper} {o : Oper} {a : Act} {Q : Exit → Act → World → Prop} (hgd : o.guard = none) (s x : Operand)
    (ho : o.op = .call { callee := .builtin .append, args := #[s, x], argTypes := #[55, 55] })
    (base : Nat) (v : Value) (N : Nat) (acc : List Value) (hs : a.eval s = v) (hown : w.ownsRow base 9 1 v N acc)
    (A : Option Addr) (m c : Nat) (l : List ByteArray) (hx : a.eval x = .slice A m c) (hA : IsStrs w A m l) (hlen : N + m ≤ 100000000) (hbase : base ≤ w.heap.size)
    (h : ∀ v' w', w'.ownsRow base 9 1 v' (N + m) (acc ++ l.map Value.string) → w.grownBy w' v.ownBlock → wpList Tryd.prog ops Q rest (a.put o.dst v') w') : wpList Tryd.prog ops Q (o :: rest) a w := by
  obtain ⟨i0, hi0, hz0, hz1, hz2⟩ := info_parts info9
  have hl := hA.1
  by_cases hm : m = 0
  · subst hm
    have hl0 : l = [] := List.eq_nil_of_length_eq_zero hl
    subst hl0
    have hform : ∃ A0 n0 c0, v = .slice A0 n0 c0 ∧ n0 ≤ c0 := by
      rcases hown.2 with ⟨e, _⟩ | ⟨g, cap, cur, e, _, _, hle, _⟩
      · exact ⟨_, _, _, e, Nat.le_refl _⟩
      · exact ⟨_, _, _, e, hle⟩
    obtain ⟨A0, n0, c0, rfl, hle⟩ := hform
    have hsrc : Src Tryd.prog i0.size 55 (.slice A 0 c) 0 [] w := ⟨.inl ⟨9, Tryd.underlying55⟩, fun w' => by simp [Builtin.lenOf], by cases A <;> simp [Builtin.firstCells, loadCells, loadCellsFrom], by cases A <;> simp [Builtin.firstCells, loadCells, loadCellsFrom], by simp, by simp⟩
    refine wpList_plain hgd fun K hK => ?_
    have hrun := run_append_nothing w 55 55 o.type 9 i0 Tryd.underlying55 hi0 A0 n0 c0 hle _ hsrc
    unfold Oper.wp
    simp [execOp, ho, resolve, invoke, builtin, hs, hx, hrun, Result.andThen]
    exact hK _ _ (h _ _ (by simpa using hown) ⟨rfl, rfl, rfl, Nat.le_refl _, fun _ _ _ => rfl⟩)
  · obtain ⟨b, off, rfl, _⟩ := hA.at (k := 0) (by omega)
    have hnews : ∀ j u, (l.map Value.string)[j]? = some u → w.cell? ((⟨b, off, none⟩ : Addr).add j) = some u := by
      intro j u hu
      obtain ⟨h1, hmm, h⟩ := hA
      have hj : j < l.length := by simpa using (List.getElem?_eq_some_iff.1 hu).1
      rcases h with h | ⟨b', o', e, hlt, hc⟩
      · subst h; simp at hj
      · injection e with e
        injection e with e1 e2
        subst e1; subst e2
        rw [add_at, hc j hj]
        rw [List.getElem?_map, List.getElem?_eq_getElem hj] at hu
        exact hu
    refine wpList_append_own w hgd s x 55 ho base 9 i0 _ 1 16 Tryd.underlying55 hi0 hz0 hz1 hz2 rfl (by decide) v N acc hs hown ⟨b, off, none⟩ m c (l.map Value.string) hx (by rw [List.length_map, hl, Nat.mul_one]) hnews (by intro u hu; obtain ⟨s, _, rfl⟩ := List.mem_map.1 hu; rfl) (by unfold maxLen; omega) (by omega) hbase (fun v' w' h2 h3 _ => h v' w' h2 h3)
end Go.Proofs.YtakfoncdiejhaaaDoor
