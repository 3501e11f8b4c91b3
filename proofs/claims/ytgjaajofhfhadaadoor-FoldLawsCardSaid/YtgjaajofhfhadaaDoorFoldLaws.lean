/- The statement on laws: sums and products of any numbers are the same in any order, and what is between parentheses is reckoned first. -/
import Derived.Test.YtgjaajofhfhadaaDoorFoldEnds
namespace Go.Proofs.YtgjaajofhfhadaaDoor.Fol
open Go.ChangeShapes Go.WideShapes Go.RowKit Lex
set_option linter.unusedVariables false
set_option maxRecDepth 20000

/-- A text of these bytes, not longer than that. -/
def Tx (a : ByteArray) (l : List UInt8) (n : Nat) : Prop := a.data.toList = l ∧ a.size ≤ n
theorem cat {a b : ByteArray} {la lb : List UInt8} {na nb : Nat} (ha : Tx a la na) (hb : Tx b lb nb) (hn : na + nb ≤ 1000) :
    ∃ c, Tx c (la ++ lb) (na + nb) ∧ ∀ W, (Op.stringOp .add a b).run Tryd.prog W = .ok (.string c) W := by
  refine ⟨a ++ b, ⟨by rw [ByteArray.data_append, ← ha.1, ← hb.1]; simp, by rw [ByteArray.size_append]; exact Nat.add_le_add ha.2 hb.2⟩, fun W => add_run a b _ ?_ rfl W⟩
  have := ha.2
  have := hb.2
  omega
theorem ptext_nil : ptext [] = [] := rfl
theorem laws_v (x y z : Int) (hx : fit x) (hy : fit y) (hz : fit z) (w : World) (hg : Fau.Glob w) : Calls Tryd.prog 4 #[.int .i64 x, .int .i64 y, .int .i64 z] w fun e w' => e = .returned (.bool true) ∧ Below w.heap.size w w' := by
  have HG := Lib.hid hg
  have HF := Lib.hid (And.intro hx (And.intro hy hz))
  obtain ⟨lx, hlx⟩ : ∃ l, Deci.txt x = l := ⟨_, rfl⟩
  obtain ⟨X, hX⟩ : ∃ b : ByteArray, (⟨lx.toArray⟩ : ByteArray) = b := ⟨_, rfl⟩
  have kx : Tx X (Deci.txt x) 20 := by
    have h1 : X.data.toList = Deci.txt x := by rw [← hX, hlx]
    exact ⟨h1, by rw [← Nam.len_list, h1]; exact Deci.txt_len x hx.1 hx.2⟩
  have px : Hid (∀ w : World, Calls Tryd.prog 6 #[.int .i64 x] w fun e w' => e = .returned (.string X) ∧ Below w.heap.size w w') := fun w => by
    have := Deci.refput_v x lx hlx hx w
    rwa [hX] at this
  have Kx := Lib.hid kx
  obtain ⟨ly, hly⟩ : ∃ l, Deci.txt y = l := ⟨_, rfl⟩
  obtain ⟨Y, hY⟩ : ∃ b : ByteArray, (⟨ly.toArray⟩ : ByteArray) = b := ⟨_, rfl⟩
  have ky : Tx Y (Deci.txt y) 20 := by
    have h1 : Y.data.toList = Deci.txt y := by rw [← hY, hly]
    exact ⟨h1, by rw [← Nam.len_list, h1]; exact Deci.txt_len y hy.1 hy.2⟩
  have py : Hid (∀ w : World, Calls Tryd.prog 6 #[.int .i64 y] w fun e w' => e = .returned (.string Y) ∧ Below w.heap.size w w') := fun w => by
    have := Deci.refput_v y ly hly hy w
    rwa [hY] at this
  have Ky := Lib.hid ky
  obtain ⟨lz, hlz⟩ : ∃ l, Deci.txt z = l := ⟨_, rfl⟩
  obtain ⟨Z, hZ⟩ : ∃ b : ByteArray, (⟨lz.toArray⟩ : ByteArray) = b := ⟨_, rfl⟩
  have kz : Tx Z (Deci.txt z) 20 := by
    have h1 : Z.data.toList = Deci.txt z := by rw [← hZ, hlz]
    exact ⟨h1, by rw [← Nam.len_list, h1]; exact Deci.txt_len z hz.1 hz.2⟩
  have pz : Hid (∀ w : World, Calls Tryd.prog 6 #[.int .i64 z] w fun e w' => e = .returned (.string Z) ∧ Below w.heap.size w w') := fun w => by
    have := Deci.refput_v z lz hlz hz w
    rwa [hZ] at this
  have Kz := Lib.hid kz
  obtain ⟨v1, a1, b1, m1, m2⟩ := law12 x y z hx hy hz
  obtain ⟨v3, a3, b3, m3, m4⟩ := law34 x y z hx hy hz
  obtain ⟨a5, m5⟩ := law5 x y z hx hy hz
  have M1 := Lib.hid m1
  have M2 := Lib.hid m2
  have M3 := Lib.hid m3
  have M4 := Lib.hid m4
  have M5 := Lib.hid m5
  clear hg hx hy hz hlx hly hlz hX hY hZ kx ky kz m1 m2 m3 m4 m5
  go_enter Tryd.func4, Tryd.ntmps4
  go_wp2_with fail
  have B0 := Lib.hid (Below.refl w.heap.size w)
  refine (px.out _).mono ?_
  rintro e w1 ⟨rfl, hb⟩
  have B1 := Lib.hid (B0.out.trans (hb.mono B0.out.size))
  clear hb B0
  go_wp2_with fail
  refine (py.out _).mono ?_
  rintro e w2 ⟨rfl, hb⟩
  have B2 := Lib.hid (B1.out.trans (hb.mono B1.out.size))
  clear hb B1
  go_wp2_with fail
  refine (pz.out _).mono ?_
  rintro e w3 ⟨rfl, hb⟩
  have B3 := Lib.hid (B2.out.trans (hb.mono B2.out.size))
  clear hb B2
  obtain ⟨S1, k1, e1⟩ := cat (⟨rfl, Nat.le_refl 1⟩ : Tx ⟨#[40]⟩ [40] 1) Kx.out (by decide)
  obtain ⟨S2, k2, e2⟩ := cat k1 (⟨rfl, Nat.le_refl 1⟩ : Tx ⟨#[43]⟩ [43] 1) (by decide)
  obtain ⟨S3, k3, e3⟩ := cat k2 Ky.out (by decide)
  obtain ⟨S4, k4, e4⟩ := cat k3 (⟨rfl, Nat.le_refl 1⟩ : Tx ⟨#[42]⟩ [42] 1) (by decide)
  obtain ⟨S5, k5, e5⟩ := cat k4 Kz.out (by decide)
  obtain ⟨S6, k6, e6⟩ := cat k5 (⟨rfl, Nat.le_refl 1⟩ : Tx ⟨#[41]⟩ [41] 1) (by decide)
  have hS : S6.data.toList = ptext (pl1 x y z) := by
    rw [k6.1]; unfold pl1; simp [ptext_cons, ptext_append, ptext_num, pby, ptext_nil]
  have hT : (ptext (pl1 x y z)).length ≤ 65536 := by
    rw [← hS, Nam.len_list]; exact Nat.le_trans k6.2 (by decide)
  have HS := Lib.hid (And.intro hS hT)
  clear hS hT k1 k2 k3 k4 k5 k6
  go_wp2_with fail
  refine (pieces_v (pl1 x y z) S6 HS.out.1 (pl_good1 x y z HF.out.1 HF.out.2.1 HF.out.2.2) HS.out.2 _ _ M1.out _).mono ?_
  rintro e w4 ⟨rfl, hb⟩
  have B4 := Lib.hid (B3.out.trans (hb.mono B3.out.size))
  clear hb B3 HS e1 e2 e3 e4 e5 e6
  unfold resE
  obtain ⟨S1, k1, e1⟩ := cat (⟨rfl, Nat.le_refl 1⟩ : Tx ⟨#[40]⟩ [40] 1) Kz.out (by decide)
  obtain ⟨S2, k2, e2⟩ := cat k1 (⟨rfl, Nat.le_refl 1⟩ : Tx ⟨#[42]⟩ [42] 1) (by decide)
  obtain ⟨S3, k3, e3⟩ := cat k2 Ky.out (by decide)
  obtain ⟨S4, k4, e4⟩ := cat k3 (⟨rfl, Nat.le_refl 1⟩ : Tx ⟨#[43]⟩ [43] 1) (by decide)
  obtain ⟨S5, k5, e5⟩ := cat k4 Kx.out (by decide)
  obtain ⟨S6, k6, e6⟩ := cat k5 (⟨rfl, Nat.le_refl 1⟩ : Tx ⟨#[41]⟩ [41] 1) (by decide)
  have hS : S6.data.toList = ptext (pl2 x y z) := by
    rw [k6.1]; unfold pl2; simp [ptext_cons, ptext_append, ptext_num, pby, ptext_nil]
  have hT : (ptext (pl2 x y z)).length ≤ 65536 := by
    rw [← hS, Nam.len_list]; exact Nat.le_trans k6.2 (by decide)
  have HS := Lib.hid (And.intro hS hT)
  clear hS hT k1 k2 k3 k4 k5 k6
  go_wp2_with fail
  refine (pieces_v (pl2 x y z) S6 HS.out.1 (pl_good2 x y z HF.out.1 HF.out.2.1 HF.out.2.2) HS.out.2 _ _ M2.out _).mono ?_
  rintro e w5 ⟨rfl, hb⟩
  have B5 := Lib.hid (B4.out.trans (hb.mono B4.out.size))
  clear hb B4 HS e1 e2 e3 e4 e5 e6
  unfold resE
  obtain ⟨S1, k1, e1⟩ := cat (⟨rfl, Nat.le_refl 1⟩ : Tx ⟨#[40]⟩ [40] 1) Kx.out (by decide)
  obtain ⟨S2, k2, e2⟩ := cat k1 (⟨rfl, Nat.le_refl 2⟩ : Tx ⟨#[42, 40]⟩ [42, 40] 2) (by decide)
  obtain ⟨S3, k3, e3⟩ := cat k2 Ky.out (by decide)
  obtain ⟨S4, k4, e4⟩ := cat k3 (⟨rfl, Nat.le_refl 1⟩ : Tx ⟨#[43]⟩ [43] 1) (by decide)
  obtain ⟨S5, k5, e5⟩ := cat k4 Kz.out (by decide)
  obtain ⟨S6, k6, e6⟩ := cat k5 (⟨rfl, Nat.le_refl 2⟩ : Tx ⟨#[41, 41]⟩ [41, 41] 2) (by decide)
  have hS : S6.data.toList = ptext (pl3 x y z) := by
    rw [k6.1]; unfold pl3; simp [ptext_cons, ptext_append, ptext_num, pby, ptext_nil]
  have hT : (ptext (pl3 x y z)).length ≤ 65536 := by
    rw [← hS, Nam.len_list]; exact Nat.le_trans k6.2 (by decide)
  have HS := Lib.hid (And.intro hS hT)
  clear hS hT k1 k2 k3 k4 k5 k6
  go_wp2_with fail
  refine (pieces_v (pl3 x y z) S6 HS.out.1 (pl_good3 x y z HF.out.1 HF.out.2.1 HF.out.2.2) HS.out.2 _ _ M3.out _).mono ?_
  rintro e w6 ⟨rfl, hb⟩
  have B6 := Lib.hid (B5.out.trans (hb.mono B5.out.size))
  clear hb B5 HS e1 e2 e3 e4 e5 e6
  unfold resE
  obtain ⟨S1, k1, e1⟩ := cat (⟨rfl, Nat.le_refl 1⟩ : Tx ⟨#[40]⟩ [40] 1) Kx.out (by decide)
  obtain ⟨S2, k2, e2⟩ := cat k1 (⟨rfl, Nat.le_refl 1⟩ : Tx ⟨#[42]⟩ [42] 1) (by decide)
  obtain ⟨S3, k3, e3⟩ := cat k2 Ky.out (by decide)
  obtain ⟨S4, k4, e4⟩ := cat k3 (⟨rfl, Nat.le_refl 1⟩ : Tx ⟨#[43]⟩ [43] 1) (by decide)
  obtain ⟨S5, k5, e5⟩ := cat k4 Kx.out (by decide)
  obtain ⟨S6, k6, e6⟩ := cat k5 (⟨rfl, Nat.le_refl 1⟩ : Tx ⟨#[42]⟩ [42] 1) (by decide)
  obtain ⟨S7, k7, e7⟩ := cat k6 Kz.out (by decide)
  obtain ⟨S8, k8, e8⟩ := cat k7 (⟨rfl, Nat.le_refl 1⟩ : Tx ⟨#[41]⟩ [41] 1) (by decide)
  have hS : S8.data.toList = ptext (pl4 x y z) := by
    rw [k8.1]; unfold pl4; simp [ptext_cons, ptext_append, ptext_num, pby, ptext_nil]
  have hT : (ptext (pl4 x y z)).length ≤ 65536 := by
    rw [← hS, Nam.len_list]; exact Nat.le_trans k8.2 (by decide)
  have HS := Lib.hid (And.intro hS hT)
  clear hS hT k1 k2 k3 k4 k5 k6 k7 k8
  go_wp2_with fail
  refine (pieces_v (pl4 x y z) S8 HS.out.1 (pl_good4 x y z HF.out.1 HF.out.2.1 HF.out.2.2) HS.out.2 _ _ M4.out _).mono ?_
  rintro e w7 ⟨rfl, hb⟩
  have B7 := Lib.hid (B6.out.trans (hb.mono B6.out.size))
  clear hb B6 HS e1 e2 e3 e4 e5 e6 e7 e8
  unfold resE
  obtain ⟨S1, k1, e1⟩ := cat (⟨rfl, Nat.le_refl 1⟩ : Tx ⟨#[40]⟩ [40] 1) Kx.out (by decide)
  obtain ⟨S2, k2, e2⟩ := cat k1 (⟨rfl, Nat.le_refl 2⟩ : Tx ⟨#[45, 40]⟩ [45, 40] 2) (by decide)
  obtain ⟨S3, k3, e3⟩ := cat k2 Ky.out (by decide)
  obtain ⟨S4, k4, e4⟩ := cat k3 (⟨rfl, Nat.le_refl 1⟩ : Tx ⟨#[45]⟩ [45] 1) (by decide)
  obtain ⟨S5, k5, e5⟩ := cat k4 Kz.out (by decide)
  obtain ⟨S6, k6, e6⟩ := cat k5 (⟨rfl, Nat.le_refl 2⟩ : Tx ⟨#[41, 43]⟩ [41, 43] 2) (by decide)
  obtain ⟨S7, k7, e7⟩ := cat k6 Ky.out (by decide)
  obtain ⟨S8, k8, e8⟩ := cat k7 (⟨rfl, Nat.le_refl 1⟩ : Tx ⟨#[45]⟩ [45] 1) (by decide)
  obtain ⟨S9, k9, e9⟩ := cat k8 Kz.out (by decide)
  obtain ⟨S10, k10, e10⟩ := cat k9 (⟨rfl, Nat.le_refl 1⟩ : Tx ⟨#[41]⟩ [41] 1) (by decide)
  have hS : S10.data.toList = ptext (pl5 x y z) := by
    rw [k10.1]; unfold pl5; simp [ptext_cons, ptext_append, ptext_num, pby, ptext_nil]
  have hT : (ptext (pl5 x y z)).length ≤ 65536 := by
    rw [← hS, Nam.len_list]; exact Nat.le_trans k10.2 (by decide)
  have HS := Lib.hid (And.intro hS hT)
  clear hS hT k1 k2 k3 k4 k5 k6 k7 k8 k9 k10
  go_wp2_with fail
  refine (pieces_v (pl5 x y z) S10 HS.out.1 (pl_good5 x y z HF.out.1 HF.out.2.1 HF.out.2.2) HS.out.2 _ _ M5.out _).mono ?_
  rintro e w8 ⟨rfl, hb⟩
  have B8 := Lib.hid (B7.out.trans (hb.mono B7.out.size))
  clear hb B7 HS e1 e2 e3 e4 e5 e6 e7 e8 e9 e10
  unfold resE
  go_wp2_with fail
  refine (works_v _ (HG.out.below B8.out HG.out.pos)).mono ?_
  rintro e w9 ⟨rfl, hb⟩
  have B9 := Lib.hid (B8.out.trans (hb.mono B8.out.size))
  clear hb
  go_wp2_with fail
  go_ret
  exact ⟨rfl, B9.out⟩
end Go.Proofs.YtgjaajofhfhadaaDoor.Fol
