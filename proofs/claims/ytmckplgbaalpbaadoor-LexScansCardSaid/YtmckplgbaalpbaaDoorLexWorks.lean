/- What the small check of each statement answers: true. -/
import Derived.Test.YtmckplgbaalpbaaDoorLexEq
namespace Go.Proofs.YtmckplgbaalpbaaDoor.Lex
open Go.ChangeShapes Go.WideShapes Go.RowKit
set_option linter.unusedVariables false
set_option maxRecDepth 20000

def wl : List Tok := [⟨4, [37, 55], 7, 0, 0⟩, ⟨7, [61], 0, 0, 3⟩, ⟨1, [97, 100, 100], 0, 0, 5⟩, ⟨5, [36, 120, 50], 2, 1, 9⟩, ⟨7, [44], 0, 0, 12⟩, ⟨2, [53], 5, 0, 14⟩, ⟨7, [59], 0, 0, 15⟩, ⟨3, [97], 0, 0, 23⟩, ⟨2, [48], 0, 0, 27⟩, ⟨7, [46, 46], 0, 0, 28⟩, ⟨2, [52], 4, 0, 30⟩, ⟨0, [], 0, 0, 31⟩]
def ws : ByteArray := ⟨#[37, 55, 32, 61, 32, 97, 100, 100, 32, 36, 120, 50, 44, 32, 53, 59, 32, 47, 47, 32, 110, 111, 10, 34, 97, 34, 32, 48, 46, 46, 52]⟩
theorem wl_all : all ws.data.toList = (wl, 0, 0) := by decide +kernel
theorem wl_bad : all (⟨#[97, 32, 63]⟩ : ByteArray).data.toList = ([], 10, 2) := by decide +kernel
theorem teq_refl (k : Int) (s : ByteArray) (n c a : Int) : teq k s n c a k s n c a = true := by unfold teq; simp
/-- The cells of the check's tokens, in block g. -/
def Wl (w : World) (g : Nat) : Prop := g < w.heap.size ∧ ∀ k j, (hk : k < wl.length) → j < 5 → w.cell? ⟨g, k * 5 + j, none⟩ = (tcl wl[k])[j]?
theorem Wl.grow {w w' : World} {g : Nat} (h : Wl w g) (hb : Below w.heap.size w w') : Wl w' g :=
  ⟨Nat.lt_of_lt_of_le h.1 hb.size, fun k j hk hj => (hb.cell (p := ⟨g, k * 5 + j, none⟩) h.1).trans (h.2 k j hk hj)⟩
set_option maxHeartbeats 4000000 in
theorem works_v (w : World) (hg : Fau.Glob w) : Calls Tryd.prog 6 #[] w fun e w' => e = .returned (.bool true) ∧ Below w.heap.size w w' := by
  have HG := Lib.hid hg
  have hq := eql37 4 ⟨#[37, 55]⟩ 7 0 0 4 ⟨#[37, 55]⟩ 7 0 0 true (teq_refl _ _ _ _ _)
  unfold tc at hq
  clear hg
  go_enter Tryd.func6, Tryd.ntmps6
  go_wp2_with fail
  refine (all_v ws _).mono ?_
  rintro e w1 hP
  obtain ⟨A, c, rfl, ho, hb1⟩ := hP.good wl_all
  obtain ⟨g, rfl, hgl, hgs, hc⟩ := ho.form (by decide)
  have H1 := Lib.hid (And.intro hb1 (And.intro hgs hc))
  clear hP ho hb1 hgs hc hgl
  go_wp2_with fail
  refine (all_v _ _).mono ?_
  rintro e w2 hP
  obtain ⟨rfl, hb2⟩ := hP.bad wl_bad (by decide)
  have W2 : Hid (Wl w2 g) := Wl.grow (w := w1) ⟨H1.out.2.1, H1.out.2.2⟩ hb2
  have B2 := Lib.hid (H1.out.1.trans (hb2.mono H1.out.1.size))
  clear hP hb2
  have c0_0 : w2.cell? ⟨g, 0, none⟩ = some (.int .i64 4) := W2.out.2 0 0 (by decide) (by decide)
  have c0_1 : w2.cell? ⟨g, 1, none⟩ = some (.string ⟨#[37, 55]⟩) := W2.out.2 0 1 (by decide) (by decide)
  have c0_2 : w2.cell? ⟨g, 2, none⟩ = some (.int .i64 7) := W2.out.2 0 2 (by decide) (by decide)
  have c0_3 : w2.cell? ⟨g, 3, none⟩ = some (.int .i64 0) := W2.out.2 0 3 (by decide) (by decide)
  have c0_4 : w2.cell? ⟨g, 4, none⟩ = some (.int .i64 0) := W2.out.2 0 4 (by decide) (by decide)
  have c3_3 : w2.cell? ⟨g, 18, none⟩ = some (.int .i64 1) := W2.out.2 3 3 (by decide) (by decide)
  have c3_2 : w2.cell? ⟨g, 17, none⟩ = some (.int .i64 2) := W2.out.2 3 2 (by decide) (by decide)
  have c6_1 : w2.cell? ⟨g, 31, none⟩ = some (.string ⟨#[59]⟩) := W2.out.2 6 1 (by decide) (by decide)
  have c7_0 : w2.cell? ⟨g, 35, none⟩ = some (.int .i64 3) := W2.out.2 7 0 (by decide) (by decide)
  have c7_1 : w2.cell? ⟨g, 36, none⟩ = some (.string ⟨#[97]⟩) := W2.out.2 7 1 (by decide) (by decide)
  have c9_1 : w2.cell? ⟨g, 46, none⟩ = some (.string ⟨#[46, 46]⟩) := W2.out.2 9 1 (by decide) (by decide)
  have c10_2 : w2.cell? ⟨g, 52, none⟩ = some (.int .i64 4) := W2.out.2 10 2 (by decide) (by decide)
  go_wp2_with fail
  refine (Fau.of_v 10 2 _ (HG.out.below B2.out HG.out.pos)).mono ?_
  rintro e w3 ⟨rfl, hb3⟩
  have B3 := Lib.hid (B2.out.trans (hb3.mono B2.out.size))
  have W3 := Lib.hid (W2.out.grow hb3)
  clear hb3 c0_0 c0_1 c0_2 c0_3 c0_4 c3_3 c3_2 c6_1 c7_0 c7_1 c9_1 c10_2
  go_wp2_with fail
  refine (Fau.at_v 10 2 _ (HG.out.below B3.out HG.out.pos)).mono ?_
  rintro e w4 ⟨rfl, hb4⟩
  have B4 := Lib.hid (B3.out.trans (hb4.mono B3.out.size))
  have W4 := Lib.hid (W3.out.grow hb4)
  clear hb4
  have c2_0 : w4.cell? ⟨g, 10, none⟩ = some (.int .i64 1) := W4.out.2 2 0 (by decide) (by decide)
  have c2_1 : w4.cell? ⟨g, 11, none⟩ = some (.string ⟨#[97, 100, 100]⟩) := W4.out.2 2 1 (by decide) (by decide)
  have c2_2 : w4.cell? ⟨g, 12, none⟩ = some (.int .i64 0) := W4.out.2 2 2 (by decide) (by decide)
  have c2_3 : w4.cell? ⟨g, 13, none⟩ = some (.int .i64 0) := W4.out.2 2 3 (by decide) (by decide)
  have c2_4 : w4.cell? ⟨g, 14, none⟩ = some (.int .i64 5) := W4.out.2 2 4 (by decide) (by decide)
  go_wp2_with fail
  refine (is_word ⟨#[97, 100, 100]⟩ ⟨#[97, 100, 100]⟩ 0 0 5 (by simp) _).mono ?_
  rintro e w5 ⟨rfl, hb5⟩
  have B5 := Lib.hid (B4.out.trans (hb5.mono B4.out.size))
  have W5 := Lib.hid (W4.out.grow hb5)
  clear hb5 c2_0 c2_1 c2_2 c2_3 c2_4
  have c7_0 : w5.cell? ⟨g, 35, none⟩ = some (.int .i64 3) := W5.out.2 7 0 (by decide) (by decide)
  have c7_1 : w5.cell? ⟨g, 36, none⟩ = some (.string ⟨#[97]⟩) := W5.out.2 7 1 (by decide) (by decide)
  have c7_2 : w5.cell? ⟨g, 37, none⟩ = some (.int .i64 0) := W5.out.2 7 2 (by decide) (by decide)
  have c7_3 : w5.cell? ⟨g, 38, none⟩ = some (.int .i64 0) := W5.out.2 7 3 (by decide) (by decide)
  have c7_4 : w5.cell? ⟨g, 39, none⟩ = some (.int .i64 23) := W5.out.2 7 4 (by decide) (by decide)
  go_wp2_with fail
  refine (is_text ⟨#[97]⟩ ⟨#[97]⟩ 0 0 23 _).mono ?_
  rintro e w6 ⟨rfl, hb6⟩
  have B6 := Lib.hid (B5.out.trans (hb6.mono B5.out.size))
  clear hb6
  go_wp2_with fail
  go_ret
  exact ⟨rfl, B6.out⟩
end Go.Proofs.YtmckplgbaalpbaaDoor.Lex
