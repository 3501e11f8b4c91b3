/- What stands at a text's first token comes to; and what the small check answers: true. -/
import Derived.Test.YtgjaajofhfhadaaDoorFoldValue
import Derived.Test.YtgjaajofhfhadaaDoorFoldText
import Derived.Test.YtgjaajofhfhadaaDoorDocAll
namespace Go.Proofs.YtgjaajofhfhadaaDoor.Fol
open Go.ChangeShapes Go.WideShapes Go.RowKit Lex
set_option linter.unusedVariables false
set_option maxRecDepth 20000

theorem doc_good {s : ByteArray} {w w' : World} {e : Ending} {m : List Tok} (h : DocP s w e w') (ha : all s.data.toList = (m, 0, 0)) :
    ∃ A c, e = .returned (.tuple #[.slice A m.length c, .int .i64 0, .int .i64 0]) ∧ OwnK w.heap.size w' A c m ∧ Below w.heap.size w w' := by
  obtain ⟨m', code, q', e1, hb, h⟩ := h
  rw [ha] at e1
  injection e1 with e1 e2
  injection e2 with e2 e3
  subst e1; subst e2
  rcases h with ⟨_, A, c, he, ho⟩ | ⟨hc, _⟩
  · exact ⟨A, c, he, ho, hb⟩
  · exact absurd rfl hc
theorem all_len {s : ByteArray} {m : List Tok} (ha : all s.data.toList = (m, 0, 0)) : m.length < 9223372036854775807 := by
  have h1 := (all_text ha).2
  by_cases h : 65536 < s.data.toList.length
  · rw [all_long h] at ha
    injection ha with _ ha
    injection ha with ha _
    cases ha
  · omega
theorem value_v (s : ByteArray) (m : List Tok) (k : Nat) (R : Res) (ts : List Tok) (q : Nat) (ha : all s.data.toList = (m, 0, 0)) (hm : m = ts ++ [⟨0, [], 0, 0, q⟩]) (hR : mach m k .fac 0 [] = some R) (w : World) :
    Calls Tryd.prog 7 #[.string s] w fun e w' => e = resE R ∧ Below w.heap.size w w' := by
  have hl := all_len ha
  have h0 : 0 < m.length := by rw [hm]; simp
  have HA := Lib.hid (And.intro ha (And.intro hm (And.intro hR (And.intro hl h0))))
  clear ha hm hR hl h0
  go_enter Tryd.func7, Tryd.ntmps7
  go_wp2_with fail
  refine (doc_v s w).mono ?_
  rintro e w1 hP
  obtain ⟨A, c, rfl, ho, hb1⟩ := doc_good hP HA.out.1
  obtain ⟨g, rfl, _, _, _⟩ := ho.form HA.out.2.2.2.2
  have B1 := Lib.hid hb1
  have HO := Lib.hid ho
  clear hP hb1 ho
  go_wp2_with fail
  refine (value_is m w.heap.size g c k R HA.out.2.2.1 ts q HA.out.2.1 HA.out.2.2.2.1 w1 HO.out).mono ?_
  rintro e w2 ⟨rfl, hb2⟩
  have B2 := Lib.hid (B1.out.trans (hb2.mono B1.out.size))
  clear hb2
  cases R with
  | val n a =>
    unfold resE
    go_wp2_with fail
    go_ret3
    exact ⟨rfl, B2.out⟩
  | bad c p =>
    unfold resE Fau.bare
    go_wp2_with fail
    go_ret3
    exact ⟨rfl, B2.out⟩
/-- Of a text of pieces. -/
theorem pieces_v (l : List Pc) (s : ByteArray) (hs : s.data.toList = ptext l) (hg : pgood l) (hl : (ptext l).length ≤ 65536) (k : Nat) (R : Res) (hR : machs k .fac (ptoks l 0) 0 [] = some R) (w : World) :
    Calls Tryd.prog 7 #[.string s] w fun e w' => e = resE R ∧ Below w.heap.size w w' := by
  obtain ⟨ts, q, e⟩ := ptoks_last l 0
  exact value_v s (ptoks l 0) k R ts q (by rw [hs]; exact all_pieces l hg hl) e (by rw [mach_start]; exact hR) w
def w1l : List Tok := [⟨7, [40], 0, 0, 0⟩, ⟨2, [49], 1, 0, 1⟩, ⟨7, [43], 0, 0, 3⟩, ⟨2, [50], 2, 0, 5⟩, ⟨7, [42], 0, 0, 6⟩, ⟨7, [45], 0, 0, 7⟩, ⟨7, [40], 0, 0, 8⟩, ⟨2, [51], 3, 0, 9⟩, ⟨7, [45], 0, 0, 11⟩, ⟨2, [53], 5, 0, 13⟩, ⟨7, [41], 0, 0, 14⟩, ⟨7, [41], 0, 0, 15⟩, ⟨2, [57], 9, 0, 17⟩]
def w1s : ByteArray := ⟨#[40, 49, 32, 43, 32, 50, 42, 45, 40, 51, 32, 45, 32, 53, 41, 41, 32, 57]⟩
theorem w1_all : all w1s.data.toList = (w1l ++ [⟨0, [], 0, 0, 18⟩], 0, 0) := by decide +kernel
theorem w1_mach : mach (w1l ++ [⟨0, [], 0, 0, 18⟩]) 30 .fac 0 [] = some (.val 5 12) := by kernel_rfl
def w2l : List Tok := [⟨7, [40], 0, 0, 0⟩, ⟨2, [49], 1, 0, 1⟩, ⟨7, [43], 0, 0, 3⟩, ⟨7, [41], 0, 0, 5⟩]
def w2s : ByteArray := ⟨#[40, 49, 32, 43, 32, 41]⟩
theorem w2_all : all w2s.data.toList = (w2l ++ [⟨0, [], 0, 0, 6⟩], 0, 0) := by decide +kernel
theorem w2_mach : mach (w2l ++ [⟨0, [], 0, 0, 6⟩]) 30 .fac 0 [] = some (.bad 20 5) := by kernel_rfl
theorem works_v (w : World) (hg : Fau.Glob w) : Calls Tryd.prog 5 #[] w fun e w' => e = .returned (.bool true) ∧ Below w.heap.size w w' := by
  have HG := Lib.hid hg
  clear hg
  go_enter Tryd.func5, Tryd.ntmps5
  go_wp2_with fail
  refine (value_v w1s _ _ _ _ _ w1_all rfl w1_mach _).mono ?_
  rintro e w1 ⟨rfl, hb1⟩
  have B1 := Lib.hid hb1
  clear hb1
  unfold resE
  go_wp2_with fail
  refine (value_v w2s _ _ _ _ _ w2_all rfl w2_mach _).mono ?_
  rintro e w2 ⟨rfl, hb2⟩
  have B2 := Lib.hid (B1.out.trans (hb2.mono B1.out.size))
  clear hb2
  unfold resE
  go_wp2_with fail
  refine (Fau.of_v 20 5 _ (HG.out.below B2.out HG.out.pos)).mono ?_
  rintro e w3 ⟨rfl, hb3⟩
  have B3 := Lib.hid (B2.out.trans (hb3.mono B2.out.size))
  clear hb3
  go_wp2_with fail
  refine (Fau.at_v 20 5 _ (HG.out.below B3.out HG.out.pos)).mono ?_
  rintro e w4 ⟨rfl, hb4⟩
  have B4 := Lib.hid (B3.out.trans (hb4.mono B3.out.size))
  clear hb4
  go_wp2_with fail
  go_ret
  exact ⟨rfl, B4.out⟩
end Go.Proofs.YtgjaajofhfhadaaDoor.Fol
