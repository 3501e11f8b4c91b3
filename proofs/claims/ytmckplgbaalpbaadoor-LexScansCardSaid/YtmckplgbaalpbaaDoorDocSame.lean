/- The document's own: whether two lists of tokens are one. -/
import Derived.Test.YtmckplgbaalpbaaDoorLexAgain
import Derived.Deep.QuietTactic
import Derived.BigQuiet
namespace Go.Proofs.YtmckplgbaalpbaaDoor.Lex
open Go.ChangeShapes Go.WideShapes Go.RowKit
set_option linter.unusedVariables false
set_option maxRecDepth 20000

/-- Tokens of a slice in memory, nil among it. -/
def Toks (w : World) (A : Option Addr) (l : List Tok) : Prop := l = [] ∨ ∃ (N g c : Nat), A = some ⟨g, 0, none⟩ ∧ OwnK N w (some ⟨g, 0, none⟩) c l
theorem same_nil (A B : Option Addr) (c d : Nat) (w : World) : Calls Tryd.prog 9 #[.slice A 0 c, .slice B 0 d] w fun e w' => e = .returned (.bool true) ∧ Below w.heap.size w w' := by
  go_enter Tryd.func9, Tryd.ntmps9
  go_wp2_with fail
  go_loopg [5] 0 (fun gk x wr => x = .int .i64 0 ∧ Hid (Below w.heap.size w wr))
  case atStart => exact ⟨rfl, Below.refl _ _⟩
  case round =>
    obtain ⟨rfl, HH⟩ := hrel
    go_wp2_with fail
    go_ret
    exact ⟨rfl, HH.out⟩
set_option maxHeartbeats 2000000 in
theorem same_is (N1 N2 g1 g2 c d M : Nat) (l : List Tok) (w : World) (hM : l.length = M) (hMs : M ≤ 1000000) (h1 : OwnK N1 w (some ⟨g1, 0, none⟩) c l) (h2 : OwnK N2 w (some ⟨g2, 0, none⟩) d l) :
    Calls Tryd.prog 9 #[.slice (some ⟨g1, 0, none⟩) M c, .slice (some ⟨g2, 0, none⟩) M d] w fun e w' => e = .returned (.bool true) ∧ Below w.heap.size w w' := by
  have hne : ((M : Int) != (M : Int)) = false := by simp
  have HO := Lib.hid (And.intro hM (And.intro h1 h2))
  clear h1 h2 hM
  go_enter Tryd.func9, Tryd.ntmps9
  go_wp2_with fail
  clear hne
  go_loopg [5] M (fun gk x wr => ∃ k : Nat, k ≤ M ∧ x = .int .i64 (k : Int) ∧ gk = M - k ∧ Hid (Below w.heap.size w wr))
  case atStart => exact ⟨0, Nat.zero_le _, rfl, rfl, Below.refl _ _⟩
  case round =>
    obtain ⟨k, hk, rfl, hgk, HB⟩ := hrel
    by_cases hlt : k < M
    · have hlt' : (k : Int) < (M : Int) := by omega
      obtain ⟨t, ht⟩ : ∃ t, l[k]? = some t := ⟨_, List.getElem?_eq_getElem (by rw [HO.out.1]; exact hlt)⟩
      obtain ⟨x0, x1, x2, x3, x4⟩ := cells5t (HO.out.2.1.grow HB.out) k t ht
      obtain ⟨y0, y1, y2, y3, y4⟩ := cells5t (HO.out.2.2.grow HB.out) k t ht
      have hq := neq37 t.kind ⟨t.text.toArray⟩ t.n t.cls t.at_ t.kind ⟨t.text.toArray⟩ t.n t.cls t.at_ false (teq_refl _ _ _ _ _)
      unfold tc at hq
      clear ht
      go_wp2_with fail
      go_quiet (fail)
      go_wp2_with fail
      go_roundg (M - (k + 1))
      case measure => omega
      case rel => exact ⟨k + 1, by omega, by go_num, rfl, HB.out.trans (Quo.below_drewN _ _ _)⟩
    · obtain rfl : k = M := by omega
      go_wp2_with fail
      go_ret
      exact ⟨rfl, HB.out⟩
end Go.Proofs.YtmckplgbaalpbaaDoor.Lex
