/- What Classes of op answers: a slice of its own. -/
import Derived.Test.YtmpcjjlffebljaaDoorMid
import Derived.Maps.AppendAt
import Derived.Deep.AppendLies
import Derived.OwnWalk
import Derived.Laws.OwnMore
namespace Go.Proofs.YtmpcjjlffebljaaDoor
open Go.ChangeShapes Go.WideShapes Go.RowKit
set_option linter.unusedVariables false

def ints (l : List Int) : List Value := l.map (Value.int .i64)
def clsR (v : Int) : Nat → List Int
  | 0 => []
  | k + 1 => clsR v k ++ if fitR v (k : Int) then [(k : Int)] else []
theorem clsR_yes (v : Int) (k : Nat) (h : fitR v (k : Int) = true) : clsR v (k + 1) = clsR v k ++ [(k : Int)] := by rw [clsR, if_pos h]
theorem clsR_no (v : Int) (k : Nat) (h : fitR v (k : Int) = false) : clsR v (k + 1) = clsR v k := by rw [clsR, h]; simp
theorem info3 : (Tryd.prog.info? 3).map (fun i => (i.zero, i.size, i.bytes)) = some (some (.int .i64 0), 1, 8) := by kernel_rfl
theorem news_new (w : World) (cs : Array Value) (t : TypeId) (l : List Value) (hl : cs.toList = l) : ∀ j u, l[j]? = some u → (w.alloc (.cells cs t)).cell? ((⟨w.heap.size, 0, none⟩ : Addr).add j) = some u := by
  subst hl
  exact World.news_of_block (heap_alloc_new w _)
/-- What Classes hands back. -/
def ClsP (v : Int) (w : World) (e : Ending) (w' : World) : Prop :=
  ∃ A c, e = .returned (.slice A (clsR v 2).length c) ∧ w'.ownsRow w.heap.size 3 1 (.slice A (clsR v 2).length c) (clsR v 2).length (ints (clsR v 2)) ∧ Below w.heap.size w w'
structure Cl (v : Int) (w wr : World) (k : Nat) (A : Option Addr) (c N : Nat) : Prop where
  len : (clsR v k).length = N
  own : wr.ownsRow w.heap.size 3 1 (.slice A N c) N (ints (clsR v k))
  below : Below w.heap.size w wr
theorem Cl.next {v : Int} {w wr w1 : World} {k : Nat} {A : Option Addr} {c N g cap : Nat} {o : Obj} (h : Cl v w wr k A c N) (hf : fitR v (k : Int) = true)
    (ho : w1.ownsRow w.heap.size 3 1 (.slice (some ⟨g, 0, none⟩) (N + 1) cap) (N + 1) (ints (clsR v k) ++ [.int .i64 (k : Int)])) (hg : (wr.alloc o).grownBy w1 (Value.ownBlock (.slice A N c))) :
    Cl v w w1 (k + 1) (some ⟨g, 0, none⟩) cap (N + 1) := by
  have e := clsR_yes v k hf
  refine ⟨by rw [e, List.length_append, h.len]; rfl, by rw [e]; unfold ints at ho ⊢; rw [List.map_append]; exact ho, ?_⟩
  have h1 := h.below.alloc h.below.size o
  exact h1.grown hg (by have := h.below.size; simp; omega) (fun k hk => (h.own.lt k hk).1)
theorem Cl.same {v : Int} {w wr : World} {k : Nat} {A : Option Addr} {c N : Nat} (h : Cl v w wr k A c N) (hf : fitR v (k : Int) = false) : Cl v w wr (k + 1) A c N := by
  have e := clsR_no v k hf
  exact ⟨by rw [e]; exact h.len, by rw [e]; exact h.own, h.below⟩
theorem classes_v (n i v : Int) (hv : atR n i = v) (w : World) : Calls Tryd.prog 15 #[.int .i64 n, .int .i64 i] w (ClsP v w) := by
  obtain ⟨i0, hi0, hz0, hz1, hz2⟩ := info_parts info3
  have I0 := Lib.hid (And.intro hi0 (And.intro hz0 (And.intro hz1 hz2)))
  clear hi0 hz0 hz1 hz2
  have HV := Lib.hid hv
  clear hv
  go_enter Tryd.func15, Tryd.ntmps15
  go_wp2_with fail
  go_loopg [5, 7] 2 (fun gk x u wr => ∃ (k : Nat) (A : Option Addr) (c N : Nat), k + gk = 2 ∧ N ≤ k ∧ x = .slice A N c ∧ u = .int .i64 (k : Int) ∧ Hid (Cl v w wr k A c N))
  case atStart => exact ⟨0, none, 0, 0, by omega, by omega, rfl, rfl, ⟨rfl, World.ownsRow_nil _ _ _ _, Below.refl _ _⟩⟩
  case round =>
    obtain ⟨k, A, c, N, hk, hN, rfl, rfl, HH⟩ := hrel
    by_cases hlt : k < 2
    · cases hb : fitR v (k : Int) with
      | true =>
        have HB := Lib.hid hb
        have hB2 : w.heap.size ≤ wr.heap.size := HH.out.below.size
        clear hb
        go_wp2_with fail
        refine (fits_v n i (k : Int) true (by rw [HV.out]; exact HB.out) _).mono ?_
        rintro e w1 ⟨rfl, rfl⟩
        go_wp2_with (at_builtin; refine wpList_append_lies _ rfl _ _ 36 rfl w.heap.size 3 i0 (.int .i64 0) 1 8 Tryd.underlying36 I0.out.1 I0.out.2.1 I0.out.2.2.1 I0.out.2.2.2 rfl (by decide) _ _ _ rfl (HH.out.own.alloc _) ⟨wr.heap.size, 0, none⟩ 1 1 _ rfl rfl (news_new _ _ _ _ rfl) (by intro x hx; simp at hx; subst hx; rfl) (by decide) (by unfold maxLen; omega) (by omega) (by simp; omega) _ rfl ?_)
        intro g' cap' w1 hown hgrow _ _
        have H2 := Lib.hid (HH.out.next HB.out hown hgrow)
        clear hown hgrow
        go_wp2_with fail
        go_roundg (gk - 1)
        case measure => omega
        case rel => exact ⟨k + 1, _, _, N + 1, by omega, by omega, rfl, by go_num, H2.out⟩
      | false =>
        have HB := Lib.hid hb
        clear hb
        go_wp2_with fail
        refine (fits_v n i (k : Int) false (by rw [HV.out]; exact HB.out) _).mono ?_
        rintro e w1 ⟨rfl, rfl⟩
        go_wp2_with fail
        go_roundg (gk - 1)
        case measure => omega
        case rel => exact ⟨k + 1, A, c, N, by omega, by omega, rfl, by go_num, HH.out.same HB.out⟩
    · obtain rfl : k = 2 := by omega
      clear hlt
      go_wp2_with fail
      go_ret
      obtain ⟨rfl, h2, h3⟩ := HH.out
      exact ⟨A, c, rfl, h2, h3⟩
end Go.Proofs.YtmpcjjlffebljaaDoor
