
/- What the program's told answers: the bytes so far, and behind them a byte as it stands between quotes. -/
import Derived.Test.YtlfohbajeecdeaaDoorQuoPieceB
import Derived.Maps.AppendAt
import Derived.Deep.AppendLies
import Derived.OwnWalk
import Derived.Deep.RegionLaw
namespace Go.Proofs.YtlfohbajeecdeaaDoor.Quo
open Go.ChangeShapes Go.WideShapes Go.RowKit
set_option linter.unusedVariables false

/-- Bytes as cells. -/
def cellsOf (l : List UInt8) : List Value := l.map fun c => .int .u8 (c.toNat : Int)
/-- The bytes t are those of a slice that the call has made. -/
def Own (base : Nat) (w : World) (A : Option Addr) (c : Nat) (t : List UInt8) : Prop := w.ownsRow base 5 1 (.slice A t.length c) t.length (cellsOf t)
/-- A slice of its own is handed back, with the bytes t. -/
def ToldP (base : Nat) (t : List UInt8) (w : World) (e : Ending) (w' : World) : Prop :=
  ∃ A c, e = .returned (.slice A t.length c) ∧ Own base w' A c t ∧ Below base w w'
theorem info5 : (Tryd.prog.info? 5).map (fun i => (i.zero, i.size, i.bytes)) = some (some (.int .u8 0), 1, 1) := by kernel_rfl
theorem one_cell (x : List UInt8) : ∀ u ∈ cellsOf x, u.oneCell' = true := by
  intro u hu
  obtain ⟨c, _, rfl⟩ := List.mem_map.1 hu
  rfl
theorem news_new (w : World) (cs : Array Value) (t : TypeId) (l : List Value) (hl : cs.toList = l) : ∀ j u, l[j]? = some u → (w.alloc (.cells cs t)).cell? ((⟨w.heap.size, 0, none⟩ : Addr).add j) = some u := by
  subst hl
  exact World.news_of_block (heap_alloc_new w _)
theorem own_next {base m : Nat} {w wr w1 : World} {A : Option Addr} {c : Nat} {t x : List UInt8} {v' : Value} {o : Obj} {xs : List Value}
    (ho : w1.ownsRow base 5 1 v' (t.length + m) (cellsOf t ++ xs)) (hx : xs = cellsOf x) (hm : x.length = m) (h0 : 0 < m)
    (hg : (wr.alloc o).grownBy w1 (Value.ownBlock (.slice A t.length c))) (hown : Own base wr A c t) (hb : Below base w wr) (hB : base ≤ wr.heap.size) :
    ∃ A' c', v' = .slice A' (t ++ x).length c' ∧ Own base w1 A' c' (t ++ x) ∧ Below base w w1 := by
  subst hx hm
  obtain ⟨g, cap, rfl, _, _⟩ := ho.form (by omega)
  have e1 : (t ++ x).length = t.length + x.length := by simp
  have e2 : cellsOf (t ++ x) = cellsOf t ++ cellsOf x := by unfold cellsOf; rw [List.map_append]
  unfold Own
  rw [e1, e2]
  refine ⟨_, _, rfl, ho, ?_⟩
  have h1 : Below base w (wr.alloc o) := hb.alloc hB o
  exact h1.grown hg (by simp; omega) (fun k hk => (hown.lt k hk).1)
set_option maxHeartbeats 400000 in
theorem told_34 (base : Nat) (A : Option Addr) (c : Nat) (t : List UInt8) (b : UInt8) (w : World) (h : Own base w A c t) (hl : t.length ≤ 100000000) (hB : base ≤ w.heap.size) (hb : b = 34) :
    Calls Tryd.prog 58 #[.slice A t.length c, .int .u8 (b.toNat : Int)] w (ToldP base (t ++ [92, 34]) w) := by
  obtain ⟨i0, hi0, hz0, hz1, hz2⟩ := info_parts info5
  have I0 := Lib.hid (And.intro hi0 (And.intro hz0 (And.intro hz1 hz2)))
  have HH := Lib.hid h
  clear hi0 hz0 hz1 hz2 h
  subst hb
  go_enter Tryd.func58, Tryd.ntmps58
  go_wp2_with (at_builtin; refine wpList_append_own _ rfl _ _ 45 rfl base 5 i0 (.int .u8 0) 1 1 Tryd.underlying45 I0.out.1 I0.out.2.1 I0.out.2.2.1 I0.out.2.2.2 rfl (by decide) _ _ _ rfl (HH.out.alloc _) ⟨w.heap.size, 0, none⟩ 2 2 _ rfl rfl (news_new _ _ _ _ rfl) (by intro x hx; simp at hx; rcases hx with rfl | rfl <;> rfl) (by unfold maxLen; omega) (by omega) (by simp; omega) ?_)
  intro v' w1 hown' hgrow _
  obtain ⟨A', c', rfl, h2, h3⟩ := own_next (x := [92, 34]) hown' rfl rfl (by omega) hgrow HH.out (Below.refl _ _) hB
  have H2 := Lib.hid (And.intro h2 h3)
  clear hown' hgrow h2 h3
  go_wp2_with fail
  go_ret
  exact ⟨A', c', rfl, H2.out⟩
set_option maxHeartbeats 400000 in
theorem told_92 (base : Nat) (A : Option Addr) (c : Nat) (t : List UInt8) (b : UInt8) (w : World) (h : Own base w A c t) (hl : t.length ≤ 100000000) (hB : base ≤ w.heap.size) (hb : b = 92) :
    Calls Tryd.prog 58 #[.slice A t.length c, .int .u8 (b.toNat : Int)] w (ToldP base (t ++ [92, 92]) w) := by
  obtain ⟨i0, hi0, hz0, hz1, hz2⟩ := info_parts info5
  have I0 := Lib.hid (And.intro hi0 (And.intro hz0 (And.intro hz1 hz2)))
  have HH := Lib.hid h
  clear hi0 hz0 hz1 hz2 h
  subst hb
  go_enter Tryd.func58, Tryd.ntmps58
  go_wp2_with (at_builtin; refine wpList_append_own _ rfl _ _ 45 rfl base 5 i0 (.int .u8 0) 1 1 Tryd.underlying45 I0.out.1 I0.out.2.1 I0.out.2.2.1 I0.out.2.2.2 rfl (by decide) _ _ _ rfl (HH.out.alloc _) ⟨w.heap.size, 0, none⟩ 2 2 _ rfl rfl (news_new _ _ _ _ rfl) (by intro x hx; simp at hx; rcases hx with rfl | rfl <;> rfl) (by unfold maxLen; omega) (by omega) (by simp; omega) ?_)
  intro v' w1 hown' hgrow _
  obtain ⟨A', c', rfl, h2, h3⟩ := own_next (x := [92, 92]) hown' rfl rfl (by omega) hgrow HH.out (Below.refl _ _) hB
  have H2 := Lib.hid (And.intro h2 h3)
  clear hown' hgrow h2 h3
  go_wp2_with fail
  go_ret
  exact ⟨A', c', rfl, H2.out⟩
set_option maxHeartbeats 400000 in
theorem told_10 (base : Nat) (A : Option Addr) (c : Nat) (t : List UInt8) (b : UInt8) (w : World) (h : Own base w A c t) (hl : t.length ≤ 100000000) (hB : base ≤ w.heap.size) (hb : b = 10) :
    Calls Tryd.prog 58 #[.slice A t.length c, .int .u8 (b.toNat : Int)] w (ToldP base (t ++ [92, 110]) w) := by
  obtain ⟨i0, hi0, hz0, hz1, hz2⟩ := info_parts info5
  have I0 := Lib.hid (And.intro hi0 (And.intro hz0 (And.intro hz1 hz2)))
  have HH := Lib.hid h
  clear hi0 hz0 hz1 hz2 h
  subst hb
  go_enter Tryd.func58, Tryd.ntmps58
  go_wp2_with (at_builtin; refine wpList_append_own _ rfl _ _ 45 rfl base 5 i0 (.int .u8 0) 1 1 Tryd.underlying45 I0.out.1 I0.out.2.1 I0.out.2.2.1 I0.out.2.2.2 rfl (by decide) _ _ _ rfl (HH.out.alloc _) ⟨w.heap.size, 0, none⟩ 2 2 _ rfl rfl (news_new _ _ _ _ rfl) (by intro x hx; simp at hx; rcases hx with rfl | rfl <;> rfl) (by unfold maxLen; omega) (by omega) (by simp; omega) ?_)
  intro v' w1 hown' hgrow _
  obtain ⟨A', c', rfl, h2, h3⟩ := own_next (x := [92, 110]) hown' rfl rfl (by omega) hgrow HH.out (Below.refl _ _) hB
  have H2 := Lib.hid (And.intro h2 h3)
  clear hown' hgrow h2 h3
  go_wp2_with fail
  go_ret
  exact ⟨A', c', rfl, H2.out⟩
set_option maxHeartbeats 400000 in
theorem told_9 (base : Nat) (A : Option Addr) (c : Nat) (t : List UInt8) (b : UInt8) (w : World) (h : Own base w A c t) (hl : t.length ≤ 100000000) (hB : base ≤ w.heap.size) (hb : b = 9) :
    Calls Tryd.prog 58 #[.slice A t.length c, .int .u8 (b.toNat : Int)] w (ToldP base (t ++ [92, 116]) w) := by
  obtain ⟨i0, hi0, hz0, hz1, hz2⟩ := info_parts info5
  have I0 := Lib.hid (And.intro hi0 (And.intro hz0 (And.intro hz1 hz2)))
  have HH := Lib.hid h
  clear hi0 hz0 hz1 hz2 h
  subst hb
  go_enter Tryd.func58, Tryd.ntmps58
  go_wp2_with (at_builtin; refine wpList_append_own _ rfl _ _ 45 rfl base 5 i0 (.int .u8 0) 1 1 Tryd.underlying45 I0.out.1 I0.out.2.1 I0.out.2.2.1 I0.out.2.2.2 rfl (by decide) _ _ _ rfl (HH.out.alloc _) ⟨w.heap.size, 0, none⟩ 2 2 _ rfl rfl (news_new _ _ _ _ rfl) (by intro x hx; simp at hx; rcases hx with rfl | rfl <;> rfl) (by unfold maxLen; omega) (by omega) (by simp; omega) ?_)
  intro v' w1 hown' hgrow _
  obtain ⟨A', c', rfl, h2, h3⟩ := own_next (x := [92, 116]) hown' rfl rfl (by omega) hgrow HH.out (Below.refl _ _) hB
  have H2 := Lib.hid (And.intro h2 h3)
  clear hown' hgrow h2 h3
  go_wp2_with fail
  go_ret
  exact ⟨A', c', rfl, H2.out⟩
set_option maxHeartbeats 400000 in
theorem told_plain (base : Nat) (A : Option Addr) (c : Nat) (t : List UInt8) (b : UInt8) (w : World) (h : Own base w A c t) (hl : t.length ≤ 100000000) (hB : base ≤ w.heap.size) (h1 : b.toNat ≠ 34) (h2 : b.toNat ≠ 92) (h3 : b.toNat ≠ 10) (h4 : b.toNat ≠ 9) (h5 : 32 ≤ b.toNat) (h6 : b.toNat ≤ 126) :
    Calls Tryd.prog 58 #[.slice A t.length c, .int .u8 (b.toNat : Int)] w (ToldP base (t ++ [b]) w) := by
  obtain ⟨i0, hi0, hz0, hz1, hz2⟩ := info_parts info5
  have I0 := Lib.hid (And.intro hi0 (And.intro hz0 (And.intro hz1 hz2)))
  have HH := Lib.hid h
  clear hi0 hz0 hz1 hz2 h
  have c1 : ((b.toNat : Int) == 34) = false := nat_bne h1
  have c2 : ((b.toNat : Int) == 92) = false := nat_bne h2
  have c3 : ((b.toNat : Int) == 10) = false := nat_bne h3
  have c4 : ((b.toNat : Int) == 9) = false := nat_bne h4
  clear h1 h2 h3 h4
  go_enter Tryd.func58, Tryd.ntmps58
  go_wp2_with (at_builtin; refine wpList_append_own _ rfl _ _ 45 rfl base 5 i0 (.int .u8 0) 1 1 Tryd.underlying45 I0.out.1 I0.out.2.1 I0.out.2.2.1 I0.out.2.2.2 rfl (by decide) _ _ _ rfl (HH.out.alloc _) ⟨w.heap.size, 0, none⟩ 1 1 _ rfl rfl (news_new _ _ _ _ rfl) (by intro x hx; simp at hx; subst hx; rfl) (by unfold maxLen; omega) (by omega) (by simp; omega) ?_)
  intro v' w1 hown' hgrow _
  obtain ⟨A', c', rfl, h2, h3⟩ := own_next (x := [b]) hown' rfl rfl (by omega) hgrow HH.out (Below.refl _ _) hB
  have H2 := Lib.hid (And.intro h2 h3)
  clear hown' hgrow h2 h3
  go_wp2_with fail
  go_ret
  exact ⟨A', c', rfl, H2.out⟩
end Go.Proofs.YtlfohbajeecdeaaDoor.Quo
