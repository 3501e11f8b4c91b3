/- What the program's Path answers: the parts, the outmost first, in a slice of its own. -/
import Derived.Test.YtnpdmcgfhieepaaDoorCore
import Derived.Maps.AppendAt
import Derived.Deep.AppendLies
import Derived.OwnWalk
namespace Go.Proofs.YtnpdmcgfhieepaaDoor
open Go.RowKit Go.Extern.Stop Go.Stop Go.Extern
set_option linter.unusedVariables false

/-- Texts as cells. -/
def texts (l : List ByteArray) : List Value := l.map fun s => .string s
/-- The texts l are those of a slice that the call has made. -/
def Owns (base : Nat) (w : World) (A : Option Addr) (c : Nat) (l : List ByteArray) : Prop := w.ownsRow base 9 1 (.slice A l.length c) l.length (texts l)
theorem info9 : (Tryd.prog.info? 9).map (fun i => (i.zero, i.size, i.bytes)) = some (some (.string ⟨#[]⟩), 1, 16) := by kernel_rfl
theorem news_new (w : World) (cs : Array Value) (t : TypeId) (l : List Value) (hl : cs.toList = l) : ∀ j u, l[j]? = some u → (w.alloc (.cells cs t)).cell? ((⟨w.heap.size, 0, none⟩ : Addr).add j) = some u := by
  subst hl
  exact World.news_of_block (heap_alloc_new w _)
theorem own_next {base : Nat} {w wr w1 : World} {A : Option Addr} {c : Nat} {t : List ByteArray} {p : ByteArray} {v' : Value} {o : Obj}
    (ho : w1.ownsRow base 9 1 v' (t.length + 1) (texts t ++ [.string p]))
    (hg : (wr.alloc o).grownBy w1 (Value.ownBlock (.slice A t.length c))) (hown : Owns base wr A c t) (hb : Below base w wr) (hB : base ≤ wr.heap.size) :
    ∃ A' c', v' = .slice A' (t ++ [p]).length c' ∧ Owns base w1 A' c' (t ++ [p]) ∧ Below base w w1 := by
  obtain ⟨g, cap, rfl, _, _⟩ := ho.form (by omega)
  have e1 : (t ++ [p]).length = t.length + 1 := by simp
  have e2 : texts (t ++ [p]) = texts t ++ [.string p] := by unfold texts; rw [List.map_append]; rfl
  unfold Owns
  rw [e1, e2]
  refine ⟨_, _, rfl, ho, ?_⟩
  have h1 : Below base w (wr.alloc o) := hb.alloc hB o
  exact h1.grown hg (by simp; omega) (fun k hk => (hown.lt k hk).1)
/-- The variable's block is none of the slice's. -/
theorem own_ne {base : Nat} {w : World} {A : Option Addr} {c b : Nat} {t : List ByteArray} {cs : Array Value} (h : Owns base w A c t) (hb : w.heap[b]? = some (.cells cs 52 (0, 0))) : Value.ownBlock (.slice A t.length c) ≠ some b :=
  Lib.ownBlock_ne h hb (by decide)
set_option maxRecDepth 100000 in
set_option maxHeartbeats 4000000 in
theorem path_v (code place : Int) (path : List ByteArray) (hl : path.length ≤ 1000) (w : World) (hg : Glob w) :
    Calls Tryd.prog 11 #[err code place path] w fun e w' => ∃ A c, e = .returned (.slice A path.length c) ∧ Owns w.heap.size w' A c path ∧ Below w.heap.size w w' := by
  obtain ⟨i0, hi0, hz0, hz1, hz2⟩ := info_parts info9
  have I0 := Lib.hid (And.intro hi0 (And.intro hz0 (And.intro hz1 hz2)))
  clear hi0 hz0 hz1 hz2
  have HG := Lib.hid (And.intro hg hl)
  clear hg hl
  go_enter Tryd.func11, Tryd.ntmps11
  go_wp2_with fail
  go_loopg [0, 3] path.length (fun gk v u wr => ∃ (r t : List ByteArray) (A : Option Addr) (c : Nat) (x y : Value), r.length = gk ∧ v = err code place r ∧ u = .slice A t.length c ∧
    Hid (t ++ r = path ∧ Owns w.heap.size wr A c t ∧ Below w.heap.size w wr ∧ wr.heap[w.heap.size]? = some (.cells #[x, y] 52 (0, 0))))
  case atStart => exact ⟨path, [], none, 0, _, _, rfl, rfl, rfl, rfl, World.ownsRow_nil _ _ _ _, (Below.refl _ w).alloc (Nat.le_refl _) _, heap_alloc_new w _⟩
  case round =>
    obtain ⟨r, t, A, c, x, y, hr, rfl, rfl, HH⟩ := hrel
    have HW := Lib.hid (HG.out.1.below HH.out.2.2.1 HG.out.1.pos)
    cases r with
    | nil =>
      have hf : t = path := by have := HH.out.1; simpa using this
      clear hr
      have HF := Lib.hid hf
      clear hf
      go_wp2_with fail
      refine (As_miss code place w.heap.size wr HW.out).mono ?_
      rintro e w1 ⟨rfl, hb⟩
      have H1 := Lib.hid hb
      clear hb
      go_wp2_with fail
      go_ret
      have ho : Owns w.heap.size w1 A c t := HH.out.2.1.kept (row := none) ⟨H1.out.os, H1.out.tape, H1.out.output, H1.out.size, fun k hk _ => H1.out.block k hk⟩ (by cases hv : Value.ownBlock (.slice A t.length c) <;> simp)
      refine ⟨A, c, ?_, ?_, HH.out.2.2.1.trans (H1.out.mono HH.out.2.2.1.size)⟩
      · rw [← HF.out]; rfl
      · rw [← HF.out]; exact ho
    | cons p r =>
      obtain ⟨T, v, hE, hC⟩ := err_cons code place p r
      have HE := Lib.hid hE
      rw [hC]
      clear hE hC
      obtain ⟨q, rfl⟩ : ∃ q, gk = q + 1 := ⟨r.length, by simpa using hr.symm⟩
      have HR := Lib.hid hr
      clear hr
      have htl : t.length ≤ 1000 := by
        have h1 := congrArg List.length HH.out.1
        have h2 := HG.out.2
        simp at h1; omega
      have HTL := Lib.hid htl
      clear htl
      go_wp2_with fail
      refine (As_w p T v w.heap.size x y wr HW.out HH.out.2.2.2).mono ?_
      rintro e w1 ⟨rfl, hgr, hh⟩
      have c0 : w1.cell? ⟨w.heap.size, 0, none⟩ = some (.string p) := by rw [Lib.cell_of_heap hh]; rfl
      have ho1 : Owns w.heap.size w1 A c t := HH.out.2.1.kept hgr (.inr (own_ne HH.out.2.1 HH.out.2.2.2))
      have hb1 : Below w.heap.size w w1 := HH.out.2.2.1.grown hgr HH.out.2.2.1.size (fun k hk => by injection hk with hk; omega)
      have H1 := Lib.hid (And.intro ho1 (And.intro hb1 hh))
      clear ho1 hb1 hgr hh
      go_wp2_with (at_builtin; refine wpList_append_own _ rfl _ _ 23 rfl w.heap.size 9 i0 (.string ⟨#[]⟩) 1 16 Tryd.underlying23 I0.out.1 I0.out.2.1 I0.out.2.2.1 I0.out.2.2.2 rfl (by decide) _ _ _ rfl (H1.out.1.alloc _) ⟨w1.heap.size, 0, none⟩ 1 1 _ rfl rfl (news_new _ _ _ _ rfl) (by intro x hx; simp at hx; subst hx; rfl) (by have := HTL.out; unfold maxLen; omega) (by have := HTL.out; omega) (by have := H1.out.2.1.size; simp; omega) ?_)
      intro v' w2 hown' hgrow _
      have hh2 : w2.heap[w.heap.size]? = some (.cells #[.string p, .iface T v] 52 (0, 0)) := by
        rw [hgrow.block _ (by have := fresh0 H1.out.2.2; simp; omega) (fun e => own_ne H1.out.1 H1.out.2.2 e.symm), Below.heap_alloc _ _ _ (fresh0 H1.out.2.2)]; exact H1.out.2.2
      have c1 : w2.cell? ⟨w.heap.size, 1, none⟩ = some (.iface T v) := by rw [Lib.cell_of_heap hh2]; rfl
      obtain ⟨A', c', rfl, h2, h3⟩ := own_next hown' hgrow H1.out.1 H1.out.2.1 H1.out.2.1.size
      have H2 := Lib.hid (And.intro h2 (And.intro h3 hh2))
      clear hown' hgrow h2 h3 hh2
      go_wp2_with fail
      go_roundg q
      case measure => omega
      case rel => exact ⟨r, t ++ [p], A', c', _, _, by have := HR.out; simpa using this, HE.out.symm, rfl, by have := HH.out.1; simpa using this, H2.out⟩
set_option maxRecDepth 100000 in
theorem path_nil (w : World) :
    Calls Tryd.prog 11 #[.nilIface] w fun e w' => e = .returned (.slice none 0 0) ∧ Below w.heap.size w w' := by
  go_enter Tryd.func11, Tryd.ntmps11
  go_wp2_with fail
  refine wp_loop_rounds 1 ?_
  rw [rounds_succ]
  go_wp2_with fail
  refine (as_nil _ _).mono ?_
  rintro e w1 ⟨rfl, rfl⟩
  go_wp2_with fail
  go_ret
  exact ⟨rfl, (Below.refl _ w).alloc (Nat.le_refl _) _⟩
end Go.Proofs.YtnpdmcgfhieepaaDoor
