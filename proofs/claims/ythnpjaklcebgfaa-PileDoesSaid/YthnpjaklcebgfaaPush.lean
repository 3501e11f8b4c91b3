/- What Push and Pop do with what waits, as the heap asks for them. -/
import Derived.Test.YthnpjaklcebgfaaSwap
import Derived.Deep.RegionLaw
namespace Go.Proofs.Ythnpjaklcebgfaa
open Go.ChangeShapes Go.WideShapes Go.RowKit
set_option linter.unusedVariables false

theorem info51 : (Try.prog.info? 51).map (fun i => (i.zero, i.size, i.bytes)) = some (some (.agg #[.int .i64 0, .int .i64 0]), 2, 16) := by kernel_rfl
theorem info28 : (Try.prog.info? 28).map (fun i => (i.zero, i.size, i.bytes)) = some (some (.agg #[.int .i64 0, .int .i64 0]), 2, 16) := by kernel_rfl
theorem news_new (w : World) (cs : Array Value) (t : TypeId) (l : List Value) (h : cs.toList = l) : ∀ j u, l[j]? = some u → (w.alloc (.cells cs t)).cell? ((⟨w.heap.size, 0, none⟩ : Addr).add j) = some u := by
  subst h
  exact World.news_of_block (heap_alloc_new w _)
theorem assert51 (a b : Int) (W : World) : (Instr.typeAssert (.iface 51 (.agg #[.int .i64 a, .int .i64 b])) 20 51 true).run Try.prog W = .ok (.tuple #[.agg #[.int .i64 a, .int .i64 b], .bool true]) W := by kernel_rfl
/-- What Push leaves: the item behind the last one; the items' block, or a new one. -/
def PushP (B q g : Nat) (l : List It) (x : It) (w : World) (e : Ending) (w' : World) : Prop :=
  ∃ g' cap', e = .returned (.tuple #[]) ∧ PAt B w' q g' cap' (l ++ [x]) ∧ Kp q g w w' ∧ (g' = g ∨ w.heap.size ≤ g')
theorem push_far {B q g cap : Nat} {l : List It} {w W w1 : World} (h : PAt B w q g cap l) (hW : w.grownBy W none) (hg : W.grownBy w1 (some g)) :
    w1.cell? ⟨q, 0, none⟩ = some (.slice (some ⟨g, 0, none⟩) l.length cap) ∧ w1.cell? ⟨q, 1, none⟩ = some (.func (.func 18) #[] #[]) ∧ w1.frozen? ⟨q, 0, none⟩ = false ∧ q < w1.heap.size := by
  have h1 := h.grow hW
  have hne : some q ≠ some g := by simpa using h.ne
  exact ⟨(hg.cell_far ⟨q, 0, none⟩ h1.lt hne).trans h1.slice, (hg.cell_far ⟨q, 1, none⟩ h1.lt hne).trans h1.ord, (hg.frozen_far ⟨q, 0, none⟩ h1.lt hne).trans h1.free, Nat.lt_of_lt_of_le h1.lt hg.size⟩
theorem push_end {B q g g' cap cap' n : Nat} {l : List It} {x : It} {w W w1 : World} (h : PAt B w q g cap l) (hn : l.length = n) (hown : w1.ownsRow B 51 2 (.slice (some ⟨g', 0, none⟩) (n + 1) cap') (n + 1) (cs l ++ cs [x]))
    (hf : w1.cell? ⟨q, 0, none⟩ = some (.slice (some ⟨g, 0, none⟩) l.length cap) ∧ w1.cell? ⟨q, 1, none⟩ = some (.func (.func 18) #[] #[]) ∧ w1.frozen? ⟨q, 0, none⟩ = false ∧ q < w1.heap.size)
    (hW : w.grownBy W none) (hg : W.grownBy w1 (some g)) (hat : some g = some g' ∨ g' = W.heap.size) (hl : n < 1000) :
    PushP B q g l x w (.returned (.tuple #[])) (w1.setCell ⟨q, 0, none⟩ (.slice (some ⟨g', 0, none⟩) (n + 1) cap')) := by
  have e1 : (l ++ [x]).length = n + 1 := by simp [hn]
  have hq : q ≠ g' := by
    rcases hat with e | e
    · injection e with e; rw [← e]; exact h.ne
    · have := h.lt; have := hW.size; omega
  have hp := h.header (w' := w1) (g' := g') (cap' := cap') (l' := l ++ [x]) hf.1 hf.2.1 hf.2.2.1 hf.2.2.2 hq (by rw [e1, cs_append]; exact hown) (by omega)
  rw [e1] at hp
  refine ⟨g', cap', rfl, hp, ?_, ?_⟩
  · have k1 : Kp q g w w1 := (Kp.nil hW).trans (Kp.of hg (by simp)) (.inl rfl)
    exact k1.trans (Kp.of (gset _ _ _ _) (by simp)) (.inl rfl)
  · rcases hat with e | e
    · injection e with e; exact .inl e.symm
    · exact .inr (by rw [e]; exact hW.size)
set_option maxHeartbeats 4000000 in
set_option maxRecDepth 100000 in
theorem push_v (B q g cap : Nat) (l : List It) (a b : Int) (hl : l.length < 1000) (w : World) (h : PAt B w q g cap l) (hB : B ≤ w.heap.size) :
    Calls Try.prog 46 #[.pointer (some ⟨q, 0, none⟩), .iface 51 (.agg #[.int .i64 a, .int .i64 b])] w (PushP B q g l (a, b) w) := by
  obtain ⟨i0, hi0, hz0, hz1, hz2⟩ := info_parts info51
  have I0 := Lib.hid (And.intro hi0 (And.intro hz0 (And.intro hz1 hz2)))
  have HH := Lib.hid h
  have c0 := h.slice
  have f0 := h.free
  obtain ⟨n, hn⟩ : ∃ n, l.length = n := ⟨_, rfl⟩
  have HN := Lib.hid hn
  rw [hn] at c0 hl
  clear hi0 hz0 hz1 hz2 hn
  have hq : q < w.heap.size := h.lt
  have hq2 : q < w.heap.size + 1 := by omega
  clear h
  have ta := assert51 a b
  go_enter Try.func46, Try.ntmps46
  go_wp2_with fail
  clear ta
  go_region_law (refine step_append_lies _ rfl (.tmp 16) (.tmp 18) 48 rfl B 51 i0 (.agg #[.int .i64 0, .int .i64 0]) 2 16 Try.underlying48 I0.out.1 I0.out.2.1 I0.out.2.2.1 I0.out.2.2.2 rfl (by decide) (.slice (some ⟨g, 0, none⟩) n cap) n (cs l) (by simp [Act.eval]) (by rw [← HN.out]; exact ((HH.out.own.alloc _).alloc _).drew) ⟨w.heap.size + 1, 0, none⟩ 1 1 (cs [(a, b)]) (by simp [Act.eval]) rfl (fun j u hj => by have := news_new (w.alloc (.cells #[.int .i64 a, .int .i64 b] 51)) #[.int .i64 a, .int .i64 b] 51 (cs [(a, b)]) rfl j u hj; simpa using this) (cs_one _) (by decide) (by unfold maxLen; omega) (by omega) (by simp; omega) _ rfl ?_; intro g' cap' w1 hown hgrow hat hlt; have H2 := Lib.hid (And.intro hown (And.intro (push_far HH.out (gtrans (galloc _ _ _) (gtrans (galloc _ _ _) (gdrew _ _))) hgrow) (And.intro hgrow (And.intro hat hlt)))); clear hown hgrow hat hlt; obtain ⟨cq, _, cf, _⟩ := H2.out.2.1)
  all_goals
    go_wp2_with fail
    go_end0
    exact push_end HH.out HN.out H2.out.1 H2.out.2.1 (gtrans (galloc _ _ _) (gtrans (galloc _ _ _) (gdrew _ _))) H2.out.2.2.1 H2.out.2.2.2.1 hl
/-- What Pop leaves: all but the last one, which it hands over. -/
theorem popm_v (B q g cap n : Nat) (l : List It) (hl : l.length = n + 1) (a b : Int) (hx : ia l n = (a, b)) (w : World) (h : PAt B w q g cap l) :
    Calls Try.prog 45 #[.pointer (some ⟨q, 0, none⟩)] w fun e w' => e = .returned (.iface 51 (.agg #[.int .i64 a, .int .i64 b])) ∧ PAt B w' q g cap (l.take n) ∧ w.grownBy w' (some q) := by
  have HH := Lib.hid (And.intro h hl)
  have c0 := h.slice
  have f0 := h.free
  have k1 := h.key (k := n) (by omega)
  have k2 := h.val (k := n) (by omega)
  have hs := h.small
  have hcap := h.cap_le.1
  have hq := h.lt
  have hg := h.ltg
  rw [hx] at k1 k2
  rw [hl] at c0 hs hcap
  clear h hl hx
  have e1 : (n : Int) < (n : Int) + 1 := by omega
  go_enter Try.func45, Try.ntmps45
  go_wp2_with fail
  go_ret
  obtain ⟨h, hl⟩ := HH.out
  have e2 : (l.take n).length = n := by rw [List.length_take]; omega
  have hp := h.header (w' := w) (g' := g) (cap' := cap) (l' := l.take n) h.slice h.ord h.free h.lt h.ne (by rw [e2]; exact own_cut (by have := h.own; rw [hl] at this; exact this) hl) (by omega)
  rw [e2] at hp
  exact ⟨rfl, hp.grow (galloc _ _ _), gtrans (gset _ _ _ _) (galloc _ _ _)⟩
end Go.Proofs.Ythnpjaklcebgfaa
