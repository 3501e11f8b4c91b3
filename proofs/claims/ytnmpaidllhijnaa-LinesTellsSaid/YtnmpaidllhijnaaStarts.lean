/- What the program's Starts answers: the places with which the lines begin, in a slice of its own. -/
import Derived.Test.YtnmpaidllhijnaaSpan
import Derived.Maps.AppendAt
import Derived.Deep.AppendLies
import Derived.OwnWalk
import Derived.Laws.OwnMore
namespace Go.Proofs.Ytnmpaidllhijnaa
open Go.ChangeShapes Go.WideShapes Go.RowKit
set_option linter.unusedVariables false

/-- Numbers as cells. -/
def nums (t : List Nat) : List Value := t.map fun n : Nat => Value.int .i64 (n : Int)
/-- The numbers t are those of a slice that the call has made. -/
def OwnN (base : Nat) (w : World) (A : Option Addr) (c : Nat) (t : List Nat) : Prop := w.ownsRow base 3 1 (.slice A t.length c) t.length (nums t)
theorem info3 : (Try.prog.info? 3).map (fun i => (i.zero, i.size, i.bytes)) = some (some (.int .i64 0), 1, 8) := by kernel_rfl
theorem news_new (w : World) (cs : Array Value) (t : TypeId) (l : List Value) (hl : cs.toList = l) : ∀ j u, l[j]? = some u → (w.alloc (.cells cs t)).cell? ((⟨w.heap.size, 0, none⟩ : Addr).add j) = some u := by
  subst hl
  exact World.news_of_block (heap_alloc_new w _)
theorem own_iterAt {w : World} {base : Nat} {e : TypeId} {size : Nat} {v : Value} {n : Nat} {xs : List Value} (h : w.ownsRow base e size v n xs) {k : Nat} {s : ByteArray} {p : Nat} (hk : w.heap[k]? = some (.stringIter s p)) (p' : Nat) :
    (w.iterAt k s p').ownsRow base e size v n xs := by
  obtain ⟨h1, h2⟩ := h
  refine ⟨h1, ?_⟩
  rcases h2 with h2 | ⟨g, cap, cur, a, b, c, d⟩
  · exact .inl h2
  · exact .inr ⟨g, cap, cur, a, b, by rw [Lib.iterAt_other _ _ _ _ _ (by rintro rfl; rw [hk] at c; cases c)]; exact c, d⟩
theorem own_iter_ne {w : World} {base : Nat} {e : TypeId} {size : Nat} {v : Value} {n : Nat} {xs : List Value} (h : w.ownsRow base e size v n xs) {k : Nat} {s : ByteArray} {p : Nat} (hk : w.heap[k]? = some (.stringIter s p)) : some k ≠ v.ownBlock := by
  rcases h.2 with ⟨rfl, _⟩ | ⟨g, cap, cur, rfl, b, c, d⟩
  · simp [Value.ownBlock]
  · simp only [Value.ownBlock, ne_eq, Option.some.injEq]
    rintro rfl
    rw [hk] at c; cases c
theorem lt_heap {w : World} {k : Nat} {o : Obj} (h : w.heap[k]? = some o) : k < w.heap.size := (Array.getElem?_eq_some_iff.1 h).1
theorem ownN_next {base : Nat} {w wr w1 : World} {A : Option Addr} {c : Nat} {t : List Nat} {p : Nat} {v' : Value} {o : Obj}
    (ho : w1.ownsRow base 3 1 v' (t.length + 1) (nums t ++ [.int .i64 ((p : Int) + 1)]))
    (hg : (wr.alloc o).grownBy w1 (Value.ownBlock (.slice A t.length c))) (hown : OwnN base wr A c t) (hb : Below base w wr) (hB : base ≤ wr.heap.size) :
    ∃ A' c', v' = .slice A' (t ++ [p + 1]).length c' ∧ OwnN base w1 A' c' (t ++ [p + 1]) ∧ Below base w w1 := by
  obtain ⟨g, cap, rfl, _, _⟩ := ho.form (by omega)
  have e1 : (t ++ [p + 1]).length = t.length + 1 := by simp
  have e2 : nums (t ++ [p + 1]) = nums t ++ [.int .i64 ((p : Int) + 1)] := by unfold nums; rw [List.map_append]; rfl
  unfold OwnN
  rw [e1, e2]
  refine ⟨_, _, rfl, ho, ?_⟩
  have h1 : Below base w (wr.alloc o) := hb.alloc hB o
  exact h1.grown hg (by simp; omega) (fun k hk => (hown.lt k hk).1)
theorem next_ten_at (w : World) (g : Nat) (q : ByteArray) (pos : Nat) (hk : w.heap[g]? = some (.stringIter q pos)) (h : pos < q.size) (hc : q.data.toList[pos]'(by rw [size_list]; exact h) = 10) (ty : TypeId) :
    (Instr.next (.pointer (some ⟨g, 0, none⟩)) true ty).run Try.prog w = .ok (.tuple #[.bool true, .int .i64 (pos : Int), .int .i32 10]) (w.iterAt g q (pos + 1)) := by
  rw [Lib.run_next_any_at w g q pos ty hk h, decode_ten q pos h hc]; rfl
theorem next_else_at (w : World) (g : Nat) (q : ByteArray) (pos : Nat) (hk : w.heap[g]? = some (.stringIter q pos)) (h : pos < q.size) (z k : Nat) (hz : Utf8.decode q pos = (z, k)) (ty : TypeId) :
    (Instr.next (.pointer (some ⟨g, 0, none⟩)) true ty).run Try.prog w = .ok (.tuple #[.bool true, .int .i64 (pos : Int), .int .i32 (z : Int)]) (w.iterAt g q (pos + k)) := by
  rw [Lib.run_next_any_at w g q pos ty hk h, hz]
/-- What Starts hands back. -/
def StartsP (t : List Nat) (w : World) (e : Ending) (w' : World) : Prop := ∃ A c, e = .returned (.slice A t.length c) ∧ OwnN w.heap.size w' A c t ∧ Below w.heap.size w w'
set_option maxRecDepth 100000 in
set_option maxHeartbeats 2000000 in
theorem starts_v (s : ByteArray) (I : List (List UInt8)) (r : List UInt8) (t : List Nat) (hs : s.size ≤ 1000000) (h : Cut s.data.toList I r) (ht : begs I = t) (w : World) :
    Calls Try.prog 11 #[.string s] w (StartsP t w) := by
  obtain ⟨i0, hi0, hz0, hz1, hz2⟩ := info_parts info3
  have I0 := Lib.hid (And.intro hi0 (And.intro hz0 (And.intro hz1 hz2)))
  clear hi0 hz0 hz1 hz2
  have HQ := Lib.hid (And.intro h ht)
  clear h ht
  go_enter Try.func11, Try.ntmps11
  go_wp2_with fail
  go_loopg [3] s.size (fun gk u wr => ∃ (pos : Nat) (A : Option Addr) (c : Nat) (t : List Nat), u = .slice A t.length c ∧
    Hid (gk = s.size - pos ∧ pos ≤ s.size ∧ Below w.heap.size w wr ∧ wr.heap[w.heap.size + 1]? = some (.stringIter s pos) ∧ OwnN w.heap.size wr A c t ∧ ∃ I r, Cut (s.data.toList.take pos) I r ∧ t = begs I))
  case atStart =>
    refine ⟨0, some ⟨w.heap.size, 0, none⟩, 1, [0], rfl, rfl, by omega, ((Below.refl _ w).alloc (Nat.le_refl _) _).alloc (by simp) _, ?_, ?_, [], [], by simpa using Cut.nil, rfl⟩
    · have := heap_alloc_new (w.alloc (.cells #[.int .i64 0] 3)) (.stringIter s 0)
      simpa [World.iter] using this
    · exact (World.ownsRow_lit (size := 1) w #[.int .i64 0] 1 (Nat.le_refl _) (by unfold maxLen; omega) rfl).alloc _
  case round =>
    obtain ⟨pos, A, c, t', rfl, HH⟩ := hrel
    by_cases hlt : pos < s.size
    · have hl : pos < s.data.toList.length := by rw [size_list]; exact hlt
      have hp1 : pos < 1000000 := by omega
      have htl : t'.length ≤ 1000000 := by
        obtain ⟨h1, h2, _, _, _, J, x, hcut, rfl⟩ := HH.out
        have := hcut.count
        have hlen := hcut.len
        rw [List.length_take] at hlen
        rw [begs_len]; omega
      have HTL := Lib.hid htl
      clear htl
      by_cases hc : s.data.toList[pos]'hl = 10
      · have hnx := next_ten_at wr (w.heap.size + 1) s pos HH.out.2.2.2.1 hlt hc
        have HC := Lib.hid hc
        have HL := Lib.hid (And.intro hl hlt)
        clear hc hlt
        have hit : (wr.iterAt (w.heap.size + 1) s (pos + 1)).heap[w.heap.size + 1]? = some (.stringIter s (pos + 1)) := Lib.iterAt_heap _ _ _ _ _ HH.out.2.2.2.1
        have hown : OwnN w.heap.size (wr.iterAt (w.heap.size + 1) s (pos + 1)) A c t' := own_iterAt HH.out.2.2.2.2.1 HH.out.2.2.2.1 _
        have hbl : Below w.heap.size w (wr.iterAt (w.heap.size + 1) s (pos + 1)) := Lib.below_iterAt HH.out.2.2.1 (by omega) _ _
        have H1 := Lib.hid (And.intro hit (And.intro hown hbl))
        clear hit hown hbl
        go_wp2_with (at_builtin; refine wpList_append_own _ rfl _ _ 29 rfl w.heap.size 3 i0 (.int .i64 0) 1 8 Try.underlying29 I0.out.1 I0.out.2.1 I0.out.2.2.1 I0.out.2.2.2 rfl (by decide) _ _ _ rfl (H1.out.2.1.alloc _) ⟨(wr.iterAt (w.heap.size + 1) s (pos + 1)).heap.size, 0, none⟩ 1 1 _ rfl rfl (news_new _ _ _ _ rfl) (by intro x hx; simp at hx; subst hx; rfl) (by have := HTL.out; unfold maxLen; omega) (by have := HTL.out; omega) (by have := H1.out.2.2.size; simp; omega) ?_)
        intro v' w2 hown' hgrow _
        have hh2 : w2.heap[w.heap.size + 1]? = some (.stringIter s (pos + 1)) := by
          rw [hgrow.block _ (by have := lt_heap H1.out.1; simp; omega) (own_iter_ne H1.out.2.1 H1.out.1), Below.heap_alloc _ _ _ (lt_heap H1.out.1)]; exact H1.out.1
        obtain ⟨A', c', rfl, h2, h3⟩ := ownN_next hown' hgrow H1.out.2.1 H1.out.2.2 H1.out.2.2.size
        have H2 := Lib.hid (And.intro h3 (And.intro hh2 h2))
        clear hown' hgrow h2 h3 hh2
        go_wp2_with fail
        go_roundg (s.size - (pos + 1))
        case measure => have := HH.out.1; have := HL.out.2; omega
        case rel =>
          obtain ⟨h1, h2, _, _, _, J, x, hcut, rfl⟩ := HH.out
          have hlt := HL.out.2
          have hcut' := hcut.ten
          rw [← HC.out, ← List.take_succ_eq_append_getElem hl] at hcut'
          have hlen := hcut'.len
          rw [List.length_take, Nat.min_eq_left (by omega)] at hlen
          have e2 : (glue (J ++ [x])).length = pos + 1 := by simp at hlen; omega
          have e3 : begs J ++ [pos + 1] = begs (J ++ [x]) := by rw [begs_snoc, e2]
          exact ⟨pos + 1, A', c', begs J ++ [pos + 1], rfl, rfl, by omega, H2.out.1, H2.out.2.1, H2.out.2.2, J ++ [x], [], hcut', e3⟩
      · obtain ⟨hz, hw, hle, mm, hmm, hno⟩ := decode_else s pos hlt hc
        obtain ⟨z, d, hzk⟩ : ∃ z d, Utf8.decode s pos = (z, d) := ⟨_, _, rfl⟩
        have hnx := next_else_at wr (w.heap.size + 1) s pos HH.out.2.2.2.1 hlt z d hzk
        rw [hzk] at hz hw hle hmm
        have c1 : ((z : Int) == 10) = false := by rw [beq_eq_false_iff_ne]; simp at hz; omega
        have c2 : ¬ (z : Int) = 10 := by simp at hz; omega
        have HL := Lib.hid (And.intro hlt (And.intro hw (And.intro hle (And.intro hmm hno))))
        clear hc hlt hzk hz hw hle hmm hno
        go_wp2_with fail
        go_roundg (s.size - (pos + d))
        case measure => have := HH.out.1; have := HL.out.1; have := HL.out.2.1; omega
        case rel =>
          obtain ⟨h1, h2, hb, hit, hown, J, x, hcut, e1⟩ := HH.out
          obtain ⟨hlt, hw, hle, hmm, hno⟩ := HL.out
          have hcut' := hcut.more hno
          rw [← hmm] at hcut'
          exact ⟨pos + d, A, c, t', rfl, rfl, hle, Lib.below_iterAt hb (by omega) _ _, Lib.iterAt_heap _ _ _ _ _ hit, own_iterAt hown hit _, J, x ++ mm, hcut', e1⟩
    · have hnx := fun ty => Lib.run_next_end_at (P := Try.prog) wr (w.heap.size + 1) s pos ty HH.out.2.2.2.1 hlt
      have HL := Lib.hid hlt
      go_wp2_with fail
      go_ret
      obtain ⟨h1, h2, hb, hit, hown, J, x, hcut, e1⟩ := HH.out
      rw [List.take_of_length_le (by rw [size_list]; omega)] at hcut
      obtain ⟨h, ht⟩ := HQ.out
      obtain ⟨rfl, rfl⟩ := h.uniq hcut
      rw [ht] at e1
      subst e1
      exact ⟨A, c, rfl, hown, hb⟩
end Go.Proofs.Ytnmpaidllhijnaa
