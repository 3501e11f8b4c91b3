
/- All pairs of blocks that go on with each other: the program's Edges. -/
import Derived.Test.YtojfbcfbnadboaaGraNext
import Derived.Test.YtojfbcfbnadboaaGraSrt
import Derived.Test.YtojfbcfbnadboaaGraJn
import Derived.Test.YtojfbcfbnadboaaGraRefS
namespace Go.Proofs.Ytojfbcfbnadboaa.Gra
open Go.ChangeShapes Go.WideShapes Go.RowKit
set_option linter.unusedVariables false
set_option maxRecDepth 20000
set_option maxHeartbeats 4000000

def prC (x : Nat × Nat) : List Value := [.int .i64 (x.1 : Int), .int .i64 (x.2 : Int)]
theorem mPr : MRow 41 34 2 prC := ⟨Try.underlying34, minfo (z := .agg #[.int .i64 0, .int .i64 0]) (by kernel_rfl) rfl, by decide, fun x => rfl, fun x u hu => by simp [prC] at hu; rcases hu with rfl | rfl <;> rfl⟩
def srt (l : List Nat) : List Nat := l.mergeSort fun x y => decide (x ≤ y)
def edgK (s : Gr) (k : Nat) : List (Nat × Nat) := (List.range k).flatMap fun i => (srt (nx s i)).map fun j => (i, j)
theorem srt_len (l : List Nat) : (srt l).length = l.length := by unfold srt; exact List.length_mergeSort _
theorem edgK_succ (s : Gr) (k : Nat) : edgK s (k + 1) = edgK s k ++ (srt (nx s k)).map fun j => (k, j) := by unfold edgK; rw [List.range_succ, List.flatMap_append]; simp
theorem edgK_len {s : Gr} {b : Nat} (h : ∀ k, (nx s k).length ≤ b) : ∀ k, (edgK s k).length ≤ k * b
  | 0 => by simp [edgK]
  | k + 1 => by
    rw [edgK_succ, List.length_append, List.length_map, srt_len, Nat.succ_mul]
    have := edgK_len h k
    have := h k
    omega
/-- Two rows of the call's own, of which one grows. -/
structure Eg (w0 W : World) (A : Option Addr) (n c : Nat) (l : List (Nat × Nat)) (B : Option Addr) (m d : Nat) (r : List Nat) : Prop where
  bel : Below w0.heap.size w0 W
  row : OwnL 41 2 prC w0.heap.size W A c l
  rl : l.length = n
  cur : OwnL 3 1 intC w0.heap.size W B d (nn r)
  cl : r.length = m
  ap : Apt (.slice A n c) (.slice B m d)
section
variable {w0 W W' : World} {A : Option Addr} {n c : Nat} {l : List (Nat × Nat)} {B : Option Addr} {m d : Nat} {r : List Nat}
theorem Eg.below (h : Eg w0 W A n c l B m d r) (hb : Below W.heap.size W W') : Eg w0 W' A n c l B m d r := ⟨h.bel.trans (hb.mono h.bel.size), h.row.below hb, h.rl, h.cur.below hb, h.cl, h.ap⟩
theorem Eg.ints (h : Eg w0 W A n c l B m d r) : IsInts W B m (nn r) := by
  have h1 := h.cur.ints
  rw [nn_len, h.cl] at h1
  exact h1
theorem Eg.grow (h : Eg w0 W A n c l B m d r) {g c' : Nat} {x : Nat × Nat} (ho : OwnL 41 2 prC w0.heap.size W' (some ⟨g, 0, none⟩) c' (l ++ [x])) (hg : W.grownBy W' (Value.ownBlock (.slice A n c))) (hat : Value.ownBlock (.slice A n c) = some g ∨ g = W.heap.size) : Eg w0 W' (some ⟨g, 0, none⟩) (n + 1) c' (l ++ [x]) B m d r := by
  refine ⟨⟨hg.os.trans h.bel.os, hg.tape.trans h.bel.tape, hg.output.trans h.bel.output, Nat.le_trans h.bel.size hg.size, fun k hk => (hg.block k (Nat.lt_of_lt_of_le hk h.bel.size) (fun e => ?_)).trans (h.bel.block k hk)⟩, ho, by rw [List.length_append, h.rl]; rfl, mother h.cur hg (fun k hk e => ?_), h.cl, ?_⟩
  · have := (h.row.lo k (by rw [h.rl]; exact e.symm)).1
    omega
  · exact h.ap k e.symm (by rw [← h.cl, ← nn_len]; exact hk)
  · intro k hk h2
    have e : g = k := by injection hk
    subst e
    rcases hat with h1 | h1
    · exact h.ap g h1 h2
    · have := (h.cur.lo g (by rw [nn_len, h.cl]; exact h2)).2
      omega
end
theorem edges_v (p : Nat) (q : GV) (s t : Gr) (w : World) (h : IsG w p q s t) (hn : q.n ≤ 300) (hr : ∀ k, (nx s k).length ≤ 300) :
    Calls Try.prog 12 #[.pointer (some ⟨p, 0, none⟩)] w fun e w' => (∃ A n c, e = .returned (.slice A n c) ∧ (edgK s s.length).length = n ∧ OwnL 41 2 prC w.heap.size w' A c (edgK s s.length)) ∧ Below w.heap.size w w' := by
  have H := Lib.hid (And.intro h (And.intro hn hr))
  have hq := h.su.1
  clear h hr
  go_enter Try.func12, Try.ntmps12
  go_wp2_with fail
  refine (glen_v p q s t w H.out.1).mono ?_
  rintro e w1 ⟨rfl, rfl⟩
  have HQ := Lib.hid hq
  clear hq
  go_wp2_with fail
  go_loopg [3, 10] q.n (fun gk s3 s10 wr => ∃ (k n c : Nat) (A : Option Addr), k + gk = q.n ∧ s3 = .slice A n c ∧ s10 = .int .i64 (k : Int) ∧ Hid (Eg w wr A n c (edgK s k) none 0 0 []))
  case atStart => exact ⟨0, 0, 0, none, by omega, rfl, rfl, Lib.hid ⟨Below.refl _ _, OwnL.nil, rfl, OwnL.nil, rfl, Apt.nil _ _ _⟩⟩
  case round =>
    obtain ⟨k, n, c, A, hk, rfl, rfl, HK⟩ := hrel
    by_cases hlt : k < q.n
    · have t1 : (k : Int) < (q.n : Int) := by omega
      have HS := Lib.hid (gsucc_v p q s t (k : Int) wr (H.out.1.below HK.out.bel) (fun k => by have := H.out.2.2 k; omega))
      have hrow : rowI s (k : Int) = nx s k := by unfold rowI; rw [if_pos (by rw [HQ.out]; omega)]; simp
      rw [hrow] at HS
      clear hrow
      go_wp2_with fail
      refine HS.out.mono ?_
      rintro e w2 ⟨⟨B, m, d, rfl, hm, ho⟩, hb⟩
      have hm3 : m ≤ 300 := by rw [← hm]; exact H.out.2.2 k
      have HSo := Lib.hid (sort_v wr.heap.size B m d (nx s k) w2 ho hm (by omega))
      have H2 := Lib.hid (And.intro hm (And.intro hb (fun b hb => (ho.lo b (by rw [nn_len, hm]; exact hb)).1 : ∀ b, Value.ownBlock (.slice B m d) = some b → wr.heap.size ≤ b)))
      clear hm ho hb
      go_wp2_with fail
      refine HSo.out.mono ?_
      rintro e w3 ⟨rfl, ho, hg⟩
      have b3 : Below wr.heap.size wr w3 := ⟨hg.os.trans H2.out.2.1.os, hg.tape.trans H2.out.2.1.tape, hg.output.trans H2.out.2.1.output, Nat.le_trans H2.out.2.1.size hg.size, fun x hx => (hg.block x (Nat.lt_of_lt_of_le hx H2.out.2.1.size) (fun e => by have := H2.out.2.2 x e.symm; omega)).trans (H2.out.2.1.block x hx)⟩
      have H3 := Lib.hid (show Eg w w3 A n c (edgK s k ++ ((srt (nx s k)).take 0).map fun j => (k, j)) B m d (srt (nx s k)) from by
        have h1 := HK.out.below b3
        refine ⟨h1.bel, by simpa using h1.row, by simpa using h1.rl, OwnL.less ho HK.out.bel.size, by rw [srt_len]; exact H2.out.1, fun x hx hy => ?_⟩
        have h2 := (HK.out.row.lo x (by rw [HK.out.rl]; exact hx)).2
        have h3 := H2.out.2.2 x hy
        omega)
      clear ho hg b3
      go_wp2_with fail
      go_loopg [3, 20] m (fun gk' s3 s20 wr => ∃ (j n c : Nat) (A : Option Addr), j + gk' = m ∧ s3 = .slice A n c ∧ s20 = .int .i64 (j : Int) ∧ Hid (Eg w wr A n c (edgK s k ++ ((srt (nx s k)).take j).map fun j => (k, j)) B m d (srt (nx s k))))
      case atStart => exact ⟨0, n, c, A, by omega, rfl, rfl, H3⟩
      case round =>
        obtain ⟨j, n, c, A, hj, rfl, rfl, HJ⟩ := hrel
        by_cases hjl : j < m
        · have t2 : (j : Int) < (m : Int) := by omega
          obtain ⟨vb, vo, rfl, -, y, hy, v0⟩ := HJ.out.ints.at hjl
          obtain ⟨yy, hyy, rfl⟩ : ∃ yy, (srt (nx s k))[j]? = some yy ∧ y = (yy : Int) := by
            unfold nn at hy
            rw [List.getElem?_map] at hy
            obtain ⟨yy, h1, h2⟩ := Option.map_eq_some_iff.1 hy
            exact ⟨yy, h1, h2.symm⟩
          have HT := Lib.hid (show edgK s k ++ ((srt (nx s k)).take (j + 1)).map (fun j => (k, j)) = (edgK s k ++ ((srt (nx s k)).take j).map fun j => (k, j)) ++ [(k, yy)] by
            rw [List.take_add_one, hyy, List.map_append, List.append_assoc]
            rfl)
          have hnn : n ≤ 2000000 := by
            have h1 := HJ.out.rl
            rw [List.length_append, List.length_map] at h1
            have h2 := edgK_len H.out.2.2 k
            have h3 := List.length_take_le j (srt (nx s k))
            have h4 : k * 300 ≤ 300 * 300 := Nat.mul_le_mul_right 300 (by have := H.out.2.1; omega)
            omega
          obtain ⟨le, hle⟩ : ∃ le, edgK s k ++ ((srt (nx s k)).take j).map (fun j => (k, j)) = le := ⟨_, rfl⟩
          rw [hle] at HT HJ
          clear hle
          obtain ⟨wn, hwn⟩ : ∃ wn, wr.alloc (.cells #[.int .i64 (k : Int), .int .i64 (yy : Int)] 41) = wn := ⟨_, rfl⟩
          have mb := m_box wr _ 41 hwn
          have HP := Lib.hid (HJ.out.below mb.1)
          have Fn := Lib.hid mb.2
          have hsz : w.heap.size ≤ wn.heap.size := HP.out.bel.size
          clear mb hy hyy
          go_wp2_with (at_builtin; refine mapp1 (N := w.heap.size) mPr rfl _ _ rfl HP.out.rl rfl HP.out.row wr.heap.size (k, yy) rfl Fn.out hnn hsz ?_)
          intro g' c' wh ho hgr hat hlt2
          have HF := Lib.hid (HP.out.grow ho hgr hat)
          clear ho hgr hat hlt2
          go_wp2_with fail
          go_roundg (m - j - 1)
          case measure => omega
          case rel => exact ⟨j + 1, n + 1, c', _, by omega, rfl, by go_num, Lib.hid (by rw [HT.out]; exact HF.out)⟩
        · obtain rfl : j = m := by omega
          have t2 : ¬ (j : Int) < (j : Int) := by omega
          have HF := Lib.hid (show Eg w wr A n c (edgK s (k + 1)) none 0 0 [] from by
            have h1 := HJ.out
            rw [List.take_of_length_le (by rw [srt_len, H2.out.1]; exact Nat.le_refl _), ← edgK_succ] at h1
            exact ⟨h1.bel, h1.row, h1.rl, OwnL.nil, rfl, fun x _ hy => by cases hy⟩)
          go_wp2_with fail
          go_roundg (q.n - k - 1)
          case measure => omega
          case rel => exact ⟨k + 1, n, c, A, by omega, rfl, by go_num, HF⟩
    · obtain rfl : k = q.n := by omega
      have t1 : ¬ (q.n : Int) < (q.n : Int) := by omega
      go_wp2_with fail
      go_ret
      exact ⟨⟨A, n, c, rfl, by rw [HQ.out]; exact HK.out.rl, by rw [HQ.out]; exact HK.out.row⟩, HK.out.bel⟩
end Go.Proofs.Ytojfbcfbnadboaa.Gra
