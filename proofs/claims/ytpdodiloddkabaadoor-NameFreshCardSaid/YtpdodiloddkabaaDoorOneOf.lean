/- What the program's oneOf makes. -/
import Derived.Test.YtpdodiloddkabaaDoorOnes
namespace Go.Proofs.YtpdodiloddkabaaDoor
open Go.ChangeShapes Go.WideShapes Go.RowKit Go.WideMaps Go.Maps
set_option linter.unusedVariables false

/-- What oneOf hands back. -/
def OneP (l : List (List UInt8)) (w : World) (e : Ending) (w' : World) : Prop :=
  ∃ p, e = .returned (.func (.func 25) #[] #[.pointer (some ⟨p, 0, none⟩)]) ∧ Known w' p l ∧ Below w.heap.size w w'
theorem block_new (w : World) : ((w.alloc (.map #[] 0)).alloc (.cells #[.map (some w.heap.size)] 39)).heap[w.heap.size + 1]? = some (.cells #[.map (some w.heap.size)] 39 (0, 0)) := by
  simpa using heap_alloc_new (w.alloc (.map #[] 0)) (.cells #[.map (some w.heap.size)] 39)
theorem owns_new (w : World) : ((w.alloc (.map #[] 0)).alloc (.cells #[.map (some w.heap.size)] 39)).ownsMap Tryd.prog 9 (plainElem (H := Unit) Tryd.prog 3) w.heap.size 0 (.map []) :=
  (World.ownsMap_made w _ _ _).alloc _
theorem below_new (w : World) : Below w.heap.size w ((w.alloc (.map #[] 0)).alloc (.cells #[.map (some w.heap.size)] 39)) :=
  ((Below.refl _ w).alloc (Nat.le_refl _) _).alloc (by simp) _
theorem oneOf_none (A : Option Addr) (cap : Nat) (w : World) : Calls Tryd.prog 21 #[.slice A 0 cap] w (OneP [] w) := by
  have hm := make_run
  have hf := make_func
  go_enter Tryd.func21, Tryd.ntmps21
  go_wp2_with fail
  refine wp_loop_rounds 1 ?_
  rw [rounds_succ]
  go_wp2_with fail
  go_ret
  exact ⟨w.heap.size + 1, rfl, ⟨w.heap.size, 0, .map [], block_new w, owns_new w, Cnt.nil, by omega⟩, below_new w⟩
/-- So far: the map counts the first k. -/
def Far (w wr : World) (ss : List ByteArray) (k : Nat) : Prop :=
  ∃ D, wr.heap[w.heap.size + 1]? = some (.cells #[.map (some w.heap.size)] 39 (0, 0)) ∧ wr.ownsMap Tryd.prog 9 (plainElem Tryd.prog 3) w.heap.size k D ∧ Cnt D (bs (ss.take k)) ∧ Below w.heap.size w wr
theorem bs_step (ss : List ByteArray) (k : Nat) (s : ByteArray) (h : ss[k]? = some s) : bs (ss.take (k + 1)) = bs (ss.take k) ++ [s.data.toList] := by
  unfold bs; rw [List.take_add_one, h, List.map_append]; rfl
theorem bs_len (ss : List ByteArray) : (bs ss).length = ss.length := by unfold bs; simp
set_option maxHeartbeats 1000000 in
theorem oneOf_some (b off cap : Nat) (ss : List ByteArray) (w : World) (hl : ss.length ≤ 60) (hz : ∀ s ∈ ss, s.size ≤ maxLen) (hb : b < w.heap.size)
    (hc : ∀ j (h : j < ss.length), w.cell? ⟨b, off + j, none⟩ = some (.string ss[j])) : Calls Tryd.prog 21 #[.slice (some ⟨b, off, none⟩) ss.length cap] w (OneP (bs ss) w) := by
  have hm := make_run
  have hf := make_func
  have HZ := Lib.hid hz
  have HC := Lib.hid hc
  clear hz hc
  obtain ⟨N, hN⟩ : ∃ N, ss.length = N := ⟨_, rfl⟩
  have HN := Lib.hid hN
  rw [hN] at hl ⊢
  clear hN
  go_enter Tryd.func21, Tryd.ntmps21
  go_wp2_with fail
  go_loopg [11] N (fun gk i wr => ∃ k : Nat, k + gk = N ∧ i = .int .i64 (k : Int) ∧ Hid (Far w wr ss k))
  case atStart => exact ⟨0, by omega, rfl, .map [], block_new w, owns_new w, Cnt.nil, below_new w⟩
  case round =>
    obtain ⟨k, hk, rfl, HH⟩ := hrel
    obtain ⟨D, f1, f2, f3, f4⟩ := HH.out
    have c1 := cell_of_one f1
    by_cases hg : gk = 0
    · subst hg
      obtain rfl : k = N := by omega
      clear hk
      have HF := Lib.hid (And.intro f1 (And.intro f2 (And.intro f3 f4)))
      clear f1 f2 f3 f4
      go_wp2_with fail
      go_ret
      refine ⟨w.heap.size + 1, rfl, ⟨w.heap.size, k, D, HF.out.1, HF.out.2.1, ?_, by omega⟩, HF.out.2.2.2⟩
      have := HF.out.2.2.1
      rw [List.take_of_length_le (by have := HN.out; omega)] at this
      exact this
    · obtain ⟨q, rfl⟩ : ∃ q, gk = q + 1 := ⟨gk - 1, by omega⟩
      have hkN : (k : Int) < (N : Int) := by omega
      have hkN' : k < N := by omega
      have hks : k < ss.length := by have := HN.out; omega
      obtain ⟨s, hs⟩ : ∃ s, ss[k] = s := ⟨_, rfl⟩
      have hcell : wr.cell? ⟨b, off + k, none⟩ = some (.string s) := by rw [← hs]; exact (f4.cell (by exact hb)).trans (HC.out k hks)
      have hsz : s.size ≤ maxLen := by rw [← hs]; exact HZ.out _ (List.getElem_mem hks)
      have hkey := keyOf_string_mk (P := Tryd.prog) (k := 9) Tryd.underlying9 hsz
      obtain ⟨c, hrun, hat, hwc⟩ := f2.lookup_int law Tryd.underlying39 Tryd.underlying3 (zero3 _) hkey
      have hcc : c = ((bs (ss.take k)).count s.data.toList : Int) := by
        rw [f3.2] at hat; injection hat with h; injection h with _ h; exact h.symm
      have hc0 : 0 ≤ c := by omega
      have hc1 : c ≤ 60 := by
        have := List.count_le_length (a := s.data.toList) (l := bs (ss.take k))
        rw [bs_len, List.length_take] at this
        omega
      have HS := Lib.hid (And.intro (List.getElem?_eq_some_iff.2 ⟨hks, hs⟩) hcc)
      have HK := Lib.hid hk
      have HF := Lib.hid (And.intro f1 (And.intro f3 f4))
      clear hs hks hcc hat hwc hk hg f1 f3 f4 hsz
      go_wp2_with (at_mapUpdate; refine wpList_mapUpdate_own _ rfl _ _ _ 39 rfl 9 3 law Tryd.underlying39 _ w.heap.size k _ rfl f2 (by unfold maxLen; omega) _ _ _ rfl rfl hkey _ [] (plainElem_int (a := c + 1) Tryd.underlying3 (WalkArith.wf_i64 (by omega))) ?_)
      intro w1 g2 g3
      have R : Hid (Far w w1 ss (k + 1)) := by
        refine Lib.hid ⟨_, (g3.block _ (lt_of_block HF.out.1) (by simp)).trans HF.out.1, g2, ?_, HF.out.2.2.grown g3 HF.out.2.2.size (fun j hj => by cases hj; exact Nat.le_refl _)⟩
        rw [bs_step ss k s HS.out.1]
        exact HF.out.2.1.step (by rw [← HS.out.2])
      clear g2 g3 f2 hrun c1 hcell
      go_wp2_with fail
      go_roundg q
      case measure => omega
      case rel => exact ⟨k + 1, by have := HK.out; omega, by go_num, R.out⟩
theorem oneOf_v (A : Option Addr) (cap : Nat) (ss : List ByteArray) (w : World) (hl : ss.length ≤ 60) (h : Strs w A ss) : Calls Tryd.prog 21 #[.slice A ss.length cap] w (OneP (bs ss) w) := by
  rcases h.2 with rfl | ⟨b, off, rfl, h1, h2⟩
  · exact oneOf_none A cap w
  · exact oneOf_some b off cap ss w hl h.1 h1 h2
end Go.Proofs.YtpdodiloddkabaaDoor
