
/- The document's list of which blocks go on with one, walked. -/
import Derived.Test.YtojfbcfbnadboaaGraRefS
import Derived.Deep.RegionWith
namespace Go.Proofs.Ytojfbcfbnadboaa.Gra
open Go.ChangeShapes Go.WideShapes Go.RowKit
set_option linter.unusedVariables false
set_option maxRecDepth 20000
set_option maxHeartbeats 2000000

def prN (s : Gr) (i k : Nat) : List Nat := (List.range k).filter fun k => decide (i ∈ nx s k)
theorem prN_len (s : Gr) (i k : Nat) : (prN s i k).length ≤ k := by
  unfold prN
  exact Nat.le_trans (List.length_filter_le _ _) (by simp)
theorem prN_in {s : Gr} {i k : Nat} (h : i ∈ nx s k) : prN s i (k + 1) = prN s i k ++ [k] := by
  unfold prN
  rw [List.range_succ, List.filter_append]
  simp [h]
theorem prN_out {s : Gr} {i k : Nat} (h : i ∉ nx s k) : prN s i (k + 1) = prN s i k := by
  unfold prN
  rw [List.range_succ, List.filter_append]
  simp [h]
theorem rpred_v (A : Option Addr) (n c : Nat) (s : Gr) (i : Nat) (w : World) (h : IsGr w A n s) (hn : n ≤ 1000000) :
    Calls Try.prog 16 #[.slice A n c, .int .i64 (i : Int)] w fun e w' => (∃ B m d, e = .returned (.slice B m d) ∧ IsInts w' B m (nn (preds s i))) ∧ Below w.heap.size w w' := by
  have H := Lib.hid h
  clear h
  go_enter Try.func16, Try.ntmps16
  go_wp2_with fail
  go_loopg [5, 6] n (fun gk q5 q6 wr => ∃ (k m d : Nat) (B : Option Addr), k + gk = n ∧ q5 = .slice B m d ∧ q6 = .int .i64 (k : Int) ∧ Hid (Below w.heap.size w wr ∧ OwnL 3 1 intC w.heap.size wr B d (nn (prN s i k)) ∧ (prN s i k).length = m))
  case atStart => exact ⟨0, 0, 0, none, by omega, rfl, rfl, Lib.hid ⟨Below.refl _ _, OwnL.nil, rfl⟩⟩
  case round =>
    obtain ⟨k, m, d, B, hk, rfl, rfl, HH⟩ := hrel
    by_cases hlt : k < n
    · obtain ⟨b, o, rfl, -, C, p, q, c0, c1⟩ := (H.out.below HH.out.1).at hlt
      have t1 : (k : Int) < (n : Int) := by omega
      have HC := Lib.hid c1
      clear c1
      obtain ⟨bq, hbq⟩ : ∃ bq, decide ((i : Int) ∈ nn (nx s k)) = bq := ⟨_, rfl⟩
      have HB := Lib.hid hbq
      have HR := Lib.hid (hbq ▸ rin_v C p q (nn (nx s k)) (i : Int) wr HC.out)
      clear hbq
      go_wp2_with fail
      refine HR.out.mono ?_
      rintro e w2 ⟨rfl, rfl⟩
      cases bq with
      | false =>
        have ho := Lib.hid (prN_out (s := s) (i := i) (k := k) (fun h => of_decide_eq_false HB.out ((nn_mem _ _).2 h)))
        go_wp2_with fail
        go_roundg (gk - 1)
        case measure => omega
        case rel => exact ⟨k + 1, m, d, B, by omega, rfl, by go_num, Lib.hid ⟨HH.out.1, by rw [ho.out]; exact HH.out.2.1, by rw [ho.out]; exact HH.out.2.2⟩⟩
      | true =>
        have hi := Lib.hid (prN_in (s := s) (i := i) (k := k) ((nn_mem _ _).1 (of_decide_eq_true HB.out)))
        obtain ⟨wn, hwn⟩ : ∃ wn, wr.alloc (.cells #[.int .i64 (k : Int)] 3) = wn := ⟨_, rfl⟩
        have mb := m_box wr _ 3 hwn
        have HP := Lib.hid (And.intro (HH.out.1.trans (mb.1.mono HH.out.1.size)) (HH.out.2.1.below mb.1))
        have Fn := Lib.hid mb.2
        have hsz : w.heap.size ≤ wn.heap.size := HP.out.1.size
        have hmm : m ≤ 2000000 := by
          have h1 := prN_len s i k
          have h2 := HH.out.2.2
          omega
        clear mb c0
        go_wp2_with (at_builtin; refine mapp1 (N := w.heap.size) mInt rfl _ _ rfl ((nn_len _).trans HH.out.2.2) rfl HP.out.2 wr.heap.size (k : Int) rfl Fn.out hmm hsz ?_)
        intro g' c' wh ho hgr hat hlt2
        have HF := Lib.hid (And.intro (show Below w.heap.size w wh from ⟨hgr.os.trans HP.out.1.os, hgr.tape.trans HP.out.1.tape, hgr.output.trans HP.out.1.output, Nat.le_trans HP.out.1.size hgr.size, fun j hj => (hgr.block j (Nat.lt_of_lt_of_le hj HP.out.1.size) (fun e => by
          have h1 := (HP.out.2.lo j (by rw [nn_len, HH.out.2.2]; exact e.symm)).1
          omega)).trans (HP.out.1.block j hj)⟩) ho)
        clear ho hgr hat hlt2
        go_wp2_with fail
        go_roundg (gk - 1)
        case measure => omega
        case rel => exact ⟨k + 1, m + 1, c', _, by omega, rfl, by go_num, Lib.hid ⟨HF.out.1, by rw [hi.out, nn_app]; exact HF.out.2, by rw [hi.out, List.length_append, HH.out.2.2]; rfl⟩⟩
    · obtain rfl : k = n := by omega
      have t1 : ¬ (k : Int) < (k : Int) := by omega
      have hp : prN s i k = preds s i := by unfold prN preds; rw [H.out.1]
      have HF := Lib.hid (show IsInts wr B m (nn (preds s i)) by
        have h1 := HH.out.2.1.ints
        rw [nn_len, HH.out.2.2, hp] at h1
        exact h1)
      clear hp
      go_wp2_with fail
      go_ret
      exact ⟨⟨B, m, ⟨d, rfl⟩, HF.out⟩, HH.out.1⟩
end Go.Proofs.Ytojfbcfbnadboaa.Gra
