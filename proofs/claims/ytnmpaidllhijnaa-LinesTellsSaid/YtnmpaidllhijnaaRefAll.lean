/- What the document's own All and Spot answer: a text's lines, in a slice of its own, and the line and the column of a place. -/
import Derived.Test.YtnmpaidllhijnaaStarts
import Derived.Test.YtnmpaidllhijnaaMark
import Derived.StillTailTactics
import Derived.Deep.QuietTactic
import Derived.BigQuiet
namespace Go.Proofs.Ytnmpaidllhijnaa
open Go.ChangeShapes Go.WideShapes Go.RowKit
set_option linter.unusedVariables false

/-- Texts as cells. -/
def texts (L : List (List UInt8)) : List Value := L.map fun l : List UInt8 => Value.string ⟨l.toArray⟩
theorem texts_len (L : List (List UInt8)) : (texts L).length = L.length := by simp [texts]
theorem texts_append (I J : List (List UInt8)) : texts (I ++ J) = texts I ++ texts J := by simp [texts]
theorem texts_at (L : List (List UInt8)) (k : Nat) (h : k < L.length) : (texts L)[k]? = some (.string ⟨(L[k]).toArray⟩) := by
  unfold texts; rw [List.getElem?_map, List.getElem?_eq_getElem h]; rfl
/-- The lines L are those of a slice that the call has made. -/
def OwnT (base : Nat) (w : World) (g c N : Nat) (L : List (List UInt8)) : Prop := L.length = N ∧ w.ownsRow base 9 1 (.slice (some ⟨g, 0, none⟩) N c) N (texts L)
theorem OwnT.at {base : Nat} {w : World} {g c N : Nat} {L : List (List UInt8)} (h : OwnT base w g c N L) (k : Nat) (hk : k < L.length) : w.cell? ⟨g, k, none⟩ = some (.string ⟨(L[k]).toArray⟩) := by
  rw [h.2.cellAt k (by rw [← h.1]; omega)]; exact texts_at L k hk
theorem OwnT.frozen {base : Nat} {w : World} {g c N : Nat} {L : List (List UInt8)} (h : OwnT base w g c N L) (k : Nat) : w.frozen? ⟨g, k, none⟩ = false := h.2.frozenAt k
theorem OwnT.lt {base : Nat} {w : World} {g c N : Nat} {L : List (List UInt8)} (h : OwnT base w g c N L) : base ≤ g ∧ g < w.heap.size := World.ownsRow.lt h.2 g rfl
theorem OwnT.drew {base : Nat} {w : World} {g c N : Nat} {L : List (List UInt8)} (h : OwnT base w g c N L) : OwnT base w.drew g c N L := h
theorem OwnT.below {base : Nat} {w w' : World} {g c N : Nat} {L : List (List UInt8)} (h : OwnT base w g c N L) (hb : Below w.heap.size w w') : OwnT base w' g c N L :=
  ⟨h.1, World.ownsRow.kept (row := none) h.2 ⟨hb.os, hb.tape, hb.output, hb.size, fun k hk _ => hb.block k hk⟩ (.inr (by simp [Value.ownBlock]))⟩
theorem OwnT.mono {base base' : Nat} {w : World} {g c N : Nat} {L : List (List UInt8)} (h : OwnT base w g c N L) (hb : base' ≤ base) : OwnT base' w g c N L := by
  refine ⟨h.1, h.2.1, ?_⟩
  rcases h.2.2 with ⟨e, _⟩ | ⟨g', cap, cur, hv, h1, rest⟩
  · cases e
  · exact .inr ⟨g', cap, cur, hv, by omega, rest⟩
theorem OwnT.put {base : Nat} {w w0 : World} {g c N : Nat} {I : List (List UInt8)} {r : List UInt8} (h : OwnT base w g c N (I ++ [r])) (hb : Below base w0 w) (k : Nat) (hk : k = I.length) (x : List UInt8) (Y : ByteArray) (hY : ByteArray.mk x.toArray = Y) :
    OwnT base (w.setCell ⟨g, k, none⟩ (.string Y)) g c N (I ++ [x]) ∧ Below base w0 (w.setCell ⟨g, k, none⟩ (.string Y)) := by
  subst hk; subst hY
  refine ⟨⟨by rw [← h.1]; simp, ?_⟩, hb.setCell h.lt.1 _⟩
  have := (h.2.stored I.length (.string ⟨x.toArray⟩)).1
  have e : (texts (I ++ [r])).set I.length (.string ⟨x.toArray⟩) = texts (I ++ [x]) := by
    rw [texts_append, texts_append, List.set_append_right _ _ (by rw [texts_len]; exact Nat.le_refl _), texts_len, Nat.sub_self]; rfl
  rw [e] at this
  exact this
theorem ownT_next {base : Nat} {w wr w1 : World} {g c N : Nat} {L : List (List UInt8)} {v' : Value} {o : Obj}
    (ho : w1.ownsRow base 9 1 v' (N + 1) (texts L ++ [.string ⟨#[]⟩]))
    (hg : (wr.alloc o).grownBy w1 (Value.ownBlock (.slice (some ⟨g, 0, none⟩) N c))) (hown : OwnT base wr g c N L) (hb : Below base w wr) (hB : base ≤ wr.heap.size) :
    ∃ g' c', v' = .slice (some ⟨g', 0, none⟩) (N + 1) c' ∧ OwnT base w1 g' c' (N + 1) (L ++ [[]]) ∧ Below base w w1 := by
  obtain ⟨g', cap, rfl, _, _⟩ := ho.form (by omega)
  refine ⟨_, _, rfl, ⟨by rw [List.length_append, hown.1]; rfl, by rw [texts_append]; exact ho⟩, ?_⟩
  have h1 : Below base w (wr.alloc o) := hb.alloc hB o
  exact h1.grown hg (by simp; omega) (fun k hk => (World.ownsRow.lt hown.2 k hk).1)
theorem info9 : (Try.prog.info? 9).map (fun i => (i.zero, i.size, i.bytes)) = some (some (.string ⟨#[]⟩), 1, 16) := by kernel_rfl
theorem slice_one (s : ByteArray) (i : Nat) (h : i < s.size) (hl : i < s.data.toList.length) (W : World) : (Instr.slice 9 (.string s) (some (.int .i64 (i : Int))) (some (.int .i64 ((i : Int) + 1))) none).run Try.prog W = .ok (.string ⟨[s.data.toList[i]].toArray⟩) W := by
  have := slice_ab s i (i + 1) (by omega) (by omega) W
  rw [show ((i + 1 : Nat) : Int) = (i : Int) + 1 by omega] at this
  rw [this, Nat.add_sub_cancel_left, List.drop_eq_getElem_cons hl]; rfl
/-- What All hands back. -/
def AllP (L : List (List UInt8)) (N : Nat) (w : World) (e : Ending) (w' : World) : Prop := ∃ g c, e = .returned (.slice (some ⟨g, 0, none⟩) N c) ∧ OwnT w.heap.size w' g c N L ∧ Below w.heap.size w w'
theorem int_beq {x y : Int} (h : ¬ x = y) : (x == y) = false := by rw [beq_eq_false_iff_ne]; exact h
set_option maxRecDepth 100000 in
set_option maxHeartbeats 4000000 in
theorem all_v (s : ByteArray) (L : List (List UInt8)) (N : Nat) (hs : s.size ≤ 1000000) (hL : rows s.data.toList = L) (hN : L.length = N) (w : World) :
    Calls Try.prog 7 #[.string s] w (AllP L N w) := by
  obtain ⟨i0, hi0, hz0, hz1, hz2⟩ := info_parts info9
  have I0 := Lib.hid (And.intro hi0 (And.intro hz0 (And.intro hz1 hz2)))
  clear hi0 hz0 hz1 hz2
  have HQ := Lib.hid (And.intro hL hN)
  clear hL hN
  go_enter Try.func7, Try.ntmps7
  go_wp2_with fail
  go_loopg [3, 4] s.size (fun gk u v wr => ∃ (i g c M : Nat), u = .slice (some ⟨g, 0, none⟩) M c ∧ v = .int .i64 (i : Int) ∧ i ≤ s.size ∧
    Hid (gk = s.size - i ∧ Below w.heap.size w wr ∧ ∃ I r, Cut (s.data.toList.take i) I r ∧ OwnT w.heap.size wr g c M (I ++ [r])))
  case atStart =>
    refine ⟨0, w.heap.size, 1, 1, rfl, rfl, by omega, rfl, (Below.refl _ w).alloc (Nat.le_refl _) _, [], [], by simpa using Cut.nil, rfl, ?_⟩
    exact World.ownsRow_lit (size := 1) w #[.string ⟨#[]⟩] 1 (Nat.le_refl _) (by unfold maxLen; omega) rfl
  case round =>
    obtain ⟨i, g, c, M, rfl, rfl, hi, HH⟩ := hrel
    by_cases hlt : i < s.size
    · have hl : i < s.data.toList.length := by rw [size_list]; exact hlt
      have t1 : decide (i < s.size) = true := by simpa using hlt
      have t2 : decide ((i : Int) < (s.size : Int)) = true := by simpa using hlt
      obtain ⟨I, r, hcut, hown⟩ := HH.out.2.2
      have hM := hown.1
      rw [List.length_append] at hM
      have hM1 : M ≤ 1000001 := by
        have h1 := hcut.count
        have h2 := hcut.len
        rw [List.length_take] at h2
        simp at hM; omega
      by_cases hc : s.data.toList[i]'hl = 10
      · have c1 : (((s[i]'hlt).toNat : Int) == 10) = true := by rw [at_nat s i hlt, hc]; rfl
        have c2 : ((s[i]'hlt).toNat : Int) = 10 := by rw [at_nat s i hlt, hc]; rfl
        have H1 := Lib.hid (And.intro hl (And.intro hc (And.intro hcut (And.intro hown (And.intro hM hM1)))))
        clear hc hcut hown hM hM1
        go_wp2_with (at_builtin; refine wpList_append_own _ rfl _ _ 23 rfl w.heap.size 9 i0 (.string ⟨#[]⟩) 1 16 Try.underlying23 I0.out.1 I0.out.2.1 I0.out.2.2.1 I0.out.2.2.2 rfl (by decide) _ _ _ rfl (H1.out.2.2.2.1.2.alloc _) ⟨wr.heap.size, 0, none⟩ 1 1 _ rfl rfl (news_new _ _ _ _ rfl) (by intro x hx; simp at hx; subst hx; rfl) (by have := H1.out.2.2.2.2.2; unfold maxLen; omega) (by have := H1.out.2.2.2.2.2; omega) (by have := HH.out.2.1.size; simp; omega) ?_)
        intro v' w2 hown' hgrow _
        obtain ⟨g', c', rfl, h2, h3⟩ := ownT_next hown' hgrow H1.out.2.2.2.1 HH.out.2.1 HH.out.2.1.size
        have H2 := Lib.hid (And.intro h3 h2)
        clear hown' hgrow h2 h3
        go_wp2_with fail
        go_roundg (s.size - (i + 1))
        case measure => have := HH.out.1; omega
        case rel =>
          have hcut' := H1.out.2.2.1.ten
          rw [← H1.out.2.1, ← List.take_succ_eq_append_getElem hl] at hcut'
          exact ⟨i + 1, g', c', M + 1, rfl, rfl, by omega, rfl, H2.out.1, I ++ [r], [], hcut', H2.out.2⟩
      · have c1 : (((s[i]'hlt).toNat : Int) == 10) = false := by
          apply int_beq; rw [at_nat s i hlt]; intro e; apply hc; apply UInt8.toNat_inj.1
          show _ = 10; omega
        have c2 : ¬ ((s[i]'hlt).toNat : Int) = 10 := by rw [beq_eq_false_iff_ne] at c1; exact c1
        have hsl := slice_one s i hlt hl
        obtain ⟨z, hz⟩ : ∃ z, ByteArray.mk [s.data.toList[i]'hl].toArray = z := ⟨_, rfl⟩
        rw [hz] at hsl
        obtain ⟨y, hy⟩ : ∃ y, ByteArray.mk r.toArray = y := ⟨_, rfl⟩
        obtain ⟨Y, hY⟩ : ∃ Y, ByteArray.mk (r ++ [s.data.toList[i]'hl]).toArray = Y := ⟨_, rfl⟩
        have hrl : r.length ≤ 1000000 := by
          have h2 := hcut.len
          rw [List.length_take] at h2
          omega
        have r1 := add_run y z Y (by rw [← hy, ← hz, size_mk, size_mk]; simp; omega) (by rw [← hy, ← hz, ← hY, ByteArray.mk_append_mk])
        obtain ⟨k, hk⟩ : ∃ k, I.length = k := ⟨_, rfl⟩
        have d0 : wr.cell? ⟨g, k, none⟩ = some (.string y) := by
          rw [hown.at k (by rw [List.length_append]; simp; omega), List.getElem_append_right (by omega)]; simp [hy]
        have f0 : wr.frozen? ⟨g, k, none⟩ = false := hown.frozen k
        simp only [List.length_singleton] at hM
        have e1 : (M : Int) - 1 = (k : Int) := by omega
        have e2 : IntKind.i64.wrap ((M : Int) - 1) = (k : Int) := by rw [IntWalk.i64_in _ (by omega)]; exact e1
        have e3 : IntKind.i64.wrap (k : Int) = (k : Int) := IntWalk.i64_in _ (by omega)
        have e4 : IntKind.i64.wrap ((i : Int) + 1) = (i : Int) + 1 := IntWalk.i64_in _ (by omega)
        have b1 : k < M := by omega
        have b2 : (k : Int) < (M : Int) := by omega
        have b3 : (0 : Int) ≤ (k : Int) := by omega
        have H1 := Lib.hid (And.intro hl (And.intro hc (And.intro hcut (And.intro hown (And.intro hk hY)))))
        clear hc hcut hown hM hM1 hrl hz hy hY hk
        go_wp2_with fail
        go_still_tail 17, (by kernel_rfl)
        go_wp2_with fail
        go_roundg (s.size - (i + 1))
        case measure => have := HH.out.1; omega
        case rel =>
          obtain ⟨_, hc, hcut, hown, hk, hY⟩ := H1.out
          have hcut' := hcut.more (m := [s.data.toList[i]'hl]) (by simp; exact fun e => hc e.symm)
          rw [← List.take_succ_eq_append_getElem hl] at hcut'
          obtain ⟨ho, hb⟩ := hown.put HH.out.2.1 k hk.symm _ Y hY
          exact ⟨i + 1, g, c, M, rfl, rfl, by omega, rfl, hb.drew, I, _, hcut', ho.drew⟩
    · have t1 : decide (i < s.size) = false := by simpa using hlt
      have t2 : decide ((i : Int) < (s.size : Int)) = false := by simp; omega
      go_wp2_with fail
      go_ret
      obtain ⟨h1, h2, I, r, hcut, hown⟩ := HH.out
      rw [List.take_of_length_le (by rw [size_list]; omega)] at hcut
      obtain ⟨hL, hN⟩ := HQ.out
      rw [hcut.told] at hL
      rw [hL] at hown
      have hM := hown.1
      rw [hN] at hM
      subst hM
      exact ⟨g, c, rfl, hown, h2⟩
end Go.Proofs.Ytnmpaidllhijnaa
