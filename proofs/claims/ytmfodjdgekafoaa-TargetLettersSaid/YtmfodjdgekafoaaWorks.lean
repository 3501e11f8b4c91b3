/- The small check that each statement runs. -/
import Derived.Test.YtmfodjdgekafoaaKept
import Derived.Test.YtmfodjdgekafoaaRCheck
import Derived.Test.YtmfodjdgekafoaaName
namespace Go.Proofs.Ytmfodjdgekafoaa
open Go.ChangeShapes Go.WideShapes Go.RowKit
set_option linter.unusedVariables false
set_option maxRecDepth 20000

structure St (w : World) (P : Nat) (r : TgtV) (wi : World) : Prop where
  b : Below w.heap.size w wi
  box : wi.heap[P]? = some (.cells (tgtR usual r) 26 (0, 0))
  t : IsTgt wi usual r
theorem St.next {w wi wj : World} {P : Nat} {r : TgtV} (h : St w P r wi) (hb : Below wi.heap.size wi wj) : St w P r wj :=
  ⟨h.b.trans (hb.mono h.b.size), kept_box h.box hb, h.t.below hb⟩
theorem St.cells {w wi : World} {P n0 m0 n1 m1 : Nat} {a0 a1 : Option Addr} (h : St w P ⟨a0, n0, m0, a1, n1, m1⟩ wi) :
    wi.cell? ⟨P, 0, none⟩ = some (.int .i64 8) ∧ wi.cell? ⟨P, 1, none⟩ = some (.int .i64 4) ∧ wi.cell? ⟨P, 2, none⟩ = some (.slice a0 n0 m0) ∧ wi.cell? ⟨P, 3, none⟩ = some (.slice a1 n1 m1) ∧ wi.cell? ⟨P, 4, none⟩ = some (.int .i64 1024) :=
  tgt_cells h.box
theorem usual_ok : chkT usual = 0 := by
  have g0 : goodL 8 [0, 1, 2, 3] := fun k hk => by
    have : k = 0 ∨ k = 1 ∨ k = 2 ∨ k = 3 := by simp at hk; omega
    rcases this with rfl | rfl | rfl | rfl <;> simp [badAt]
  have g1 : goodL 4 [0, 1] := fun k hk => by
    have : k = 0 ∨ k = 1 := by simp at hk; omega
    rcases this with rfl | rfl <;> simp [badAt]
  exact chkT_ok (chk_ok (by decide) g0) (chk_ok (by decide) g1) (by decide)
theorem name_x3 : ByteArray.mk (nameOf 2 1 3).toArray = ⟨#[36, 120, 51]⟩ := by
  have h : Deci.txt 3 = [51] := by
    unfold Deci.txt
    rw [if_neg (by omega)]
    show Deci.digs 3 = [51]
    rw [Deci.digs_lt (by omega)]; rfl
  unfold nameOf
  rw [if_pos rfl, if_neg (by omega), if_pos rfl, h]
  rfl
theorem part22_0 (a b : Int) (w : World) : (part 3 #[.int .i64 a, .int .i64 b] 0).run Try.prog w = .ok (.int .i64 a) w := by kernel_rfl
theorem part22_1 (a b : Int) (w : World) : (part 3 #[.int .i64 a, .int .i64 b] 1).run Try.prog w = .ok (.int .i64 b) w := by kernel_rfl
theorem cells3' : Try.prog.cellsOf 3 = 1 := by kernel_rfl
theorem eqIn22 (a b a' b' : Int) (r : Bool) (hr : (a == a' && b == b') = r) (W : World) : (Op.equalIn 10000 22 (.agg #[.int .i64 a, .int .i64 b]) (.agg #[.int .i64 a', .int .i64 b'])).run Try.prog W = .ok r W := by
  rw [run_equalIn_array W (P := Try.prog) 9999 (n := 2) (e := 3) (i := (Try.prog.info? 3).get (by kernel_rfl)) _ _ Try.underlying22 (by kernel_rfl), cells3']
  have hl : List.range 2 = [0, 1] := rfl
  rw [hl]
  simp [Op.eqItems, part22_0, part22_1, run_equalIn_int _ _ _ _ _ _ _ Try.underlying3, Result.andThen]
  subst hr
  cases h0 : a == a' <;> cases h1 : b == b' <;> simp_all
theorem eql22 (a b a' b' : Int) (r : Bool) (hr : (a == a' && b == b') = r) (W : World) : (binOp .eql 22 (.agg #[.int .i64 a, .int .i64 b]) (.agg #[.int .i64 a', .int .i64 b'])).run Try.prog W = .ok (.bool r) W := by
  have h : (binOp .eql 22 (.agg #[.int .i64 a, .int .i64 b]) (.agg #[.int .i64 a', .int .i64 b'])).run Try.prog W = ((Op.equalIn 10000 22 (.agg #[.int .i64 a, .int .i64 b]) (.agg #[.int .i64 a', .int .i64 b'])).run Try.prog W).andThen fun b w' => .ok (.bool b) w' := run_eql_struct W 22 _ _
  rw [h, eqIn22 a b a' b' r hr W]; rfl
theorem kept_ok : keptN [0, 1, 2, 3] 6 = [4, 5] := by decide
set_option maxHeartbeats 4000000 in
theorem works_v (w : World) : Calls Try.prog 6 #[] w fun e w' => e = .returned (.bool true) ∧ Below w.heap.size w w' := by
  go_enter Try.func6, Try.ntmps6
  go_wp2_with fail
  refine (usual_v _).mono ?_
  rintro e w1 ⟨⟨r, rfl, ht, hb⟩⟩
  have HT := Lib.hid (And.intro ht hb)
  clear ht hb
  obtain ⟨a0, n0, m0, a1, n1, m1⟩ := r
  have e0 : tgtR usual ⟨a0, n0, m0, a1, n1, m1⟩ = #[.int .i64 8, .int .i64 4, .slice a0 n0 m0, .slice a1 n1 m1, .int .i64 1024] := rfl
  rw [e0]
  clear e0
  go_wp2_with fail
  have B0 : Below w1.heap.size w1 (w1.alloc (.cells #[.int .i64 8, .int .i64 4, .slice a0 n0 m0, .slice a1 n1 m1, .int .i64 1024] 26)) := (Below.refl _ w1).alloc (Nat.le_refl _) _
  have S0 : St w w1.heap.size ⟨a0, n0, m0, a1, n1, m1⟩ (w1.alloc (.cells #[.int .i64 8, .int .i64 4, .slice a0 n0 m0, .slice a1 n1 m1, .int .i64 1024] 26)) :=
    ⟨HT.out.2.trans (B0.mono HT.out.2.size), heap_alloc_new w1 _, HT.out.1.below B0⟩
  obtain ⟨wA, hwA⟩ : ∃ wA, w1.alloc (.cells #[.int .i64 8, .int .i64 4, .slice a0 n0 m0, .slice a1 n1 m1, .int .i64 1024] 26) = wA := ⟨_, rfl⟩
  rw [hwA] at S0 ⊢
  obtain ⟨P, hP⟩ : ∃ P, w1.heap.size = P := ⟨_, rfl⟩
  rw [hP] at S0 ⊢
  clear B0 hwA hP
  obtain ⟨t0, t1, t2, t3, t4⟩ := S0.cells
  have HS := Lib.hid S0
  clear S0
  refine (clsOf_v ⟨#[120]⟩ 1 true (by decide +kernel) _).mono ?_
  rintro e w2 ⟨rfl, rfl⟩
  go_wp2_with fail
  refine (check_v usual ⟨a0, n0, m0, a1, n1, m1⟩ _ HS.out.t).mono ?_
  rw [usual_ok]
  rintro e w3 ⟨rfl, hb⟩
  have HS3 := Lib.hid (HS.out.next hb)
  obtain ⟨t0, t1, t2, t3, t4⟩ := HS3.out.cells
  clear hb
  go_wp2_with fail
  refine (letter_v 1 ⟨#[120]⟩ rfl _).mono ?_
  rintro e w4 ⟨rfl, rfl⟩
  go_wp2_with fail
  refine (name_v 2 1 3 (by unfold Deci.fit; omega) ⟨#[36, 120, 51]⟩ name_x3 _).mono ?_
  rintro e w4 ⟨rfl, hb⟩
  have HS4 := Lib.hid (HS3.out.next hb)
  obtain ⟨t0, t1, t2, t3, t4⟩ := HS4.out.cells
  clear hb
  go_wp2_with fail
  refine (spoilt_v usual ⟨a0, n0, m0, a1, n1, m1⟩ _ HS4.out.t (by decide) (by decide)).mono ?_
  rintro e w5 ⟨⟨A5, c5, rfl, _, hb⟩⟩
  have e5 : (spAll usual).length = 6 := rfl
  rw [e5]
  have HS5 := Lib.hid (HS4.out.next hb)
  obtain ⟨t0, t1, t2, t3, t4⟩ := HS5.out.cells
  clear hb e5
  go_wp2_with fail
  refine (kept_v usual ⟨a0, n0, m0, a1, n1, m1⟩ 0 (by omega) 6 _ HS5.out.t (by decide) (by decide) (by decide) (by decide) 6 (by decide)).mono ?_
  have e6 : keptN (usual.c 0) 6 = [4, 5] := kept_ok
  rw [e6]
  rintro e w6 ⟨⟨A6, c6, rfl, hi6, hb⟩⟩
  have HI6 := Lib.hid hi6
  have HS6 := Lib.hid (HS5.out.next hb)
  clear hb hi6 e6
  obtain ⟨t0, t1, t2, t3, t4⟩ := HS6.out.cells
  go_wp2_with fail
  have B7 : Below w6.heap.size w6 (w6.alloc (.cells #[.int .i64 4, .int .i64 5] 3)) := (Below.refl _ w6).alloc (Nat.le_refl _) _
  refine (ints_v A6 (some ⟨w6.heap.size, 0, none⟩) 2 2 c6 2 [4, 5] [4, 5] _ (HI6.out.below B7) (ints_at (l := [4, 5]) (heap_alloc_new w6 _) (by decide))).mono ?_
  have e7 : sameL intEq [4, 5] [4, 5] = true := rfl
  rw [e7]
  rintro e w7 ⟨rfl, hb⟩
  have HS7 := Lib.hid ((HS6.out.next B7).next hb)
  clear hb B7 e7
  obtain ⟨t0, t1, t2, t3, t4⟩ := HS7.out.cells
  go_wp2_with fail
  refine (has_v usual ⟨a0, n0, m0, a1, n1, m1⟩ 3 0 1023 _ HS7.out.t true (by decide)).mono ?_
  rintro e w8 ⟨rfl, hb⟩
  have HS8 := Lib.hid (HS7.out.next hb)
  clear hb
  obtain ⟨t0, t1, t2, t3, t4⟩ := HS8.out.cells
  go_wp2_with fail
  refine (spoils_v usual ⟨a0, n0, m0, a1, n1, m1⟩ 2 0 0 _ HS8.out.t true (by decide)).mono ?_
  rintro e w9 ⟨rfl, hb⟩
  have HS9 := Lib.hid (HS8.out.next hb)
  clear hb
  obtain ⟨t0, t1, t2, t3, t4⟩ := HS9.out.cells
  have e10 := eql22 8 4 8 4 true rfl
  go_wp2_with fail
  go_ret
  exact ⟨rfl, HS9.out.b⟩
end Go.Proofs.Ytmfodjdgekafoaa
