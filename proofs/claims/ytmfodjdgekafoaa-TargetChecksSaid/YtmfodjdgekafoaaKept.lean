/- What Kept answers: by a map of what is spoilt. -/
import Derived.Test.YtmfodjdgekafoaaMake
import Derived.Maps.OwnOps
import Derived.Maps.OwnSet
import Derived.Maps.Views
import Derived.OneCell
namespace Go.Proofs.Ytmfodjdgekafoaa
open Go.ChangeShapes Go.WideShapes Go.RowKit Go.WideMaps Go.Maps
set_option linter.unusedVariables false
set_option maxRecDepth 20000

def intC (x : Int) : List Value := [.int .i64 x]
theorem info3_own : (Try.prog.info? 3).map (fun i => (i.zero, i.size, i.bytes)) = some (some (.int .i64 0), 1, 8) := by kernel_rfl
theorem info3_parts : ∃ i, Try.prog.info? 3 = some i ∧ i.zero = some (.int .i64 0) ∧ i.size = 1 ∧ i.bytes = 8 := by
  obtain ⟨i, hi, hinfo⟩ := Option.map_eq_some_iff.1 info3_own
  exact ⟨i, hi, congrArg Prod.fst hinfo, congrArg (fun x => x.2.1) hinfo, congrArg (fun x => x.2.2) hinfo⟩
theorem ints_row {w : World} {base : Nat} {A : Option Addr} {c n : Nat} {l : List Int} (h : w.ownsRow base 3 1 (.slice A n c) n (l.flatMap intC)) (hl : l.length = n) (hn : n ≤ 9223372036854775807) : IsInts w A n l := by
  refine ⟨hl, hn, ?_⟩
  rcases h.2 with ⟨h2, h3⟩ | ⟨g, cap, cur, h2, h3, h4, h5, h6, h7, h8⟩
  · subst h3; exact .inl (List.eq_nil_of_length_eq_zero hl)
  · injection h2 with e1 _ _
    subst e1
    refine .inr ⟨g, 0, rfl, (Array.getElem?_eq_some_iff.1 h4).1, fun k hk => ?_⟩
    rw [Nat.zero_add, cell_in h4, ← Array.getElem?_toList]
    have : (cur.toList.take (n * 1))[k]? = (l.flatMap intC)[k]? := by rw [h8]
    rw [List.getElem?_take, if_pos (by omega)] at this
    rw [this]
    have := flat_at intC 1 (fun _ => rfl) l k 0 l[k] (List.getElem?_eq_getElem hk) (by omega)
    rw [Nat.mul_one, Nat.add_zero] at this
    rw [this]; rfl
/-- A map that has just the numbers of a list. -/
def MSet (D : DataW Unit) (acc : List Int) : Prop := IsMap D ∧ ∀ z : Int, Maps.has D (.int .i64 z) = decide (z ∈ acc)
theorem MSet.nil : MSet (.map []) [] := ⟨isMap_empty, fun z => rfl⟩
theorem key_int (z : Int) : WideAt.IsKeyLit (.int .i64 z) := by first | trivial | exact ⟨_, rfl⟩ | (unfold WideAt.IsKeyLit; simp)
theorem MSet.step {D : DataW Unit} {acc : List Int} {z : Int} (h : MSet D acc) : MSet (D.put (.int .i64 z) (.agg [])) (acc ++ [z]) := by
  refine ⟨h.1.put _ _, fun t => ?_⟩
  by_cases e : t = z
  · subst e
    rw [has_put_same h.1 (key_int t)]; simp
  · rw [has_put_other (by simpa using e), h.2 t]
    simp [e]
theorem law3 : Keyed Try.prog 3 := int_keyed Try.underlying3
theorem zero50 (w : World) : (zeroValue 50).run Try.prog w = .ok (.agg #[]) w := by kernel_rfl
theorem make49 (W : World) : (Instr.makeMap 49 none).run Try.prog W = .ok (.map (some W.heap.size)) (W.alloc (.map #[] 0)) := by
  simp [Instr.makeMap, Result.andThen]
theorem wf_small (y : Int) (h0 : 0 ≤ y) (h1 : y ≤ 1048576) : (Lit.int .i64 y).wf = true := by
  have e1 : IntKind.i64.min = -9223372036854775808 := rfl
  have e2 : IntKind.i64.max = 9223372036854775807 := rfl
  simp [Lit.wf, e1, e2]
  exact ⟨by omega, by omega⟩
/-- What is kept of the first so many. -/
def keptN (l : List Int) : Nat → List Int
  | 0 => []
  | k + 1 => if (k : Int) ∈ l then keptN l k else keptN l k ++ [(k : Int)]
theorem kept_len (l : List Int) (k : Nat) : (keptN l k).length ≤ k := by
  induction k with
  | zero => exact Nat.le_refl _
  | succ k ih =>
    unfold keptN
    split
    · omega
    · rw [List.length_append, List.length_singleton]; omega
theorem kept_mem (l : List Int) (k : Nat) (q : Int) : q ∈ keptN l k ↔ 0 ≤ q ∧ q < k ∧ q ∉ l := by
  induction k with
  | zero => simp [keptN]; omega
  | succ k ih =>
    unfold keptN
    by_cases h : (k : Int) ∈ l
    · rw [if_pos h, ih]
      constructor
      · rintro ⟨a, b, c⟩; exact ⟨a, by omega, c⟩
      · rintro ⟨a, b, c⟩
        refine ⟨a, ?_, c⟩
        have : q ≠ k := fun e => c (e ▸ h)
        omega
    · rw [if_neg h, List.mem_append, ih, List.mem_singleton]
      constructor
      · rintro (⟨a, b, c⟩ | rfl)
        · exact ⟨a, by omega, c⟩
        · exact ⟨by omega, by omega, h⟩
      · rintro ⟨a, b, c⟩
        by_cases e : q = k
        · exact .inr e
        · exact .inl ⟨a, by omega, c⟩
structure KeptP (l : List Int) (w : World) (e : Ending) (w' : World) : Prop where
  out : ∃ A c, e = .returned (.slice A l.length c) ∧ IsInts w' A l.length l ∧ Below w.heap.size w w'
theorem kept_no (i : Tgt) (r : TgtV) (c below : Int) (hc : (decide (0 ≤ c) && decide (c < 2)) = false) (w : World) : Calls Try.prog 15 #[.agg (tgtR i r), .int .i64 c, .int .i64 below] w (KeptP [] w) := by
  have B0 := Lib.hid (show Below w.heap.size w (w.alloc (.cells (tgtR i r) 26)) from (Below.refl _ w).alloc (Nat.le_refl _) _)
  have HC := Lib.hid hc
  clear hc
  obtain ⟨cs, hcs⟩ : ∃ cs, tgtR i r = cs := ⟨_, rfl⟩
  rw [hcs] at B0 ⊢
  clear hcs
  go_enter Try.func15, Try.ntmps15
  go_wp2_with fail
  refine (class_v c false HC.out _).mono ?_
  rintro e w1 ⟨rfl, rfl⟩
  go_wp2_with fail
  go_ret
  exact ⟨none, 0, rfl, ⟨rfl, by decide, .inl rfl⟩, B0.out⟩
set_option maxHeartbeats 8000000 in
theorem kept_v (i : Tgt) (r : TgtV) (c : Nat) (hc : c < 2) (below : Int) (w : World) (h : IsTgt w i r) (h0 : 0 ≤ i.r c) (h1 : i.r c ≤ 16) (hl : ∀ y ∈ i.c c, 0 ≤ y ∧ y ≤ 16) (hn : (i.c c).length ≤ 16) (N : Nat) (hN : (N : Int) = max 0 (min (i.r c) below)) :
    Calls Try.prog 15 #[.agg (tgtR i r), .int .i64 (c : Int), .int .i64 below] w (KeptP (keptN (i.c c) N) w) := by
  have B0 : Below w.heap.size w (w.alloc (.cells (tgtR i r) 26)) := (Below.refl _ w).alloc (Nat.le_refl _) _
  have D := Lib.hid (And.intro (h.below B0) (And.intro B0 (And.intro (heap_alloc_new w (.cells (tgtR i r) 26)) (show (w.alloc (.cells (tgtR i r) 26)).heap.size = w.heap.size + 1 by simp))))
  clear h B0
  obtain ⟨i0, hi0, hz0, hz1, hz2⟩ := info3_parts
  have I0 := Lib.hid (And.intro hi0 (And.intro hz0 (And.intro hz1 hz2)))
  clear hi0 hz0 hz1 hz2
  obtain ⟨wa, hwa⟩ : ∃ wa, w.alloc (.cells (tgtR i r) 26) = wa := ⟨_, rfl⟩
  rw [hwa] at D
  obtain ⟨P, hP⟩ : ∃ P, w.heap.size = P := ⟨_, rfl⟩
  have k0 : wa.cell? ⟨w.heap.size, c, none⟩ = some (.int .i64 (i.r c)) := (cell_in D.out.2.2.1 c).trans (tgt_r i r c hc)
  have k1 : wa.cell? ⟨w.heap.size, 2 + c, none⟩ = some (.slice (r.a c) (r.n c) (r.m c)) := (cell_in D.out.2.2.1 (2 + c)).trans (tgt_c i r c hc)
  have hin := D.out.1.ints c
  obtain ⟨a, ha⟩ : ∃ a, r.a c = a := ⟨_, rfl⟩
  obtain ⟨n, hn'⟩ : ∃ n, r.n c = n := ⟨_, rfl⟩
  obtain ⟨m, hm⟩ : ∃ m, r.m c = m := ⟨_, rfl⟩
  obtain ⟨x, hx⟩ : ∃ x, i.r c = x := ⟨_, rfl⟩
  obtain ⟨l, hl'⟩ : ∃ l, i.c c = l := ⟨_, rfl⟩
  rw [ha, hn', hm] at k1
  rw [ha, hn', hl'] at hin
  rw [hx] at k0 h0 h1 hN
  rw [hl'] at hl hn ⊢
  have hns : n ≤ 16 := by rw [← hin.1]; exact hn
  have hcb : (decide (0 ≤ (c : Int)) && decide ((c : Int) < 2)) = true := by
    rw [← Bool.decide_and, decide_eq_true_iff]; omega
  obtain ⟨E, hE⟩ : ∃ E : Int, min x below = E := ⟨_, rfl⟩
  have hEx : E ≤ 16 := by omega
  have HN := Lib.hid (show (N : Int) = max 0 E from by rw [← hE]; exact hN)
  have HI := Lib.hid (And.intro hin (And.intro hl (And.intro hx hl')))
  have HCB := Lib.hid hcb
  have HP := Lib.hid hP
  have hcN : (0 : Int) ≤ (c : Int) ∧ (c : Int) < 2 := by omega
  obtain ⟨hc0, hc2⟩ := hcN
  have hm49 := make49
  obtain ⟨cs, hcs⟩ : ∃ cs, tgtR i r = cs := ⟨_, rfl⟩
  rw [hcs] at hwa D ⊢
  have hwaP : wa.heap.size = w.heap.size + 1 := D.out.2.2.2
  have DS := Lib.hid hwaP
  clear ha hn' hm hx hl' hl hn hin hcb hP hN hcs hwaP
  have hways : (below < x ∧ E = below) ∨ (¬ below < x ∧ E = x) := by
    by_cases hb : below < x
    · exact .inl ⟨hb, by omega⟩
    · exact .inr ⟨hb, by omega⟩
  clear hE
  rcases hways with ⟨hbx, hEE⟩ | ⟨hbx, hEE⟩
  all_goals
    subst hEE
    go_enter Try.func15, Try.ntmps15
    go_wp2_with fail
    refine (class_v (c : Int) true HCB.out _).mono ?_
    rintro e w1 ⟨rfl, rfl⟩
    have hno : ¬ (2147483647 + (n : Int) < E) := by omega
    have hno2 : decide (2147483647 + (n : Int) < E) = false := decide_eq_false hno
    go_wp2_with fail
    rw [HP.out] at DS k0 k1 ⊢
    obtain ⟨M, hM⟩ : ∃ M, wa.heap.size = M := ⟨_, rfl⟩
    have HM := Lib.hid (And.intro hM (show M = P + 1 from by rw [← hM]; exact DS.out))
    rw [hM]
    clear hm49 k0 k1 hbx hno hno2 hwa hM
    go_loopg [37] n (fun gk v wr => ∃ (k : Nat), k + gk = n ∧ v = .int .i64 (k : Int) ∧
      Hid (Below M wa wr ∧ M + 1 ≤ wr.heap.size ∧ ∃ D0, wr.ownsMap Try.prog 3 (unitElem (H := Unit)) M k D0 ∧ MSet D0 (l.take k)))
    case atStart =>
      refine ⟨0, by omega, rfl, (Below.refl _ wa).alloc (by rw [HM.out.1]; exact Nat.le_refl _) _, by simp [HM.out.1], .map [], ?_, MSet.nil⟩
      rw [← HM.out.1]
      exact World.ownsMap_made wa _ _ _
    case round =>
      obtain ⟨k, hk, rfl, HH⟩ := hrel
      have BM := Lib.hid (show Below wa.heap.size wa wr from HM.out.1.symm ▸ HH.out.1)
      by_cases hlt : k < n
      · obtain ⟨g, o, hA, hg, y, hy, c0⟩ := (HI.out.1.below BM.out).at hlt
        have i1 : (k : Int) < (n : Int) := by omega
        subst hA
        have hyb := HI.out.2.1 y (List.mem_of_getElem? hy)
        have hwf : (Lit.int .i64 y).wf = true := by
          exact wf_small _ (by omega) (by omega)
        have HY := Lib.hid (And.intro hy hyb)
        have HWF := Lib.hid hwf
        clear hy hyb hwf
        obtain ⟨D0, hD, hset⟩ := HH.out.2.2
        have HD := Lib.hid (And.intro hD hset)
        have hkey := keyOf_int_mk (P := Try.prog) (k := 3) Try.underlying3 HWF.out
        clear hset
        go_wp2_with (at_mapUpdate; refine wpList_mapUpdate_own _ rfl _ _ _ 49 rfl 3 50 law3 Try.underlying49 _ M k _ rfl hD (by unfold maxLen; omega) _ _ _ rfl rfl hkey _ [] (unitElem_mk (H := Unit)) ?_)
        intro w2 g2 g3
        have B2 : Below M wa w2 := HH.out.1.grown g3 (by have := HH.out.2.1; omega) (fun j hj => by cases hj; exact Nat.le_refl _)
        have H2 := Lib.hid (And.intro g2 (And.intro B2 (g3.size)))
        clear g2 g3 hD hkey B2
        go_wp2_with fail
        go_roundg (gk - 1)
        case measure => omega
        case rel =>
          refine ⟨k + 1, by omega, by go_num, H2.out.2.1, by have := HH.out.2.1; have := H2.out.2.2; omega, _, H2.out.1, ?_⟩
          have e : l.take (k + 1) = l.take k ++ [y] := by rw [List.take_add_one, HY.out.1]; rfl
          rw [e]
          exact HD.out.2.step
      · obtain rfl : k = n := by omega
        have hge : ¬ (k : Int) < (k : Int) := by omega
        have HML := Lib.hid (show l.take k = l from List.take_of_length_le (by have := HI.out.1.1; omega))
        have hEn : E.toNat = N := by have := HN.out; omega
        have HEN := Lib.hid hEn
        clear hEn
        go_wp2_with fail
        go_loopg [12, 46] N (fun gk u v wr => ∃ (q : Nat) (A : Option Addr) (cp L : Nat), q + gk = N ∧ u = .slice A L cp ∧ v = .int .i64 (q : Int) ∧
          Hid ((keptN l q).length = L ∧ wr.ownsRow (M + 1) 3 1 (.slice A L cp) L ((keptN l q).flatMap intC) ∧ Below M wa wr ∧ M + 1 ≤ wr.heap.size ∧ ∃ D0, wr.ownsMap Try.prog 3 (unitElem (H := Unit)) M k D0 ∧ MSet D0 l))
        case atStart =>
          refine ⟨0, none, 0, 0, by omega, rfl, rfl, rfl, World.ownsRow_nil _ _ _ _, HH.out.1, HH.out.2.1, ?_⟩
          obtain ⟨D0, hD, hset⟩ := HH.out.2.2
          rw [HML.out] at hset
          exact ⟨D0, hD, hset⟩
        case round =>
          obtain ⟨q, A, cp, L, hq, rfl, rfl, HQ⟩ := hrel
          have hLq : L ≤ q := by rw [← HQ.out.1]; exact kept_len l q
          by_cases hlq : q < N
          · have i2 : (q : Int) < E := by have := HN.out; omega
            have hq16 : q ≤ 16 := by omega
            obtain ⟨D0, hD, hset⟩ := HQ.out.2.2.2.2
            have hwf : (Lit.int .i64 (q : Int)).wf = true := by
              exact wf_small _ (by omega) (by omega)
            obtain ⟨v0, ps, hlook, hve⟩ := hD.look_ok law3 Try.underlying49 (zero50 wr) unitElem_mk (keyOf_int_mk Try.underlying3 hwf)
            obtain ⟨rfl, _⟩ := unitElem_inv hve
            rw [hset.2 (q : Int)] at hlook
            have HD := Lib.hid (And.intro hD hset)
            clear hD hset hve hwf
            cases hin : decide ((q : Int) ∈ l)
            · have HNI := Lib.hid (show ¬ (q : Int) ∈ l from by simpa using hin)
              rw [hin] at hlook
              clear hin
              have hsz := HQ.out.2.2.2.1
              go_wp2_with (at_builtin; refine wpList_append_own _ rfl _ _ 23 rfl (M + 1) 3 i0 (.int .i64 0) 1 8 Try.underlying23 I0.out.1 I0.out.2.1 I0.out.2.2.1 I0.out.2.2.2 rfl (by decide) _ _ _ rfl (World.ownsRow.alloc (World.ownsRow.alloc HQ.out.2.1 (Obj.cells #[] 50)) _) ⟨wr.heap.size + 1, 0, none⟩ 1 1 (intC (q : Int)) rfl rfl (by have := new_cell (wr.alloc (Obj.cells #[] 50)) #[.int .i64 (q : Int)] 3 (intC (q : Int)) rfl; simpa using this) (by intro x hx; unfold intC at hx; simp at hx; subst hx; rfl) (by unfold maxLen; omega) (by omega) (by simp; omega) ?_)
              intro v' w3 ho3 hg3 _
              obtain ⟨A3, c3, rfl⟩ := owns_form ho3
              have B3 : Below M wa w3 := below_row ((HQ.out.2.2.1.alloc (by omega) _).alloc (by simp; omega) _) hg3 (World.ownsRow.alloc (World.ownsRow.alloc HQ.out.2.1 (Obj.cells #[] 50)) _) (by omega) (by simp; omega)
              have hM3 : w3.ownsMap Try.prog 3 (unitElem (H := Unit)) M k D0 := ((HD.out.1.alloc _).alloc _).kept hg3 (fun e => by
                have := (World.ownsRow.lt (World.ownsRow.alloc (World.ownsRow.alloc HQ.out.2.1 (Obj.cells #[] 50)) (Obj.cells (intC (q : Int)).toArray 3)) M e.symm).1
                omega)
              have H3 := Lib.hid (And.intro ho3 (And.intro B3 (And.intro hM3 hg3.size)))
              clear ho3 hg3 B3 hM3
              go_wp2_with fail
              go_roundg (gk - 1)
              case measure => omega
              case rel =>
                have e : keptN l (q + 1) = keptN l q ++ [(q : Int)] := by
                  show (if (q : Int) ∈ l then keptN l q else keptN l q ++ [(q : Int)]) = _
                  rw [if_neg HNI.out]
                have e2 : (keptN l q ++ [(q : Int)]).flatMap intC = (keptN l q).flatMap intC ++ intC (q : Int) := by simp
                refine ⟨q + 1, A3, c3, L + 1, by omega, rfl, by go_num, ?_, ?_, H3.out.2.1, ?_, D0, H3.out.2.2.1, HD.out.2⟩
                · rw [e, List.length_append, HQ.out.1]; rfl
                · rw [e, e2]; exact H3.out.1
                · have := H3.out.2.2.2; simp at *; omega
            · have HII := Lib.hid (show (q : Int) ∈ l from by simpa using hin)
              rw [hin] at hlook
              clear hin
              go_wp2_with fail
              go_roundg (gk - 1)
              case measure => omega
              case rel =>
                have e : keptN l (q + 1) = keptN l q := by
                  show (if (q : Int) ∈ l then keptN l q else keptN l q ++ [(q : Int)]) = _
                  rw [if_pos HII.out]
                have hB : Below wr.heap.size wr (wr.alloc (Obj.cells #[] 50)) := (Below.refl _ wr).alloc (Nat.le_refl _) _
                refine ⟨q + 1, A, cp, L, by omega, rfl, by go_num, by rw [e]; exact HQ.out.1, ?_, HQ.out.2.2.1.alloc (by have := HQ.out.2.2.2.1; omega) _, ?_, D0, HD.out.1.alloc _, HD.out.2⟩
                · rw [e]; exact owns_below HQ.out.2.1 hB
                · have := HQ.out.2.2.2.1; simp; omega
          · obtain rfl : q = N := by omega
            have hge2 : ¬ (q : Int) < E := by have := HN.out; omega
            go_wp2_with fail
            go_ret
            have hL : (keptN l q).length = L := HQ.out.1
            refine ⟨A, cp, by rw [hL]; rfl, ?_, ?_⟩
            · rw [hL]; exact ints_row HQ.out.2.1 hL (by have := HN.out; omega)
            · exact D.out.2.1.trans (HQ.out.2.2.1.mono (by have := D.out.2.2.2; have := HM.out; omega))
end Go.Proofs.Ytmfodjdgekafoaa
