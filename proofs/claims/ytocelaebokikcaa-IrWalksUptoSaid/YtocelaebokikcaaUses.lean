/- What Uses answers: the program's by a map, the document's by a search. -/
import Derived.Test.YtocelaebokikcaaSmall
import Derived.Test.YtocelaebokikcaaOwn
import Derived.Maps.OwnOps
import Derived.Maps.OwnSet
import Derived.Maps.Views
import Derived.OneCell
namespace Go.Proofs.Ytocelaebokikcaa
open Go.ChangeShapes Go.WideShapes Go.RowKit Go.WideMaps Go.Maps
set_option linter.unusedVariables false
set_option maxRecDepth 20000

theorem grown_of {w w' : World} (hb : Below w.heap.size w w') : w.grownBy w' none := ⟨hb.os, hb.tape, hb.output, hb.size, fun k hk _ => hb.block k hk⟩
theorem owns_below {w w' : World} {base : Nat} {e : TypeId} {size : Nat} {v : Value} {n : Nat} {xs : List Value} (h : w.ownsRow base e size v n xs) (hb : Below w.heap.size w w') : w'.ownsRow base e size v n xs := by
  refine ⟨h.1, ?_⟩
  rcases h.2 with h2 | ⟨g, cap, cur, h2, h3, h4, h5⟩
  · exact .inl h2
  · exact .inr ⟨g, cap, cur, h2, h3, by rw [hb.block g (Array.getElem?_eq_some_iff.1 h4).1]; exact h4, h5⟩
theorem owns_form {w : World} {base : Nat} {e : TypeId} {size : Nat} {v : Value} {n : Nat} {xs : List Value} (h : w.ownsRow base e size v n xs) : ∃ A c, v = .slice A n c := by
  rcases h.2 with ⟨h2, h3⟩ | ⟨g, cap, cur, h2, _⟩
  · exact ⟨none, 0, by rw [h2, h3]⟩
  · exact ⟨_, _, h2⟩
theorem below_row {B base : Nat} {w wr w2 : World} {e : TypeId} {size : Nat} {v : Value} {n : Nat} {xs : List Value} (h : Below B w wr) (hg : wr.grownBy w2 v.ownBlock) (ho : wr.ownsRow base e size v n xs) (hB : B ≤ base) (hs : B ≤ wr.heap.size) : Below B w w2 :=
  h.grown hg hs (fun k hk => Nat.le_trans hB (World.ownsRow.lt ho k hk).1)
theorem new_cell (w : World) (cs : Array Value) (t : TypeId) (l : List Value) (hl : cs.toList = l) : ∀ j u, l[j]? = some u → (w.alloc (.cells cs t)).cell? ((⟨w.heap.size, 0, none⟩ : Addr).add j) = some u := by
  intro j u hj
  rw [add_at, Nat.zero_add, cell_in (heap_alloc_new w (.cells cs t)), ← Array.getElem?_toList, hl]
  exact hj
/-- The numbers that some operands have the values of, each once. -/
def usesFrom (acc : List Int) : List Opn → List Int
  | [] => acc
  | x :: l => if (valOf x.k x.n x.t).2 = true ∧ (valOf x.k x.n x.t).1 ∉ acc then usesFrom (acc ++ [(valOf x.k x.n x.t).1]) l else usesFrom acc l
theorem uses_step (acc : List Int) (l : List Opn) (k : Nat) (x : Opn) (hx : l[k]? = some x) :
    usesFrom acc (l.drop k) = if (valOf x.k x.n x.t).2 = true ∧ (valOf x.k x.n x.t).1 ∉ acc then usesFrom (acc ++ [(valOf x.k x.n x.t).1]) (l.drop (k + 1)) else usesFrom acc (l.drop (k + 1)) := by
  have hk := (List.getElem?_eq_some_iff.1 hx).1
  rw [List.drop_eq_getElem_cons hk]
  have : l[k] = x := by rw [List.getElem?_eq_getElem hk] at hx; injection hx
  rw [this]
  rfl
theorem uses_len (acc : List Int) (l : List Opn) : (usesFrom acc l).length ≤ acc.length + l.length := by
  induction l generalizing acc with
  | nil => exact Nat.le_refl _
  | cons a l ih =>
    unfold usesFrom
    split
    · have := ih (acc ++ [(valOf a.k a.n a.t).1])
      simp at this ⊢
      omega
    · have := ih acc
      simp at this ⊢
      omega
/-- All numbers that operands hold are such. -/
def Wf (l : List Opn) : Prop := ∀ x ∈ l, (Lit.int .i64 x.n).wf = true ∧ (Lit.int .i64 x.t).wf = true
theorem val_wf {k n t : Int} (h1 : (Lit.int .i64 n).wf = true) (h2 : (Lit.int .i64 t).wf = true) : (Lit.int .i64 (valOf k n t).1).wf = true := by
  unfold valOf
  split
  · exact h1
  · split
    · exact h2
    · decide
/-- What Uses hands back: the numbers, in a slice of its own. -/
structure UsesP (base : Nat) (l : List Int) (w : World) (e : Ending) (w' : World) : Prop where
  out : ∃ A c, e = .returned (.slice A l.length c) ∧ w'.ownsRow base 3 1 (.slice A l.length c) l.length (l.flatMap intC) ∧ Below w.heap.size w w'
theorem info3_parts : ∃ i, Try.prog.info? 3 = some i ∧ i.zero = some (.int .i64 0) ∧ i.size = 1 ∧ i.bytes = 8 := by
  obtain ⟨i, hi, hinfo⟩ := Option.map_eq_some_iff.1 info3_own
  exact ⟨i, hi, congrArg Prod.fst hinfo, congrArg (fun x => x.2.1) hinfo, congrArg (fun x => x.2.2) hinfo⟩
/-- A map that has just the numbers of a list. -/
def MSet (D : DataW Unit) (acc : List Int) : Prop := IsMap D ∧ ∀ z : Int, Maps.has D (.int .i64 z) = decide (z ∈ acc)
theorem MSet.nil : MSet (.map []) [] := ⟨isMap_empty, fun z => rfl⟩
theorem key_int (z : Int) : WideAt.IsKeyLit (.int .i64 z) := by first | trivial | exact ⟨_, rfl⟩ | (unfold WideAt.IsKeyLit; simp)
theorem MSet.step {D : DataW Unit} {acc : List Int} {z : Int} (h : MSet D acc) : MSet (D.put (.int .i64 z) (.agg [])) (acc ++ [z]) := by
  refine ⟨h.1.put _ _, fun t => ?_⟩
  by_cases e : t = z
  · subst e
    rw [has_put_same h.1 (key_int t)]; simp
  · rw [has_put_other (by simpa using e), h.2 t]
    simp [e]
theorem law3 : Keyed Try.prog 3 := int_keyed Try.underlying3
theorem zero107 (w : World) : (zeroValue 107).run Try.prog w = .ok (.agg #[]) w := by kernel_rfl
theorem make106 (W : World) : (Instr.makeMap 106 none).run Try.prog W = .ok (.map (some W.heap.size)) (W.alloc (.map #[] 0)) := by
  simp [Instr.makeMap, Result.andThen]
set_option maxHeartbeats 4000000 in
theorem uses_v (i : Ins) (r : InsV) (w : World) (h : IsIns w i r) (hn : r.an ≤ 1048576) (hwf : Wf i.args) : Calls Try.prog 34 #[.agg (insR i r)] w (UsesP (w.heap.size + 2) (usesFrom [] i.args) w) := by
  have B0 : Below w.heap.size w (w.alloc (.cells (insR i r) 51)) := (Below.refl _ w).alloc (Nat.le_refl _) _
  have D := Lib.hid (And.intro (h.args.below B0) (And.intro (show (w.alloc (.cells (insR i r) 51)).heap.size = w.heap.size + 1 by simp) (And.intro B0 (And.intro (heap_alloc_new w (.cells (insR i r) 51)) (And.intro h.args.1 hwf)))))
  clear h B0 hwf
  obtain ⟨i0, hi0, hz0, hz1, hz2⟩ := info3_parts
  have I0 := Lib.hid (And.intro hi0 (And.intro hz0 (And.intro hz1 hz2)))
  clear hi0 hz0 hz1 hz2
  obtain ⟨op, dst, args, name, off, labels, cas⟩ := i
  obtain ⟨aa, an, ac, la, ln, lc, ca, cn, cc⟩ := r
  unfold insR at D ⊢
  dsimp only at D hn ⊢
  obtain ⟨wa, hwa⟩ : ∃ wa, w.alloc (.cells #[.int .i64 op, .int .i64 dst.k, .int .i64 dst.c, .int .i64 dst.n, .int .i64 dst.t, .slice aa an ac, .string name, .int .i64 off, .slice la ln lc, .slice ca cn cc] 51) = wa := ⟨_, rfl⟩
  rw [hwa] at D
  have z : (wa.alloc (.map #[] 0)).cell? ⟨w.heap.size, 5, none⟩ = some (.slice aa an ac) := by
    rw [World.cell?_alloc_lt _ _ _ (by rw [D.out.2.1]; show w.heap.size < _; omega)]
    exact cell_in D.out.2.2.2.1 5
  have hm := make106
  go_enter Try.func34, Try.ntmps34
  go_wp2_with fail
  obtain ⟨M, hM⟩ : ∃ M, wa.heap.size = M := ⟨_, rfl⟩
  have HM := Lib.hid hM
  rw [hM]
  clear hm z
  go_loopg [3, 15] an (fun gk u v wr => ∃ (k : Nat) (A : Option Addr) (c : Nat) (acc : List Int) (L : Nat), k + gk = an ∧ u = .slice A L c ∧ v = .int .i64 (k : Int) ∧ L ≤ k ∧
    Hid (acc.length = L ∧ usesFrom acc (args.drop k) = usesFrom [] args ∧ wr.ownsRow (w.heap.size + 2) 3 1 (.slice A L c) L (acc.flatMap intC) ∧ Below M wa wr ∧ M + 1 ≤ wr.heap.size ∧ ∃ D0, wr.ownsMap Try.prog 3 (unitElem (H := Unit)) M k D0 ∧ MSet D0 acc))
  case atStart =>
    refine ⟨0, none, 0, [], 0, by omega, rfl, rfl, Nat.le_refl _, rfl, rfl, World.ownsRow_nil _ _ _ _, (Below.refl _ wa).alloc (by rw [HM.out]; exact Nat.le_refl _) _, by simp [HM.out], .map [], ?_, MSet.nil⟩
    rw [← HM.out]
    exact World.ownsMap_made wa _ _ _
  case round =>
    obtain ⟨k, A, c, acc, L, hk, rfl, rfl, hLk, HH⟩ := hrel
    have BM := Lib.hid (show Below wa.heap.size wa wr from HM.out.symm ▸ HH.out.2.2.2.1)
    by_cases hlt : k < an
    · obtain ⟨b, o, rfl, hb, x, hx, c0, c1, c2, c3⟩ := (D.out.1.below BM.out).at hlt
      have i1 : (k : Int) < (an : Int) := by omega
      have hxm : x ∈ args := List.mem_of_getElem? hx
      have HX := Lib.hid (And.intro (uses_step acc args k x hx) (val_wf (k := x.k) (D.out.2.2.2.2.2 x hxm).1 (D.out.2.2.2.2.2 x hxm).2))
      clear hx hxm
      obtain ⟨xk, xc, xn, xt⟩ := x
      dsimp only at c0 c1 c2 c3 HX
      obtain ⟨⟨q, ok⟩, hv⟩ : ∃ p, valOf xk xn xt = p := ⟨_, rfl⟩
      rw [hv] at HX
      dsimp only at HX
      go_wp2_with fail
      have W1 : Below wr.heap.size wr (wr.alloc (.cells #[.int .i64 xk, .int .i64 xc, .int .i64 xn, .int .i64 xt] 44)) := (Below.refl _ wr).alloc (Nat.le_refl _) _
      refine (value_v xk xc xn xt q ok hv _).mono ?_
      rintro e w1 ⟨rfl, hb1⟩
      have B1 := Lib.hid (W1.trans (hb1.mono W1.size))
      clear hb1 W1 c0 c1 c2 c3 hv
      obtain ⟨D0, hD, hset⟩ := HH.out.2.2.2.2.2
      have hD1 : w1.ownsMap Try.prog 3 (unitElem (H := Unit)) M k D0 := hD.kept (grown_of B1.out) (by simp)
      obtain ⟨v0, ps, hlook, hve⟩ := hD1.look_ok law3 Try.underlying106 (zero107 w1) unitElem_mk (keyOf_int_mk Try.underlying3 HX.out.2)
      obtain ⟨rfl, _⟩ := unitElem_inv hve
      rw [hset.2 q] at hlook
      have HD := Lib.hid (And.intro hD1 hset)
      clear hD hD1 hset hve
      cases hok : ok
      · subst hok
        go_wp2_with fail
        go_roundg (gk - 1)
        case measure => omega
        case rel =>
          refine ⟨k + 1, A, c, acc, L, by omega, rfl, by go_num, by omega, HH.out.1, ?_, ?_, ?_, ?_, D0, ?_, HD.out.2⟩
          · rw [← HH.out.2.1, HX.out.1, if_neg (by simp)]
          · exact owns_below HH.out.2.2.1 (B1.out.alloc B1.out.size _)
          · exact HH.out.2.2.2.1.trans ((B1.out.alloc B1.out.size _).mono (by have := HH.out.2.2.2.2.1; omega))
          · have := HH.out.2.2.2.2.1; have := B1.out.size; simp; omega
          · exact (HD.out.1.alloc _).mono (by omega)
      subst hok
      cases hin : decide (q ∈ acc)
      · have hni : q ∉ acc := by simpa using hin
        have HN := Lib.hid hni
        rw [hin] at hlook
        clear hin hni
        have hD2 := HD.out.1.alloc (.cells #[] 107)
        have hkeyq := keyOf_int_mk (P := Try.prog) (k := 3) Try.underlying3 HX.out.2
        go_wp2_with (at_mapUpdate; refine wpList_mapUpdate_own _ rfl _ _ _ 106 rfl 3 107 law3 Try.underlying106 _ M k _ rfl hD2 (by unfold maxLen; omega) _ _ _ rfl rfl hkeyq _ [] (unitElem_mk (H := Unit)) ?_)
        intro w2 g2 g3
        have T2 := Lib.hid (And.intro g2 g3)
        have B2 := Lib.hid (show Below M wa w2 from ((HH.out.2.2.2.1.trans (B1.out.mono (by have := HH.out.2.2.2.2.1; omega))).alloc (by have := HH.out.2.2.2.2.1; have := B1.out.size; omega) (.cells #[] 107)).grown g3 (by have := HH.out.2.2.2.2.1; have := B1.out.size; simp; omega) (fun j hj => by cases hj; exact Nat.le_refl _))
        have hown2 : w2.ownsRow (w.heap.size + 2) 3 1 (.slice A L c) L (acc.flatMap intC) := by
          have o1 := owns_below HH.out.2.2.1 (B1.out.alloc B1.out.size (.cells #[] 107))
          refine ⟨o1.1, ?_⟩
          rcases o1.2 with h2 | ⟨g, cap, cur, h2, h3, h4, h5⟩
          · exact .inl h2
          · refine .inr ⟨g, cap, cur, h2, h3, ?_, h5⟩
            rw [g3.block g (Array.getElem?_eq_some_iff.1 h4).1 (by have := D.out.2.1; have := HM.out; intro e; injection e with e; omega)]
            exact h4
        have HO := Lib.hid hown2
        clear hlook hD2 hkeyq g2 g3 hown2
        go_wp2_with (at_builtin; refine wpList_append_own _ rfl _ _ 23 rfl (w.heap.size + 2) 3 i0 (.int .i64 0) 1 8 Try.underlying23 I0.out.1 I0.out.2.1 I0.out.2.2.1 I0.out.2.2.2 rfl (by decide) _ _ _ rfl (World.ownsRow.alloc HO.out _) ⟨w2.heap.size, 0, none⟩ 1 1 (intC q) rfl rfl (new_cell _ _ _ _ rfl) (by intro x hx; unfold intC at hx; simp at hx; subst hx; rfl) (by unfold maxLen; omega) (by omega) (by have := B2.out.size; have := HM.out; have := D.out.2.1; have := T2.out.2.size; have := HH.out.2.2.2.2.1; have := B1.out.size; simp at *; omega) ?_)
        intro v' w3 ho3 hg3 _
        obtain ⟨A3, c3, rfl⟩ := owns_form ho3
        have hfm : acc.flatMap intC ++ intC q = (acc ++ [q]).flatMap intC := by simp
        rw [hfm] at ho3
        have B3 : Below M wa w3 := below_row (B2.out.alloc (by have := B2.out.size; have := HM.out; omega) _) hg3 (World.ownsRow.alloc HO.out _) (by have := D.out.2.1; have := HM.out; omega) (by have := B2.out.size; have := HM.out; simp; omega)
        have hM3 : w3.ownsMap Try.prog 3 (unitElem (H := Unit)) M (k + 1) (D0.put (.int .i64 q) (.agg [])) := (T2.out.1.alloc _).kept hg3 (fun e => by
          have := (World.ownsRow.lt (World.ownsRow.alloc HO.out (Obj.cells (intC q).toArray 3)) M e.symm).1
          have := D.out.2.1; have := HM.out; omega)
        have H3 := Lib.hid (And.intro ho3 (And.intro B3 (And.intro hM3 hg3.size)))
        clear ho3 hg3 hfm B3 hM3
        go_wp2_with fail
        go_roundg (gk - 1)
        case measure => omega
        case rel =>
          refine ⟨k + 1, A3, c3, acc ++ [q], L + 1, by omega, rfl, by go_num, by omega, by rw [List.length_append, HH.out.1]; rfl, ?_, H3.out.1, H3.out.2.1, ?_, _, H3.out.2.2.1, HD.out.2.step⟩
          · rw [← HH.out.2.1, HX.out.1, if_pos (And.intro (by simp) HN.out)]
          · have := H3.out.2.2.2; have := T2.out.2.size; have := B1.out.size; have := HH.out.2.2.2.2.1; simp at *; omega
      · have hii : q ∈ acc := by simpa using hin
        have HN := Lib.hid hii
        rw [hin] at hlook
        clear hin hii
        go_wp2_with fail
        go_roundg (gk - 1)
        case measure => omega
        case rel =>
          refine ⟨k + 1, A, c, acc, L, by omega, rfl, by go_num, by omega, HH.out.1, ?_, ?_, ?_, ?_, D0, ?_, HD.out.2⟩
          · rw [← HH.out.2.1, HX.out.1, if_neg (by intro e; exact e.2 HN.out)]
          · exact owns_below HH.out.2.2.1 (B1.out.alloc B1.out.size _)
          · exact HH.out.2.2.2.1.trans ((B1.out.alloc B1.out.size _).mono (by have := HH.out.2.2.2.2.1; omega))
          · have := HH.out.2.2.2.2.1; have := B1.out.size; simp; omega
          · exact (HD.out.1.alloc _).mono (by omega)
    · obtain rfl : k = an := by omega
      have hge : ¬ (k : Int) < (k : Int) := by omega
      go_wp2_with fail
      go_ret
      have hd : usesFrom [] args = acc := by
        rw [← HH.out.2.1, List.drop_of_length_le (by rw [D.out.2.2.2.2.1]; exact Nat.le_refl _)]
        rfl
      rw [hd]
      obtain ⟨h1, _, h3, _⟩ := HH.out
      subst h1
      exact ⟨A, c, rfl, h3, D.out.2.2.1.trans (BM.out.mono (by rw [D.out.2.1]; omega))⟩
set_option maxHeartbeats 1000000 in
theorem in_v (A : Option Addr) (n c : Nat) (l : List Int) (q : Int) (w : World) (h : IsInts w A n l) : Calls Try.prog 64 #[.slice A n c, .int .i64 q] w fun e w' => e = .returned (.bool (decide (q ∈ l))) ∧ Below w.heap.size w w' := by
  have hm := h.2.1
  have H0 := Lib.hid h
  clear h
  go_enter Try.func64, Try.ntmps64
  go_wp2_with fail
  go_loopg [5] n (fun gk u wr => ∃ k : Nat, k + gk = n ∧ u = .int .i64 (k : Int) ∧ Hid (wr = w ∧ ∀ (j : Nat) (y : Int), j < k → l[j]? = some y → ¬ y = q))
  case atStart => exact ⟨0, by omega, rfl, rfl, fun j y hj => by omega⟩
  case round =>
    obtain ⟨k, hk, rfl, HH⟩ := hrel
    obtain rfl := HH.out.1
    by_cases hlt : k < n
    · obtain ⟨b, o, rfl, hb, y, hy, c0⟩ := H0.out.at hlt
      have i1 : (k : Int) < (n : Int) := by omega
      by_cases hq : y = q
      · subst hq
        have HX := Lib.hid (List.mem_of_getElem? hy)
        clear hy
        go_wp2_with fail
        go_ret
        exact ⟨by rw [decide_eq_true HX.out]; rfl, Below.refl _ _⟩
      · have RR : Hid (∀ (j : Nat) (z : Int), j < k + 1 → l[j]? = some z → ¬ z = q) := Lib.hid (fun j z hj h2 => by
          rcases Nat.lt_or_ge j k with h4 | h4
          · exact HH.out.2 j z h4 h2
          · obtain rfl : j = k := by omega
            rw [hy] at h2; injection h2 with h2; subst h2; exact hq)
        clear hy
        go_wp2_with fail
        go_roundg (gk - 1)
        case measure => omega
        case rel => exact ⟨k + 1, by omega, by go_num, rfl, RR.out⟩
    · obtain rfl : k = n := by omega
      have hge : ¬ (k : Int) < (k : Int) := by omega
      have HX := Lib.hid (show ¬ q ∈ l from fun hm => by
        obtain ⟨j, hj, e⟩ := List.getElem_of_mem hm
        exact HH.out.2 j l[j] (by have := H0.out.1; omega) (List.getElem?_eq_getElem hj) e)
      go_wp2_with fail
      go_ret
      exact ⟨by rw [decide_eq_false HX.out]; rfl, Below.refl _ _⟩
theorem ints_row {w : World} {base : Nat} {A : Option Addr} {c n : Nat} {l : List Int} (h : w.ownsRow base 3 1 (.slice A n c) n (l.flatMap intC)) (hl : l.length = n) (hn : n ≤ 9223372036854775807) : IsInts w A n l := by
  refine ⟨hl, hn, ?_⟩
  rcases h.2 with ⟨h2, h3⟩ | ⟨g, cap, cur, h2, h3, h4, h5, h6, h7, h8⟩
  · subst h3; exact .inl (List.eq_nil_of_length_eq_zero hl)
  · injection h2 with e1 _ _
    subst e1
    refine .inr ⟨g, 0, rfl, (Array.getElem?_eq_some_iff.1 h4).1, fun k hk => ?_⟩
    rw [Nat.zero_add, cell_in h4, ← Array.getElem?_toList]
    have : (cur.toList.take (n * 1))[k]? = (l.flatMap intC)[k]? := by rw [h8]
    rw [List.getElem?_take, if_pos (by omega)] at this
    rw [this]
    have := flat_at intC 1 (fun _ => rfl) l k 0 l[k] (List.getElem?_eq_getElem hk) (by omega)
    rw [Nat.mul_one, Nat.add_zero] at this
    rw [this]; rfl
theorem rval_same (k n t : Int) : (rvalOf k n t).2 = (valOf k n t).2 ∧ ((valOf k n t).2 = true → (rvalOf k n t).1 = (valOf k n t).1) := by
  unfold rvalOf valOf
  by_cases h1 : k = 1
  · simp [h1]
  · by_cases h2 : k = 2 ∨ k = 3
    · simp [h1, h2]
    · simp [h1, h2]
set_option maxHeartbeats 4000000 in
theorem ruses_v (i : Ins) (r : InsV) (w : World) (h : IsIns w i r) (hn : r.an ≤ 1048576) : Calls Try.prog 35 #[.agg (insR i r)] w (UsesP (w.heap.size + 1) (usesFrom [] i.args) w) := by
  have B0 : Below w.heap.size w (w.alloc (.cells (insR i r) 51)) := (Below.refl _ w).alloc (Nat.le_refl _) _
  have D := Lib.hid (And.intro (h.args.below B0) (And.intro (show (w.alloc (.cells (insR i r) 51)).heap.size = w.heap.size + 1 by simp) (And.intro B0 (And.intro (heap_alloc_new w (.cells (insR i r) 51)) h.args.1))))
  clear h B0
  obtain ⟨i0, hi0, hz0, hz1, hz2⟩ := info3_parts
  have I0 := Lib.hid (And.intro hi0 (And.intro hz0 (And.intro hz1 hz2)))
  clear hi0 hz0 hz1 hz2
  obtain ⟨op, dst, args, name, off, labels, cas⟩ := i
  obtain ⟨aa, an, ac, la, ln, lc, ca, cn, cc⟩ := r
  unfold insR at D ⊢
  dsimp only at D hn ⊢
  obtain ⟨wa, hwa⟩ : ∃ wa, w.alloc (.cells #[.int .i64 op, .int .i64 dst.k, .int .i64 dst.c, .int .i64 dst.n, .int .i64 dst.t, .slice aa an ac, .string name, .int .i64 off, .slice la ln lc, .slice ca cn cc] 51) = wa := ⟨_, rfl⟩
  rw [hwa] at D
  go_enter Try.func35, Try.ntmps35
  go_wp2_with fail
  go_loopg [3, 4] an (fun gk u v wr => ∃ (k : Nat) (A : Option Addr) (c : Nat) (acc : List Int) (L : Nat), k + gk = an ∧ u = .slice A L c ∧ v = .int .i64 (k : Int) ∧ L ≤ k ∧
    Hid (acc.length = L ∧ usesFrom acc (args.drop k) = usesFrom [] args ∧ wr.ownsRow (w.heap.size + 1) 3 1 (.slice A L c) L (acc.flatMap intC) ∧ Below wa.heap.size wa wr))
  case atStart => exact ⟨0, none, 0, [], 0, by omega, rfl, rfl, Nat.le_refl _, rfl, rfl, World.ownsRow_nil _ _ _ _, Below.refl _ wa⟩
  case round =>
    obtain ⟨k, A, c, acc, L, hk, rfl, rfl, hLk, HH⟩ := hrel
    have z : wr.cell? ⟨w.heap.size, 5, none⟩ = some (.slice aa an ac) := cell_in (kept_box D.out.2.2.2.1 HH.out.2.2.2) 5
    by_cases hlt : k < an
    · obtain ⟨b, o, rfl, hb, x, hx, c0, c1, c2, c3⟩ := (D.out.1.below HH.out.2.2.2).at hlt
      have i1 : (k : Int) < (an : Int) := by omega
      have HX := Lib.hid (And.intro (uses_step acc args k x hx) (rval_same x.k x.n x.t))
      clear hx
      obtain ⟨xk, xc, xn, xt⟩ := x
      dsimp only at c0 c1 c2 c3 HX
      obtain ⟨⟨q, ok⟩, hv⟩ : ∃ p, rvalOf xk xn xt = p := ⟨_, rfl⟩
      rw [hv] at HX
      dsimp only at HX
      go_wp2_with fail
      refine (rvalue_v xk xc xn xt q ok hv _).mono ?_
      rintro e w1 ⟨rfl, hb1⟩
      have B1 := Lib.hid hb1
      clear hb1 c0 c1 c2 c3 hv z
      cases hok : ok
      · subst hok
        go_wp2_with fail
        go_roundg (gk - 1)
        case measure => omega
        case rel =>
          refine ⟨k + 1, A, c, acc, L, by omega, rfl, by go_num, by omega, HH.out.1, ?_, owns_below HH.out.2.2.1 B1.out, HH.out.2.2.2.trans (B1.out.mono HH.out.2.2.2.size)⟩
          rw [← HH.out.2.1, HX.out.1, if_neg (by rw [← HX.out.2.1]; simp)]
      subst hok
      go_wp2_with fail
      refine (in_v A L c acc q _ (ints_row (owns_below HH.out.2.2.1 B1.out) HH.out.1 (by omega))).mono ?_
      rintro e w2 ⟨rfl, hb2⟩
      have B2 := Lib.hid (B1.out.trans (hb2.mono B1.out.size))
      clear hb2
      have hqv := HX.out.2.2 HX.out.2.1.symm
      cases hin : decide (q ∈ acc)
      · have HN := Lib.hid (And.intro (show q ∉ acc by simpa using hin) hqv)
        clear hin hqv
        have HO := Lib.hid (owns_below HH.out.2.2.1 B2.out)
        have BX := Lib.hid (HH.out.2.2.2.trans (B2.out.mono HH.out.2.2.2.size))
        go_wp2_with (at_builtin; refine wpList_append_own _ rfl _ _ 23 rfl (w.heap.size + 1) 3 i0 (.int .i64 0) 1 8 Try.underlying23 I0.out.1 I0.out.2.1 I0.out.2.2.1 I0.out.2.2.2 rfl (by decide) _ _ _ rfl (World.ownsRow.alloc HO.out _) ⟨w2.heap.size, 0, none⟩ 1 1 (intC q) rfl rfl (new_cell _ _ _ _ rfl) (by intro x hx; unfold intC at hx; simp at hx; subst hx; rfl) (by unfold maxLen; omega) (by omega) (by have := BX.out.size; have := D.out.2.1; simp; omega) ?_)
        intro v' w3 ho3 hg3 _
        obtain ⟨A3, c3, rfl⟩ := owns_form ho3
        have hfm : acc.flatMap intC ++ intC q = (acc ++ [q]).flatMap intC := by simp
        rw [hfm] at ho3
        have B3 : Below wa.heap.size wa w3 := below_row (BX.out.alloc BX.out.size _) hg3 (World.ownsRow.alloc HO.out _) (by rw [D.out.2.1]; exact Nat.le_refl _) (by have := BX.out.size; simp; omega)
        have H3 := Lib.hid (And.intro ho3 B3)
        clear ho3 hg3 hfm B3
        go_wp2_with fail
        go_roundg (gk - 1)
        case measure => omega
        case rel =>
          refine ⟨k + 1, A3, c3, acc ++ [q], L + 1, by omega, rfl, by go_num, by omega, by rw [List.length_append, HH.out.1]; rfl, ?_, H3.out.1, H3.out.2⟩
          rw [← HH.out.2.1, HX.out.1, ← HN.out.2, if_pos ⟨HX.out.2.1.symm, HN.out.1⟩]
      · have HN := Lib.hid (And.intro (show q ∈ acc by simpa using hin) hqv)
        clear hin hqv
        go_wp2_with fail
        go_roundg (gk - 1)
        case measure => omega
        case rel =>
          refine ⟨k + 1, A, c, acc, L, by omega, rfl, by go_num, by omega, HH.out.1, ?_, owns_below HH.out.2.2.1 B2.out, HH.out.2.2.2.trans (B2.out.mono HH.out.2.2.2.size)⟩
          rw [← HH.out.2.1, HX.out.1, ← HN.out.2, if_neg (fun e => e.2 HN.out.1)]
    · obtain rfl : k = an := by omega
      have hge : ¬ (k : Int) < (k : Int) := by omega
      go_wp2_with fail
      go_ret
      have hd : usesFrom [] args = acc := by
        rw [← HH.out.2.1, List.drop_of_length_le (by rw [D.out.2.2.2.2]; exact Nat.le_refl _)]
        rfl
      rw [hd]
      obtain ⟨h1, _, h3, h4⟩ := HH.out
      subst h1
      exact ⟨A, c, rfl, h3, D.out.2.2.1.trans (h4.mono (by rw [D.out.2.1]; omega))⟩
end Go.Proofs.Ytocelaebokikcaa
