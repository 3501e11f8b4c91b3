/- A list of its own: what own makes, at each kind of element. -/
import Derived.Test.YtocelaebokikcaaSmall
import Derived.Laws.CopyOwn
namespace Go.Proofs.Ytocelaebokikcaa
open Go.ChangeShapes Go.WideShapes Go.RowKit
set_option linter.unusedVariables false
set_option linter.unusedSimpArgs false
set_option maxRecDepth 20000

/-- copy over the whole of a row of the call's own, at elements of whatever size. -/
theorem wpList_copy_whole {P : Program} {w : World} {ops : Array Oper} {rest : List Oper} {o : Oper} {a : Act} {Q : Exit → Act → World → Prop} (hgd : o.guard = none) (d s : Operand) (dT sT : TypeId)
    (ho : o.op = .call { callee := .builtin .copy, args := #[d, s], argTypes := #[dT, sT] }) (elem : TypeId) (sz : Nat) (hu : P.underlying dT = some (.slice elem)) (hsz : (P.info? elem).map (·.size) = some sz)
    (g n : Nat) (A : Option Addr) (dCap sCap : Nat) (hd : a.eval d = .slice (some ⟨g, 0, none⟩) n dCap) (hs : a.eval s = .slice A n sCap)
    (cur : Array Value) (t : TypeId) (hg : w.heap[g]? = some (.cells cur t (0, 0))) (cs : List Value) (hn : cs.length = n * sz) (hcur : cur.size = n * sz)
    (hsrc : 0 < n → ∃ ad, A = some ad ∧ ∀ j v, cs[j]? = some v → w.cell? (ad.add j) = some v) (h1 : ∀ v ∈ cs, v.oneCell' = true)
    (h : wpList P ops Q rest (a.put o.dst (goInt n)) (w.setRow g cs.toArray)) : wpList P ops Q (o :: rest) a w := by
  refine wpList_plain hgd fun K hK => ?_
  have hrun : (Builtin.copy_ #[dT, sT] o.type #[.slice (some ⟨g, 0, none⟩) n dCap, .slice A n sCap]).run P w = .ok (goInt n) (w.setRow g cs.toArray) := by
    cases hq : P.info? elem with
    | none => simp [hq] at hsz
    | some i =>
      have hi : i.size = sz := by simpa [hq] using hsz
      have hst := run_storeCells_at P g 0 t cs 0 cur w hg (by omega) h1
      have e1 : cur.toList.take 0 ++ cs ++ cur.toList.drop (0 + 0 + cs.length) = cs := by
        rw [List.take_zero, List.nil_append, List.drop_of_length_le (by simp; omega), List.append_nil]
      simp only [Nat.add_zero, e1] at hst
      by_cases h0 : n = 0
      · subst h0
        obtain rfl : cs = [] := List.eq_nil_of_length_eq_zero (by omega)
        cases A with
        | none => simp [Builtin.copy_, run_underlying hu, Builtin.lenOf, Builtin.firstCells, sizeOf, typeInfo, hq, hi, hst]
        | some ad =>
          have hl := run_loadCells_list (P := P) w ad [] (by simp)
          simp at hl
          simp [Builtin.copy_, run_underlying hu, Builtin.lenOf, Builtin.firstCells, sizeOf, typeInfo, hq, hi, hst, hl]
      · obtain ⟨ad, rfl, hc⟩ := hsrc (by omega)
        have hl := run_loadCells_list (P := P) w ad cs hc
        simp [Builtin.copy_, run_underlying hu, Builtin.lenOf, Builtin.firstCells, sizeOf, typeInfo, hq, hi, ← hn, hl, hst]
  unfold Oper.wp
  simp [execOp, ho, resolve, invoke, builtin, hd, hs, hrun, Result.andThen]
  exact hK _ _ h
/-- The cells of rows of one length. -/
theorem flat_len {α : Type} (f : α → List Value) (s : Nat) (hs : ∀ x, (f x).length = s) (l : List α) : (l.flatMap f).length = l.length * s := by
  induction l with
  | nil => simp
  | cons a l ih => rw [List.flatMap_cons, List.length_append, hs, ih, List.length_cons, Nat.add_one_mul, Nat.add_comm]
theorem flat_at {α : Type} (f : α → List Value) (s : Nat) (hs : ∀ x, (f x).length = s) (l : List α) (k j : Nat) (x : α) (hk : l[k]? = some x) (hj : j < s) : (l.flatMap f)[k * s + j]? = (f x)[j]? := by
  induction l generalizing k with
  | nil => simp at hk
  | cons a l ih =>
    rw [List.flatMap_cons]
    cases k with
    | zero =>
      have : a = x := by simpa using hk
      subst this
      rw [List.getElem?_append_left (by rw [hs]; omega)]
      simp
    | succ k =>
      have h1 : (k + 1) * s + j = (f a).length + (k * s + j) := by rw [hs, Nat.add_one_mul]; omega
      rw [h1, List.getElem?_append_right (by omega), show (f a).length + (k * s + j) - (f a).length = k * s + j by omega]
      exact ih k (by simpa using hk)
/-- Of rows of one length, the cells by row and place. -/
theorem flat_split (i s n : Nat) (hs : 0 < s) (hi : i < n * s) : ∃ k j, i = k * s + j ∧ k < n ∧ j < s :=
  ⟨i / s, i % s, by rw [Nat.mul_comm]; exact (Nat.div_add_mod i s).symm, Nat.div_lt_of_lt_mul (by rw [Nat.mul_comm]; exact hi), Nat.mod_lt _ hs⟩
theorem flat_src {α : Type} (f : α → List Value) (s : Nat) (h0 : 0 < s) (hs : ∀ x, (f x).length = s) (l : List α) (w : World) (b o : Nat)
    (hc : ∀ k (h : k < l.length) j u, j < s → (f l[k])[j]? = some u → w.cell? ⟨b, o + k * s + j, none⟩ = some u) : ∀ j v, (l.flatMap f)[j]? = some v → w.cell? ((⟨b, o, none⟩ : Addr).add j) = some v := by
  intro i v hv
  have hi : i < l.length * s := by
    rw [← flat_len f s hs l]; exact (List.getElem?_eq_some_iff.1 hv).1
  obtain ⟨k, j, rfl, hk, hj⟩ := flat_split i s l.length h0 hi
  rw [flat_at f s hs l k j l[k] (List.getElem?_eq_getElem hk) hj] at hv
  rw [add_at, ← Nat.add_assoc]
  exact hc k hk j v hj hv
theorem setRow_at {w : World} {g : Nat} {cur cs : Array Value} {t : TypeId} {fr : Nat × Nat} (h : w.heap[g]? = some (.cells cur t fr)) : (w.setRow g cs).heap[g]? = some (.cells cs t fr) := by
  simp [World.setRow, Array.getElem?_modify, h]
def strC (x : ByteArray) : List Value := [.string x]
def intC (x : Int) : List Value := [.int .i64 x]
/-- A new list of so many cells. -/
def NewAt (w w' : World) (e : Ending) (n : Nat) (cs : List Value) (t : TypeId) : Prop :=
  e = .returned (.slice (some ⟨w.heap.size, 0, none⟩) n n) ∧ w'.heap[w.heap.size]? = some (.cells cs.toArray t (0, 0)) ∧ Below w.heap.size w w'
theorem info44_own : (Try.prog.info? 44).map (fun i => (i.zero, i.size, i.bytes)) = some (some (.agg #[.int .i64 0, .int .i64 0, .int .i64 0, .int .i64 0]), 4, 32) := by kernel_rfl
theorem own53_v (A : Option Addr) (n c : Nat) (l : List Opn) (w : World) (h : IsOps w A n l) (hn : n ≤ 1048576) : Calls Try.prog 53 #[.slice A n c] w fun e w' => NewAt w w' e n (l.flatMap (Opn.cs)) 44 := by
  obtain ⟨i, hi, hinfo⟩ := Option.map_eq_some_iff.1 info44_own
  have hz1 : i.zero = some (.agg #[.int .i64 0, .int .i64 0, .int .i64 0, .int .i64 0]) := congrArg Prod.fst hinfo
  have hsz : i.size = 4 := congrArg (fun x => x.2.1) hinfo
  have hby : i.bytes = 32 := congrArg (fun x => x.2.2) hinfo
  have hlen : (l.flatMap (Opn.cs)).length = n * 4 := by rw [flat_len _ 4 (fun x => rfl), h.1]
  have hone : ∀ v ∈ l.flatMap (Opn.cs), v.oneCell' = true := (fun v hv => by
    obtain ⟨x, _, hx⟩ := List.mem_flatMap.1 hv
    have hx' : v ∈ x.cs := hx
    unfold Opn.cs at hx'
    simp at hx'
    rcases hx' with rfl | rfl | rfl | rfl <;> rfl)
  have hsz' : (Try.prog.info? 44).map (·.size) = some 4 := by rw [hi]; simp [hsz]
  have H := Lib.hid (And.intro h (And.intro hlen hone))
  clear hlen hone h
  go_enter Try.func53, Try.ntmps53
  go_wp2_with (refine wpList_make_full _ rfl _ _ _ rfl w.heap.size 44 i (.agg #[.int .i64 0, .int .i64 0, .int .i64 0, .int .i64 0]) 4 Try.underlying28 hi hz1 hsz .i64 .i64 _ _ n rfl rfl rfl rfl (by rw [hby]; omega) (by unfold maxLen; omega) (by simp) ?_)
  intro w1 h1 h2
  obtain ⟨g0, cap, cur, hv, hb, hg, hc1, hc2, hc3, hc4⟩ : ∃ g cap cur, (Value.slice (some ⟨w.heap.size, 0, none⟩) n n) = .slice (some ⟨g, 0, none⟩) n cap ∧ w.heap.size ≤ g ∧ w1.heap[g]? = some (.cells cur 44 (0, 0)) ∧ n ≤ cap ∧ cap ≤ maxLen ∧ cur.size = cap * 4 ∧ cur.toList.take (n * 4) = _ := by
    rcases h1.2 with ⟨hx, _⟩ | hx
    · cases hx
    · exact hx
  injection hv with e1 _ e2
  injection e1 with e1
  injection e1 with e1
  subst e1
  subst e2
  have B1 : Below w.heap.size w w1 := (Below.refl _ w).grown h2 (Nat.le_refl _) (fun k hk => by cases hk)
  have D := Lib.hid (And.intro B1 hg)
  have hsrc : 0 < n → ∃ ad, A = some ad ∧ ∀ j v, (l.flatMap (Opn.cs))[j]? = some v → w1.cell? (ad.add j) = some v := (fun hn0 => by
    rcases (H.out.1.below B1) with ⟨e1, e2, e3 | ⟨b, o, rfl, hb2, hcell⟩⟩
    · exfalso; rw [e3] at e1; simp at e1; omega
    · refine ⟨_, rfl, flat_src _ 4 (by omega) (fun x => rfl) l w1 b o (fun k hk j u hj hu => ?_)⟩
      obtain ⟨q0, q1, q2, q3⟩ := hcell k hk
      match j, hj with
      | 0, _ => rw [show ((Opn.cs) l[k])[0]? = _ from rfl] at hu; injection hu with hu; subst hu; exact q0
      | 1, _ => rw [show ((Opn.cs) l[k])[1]? = _ from rfl] at hu; injection hu with hu; subst hu; exact q1
      | 2, _ => rw [show ((Opn.cs) l[k])[2]? = _ from rfl] at hu; injection hu with hu; subst hu; exact q2
      | 3, _ => rw [show ((Opn.cs) l[k])[3]? = _ from rfl] at hu; injection hu with hu; subst hu; exact q3
    )
  have HS := Lib.hid hsrc
  clear hsrc h1 h2 hb hg hc4 hc1 hc2
  go_wp2_with (refine wpList_copy_whole rfl _ _ 28 28 rfl 44 4 Try.underlying28 hsz' w.heap.size n A n c rfl rfl cur 44 D.out.2 (l.flatMap (Opn.cs)) H.out.2.1 hc3 HS.out H.out.2.2 ?_)
  have HR := Lib.hid (And.intro (setRow_at (cs := (l.flatMap (Opn.cs)).toArray) D.out.2) (below_setRow D.out.1 (Nat.le_refl _) ((l.flatMap (Opn.cs)).toArray)))
  obtain ⟨w2, hw2⟩ : ∃ w2, w1.setRow w.heap.size (l.flatMap (Opn.cs)).toArray = w2 := ⟨_, rfl⟩
  rw [hw2] at HR ⊢
  go_wp2_with fail
  go_ret
  exact ⟨rfl, HR.out.1, HR.out.2⟩
theorem info71_own : (Try.prog.info? 71).map (fun i => (i.zero, i.size, i.bytes)) = some (some (.agg #[.int .i64 0, .int .i64 0]), 2, 16) := by kernel_rfl
theorem own52_v (A : Option Addr) (n c : Nat) (l : List Rg) (w : World) (h : IsRegs w A n l) (hn : n ≤ 1048576) : Calls Try.prog 52 #[.slice A n c] w fun e w' => NewAt w w' e n (l.flatMap (Rg.cs)) 71 := by
  obtain ⟨i, hi, hinfo⟩ := Option.map_eq_some_iff.1 info71_own
  have hz1 : i.zero = some (.agg #[.int .i64 0, .int .i64 0]) := congrArg Prod.fst hinfo
  have hsz : i.size = 2 := congrArg (fun x => x.2.1) hinfo
  have hby : i.bytes = 16 := congrArg (fun x => x.2.2) hinfo
  have hlen : (l.flatMap (Rg.cs)).length = n * 2 := by rw [flat_len _ 2 (fun x => rfl), h.1]
  have hone : ∀ v ∈ l.flatMap (Rg.cs), v.oneCell' = true := (fun v hv => by
    obtain ⟨x, _, hx⟩ := List.mem_flatMap.1 hv
    have hx' : v ∈ x.cs := hx
    unfold Rg.cs at hx'
    simp at hx'
    rcases hx' with rfl | rfl <;> rfl)
  have hsz' : (Try.prog.info? 71).map (·.size) = some 2 := by rw [hi]; simp [hsz]
  have H := Lib.hid (And.intro h (And.intro hlen hone))
  clear hlen hone h
  go_enter Try.func52, Try.ntmps52
  go_wp2_with (refine wpList_make_full _ rfl _ _ _ rfl w.heap.size 71 i (.agg #[.int .i64 0, .int .i64 0]) 2 Try.underlying27 hi hz1 hsz .i64 .i64 _ _ n rfl rfl rfl rfl (by rw [hby]; omega) (by unfold maxLen; omega) (by simp) ?_)
  intro w1 h1 h2
  obtain ⟨g0, cap, cur, hv, hb, hg, hc1, hc2, hc3, hc4⟩ : ∃ g cap cur, (Value.slice (some ⟨w.heap.size, 0, none⟩) n n) = .slice (some ⟨g, 0, none⟩) n cap ∧ w.heap.size ≤ g ∧ w1.heap[g]? = some (.cells cur 71 (0, 0)) ∧ n ≤ cap ∧ cap ≤ maxLen ∧ cur.size = cap * 2 ∧ cur.toList.take (n * 2) = _ := by
    rcases h1.2 with ⟨hx, _⟩ | hx
    · cases hx
    · exact hx
  injection hv with e1 _ e2
  injection e1 with e1
  injection e1 with e1
  subst e1
  subst e2
  have B1 : Below w.heap.size w w1 := (Below.refl _ w).grown h2 (Nat.le_refl _) (fun k hk => by cases hk)
  have D := Lib.hid (And.intro B1 hg)
  have hsrc : 0 < n → ∃ ad, A = some ad ∧ ∀ j v, (l.flatMap (Rg.cs))[j]? = some v → w1.cell? (ad.add j) = some v := (fun hn0 => by
    rcases (H.out.1.below B1) with ⟨e1, e2, e3 | ⟨b, o, rfl, hb2, hcell⟩⟩
    · exfalso; rw [e3] at e1; simp at e1; omega
    · refine ⟨_, rfl, flat_src _ 2 (by omega) (fun x => rfl) l w1 b o (fun k hk j u hj hu => ?_)⟩
      obtain ⟨q0, q1⟩ := hcell k hk
      match j, hj with
      | 0, _ => rw [show ((Rg.cs) l[k])[0]? = _ from rfl] at hu; injection hu with hu; subst hu; exact q0
      | 1, _ => rw [show ((Rg.cs) l[k])[1]? = _ from rfl] at hu; injection hu with hu; subst hu; exact q1
    )
  have HS := Lib.hid hsrc
  clear hsrc h1 h2 hb hg hc4 hc1 hc2
  go_wp2_with (refine wpList_copy_whole rfl _ _ 27 27 rfl 71 2 Try.underlying27 hsz' w.heap.size n A n c rfl rfl cur 71 D.out.2 (l.flatMap (Rg.cs)) H.out.2.1 hc3 HS.out H.out.2.2 ?_)
  have HR := Lib.hid (And.intro (setRow_at (cs := (l.flatMap (Rg.cs)).toArray) D.out.2) (below_setRow D.out.1 (Nat.le_refl _) ((l.flatMap (Rg.cs)).toArray)))
  obtain ⟨w2, hw2⟩ : ∃ w2, w1.setRow w.heap.size (l.flatMap (Rg.cs)).toArray = w2 := ⟨_, rfl⟩
  rw [hw2] at HR ⊢
  go_wp2_with fail
  go_ret
  exact ⟨rfl, HR.out.1, HR.out.2⟩
theorem info9_own : (Try.prog.info? 9).map (fun i => (i.zero, i.size, i.bytes)) = some (some (.string ⟨#[]⟩), 1, 16) := by kernel_rfl
theorem own66_v (A : Option Addr) (n c : Nat) (l : List ByteArray) (w : World) (h : IsStrs w A n l) (hn : n ≤ 1048576) : Calls Try.prog 66 #[.slice A n c] w fun e w' => NewAt w w' e n (l.flatMap (strC)) 9 := by
  obtain ⟨i, hi, hinfo⟩ := Option.map_eq_some_iff.1 info9_own
  have hz1 : i.zero = some (.string ⟨#[]⟩) := congrArg Prod.fst hinfo
  have hsz : i.size = 1 := congrArg (fun x => x.2.1) hinfo
  have hby : i.bytes = 16 := congrArg (fun x => x.2.2) hinfo
  have hlen : (l.flatMap (strC)).length = n * 1 := by rw [flat_len _ 1 (fun x => rfl), h.1]
  have hone : ∀ v ∈ l.flatMap (strC), v.oneCell' = true := (fun v hv => by
    obtain ⟨x, _, hx⟩ := List.mem_flatMap.1 hv
    have hx' : v ∈ strC x := hx
    unfold strC at hx'
    simp at hx'
    rw [hx']; rfl)
  have hsz' : (Try.prog.info? 9).map (·.size) = some 1 := by rw [hi]; simp [hsz]
  have H := Lib.hid (And.intro h (And.intro hlen hone))
  clear hlen hone h
  go_enter Try.func66, Try.ntmps66
  go_wp2_with (refine wpList_make_full _ rfl _ _ _ rfl w.heap.size 9 i (.string ⟨#[]⟩) 1 Try.underlying49 hi hz1 hsz .i64 .i64 _ _ n rfl rfl rfl rfl (by rw [hby]; omega) (by unfold maxLen; omega) (by simp) ?_)
  intro w1 h1 h2
  obtain ⟨g0, cap, cur, hv, hb, hg, hc1, hc2, hc3, hc4⟩ : ∃ g cap cur, (Value.slice (some ⟨w.heap.size, 0, none⟩) n n) = .slice (some ⟨g, 0, none⟩) n cap ∧ w.heap.size ≤ g ∧ w1.heap[g]? = some (.cells cur 9 (0, 0)) ∧ n ≤ cap ∧ cap ≤ maxLen ∧ cur.size = cap * 1 ∧ cur.toList.take (n * 1) = _ := by
    rcases h1.2 with ⟨hx, _⟩ | hx
    · cases hx
    · exact hx
  injection hv with e1 _ e2
  injection e1 with e1
  injection e1 with e1
  subst e1
  subst e2
  have B1 : Below w.heap.size w w1 := (Below.refl _ w).grown h2 (Nat.le_refl _) (fun k hk => by cases hk)
  have D := Lib.hid (And.intro B1 hg)
  have hsrc : 0 < n → ∃ ad, A = some ad ∧ ∀ j v, (l.flatMap (strC))[j]? = some v → w1.cell? (ad.add j) = some v := (fun hn0 => by
    rcases (H.out.1.below B1) with ⟨e1, e2, e3 | ⟨b, o, rfl, hb2, hcell⟩⟩
    · exfalso; rw [e3] at e1; simp at e1; omega
    · refine ⟨_, rfl, flat_src _ 1 (by omega) (fun x => rfl) l w1 b o (fun k hk j u hj hu => ?_)⟩
      obtain rfl : j = 0 := by omega
      rw [show ((strC) l[k])[0]? = _ from rfl] at hu; injection hu with hu; subst hu
      rw [Nat.mul_one, Nat.add_zero]; exact hcell k hk)
  have HS := Lib.hid hsrc
  clear hsrc h1 h2 hb hg hc4 hc1 hc2
  go_wp2_with (refine wpList_copy_whole rfl _ _ 49 49 rfl 9 1 Try.underlying49 hsz' w.heap.size n A n c rfl rfl cur 9 D.out.2 (l.flatMap (strC)) H.out.2.1 hc3 HS.out H.out.2.2 ?_)
  have HR := Lib.hid (And.intro (setRow_at (cs := (l.flatMap (strC)).toArray) D.out.2) (below_setRow D.out.1 (Nat.le_refl _) ((l.flatMap (strC)).toArray)))
  obtain ⟨w2, hw2⟩ : ∃ w2, w1.setRow w.heap.size (l.flatMap (strC)).toArray = w2 := ⟨_, rfl⟩
  rw [hw2] at HR ⊢
  go_wp2_with fail
  go_ret
  exact ⟨rfl, HR.out.1, HR.out.2⟩
theorem info3_own : (Try.prog.info? 3).map (fun i => (i.zero, i.size, i.bytes)) = some (some (.int .i64 0), 1, 8) := by kernel_rfl
theorem own67_v (A : Option Addr) (n c : Nat) (l : List Int) (w : World) (h : IsInts w A n l) (hn : n ≤ 1048576) : Calls Try.prog 67 #[.slice A n c] w fun e w' => NewAt w w' e n (l.flatMap (intC)) 3 := by
  obtain ⟨i, hi, hinfo⟩ := Option.map_eq_some_iff.1 info3_own
  have hz1 : i.zero = some (.int .i64 0) := congrArg Prod.fst hinfo
  have hsz : i.size = 1 := congrArg (fun x => x.2.1) hinfo
  have hby : i.bytes = 8 := congrArg (fun x => x.2.2) hinfo
  have hlen : (l.flatMap (intC)).length = n * 1 := by rw [flat_len _ 1 (fun x => rfl), h.1]
  have hone : ∀ v ∈ l.flatMap (intC), v.oneCell' = true := (fun v hv => by
    obtain ⟨x, _, hx⟩ := List.mem_flatMap.1 hv
    have hx' : v ∈ intC x := hx
    unfold intC at hx'
    simp at hx'
    rw [hx']; rfl)
  have hsz' : (Try.prog.info? 3).map (·.size) = some 1 := by rw [hi]; simp [hsz]
  have H := Lib.hid (And.intro h (And.intro hlen hone))
  clear hlen hone h
  go_enter Try.func67, Try.ntmps67
  go_wp2_with (refine wpList_make_full _ rfl _ _ _ rfl w.heap.size 3 i (.int .i64 0) 1 Try.underlying23 hi hz1 hsz .i64 .i64 _ _ n rfl rfl rfl rfl (by rw [hby]; omega) (by unfold maxLen; omega) (by simp) ?_)
  intro w1 h1 h2
  obtain ⟨g0, cap, cur, hv, hb, hg, hc1, hc2, hc3, hc4⟩ : ∃ g cap cur, (Value.slice (some ⟨w.heap.size, 0, none⟩) n n) = .slice (some ⟨g, 0, none⟩) n cap ∧ w.heap.size ≤ g ∧ w1.heap[g]? = some (.cells cur 3 (0, 0)) ∧ n ≤ cap ∧ cap ≤ maxLen ∧ cur.size = cap * 1 ∧ cur.toList.take (n * 1) = _ := by
    rcases h1.2 with ⟨hx, _⟩ | hx
    · cases hx
    · exact hx
  injection hv with e1 _ e2
  injection e1 with e1
  injection e1 with e1
  subst e1
  subst e2
  have B1 : Below w.heap.size w w1 := (Below.refl _ w).grown h2 (Nat.le_refl _) (fun k hk => by cases hk)
  have D := Lib.hid (And.intro B1 hg)
  have hsrc : 0 < n → ∃ ad, A = some ad ∧ ∀ j v, (l.flatMap (intC))[j]? = some v → w1.cell? (ad.add j) = some v := (fun hn0 => by
    rcases (H.out.1.below B1) with ⟨e1, e2, e3 | ⟨b, o, rfl, hb2, hcell⟩⟩
    · exfalso; rw [e3] at e1; simp at e1; omega
    · refine ⟨_, rfl, flat_src _ 1 (by omega) (fun x => rfl) l w1 b o (fun k hk j u hj hu => ?_)⟩
      obtain rfl : j = 0 := by omega
      rw [show ((intC) l[k])[0]? = _ from rfl] at hu; injection hu with hu; subst hu
      rw [Nat.mul_one, Nat.add_zero]; exact hcell k hk)
  have HS := Lib.hid hsrc
  clear hsrc h1 h2 hb hg hc4 hc1 hc2
  go_wp2_with (refine wpList_copy_whole rfl _ _ 23 23 rfl 3 1 Try.underlying23 hsz' w.heap.size n A n c rfl rfl cur 3 D.out.2 (l.flatMap (intC)) H.out.2.1 hc3 HS.out H.out.2.2 ?_)
  have HR := Lib.hid (And.intro (setRow_at (cs := (l.flatMap (intC)).toArray) D.out.2) (below_setRow D.out.1 (Nat.le_refl _) ((l.flatMap (intC)).toArray)))
  obtain ⟨w2, hw2⟩ : ∃ w2, w1.setRow w.heap.size (l.flatMap (intC)).toArray = w2 := ⟨_, rfl⟩
  rw [hw2] at HR ⊢
  go_wp2_with fail
  go_ret
  exact ⟨rfl, HR.out.1, HR.out.2⟩
def cellsBlks (n : Nat) (R : Nat → BlkV) (l : List Blk) : List Value := (List.range n).flatMap (fun k => (blkR (l.getD k default) (R k)).toList)
theorem info48_own : (Try.prog.info? 48).map (fun i => (i.zero, i.size, i.bytes)) = some (some (.agg #[.string ⟨#[]⟩, .bool false, .slice none 0 0, .slice none 0 0]), 4, 72) := by kernel_rfl
theorem own54_v (A : Option Addr) (n c : Nat) (R : Nat → BlkV) (l : List Blk) (w : World) (h : IsBlks w A n R l) (hn : n ≤ 1048576) : Calls Try.prog 54 #[.slice A n c] w fun e w' => NewAt w w' e n (cellsBlks n R l) 48 := by
  obtain ⟨i, hi, hinfo⟩ := Option.map_eq_some_iff.1 info48_own
  have hz1 : i.zero = some (.agg #[.string ⟨#[]⟩, .bool false, .slice none 0 0, .slice none 0 0]) := congrArg Prod.fst hinfo
  have hsz : i.size = 4 := congrArg (fun x => x.2.1) hinfo
  have hby : i.bytes = 72 := congrArg (fun x => x.2.2) hinfo
  have hlen : (cellsBlks n R l).length = n * 4 := by unfold cellsBlks; rw [flat_len _ 4 (fun x => rfl), List.length_range]
  have hone : ∀ v ∈ cellsBlks n R l, v.oneCell' = true := (fun v hv => by
    unfold cellsBlks at hv
    obtain ⟨x, _, hx⟩ := List.mem_flatMap.1 hv
    unfold blkR at hx
    simp at hx
    rcases hx with rfl | rfl | rfl | rfl <;> rfl)
  have hsz' : (Try.prog.info? 48).map (·.size) = some 4 := by rw [hi]; simp [hsz]
  have H := Lib.hid (And.intro h (And.intro hlen hone))
  clear hlen hone h
  go_enter Try.func54, Try.ntmps54
  go_wp2_with (refine wpList_make_full _ rfl _ _ _ rfl w.heap.size 48 i (.agg #[.string ⟨#[]⟩, .bool false, .slice none 0 0, .slice none 0 0]) 4 Try.underlying29 hi hz1 hsz .i64 .i64 _ _ n rfl rfl rfl rfl (by rw [hby]; omega) (by unfold maxLen; omega) (by simp) ?_)
  intro w1 h1 h2
  obtain ⟨g0, cap, cur, hv, hb, hg, hc1, hc2, hc3, hc4⟩ : ∃ g cap cur, (Value.slice (some ⟨w.heap.size, 0, none⟩) n n) = .slice (some ⟨g, 0, none⟩) n cap ∧ w.heap.size ≤ g ∧ w1.heap[g]? = some (.cells cur 48 (0, 0)) ∧ n ≤ cap ∧ cap ≤ maxLen ∧ cur.size = cap * 4 ∧ cur.toList.take (n * 4) = _ := by
    rcases h1.2 with ⟨hx, _⟩ | hx
    · cases hx
    · exact hx
  injection hv with e1 _ e2
  injection e1 with e1
  injection e1 with e1
  subst e1
  subst e2
  have B1 : Below w.heap.size w w1 := (Below.refl _ w).grown h2 (Nat.le_refl _) (fun k hk => by cases hk)
  have D := Lib.hid (And.intro B1 hg)
  have hsrc : 0 < n → ∃ ad, A = some ad ∧ ∀ j v, (cellsBlks n R l)[j]? = some v → w1.cell? (ad.add j) = some v := (fun hn0 => by
    rcases (H.out.1.below B1) with ⟨e1, e2, e3 | ⟨b, o, rfl, hb2, hcell⟩, _⟩
    · exfalso; rw [e3] at e1; simp at e1; omega
    · unfold cellsBlks
      refine ⟨_, rfl, flat_src _ 4 (by omega) (fun x => rfl) (List.range n) w1 b o (fun k hk j u hj hu => ?_)⟩
      have hk2 : k < n := by simpa using hk
      obtain ⟨q0, q1, q2, q3⟩ := hcell k (by omega)
      have hgd : l.getD k default = l[k]'(by omega) := by rw [List.getD_eq_getElem?_getD, List.getElem?_eq_getElem (by omega)]; rfl
      rw [List.getElem_range, hgd] at hu
      match j, hj with
      | 0, _ => rw [show ((blkR (l[k]'(by omega)) (R k)).toList)[0]? = _ from rfl] at hu; injection hu with hu; subst hu; exact q0
      | 1, _ => rw [show ((blkR (l[k]'(by omega)) (R k)).toList)[1]? = _ from rfl] at hu; injection hu with hu; subst hu; exact q1
      | 2, _ => rw [show ((blkR (l[k]'(by omega)) (R k)).toList)[2]? = _ from rfl] at hu; injection hu with hu; subst hu; exact q2
      | 3, _ => rw [show ((blkR (l[k]'(by omega)) (R k)).toList)[3]? = _ from rfl] at hu; injection hu with hu; subst hu; exact q3
    )
  have HS := Lib.hid hsrc
  clear hsrc h1 h2 hb hg hc4 hc1 hc2
  go_wp2_with (refine wpList_copy_whole rfl _ _ 29 29 rfl 48 4 Try.underlying29 hsz' w.heap.size n A n c rfl rfl cur 48 D.out.2 (cellsBlks n R l) H.out.2.1 hc3 HS.out H.out.2.2 ?_)
  have HR := Lib.hid (And.intro (setRow_at (cs := (cellsBlks n R l).toArray) D.out.2) (below_setRow D.out.1 (Nat.le_refl _) ((cellsBlks n R l).toArray)))
  obtain ⟨w2, hw2⟩ : ∃ w2, w1.setRow w.heap.size (cellsBlks n R l).toArray = w2 := ⟨_, rfl⟩
  rw [hw2] at HR ⊢
  go_wp2_with fail
  go_ret
  exact ⟨rfl, HR.out.1, HR.out.2⟩
def cellsCode (n : Nat) (R : Nat → InsV) (l : List Ins) : List Value := (List.range n).flatMap (fun k => (insR (l.getD k default) (R k)).toList)
theorem info51_own : (Try.prog.info? 51).map (fun i => (i.zero, i.size, i.bytes)) = some (some (.agg #[.int .i64 0, .int .i64 0, .int .i64 0, .int .i64 0, .int .i64 0, .slice none 0 0, .string ⟨#[]⟩, .int .i64 0, .slice none 0 0, .slice none 0 0]), 10, 136) := by kernel_rfl
theorem own55_v (A : Option Addr) (n c : Nat) (R : Nat → InsV) (l : List Ins) (w : World) (h : IsCode w A n R l) (hn : n ≤ 1048576) : Calls Try.prog 55 #[.slice A n c] w fun e w' => NewAt w w' e n (cellsCode n R l) 51 := by
  obtain ⟨i, hi, hinfo⟩ := Option.map_eq_some_iff.1 info51_own
  have hz1 : i.zero = some (.agg #[.int .i64 0, .int .i64 0, .int .i64 0, .int .i64 0, .int .i64 0, .slice none 0 0, .string ⟨#[]⟩, .int .i64 0, .slice none 0 0, .slice none 0 0]) := congrArg Prod.fst hinfo
  have hsz : i.size = 10 := congrArg (fun x => x.2.1) hinfo
  have hby : i.bytes = 136 := congrArg (fun x => x.2.2) hinfo
  have hlen : (cellsCode n R l).length = n * 10 := by unfold cellsCode; rw [flat_len _ 10 (fun x => rfl), List.length_range]
  have hone : ∀ v ∈ cellsCode n R l, v.oneCell' = true := (fun v hv => by
    unfold cellsCode at hv
    obtain ⟨x, _, hx⟩ := List.mem_flatMap.1 hv
    unfold insR at hx
    simp at hx
    rcases hx with rfl | rfl | rfl | rfl | rfl | rfl | rfl | rfl | rfl | rfl <;> rfl)
  have hsz' : (Try.prog.info? 51).map (·.size) = some 10 := by rw [hi]; simp [hsz]
  have H := Lib.hid (And.intro h (And.intro hlen hone))
  clear hlen hone h
  go_enter Try.func55, Try.ntmps55
  go_wp2_with (refine wpList_make_full _ rfl _ _ _ rfl w.heap.size 51 i (.agg #[.int .i64 0, .int .i64 0, .int .i64 0, .int .i64 0, .int .i64 0, .slice none 0 0, .string ⟨#[]⟩, .int .i64 0, .slice none 0 0, .slice none 0 0]) 10 Try.underlying46 hi hz1 hsz .i64 .i64 _ _ n rfl rfl rfl rfl (by rw [hby]; omega) (by unfold maxLen; omega) (by simp) ?_)
  intro w1 h1 h2
  obtain ⟨g0, cap, cur, hv, hb, hg, hc1, hc2, hc3, hc4⟩ : ∃ g cap cur, (Value.slice (some ⟨w.heap.size, 0, none⟩) n n) = .slice (some ⟨g, 0, none⟩) n cap ∧ w.heap.size ≤ g ∧ w1.heap[g]? = some (.cells cur 51 (0, 0)) ∧ n ≤ cap ∧ cap ≤ maxLen ∧ cur.size = cap * 10 ∧ cur.toList.take (n * 10) = _ := by
    rcases h1.2 with ⟨hx, _⟩ | hx
    · cases hx
    · exact hx
  injection hv with e1 _ e2
  injection e1 with e1
  injection e1 with e1
  subst e1
  subst e2
  have B1 : Below w.heap.size w w1 := (Below.refl _ w).grown h2 (Nat.le_refl _) (fun k hk => by cases hk)
  have D := Lib.hid (And.intro B1 hg)
  have hsrc : 0 < n → ∃ ad, A = some ad ∧ ∀ j v, (cellsCode n R l)[j]? = some v → w1.cell? (ad.add j) = some v := (fun hn0 => by
    rcases (H.out.1.below B1) with ⟨e1, e2, e3 | ⟨b, o, rfl, hb2, hcell⟩, _⟩
    · exfalso; rw [e3] at e1; simp at e1; omega
    · unfold cellsCode
      refine ⟨_, rfl, flat_src _ 10 (by omega) (fun x => rfl) (List.range n) w1 b o (fun k hk j u hj hu => ?_)⟩
      have hk2 : k < n := by simpa using hk
      obtain ⟨q0, q1, q2, q3, q4, q5, q6, q7, q8, q9⟩ := hcell k (by omega)
      have hgd : l.getD k default = l[k]'(by omega) := by rw [List.getD_eq_getElem?_getD, List.getElem?_eq_getElem (by omega)]; rfl
      rw [List.getElem_range, hgd] at hu
      match j, hj with
      | 0, _ => rw [show ((insR (l[k]'(by omega)) (R k)).toList)[0]? = _ from rfl] at hu; injection hu with hu; subst hu; exact q0
      | 1, _ => rw [show ((insR (l[k]'(by omega)) (R k)).toList)[1]? = _ from rfl] at hu; injection hu with hu; subst hu; exact q1
      | 2, _ => rw [show ((insR (l[k]'(by omega)) (R k)).toList)[2]? = _ from rfl] at hu; injection hu with hu; subst hu; exact q2
      | 3, _ => rw [show ((insR (l[k]'(by omega)) (R k)).toList)[3]? = _ from rfl] at hu; injection hu with hu; subst hu; exact q3
      | 4, _ => rw [show ((insR (l[k]'(by omega)) (R k)).toList)[4]? = _ from rfl] at hu; injection hu with hu; subst hu; exact q4
      | 5, _ => rw [show ((insR (l[k]'(by omega)) (R k)).toList)[5]? = _ from rfl] at hu; injection hu with hu; subst hu; exact q5
      | 6, _ => rw [show ((insR (l[k]'(by omega)) (R k)).toList)[6]? = _ from rfl] at hu; injection hu with hu; subst hu; exact q6
      | 7, _ => rw [show ((insR (l[k]'(by omega)) (R k)).toList)[7]? = _ from rfl] at hu; injection hu with hu; subst hu; exact q7
      | 8, _ => rw [show ((insR (l[k]'(by omega)) (R k)).toList)[8]? = _ from rfl] at hu; injection hu with hu; subst hu; exact q8
      | 9, _ => rw [show ((insR (l[k]'(by omega)) (R k)).toList)[9]? = _ from rfl] at hu; injection hu with hu; subst hu; exact q9
    )
  have HS := Lib.hid hsrc
  clear hsrc h1 h2 hb hg hc4 hc1 hc2
  go_wp2_with (refine wpList_copy_whole rfl _ _ 46 46 rfl 51 10 Try.underlying46 hsz' w.heap.size n A n c rfl rfl cur 51 D.out.2 (cellsCode n R l) H.out.2.1 hc3 HS.out H.out.2.2 ?_)
  have HR := Lib.hid (And.intro (setRow_at (cs := (cellsCode n R l).toArray) D.out.2) (below_setRow D.out.1 (Nat.le_refl _) ((cellsCode n R l).toArray)))
  obtain ⟨w2, hw2⟩ : ∃ w2, w1.setRow w.heap.size (cellsCode n R l).toArray = w2 := ⟨_, rfl⟩
  rw [hw2] at HR ⊢
  go_wp2_with fail
  go_ret
  exact ⟨rfl, HR.out.1, HR.out.2⟩
end Go.Proofs.Ytocelaebokikcaa
