/- What FaultTwo's walk leans on: arrays of two numbers held against each other, texts appended to a slice of its own, made where a region draws its order. -/
import Derived.Test.YtnpdmcgfhieepaaDoorTells
import Derived.Test.YtnpdmcgfhieepaaDoorTwoMath
import Derived.ChangeKeysEq
import Derived.Laws.AppendOwnNone
namespace Go.Proofs.YtnpdmcgfhieepaaDoor
open Go.RowKit Go.Extern.Stop Go.Stop Go.Extern
set_option linter.unusedVariables false

theorem part36_0 (x y : Int) (w : World) : (part 3 #[.int .i64 x, .int .i64 y] 0).run Tryd.prog w = .ok (.int .i64 x) w := by kernel_rfl
theorem info3 : ∃ i, Tryd.prog.info? 3 = some i := by
  have h : (Tryd.prog.info? 3).isSome = true := by kernel_rfl
  exact Option.isSome_iff_exists.1 h
theorem eql36 (x y a b : Int) (w : World) : (binOp .eql 36 (.agg #[.int .i64 x, .int .i64 y]) (.agg #[.int .i64 a, .int .i64 b])).run Tryd.prog w = .ok (.bool (x == a && y == b)) w := by
  obtain ⟨i, hi⟩ := info3
  have hc : Tryd.prog.cellsOf 3 = 1 := by kernel_rfl
  have h : (Op.equalIn 10000 36 (.agg #[.int .i64 x, .int .i64 y]) (.agg #[.int .i64 a, .int .i64 b])).run Tryd.prog w = .ok (x == a && y == b) w := by
    rw [run_equalIn_array w 9999 _ _ Tryd.underlying36 hi, hc]
    simp only [show List.range 2 = [0, 1] from rfl, Op.eqItems, Sem.run_bind, Nat.zero_mul, Nat.one_mul, part36_0, Result.andThen_ok, run_equalIn_int _ _ _ _ _ _ _ Tryd.underlying3]
    cases h1 : x == a <;> cases h2 : y == b <;> simp [part1, run_equalIn_int _ _ _ _ _ _ _ Tryd.underlying3, h2]
  rw [run_eql_struct, h]
  rfl
theorem own_form_any {base : Nat} {w : World} {v : Value} {n : Nat} {xs : List Value} (h : w.ownsRow base 9 1 v n xs) : ∃ A c, v = .slice A n c := by
  rcases h.2 with ⟨hv, h0⟩ | ⟨g, cap, cur, hv, _⟩
  · exact ⟨none, 0, by rw [hv, h0]⟩
  · exact ⟨_, _, hv⟩
/-- 'append(own, xs...)', xs nil or not. -/
theorem wpList_append_any {P : Program} {w : World} {ops : Array Oper} {rest : List Oper} {o : Oper} {a : Act} {Q : Exit → Act → World → Prop} (hgd : o.guard = none) (s x : Operand) (t : TypeId)
    (ho : o.op = .call { callee := .builtin .append, args := #[s, x], argTypes := #[t, t] })
    (base : Nat) (e : TypeId) (i : TypeInfo) (z : Value) (size bytes : Nat) (ht : P.underlying t = some (.slice e)) (hi : P.info? e = some i) (hz : i.zero = some z)
    (hsize : i.size = size) (hby : i.bytes = bytes) (hzs : z.cells.size = size) (hsz : 0 < size)
    (v : Value) (n : Nat) (xs : List Value) (hs : a.eval s = v) (hown : w.ownsRow base e size v n xs)
    (A : Option Addr) (m c : Nat) (news : List Value) (hx : a.eval x = .slice A m c) (hA : A = none → m = 0 ∧ c = 0 ∧ news = []) (hl : news.length = m * size) (hnews : ∀ ad, A = some ad → ∀ j u, news[j]? = some u → w.cell? (ad.add j) = some u) (h1 : ∀ u ∈ news, u.oneCell' = true)
    (h63 : n + m ≤ maxLen) (hbytes : (n + m) * bytes ≤ 140737488355328) (hbase : base ≤ w.heap.size)
    (h : ∀ v' w', w'.ownsRow base e size v' (n + m) (xs ++ news) → w.grownBy w' v.ownBlock → wpList P ops Q rest (a.put o.dst v') w') : wpList P ops Q (o :: rest) a w := by
  cases A with
  | none =>
    obtain ⟨rfl, rfl, rfl⟩ := hA rfl
    refine wpList_append_own_none hgd s x t ho base e i size ht hi v n xs hs hown hx ?_
    exact h v w (by simpa using hown) ⟨rfl, rfl, rfl, Nat.le_refl _, fun _ _ _ => rfl⟩
  | some ad => exact wpList_append_own w hgd s x t ho base e i z size bytes ht hi hz hsize hby hzs hsz v n xs hs hown ad m c news hx hl (hnews ad rfl) h1 h63 hbytes hbase (fun v' w' h2 h3 _ => h v' w' h2 h3)
theorem one_texts (l : List ByteArray) : ∀ u ∈ texts l, u.oneCell' = true := by
  intro u hu
  obtain ⟨s, _, rfl⟩ := List.mem_map.1 hu
  rfl
theorem strs_news {w : World} {A : Option Addr} {ss : List ByteArray} (h : Strs w A ss) : ∀ ad, A = some ad → ∀ j u, (texts ss)[j]? = some u → w.cell? (ad.add j) = some u := by
  intro ad hA j u hj
  rcases h.2 with rfl | ⟨b, off, h1, h2, h3⟩
  · simp [texts] at hj
  · rw [h1] at hA
    injection hA with hA
    subst hA
    have hl : j < ss.length := by
      rcases Nat.lt_or_ge j ss.length with k | k
      · exact k
      · rw [List.getElem?_eq_none (by simpa [texts] using k)] at hj; cases hj
    have e : (⟨b, off, none⟩ : Addr).add j = ⟨b, off + j, none⟩ := by unfold Addr.add; split <;> simp_all
    rw [e, h3 j hl]
    simp [texts, hl] at hj
    rw [hj]
theorem strs_nil {w : World} {A : Option Addr} {c : Nat} {ss : List ByteArray} (h : Strs w A ss) (hc : A = none → c = 0) : A = none → ss.length = 0 ∧ c = 0 ∧ texts ss = [] := by
  intro hA
  rcases h.2 with rfl | ⟨b, off, h1, _⟩
  · exact ⟨rfl, hc hA, rfl⟩
  · rw [h1] at hA; cases hA
theorem made_q (code place : Int) (hc : ¬ code = 0) (A : Option Addr) (cap N : Nat) (ss : List ByteArray) (hN : ss.length = N) (hl : N ≤ 1000) (w : World) (h : Strs w A ss) :
    Calls Tryd.prog 7 #[.int .i64 code, .int .i64 place, .slice A N cap] w fun e w' => e = .returned (err code place ss) ∧ w' = w :=
  (made_v code place hc A cap N ss hN hl w h).mono fun e w' ⟨h1, h2⟩ => ⟨h1, h2.symm⟩
theorem made_d (code place : Int) (hc : ¬ code = 0) (A : Option Addr) (cap N : Nat) (ss : List ByteArray) (hN : ss.length = N) (hl : N ≤ 1000) (w wr : World) (n : Nat) (h : Strs w A ss) (hb : Below w.heap.size w wr) :
    Calls Tryd.prog 7 #[.int .i64 code, .int .i64 place, .slice A N cap] (wr.drewN n) fun e w'' => e = .returned (err code place ss) ∧ ∃ m, w'' = wr.drewN m :=
  (made_q code place hc A cap N ss hN hl (wr.drewN n) (h.below (hb.trans (below_drewN _ _ _)))).mono fun e w' ⟨h1, h2⟩ => ⟨h1, n, h2⟩
end Go.Proofs.YtnpdmcgfhieepaaDoor
