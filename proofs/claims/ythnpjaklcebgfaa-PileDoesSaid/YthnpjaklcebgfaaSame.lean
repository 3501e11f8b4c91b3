/- What the statements' own comparison of two lists answers, where they are the same; and a list that is copied. -/
import Derived.Test.YthnpjaklcebgfaaWorks
import Derived.Laws.AppendOwnNone
namespace Go.Proofs.Ythnpjaklcebgfaa
open Go.ChangeShapes Go.WideShapes Go.RowKit
set_option linter.unusedVariables false

/-- 'append(own, xs...)', xs nil or not. -/
theorem wpList_append_any {P : Program} {w : World} {ops : Array Oper} {rest : List Oper} {o : Oper} {a : Act} {Q : Exit → Act → World → Prop} (hgd : o.guard = none) (s x : Operand) (t : TypeId)
    (ho : o.op = .call { callee := .builtin .append, args := #[s, x], argTypes := #[t, t] })
    (base : Nat) (e : TypeId) (i : TypeInfo) (z : Value) (size bytes : Nat) (ht : P.underlying t = some (.slice e)) (hi : P.info? e = some i) (hz : i.zero = some z)
    (hsize : i.size = size) (hby : i.bytes = bytes) (hzs : z.cells.size = size) (hsz : 0 < size)
    (v : Value) (n : Nat) (xs : List Value) (hs : a.eval s = v) (hown : w.ownsRow base e size v n xs)
    (A : Option Addr) (m c : Nat) (news : List Value) (hx : a.eval x = .slice A m c) (hA : A = none → m = 0 ∧ c = 0 ∧ news = []) (hl : news.length = m * size) (hnews : ∀ ad, A = some ad → ∀ j u, news[j]? = some u → w.cell? (ad.add j) = some u) (h1 : ∀ u ∈ news, u.oneCell' = true)
    (h63 : n + m ≤ maxLen) (hbytes : (n + m) * bytes ≤ 140737488355328) (hbase : base ≤ w.heap.size)
    (h : ∀ v' w', w'.ownsRow base e size v' (n + m) (xs ++ news) → w.grownBy w' v.ownBlock → wpList P ops Q rest (a.put o.dst v') w') : wpList P ops Q (o :: rest) a w := by
  cases A with
  | none =>
    obtain ⟨rfl, rfl, rfl⟩ := hA rfl
    refine wpList_append_own_none hgd s x t ho base e i size ht hi v n xs hs hown hx ?_
    exact h v w (by simpa using hown) ⟨rfl, rfl, rfl, Nat.le_refl _, fun _ _ _ => rfl⟩
  | some ad => exact wpList_append_own w hgd s x t ho base e i z size bytes ht hi hz hsize hby hzs hsz v n xs hs hown ad m c news hx hl (hnews ad rfl) h1 h63 hbytes hbase (fun v' w' h2 h3 _ => h v' w' h2 h3)
theorem add_at (b o j : Nat) : (⟨b, o, none⟩ : Addr).add j = ⟨b, o + j, none⟩ := by unfold Addr.add; split <;> simp_all
theorem its_news {w : World} {A : Option Addr} {l : List It} (h : Its w A l) : ∀ ad, A = some ad → ∀ j u, (cs l)[j]? = some u → w.cell? (ad.add j) = some u := by
  intro ad hA j u hj
  rcases h with rfl | ⟨b, o, h1, h2, h3⟩
  · simp [cs] at hj
  · rw [h1] at hA
    injection hA with hA
    subst hA
    have hl : j < l.length * 2 := by
      rcases Nat.lt_or_ge j (l.length * 2) with k | k
      · exact k
      · rw [List.getElem?_eq_none (by rw [cs_len]; exact k)] at hj; cases hj
    obtain ⟨k1, k2⟩ := cs_key l (j / 2) (by omega)
    obtain ⟨c1, c2⟩ := h3 (j / 2) (by omega)
    rw [add_at]
    rcases Nat.mod_two_eq_zero_or_one j with e | e
    · rw [show o + j = o + j / 2 * 2 by omega, c1]
      rw [show j = j / 2 * 2 by omega, k1] at hj
      exact hj
    · rw [show o + j = o + j / 2 * 2 + 1 by omega, c2]
      rw [show j = j / 2 * 2 + 1 by omega, k2] at hj
      exact hj
theorem own_slice {N : Nat} {w : World} {v : Value} {l : List It} (h : w.ownsRow N 28 2 v l.length (cs l)) : ∃ A c, v = .slice A l.length c ∧ OwnI N w A c l := by
  rcases h.2 with ⟨hv, h0⟩ | ⟨g, cap, cur, hv, _⟩
  · refine ⟨none, 0, by rw [hv, h0], ?_⟩
    unfold OwnI; subst hv; rw [h0] at h ⊢; exact h
  · exact ⟨_, _, hv, by unfold OwnI; rw [← hv]; exact h⟩
theorem quietN (w : World) (n : Nat) (row : Option Nat) : w.grownBy (w.drewN n) row := ⟨rfl, rfl, rfl, Nat.le_refl _, fun _ _ _ => rfl⟩
set_option maxHeartbeats 1000000 in
theorem same_v (A A' : Option Addr) (n c c' : Nat) (l : List It) (hn : l.length = n) (hn2 : n ≤ 100000) (w : World) (h : Its w A l) (h' : Its w A' l) :
    Calls Try.prog 15 #[.slice A n c, .slice A' n c'] w fun e w' => e = .returned (.bool true) ∧ w.grownBy w' none := by
  have H0 := Lib.hid (And.intro h (And.intro h' hn))
  clear h h' hn
  go_enter Try.func15, Try.ntmps15
  go_wp2_with fail
  go_loopg [5] n (fun gk u wr => ∃ k : Nat, k + gk = n ∧ u = .int .i64 (k : Int) ∧ Hid (w.grownBy wr none))
  case atStart => exact ⟨0, by omega, rfl, World.grownBy.refl _ _⟩
  case round =>
    obtain ⟨k, hk, rfl, HH⟩ := hrel
    by_cases hlt : k < n
    · obtain ⟨h, h', hn⟩ := H0.out
      have hkl : k < l.length := by omega
      rcases h.grow HH.out with h0 | ⟨b, o, rfl, hb, hc⟩
      · rw [h0] at hkl; cases hkl
      rcases h'.grow HH.out with h0 | ⟨b', o', rfl, hb', hc'⟩
      · rw [h0] at hkl; cases hkl
      obtain ⟨c1, c2⟩ := hc k hkl
      obtain ⟨c3, c4⟩ := hc' k hkl
      generalize ia l k = x at c1 c2 c3 c4
      obtain ⟨a, d⟩ := x
      have i1 : (k : Int) < (n : Int) := by omega
      have E := eqIn28 a d a d true (by simp)
      have E2 := neq28 a d a d false (by simp)
      clear h h' hn hkl hc hc'
      go_wp2_with fail
      go_quiet (fail)
      go_wp2_with fail
      go_roundg (gk - 1)
      case measure => omega
      case rel => exact ⟨k + 1, by omega, by go_num, gtrans HH.out (quietN _ _ _)⟩
    · obtain rfl : k = n := by omega
      have hge : ¬ (k : Int) < (k : Int) := by omega
      go_wp2_with fail
      go_ret
      exact ⟨rfl, HH.out⟩
end Go.Proofs.Ythnpjaklcebgfaa
