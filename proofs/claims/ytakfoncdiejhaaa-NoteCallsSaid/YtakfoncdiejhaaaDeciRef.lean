
/- What the document's own Put and Pad answer: a number's text, and with blanks ahead. -/
import Derived.Test.YtakfoncdiejhaaaDeciPut
import Derived.Maps.AppendAt
import Derived.Deep.AppendLies
import Derived.OwnWalk
namespace Go.Proofs.Ytakfoncdiejhaaa.Deci
open Go.ChangeShapes Go.WideShapes Go.RowKit
set_option linter.unusedVariables false
set_option maxRecDepth 20000

/-- So far out, the last digit first, has been taken of u, and left is left. -/
def D (u left : Nat) (out : List UInt8) : Prop := (out = [] ∧ left = u) ∨ (out ≠ [] ∧ digs u = (if left = 0 then [] else digs left) ++ out.reverse)
theorem D.step {u left : Nat} {out : List UInt8} (h : D u left out) (hg : 0 < left ∨ out = []) : D u (left / 10) (out ++ [dch left]) := by
  refine .inr ⟨by simp, ?_⟩
  rw [List.reverse_append]
  rcases h with ⟨rfl, rfl⟩ | ⟨hne, hd⟩
  · by_cases h0 : left / 10 = 0
    · rw [if_pos h0, digs_lt (by omega)]; rfl
    · rw [if_neg h0, digs_ge (by omega)]; rfl
  · have hp : left ≠ 0 := by
      rcases hg with h | h
      · omega
      · exact absurd h hne
    rw [if_neg hp] at hd
    by_cases h0 : left / 10 = 0
    · rw [if_pos h0, digs_end hd h0]; rfl
    · rw [if_neg h0, digs_go hd h0]; rfl
theorem D.done {u : Nat} {out : List UInt8} (h : D u 0 out) (hne : out ≠ []) : out = (digs u).reverse := by
  rcases h with ⟨h, _⟩ | ⟨_, hd⟩
  · exact absurd h hne
  · rw [hd]; simp
theorem D.len {u left : Nat} {out : List UInt8} (h : D u left out) : out.length ≤ (digs u).length := by
  rcases h with ⟨rfl, _⟩ | ⟨_, hd⟩
  · simp
  · rw [hd]; simp
theorem own_form {w : World} {base n : Nat} {v : Value} {xs : List Value} (h : w.ownsRow base 5 1 v (n + 1) xs) : ∃ g cap, v = .slice (some ⟨g, 0, none⟩) (n + 1) cap := by
  rcases h.2 with ⟨_, h0⟩ | ⟨g, cap, cur, hv, _⟩
  · omega
  · exact ⟨g, cap, hv⟩
theorem info5 : (Try.prog.info? 5).map (fun i => (i.zero, i.size, i.bytes)) = some (some (.int .u8 0), 1, 1) := by kernel_rfl
/-- What is handed back: a slice whose cells are l. -/
def DigsP (l : List UInt8) (w : World) (e : Ending) (w' : World) : Prop :=
  ∃ g cap, e = .returned (.slice (some ⟨g, 0, none⟩) l.length cap) ∧ (∀ j (h : j < l.length), w'.cell? ⟨g, j, none⟩ = some (.int .u8 (l[j].toNat : Int))) ∧ g < w'.heap.size ∧ Below w.heap.size w w'
def flagN (out : List UInt8) : Nat := if out = [] then 1 else 0
theorem own_done {w w' : World} {A : Option Addr} {c : Nat} {out : List UInt8} (h : w'.ownsRow w.heap.size 5 1 (.slice A out.length c) out.length (cellsOf out)) (hne : out ≠ []) (hb : Below w.heap.size w w') :
    DigsP out w (.returned (.slice A out.length c)) w' := by
  rcases h.2 with ⟨_, h0⟩ | ⟨g, cap, cur, hv, hg, hh, _⟩
  · exact absurd (List.eq_nil_of_length_eq_zero h0) hne
  · injection hv with h1 h2 h3
    subst h1; subst h3
    refine ⟨g, c, rfl, fun j hj => ?_, (Array.getElem?_eq_some_iff.1 hh).1, hb⟩
    rw [h.cellAt j (by omega)]
    simp [cellsOf, hj]
theorem own_next {w wr w1 : World} {A : Option Addr} {c left : Nat} {out : List UInt8} {v' : Value} {o : Obj}
    (ho : w1.ownsRow w.heap.size 5 1 v' (out.length + 1) (cellsOf out ++ [.int .u8 (48 + (left : Int) % 10)]))
    (hg : (wr.alloc o).grownBy w1 (Value.ownBlock (.slice A out.length c))) (hown : wr.ownsRow w.heap.size 5 1 (.slice A out.length c) out.length (cellsOf out)) (hb : Below w.heap.size w wr) :
    ∃ A' c', v' = .slice A' (out ++ [dch left]).length c' ∧ w1.ownsRow w.heap.size 5 1 (.slice A' (out ++ [dch left]).length c') (out ++ [dch left]).length (cellsOf (out ++ [dch left])) ∧ Below w.heap.size w w1 := by
  obtain ⟨g, cap, rfl⟩ := own_form ho
  have e1 : (out ++ [dch left]).length = out.length + 1 := by simp
  have e2 : cellsOf (out ++ [dch left]) = cellsOf out ++ [.int .u8 (48 + (left : Int) % 10)] := by
    unfold cellsOf; rw [List.map_append, List.map_singleton, dch_int]
  rw [e1, e2]
  refine ⟨_, _, rfl, ho, ?_⟩
  have h1 : Below w.heap.size w (wr.alloc o) := hb.alloc hb.size o
  exact h1.grown hg h1.size (fun k hk => by
    have := hown.lt k hk
    exact this.1)
set_option maxHeartbeats 400000 in
theorem digits_is (u : Nat) (hu : u ≤ 9223372036854775808) (w : World) : Calls Try.prog 20 #[.int .u64 (u : Int)] w (DigsP (digs u).reverse w) := by
  have hlen : (digs u).length ≤ 19 := digs_le 18 u (by omega)
  have HL := Lib.hid hlen
  obtain ⟨i0, hi0, hz0, hz1, hz2⟩ := info_parts info5
  have I0 := Lib.hid (And.intro hi0 (And.intro hz0 (And.intro hz1 hz2)))
  clear hlen hi0 hz0 hz1 hz2
  go_enter Try.func20, Try.ntmps20
  go_wp2_with fail
  go_loopg [0, 3] (u + 1) (fun gk x v wr => ∃ (left : Nat) (A : Option Addr) (c : Nat) (out : List UInt8), left ≤ u ∧ x = .int .u64 (left : Int) ∧ v = .slice A out.length c ∧
    Hid (gk = left + flagN out ∧ D u left out ∧ wr.ownsRow w.heap.size 5 1 (.slice A out.length c) out.length (cellsOf out) ∧ Below w.heap.size w wr))
  case atStart => exact ⟨u, none, 0, [], Nat.le_refl _, rfl, rfl, rfl, .inl ⟨rfl, rfl⟩, World.ownsRow_nil _ _ _ _, Below.refl _ _⟩
  case round =>
    obtain ⟨left, A, c, out, hle, rfl, rfl, HH⟩ := hrel
    have hol : out.length ≤ 19 := Nat.le_trans HH.out.2.1.len HL.out
    have hlb : (left : Int) ≤ 9223372036854775808 := by omega
    by_cases hp : 0 < left
    · have hp' : (0 : Int) < left := by omega
      have Hs := Lib.hid hle
      clear hle hu
      go_wp2_with (at_builtin; refine wpList_append_own _ rfl _ _ 43 rfl w.heap.size 5 i0 (.int .u8 0) 1 1 Try.underlying43 I0.out.1 I0.out.2.1 I0.out.2.2.1 I0.out.2.2.2 rfl (by decide) _ _ _ rfl (HH.out.2.2.1.alloc _) ⟨wr.heap.size, 0, none⟩ 1 1 [.int .u8 (48 + (left : Int) % 10)] rfl rfl ?c1 ?c2 ?c3 ?c4 ?c5 ?_)
      case c1 => exact cell_one_new _ _ _
      case c2 => intro x hx; simp at hx; subst hx; rfl
      case c3 => unfold maxLen; omega
      case c4 => omega
      case c5 => have := HH.out.2.2.2.size; simp; omega
      · intro v' w1 hown' hgrow _
        obtain ⟨A', c', rfl, h2, h3⟩ := own_next hown' hgrow HH.out.2.2.1 HH.out.2.2.2
        have H2 := Lib.hid (And.intro h2 h3)
        clear hown' hgrow h2 h3
        go_wp2_with fail
        go_roundg (left / 10)
        case measure => rw [HH.out.1]; omega
        case rel => exact ⟨left / 10, A', c', out ++ [dch left], by have := Hs.out; omega, by go_num, rfl, by simp [flagN], HH.out.2.1.step (.inl hp), H2.out.1, H2.out.2⟩
    · obtain rfl : left = 0 := by omega
      by_cases ho : out = []
      · subst ho
        have HO : Hid (wr.ownsRow w.heap.size 5 1 (.slice A 0 c) 0 []) := HH.out.2.2.1
        clear hol hlb hp hle
        go_wp2_with (at_builtin; refine wpList_append_own _ rfl _ _ 43 rfl w.heap.size 5 i0 (.int .u8 0) 1 1 Try.underlying43 I0.out.1 I0.out.2.1 I0.out.2.2.1 I0.out.2.2.2 rfl (by decide) _ _ _ rfl (HO.out.alloc _) ⟨wr.heap.size, 0, none⟩ 1 1 [.int .u8 48] rfl rfl ?d1 ?d2 ?d3 ?d4 ?d5 ?_)
        case d1 => exact cell_one_new _ _ _
        case d2 => intro x hx; simp at hx; subst hx; rfl
        case d3 => unfold maxLen; omega
        case d4 => omega
        case d5 => have := HH.out.2.2.2.size; simp; omega
        · intro v' w1 hown' hgrow _
          obtain ⟨A', c', rfl, h2, h3⟩ := own_next (left := 0) (out := []) hown' hgrow HH.out.2.2.1 HH.out.2.2.2
          have H2 := Lib.hid (And.intro h2 h3)
          clear hown' hgrow h2 h3
          go_wp2_with fail
          go_roundg 0
          case measure => rw [HH.out.1]; simp [flagN]
          case rel => exact ⟨0, A', c', [] ++ [dch 0], by omega, by go_num, rfl, by simp [flagN], HH.out.2.1.step (.inr rfl), H2.out.1, H2.out.2⟩
      · have hl0 : 0 < out.length := List.length_pos_iff.2 ho
        have hl1 : ((out.length : Int) == 0) = false := by rw [beq_eq_false_iff_ne]; omega
        have HO := Lib.hid ho
        clear hol hlb hp hle ho
        go_wp2_with fail
        go_ret
        rw [← HH.out.2.1.done HO.out]
        exact own_done HH.out.2.2.1 HO.out HH.out.2.2.2
theorem one_convert (w : World) (c : UInt8) (z : Int) (hz : (c.toNat : Int) = z) :
    (convert 43 9 (.slice (some ⟨w.heap.size, 0, none⟩) 1 1)).run Try.prog (w.alloc (.cells #[.int .u8 z] 5)) = .ok (.string ⟨[c].toArray⟩) (w.alloc (.cells #[.int .u8 z] 5)) := by
  subst hz
  refine run_convert_bytes_back _ 43 9 5 _ 1 [c] Try.underlying43 Try.underlying5 Try.underlying9 (fun j hj => ?_)
  simp at hj
  subst hj
  exact cell_one_new w _ 5 0 _ rfl
theorem digits_v (u : Nat) (l : List UInt8) (hl : (digs u).reverse = l) (hu : u ≤ 9223372036854775808) (w : World) : Calls Try.prog 20 #[.int .u64 (u : Int)] w (DigsP l w) := by
  subst hl; exact digits_is u hu w
theorem rev_drop (l : List UInt8) (q : Nat) (h : q < l.length) : (l.drop q).reverse = (l.drop (q + 1)).reverse ++ [l[q]] := by
  rw [List.drop_eq_getElem_cons h, List.reverse_cons]
theorem txt_neg (n : Int) (u : Nat) (l : List UInt8) (h0 : n < 0) (hu : n.natAbs = u) (hl : (digs u).reverse = l) : [45] ++ (l.drop 0).reverse = txt n := by
  unfold txt; rw [if_pos h0, hu, ← hl]; simp
theorem txt_pos' (n : Int) (u : Nat) (l : List UInt8) (h0 : 0 ≤ n) (hu : n.natAbs = u) (hl : (digs u).reverse = l) : [] ++ (l.drop 0).reverse = txt n := by
  unfold txt; rw [if_neg (by omega), hu, ← hl]; simp
theorem ret_str {a b : List UInt8} (h : a = b) : Ending.returned (.string ⟨a.toArray⟩) = .returned (.string ⟨b.toArray⟩) := by rw [h]
set_option maxHeartbeats 400000 in
theorem refput_neg (n : Int) (h : fit n) (h0 : n < 0) (w : World) : Calls Try.prog 12 #[.int .i64 n] w fun e w' => e = .returned (.string ⟨(txt n).toArray⟩) ∧ Below w.heap.size w w' := by
  obtain ⟨u, hu⟩ : ∃ u, n.natAbs = u := ⟨_, rfl⟩
  have hw := neg_wrap n h0 h.1
  rw [hu] at hw
  have hub : u ≤ 9223372036854775808 := by have := h.1; omega
  obtain ⟨l, hl⟩ : ∃ l, (digs u).reverse = l := ⟨_, rfl⟩
  have HL := Lib.hid hl
  have HU := Lib.hid hu
  have hll : l.length ≤ 19 := by rw [← hl, List.length_reverse]; exact digs_le 18 u (by omega)
  clear hl hu h
  go_enter Try.func12, Try.ntmps12
  go_wp2_with fail
  refine (digits_v u l HL.out hub _).mono ?_
  rintro e w1 ⟨g, cap, rfl, hc, hg, hb⟩
  have HC := Lib.hid (And.intro hc (And.intro hg hb))
  clear hc hg hb
  go_wp2_with fail
  go_loopg [4, 6] l.length (fun gk s i wr => ∃ (z : Int) (t : List UInt8), z + 1 = gk ∧ gk ≤ l.length ∧ i = .int .i64 z ∧ s = .string ⟨t.toArray⟩ ∧ Hid (t = [45] ++ (l.drop gk).reverse ∧ Below w1.heap.size w1 wr))
  case atStart => exact ⟨(l.length : Int) - 1, [45], by omega, Nat.le_refl _, rfl, rfl, by simp, Below.refl _ _⟩
  case round =>
    obtain ⟨z, t, hz, hgk, rfl, rfl, HH⟩ := hrel
    have htl : t.length ≤ 20 := by rw [HH.out.1]; simp; omega
    by_cases hk : gk = 0
    · subst hk
      obtain rfl : z = -1 := by omega
      have ht : t = txt _ := HH.out.1.trans (txt_neg n u l h0 HU.out HL.out)
      have HT := Lib.hid ht
      clear ht htl hz
      go_wp2_with fail
      go_ret
      exact ⟨ret_str HT.out, HC.out.2.2.trans (HH.out.2.mono HC.out.2.2.size)⟩
    · obtain ⟨q, rfl⟩ : ∃ q, gk = q + 1 := ⟨gk - 1, by omega⟩
      obtain rfl : z = q := by omega
      obtain ⟨c, hcq⟩ : ∃ c, l[q] = c := ⟨_, rfl⟩
      have hcell : wr.cell? ⟨g, q, none⟩ = some (.int .u8 (c.toNat : Int)) := by
        rw [HH.out.2.cell (p := ⟨g, q, none⟩) HC.out.2.1, HC.out.1 q (by omega), hcq]
      have hnext : t ++ [c] = [45] ++ (l.drop q).reverse := by rw [rev_drop l q (by omega), HH.out.1, hcq, List.append_assoc]
      have hconv := one_convert wr c _ rfl
      have hql : q < l.length := by omega
      have hql' : (q : Int) < (l.length : Int) := by omega
      have HN := Lib.hid hnext
      have HQ := Lib.hid hcq
      clear hnext hcq hz hk
      go_wp2_with fail
      go_roundg q
      case measure => omega
      case rel => exact ⟨(q : Int) - 1, t ++ [c], by omega, by omega, rfl, by rw [← ByteArray.mk_append_mk], HN.out, HH.out.2.alloc HH.out.2.size _⟩
set_option maxHeartbeats 400000 in
theorem refput_pos (n : Int) (h : fit n) (h0 : 0 ≤ n) (w : World) : Calls Try.prog 12 #[.int .i64 n] w fun e w' => e = .returned (.string ⟨(txt n).toArray⟩) ∧ Below w.heap.size w w' := by
  obtain ⟨u, rfl⟩ : ∃ u : Nat, n = u := ⟨n.natAbs, by omega⟩
  have hu : ((u : Int)).natAbs = u := by omega
  have hub : u ≤ 9223372036854775808 := by have := h.2; omega
  have hub' : (u : Int) ≤ 9223372036854775807 := h.2
  obtain ⟨l, hl⟩ : ∃ l, (digs u).reverse = l := ⟨_, rfl⟩
  have HL := Lib.hid hl
  have HU := Lib.hid hu
  have hll : l.length ≤ 19 := by rw [← hl, List.length_reverse]; exact digs_le 18 u (by omega)
  clear hl hu h
  go_enter Try.func12, Try.ntmps12
  go_wp2_with fail
  refine (digits_v u l HL.out hub _).mono ?_
  rintro e w1 ⟨g, cap, rfl, hc, hg, hb⟩
  have HC := Lib.hid (And.intro hc (And.intro hg hb))
  clear hc hg hb
  go_wp2_with fail
  go_loopg [4, 6] l.length (fun gk s i wr => ∃ (z : Int) (t : List UInt8), z + 1 = gk ∧ gk ≤ l.length ∧ i = .int .i64 z ∧ s = .string ⟨t.toArray⟩ ∧ Hid (t = [] ++ (l.drop gk).reverse ∧ Below w1.heap.size w1 wr))
  case atStart => exact ⟨(l.length : Int) - 1, [], by omega, Nat.le_refl _, rfl, rfl, by simp, Below.refl _ _⟩
  case round =>
    obtain ⟨z, t, hz, hgk, rfl, rfl, HH⟩ := hrel
    have htl : t.length ≤ 20 := by rw [HH.out.1]; simp; omega
    by_cases hk : gk = 0
    · subst hk
      obtain rfl : z = -1 := by omega
      have ht : t = txt _ := HH.out.1.trans (txt_pos' u u l h0 HU.out HL.out)
      have HT := Lib.hid ht
      clear ht htl hz
      go_wp2_with fail
      go_ret
      exact ⟨ret_str HT.out, HC.out.2.2.trans (HH.out.2.mono HC.out.2.2.size)⟩
    · obtain ⟨q, rfl⟩ : ∃ q, gk = q + 1 := ⟨gk - 1, by omega⟩
      obtain rfl : z = q := by omega
      obtain ⟨c, hcq⟩ : ∃ c, l[q] = c := ⟨_, rfl⟩
      have hcell : wr.cell? ⟨g, q, none⟩ = some (.int .u8 (c.toNat : Int)) := by
        rw [HH.out.2.cell (p := ⟨g, q, none⟩) HC.out.2.1, HC.out.1 q (by omega), hcq]
      have hnext : t ++ [c] = [] ++ (l.drop q).reverse := by rw [rev_drop l q (by omega), HH.out.1, hcq, List.append_assoc]
      have hconv := one_convert wr c _ rfl
      have hql : q < l.length := by omega
      have hql' : (q : Int) < (l.length : Int) := by omega
      have HN := Lib.hid hnext
      have HQ := Lib.hid hcq
      clear hnext hcq hz hk
      go_wp2_with fail
      go_roundg q
      case measure => omega
      case rel => exact ⟨(q : Int) - 1, t ++ [c], by omega, by omega, rfl, by rw [← ByteArray.mk_append_mk], HN.out, HH.out.2.alloc HH.out.2.size _⟩
theorem refput_v (n : Int) (l : List UInt8) (hl : txt n = l) (h : fit n) (w : World) : Calls Try.prog 12 #[.int .i64 n] w fun e w' => e = .returned (.string ⟨l.toArray⟩) ∧ Below w.heap.size w w' := by
  subst hl
  by_cases h0 : n < 0
  · exact refput_neg n h h0 w
  · exact refput_pos n h (by omega) w
end Go.Proofs.Ytakfoncdiejhaaa.Deci
