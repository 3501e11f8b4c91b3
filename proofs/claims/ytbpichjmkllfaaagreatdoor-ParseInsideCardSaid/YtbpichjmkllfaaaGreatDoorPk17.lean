/- What the document's own Put and Pad answer: a number's text, and with blanks ahead. -/
import Derived.Test.YtbpichjmkllfaaaGreatDoorPk16
import Derived.Maps.AppendAt
import Derived.Deep.AppendLies
import Derived.OwnWalk
import Derived.WalkKit
import Derived.Below
import Derived.Lib.Hide
import Derived.Deep.QuietTactic
import Derived.Deep.Slices
import Derived.BigQuiet
import Derived.Deep.RegionHeld3
namespace Go.Proofs.YtbpichjmkllfaaaGreatDoor.Deci
open Go.ChangeShapes Go.WideShapes Go.RowKit
set_option linter.unusedVariables false
set_option maxRecDepth 20000

/-- So far out, the last digit first, has been taken of u, and left is left. -/
def D (u left : Nat) (out : List UInt8) : Prop := (out = [] ∧ left = u) ∨ (out ≠ [] ∧ digs u = (if left = 0 then [] else digs left) ++ out.reverse)
theorem D.step {u left : Nat} {out : List UInt8} (h : D u left out) (hg : 0 < left ∨ out = []) : D u (left / 10) (out ++ [dch left]) := by
  refine .inr ⟨by simp, ?_⟩
  rw [List.reverse_append]
  rcases h with ⟨rfl, rfl⟩ | ⟨hne, hd⟩
  · by_cases h0 : left / 10 = 0
    · rw [if_pos h0, digs_lt (by omega)]; rfl
    · rw [if_neg h0, digs_ge (by omega)]; rfl
  · have hp : left ≠ 0 := by
      rcases hg with h | h
      · omega
      · exact absurd h hne
    rw [if_neg hp] at hd
    by_cases h0 : left / 10 = 0
    · rw [if_pos h0, digs_end hd h0]; rfl
    · rw [if_neg h0, digs_go hd h0]; rfl
theorem D.done {u : Nat} {out : List UInt8} (h : D u 0 out) (hne : out ≠ []) : out = (digs u).reverse := by
  rcases h with ⟨h, _⟩ | ⟨_, hd⟩
  · exact absurd h hne
  · rw [hd]; simp
theorem D.len {u left : Nat} {out : List UInt8} (h : D u left out) : out.length ≤ (digs u).length := by
  rcases h with ⟨rfl, _⟩ | ⟨_, hd⟩
  · simp
  · rw [hd]; simp
theorem own_form {w : World} {base n : Nat} {v : Value} {xs : List Value} (h : w.ownsRow base 5 1 v (n + 1) xs) : ∃ g cap, v = .slice (some ⟨g, 0, none⟩) (n + 1) cap := by
  rcases h.2 with ⟨_, h0⟩ | ⟨g, cap, cur, hv, _⟩
  · omega
  · exact ⟨g, cap, hv⟩
theorem info5 : (Tryz.prog.info? 5).map (fun i => (i.zero, i.size, i.bytes)) = some (some (.int .u8 0), 1, 1) := by kernel_rfl
/-- What is handed back: a slice whose cells are l. -/
def DigsP (l : List UInt8) (w : World) (e : Ending) (w' : World) : Prop :=
  ∃ g cap, e = .returned (.slice (some ⟨g, 0, none⟩) l.length cap) ∧ (∀ j (h : j < l.length), w'.cell? ⟨g, j, none⟩ = some (.int .u8 (l[j].toNat : Int))) ∧ g < w'.heap.size ∧ Below w.heap.size w w'
def flagN (out : List UInt8) : Nat := if out = [] then 1 else 0
theorem own_done {w w' : World} {A : Option Addr} {c : Nat} {out : List UInt8} (h : w'.ownsRow w.heap.size 5 1 (.slice A out.length c) out.length (cellsOf out)) (hne : out ≠ []) (hb : Below w.heap.size w w') :
    DigsP out w (.returned (.slice A out.length c)) w' := by
  rcases h.2 with ⟨_, h0⟩ | ⟨g, cap, cur, hv, hg, hh, _⟩
  · exact absurd (List.eq_nil_of_length_eq_zero h0) hne
  · injection hv with h1 h2 h3
    subst h1; subst h3
    refine ⟨g, c, rfl, fun j hj => ?_, (Array.getElem?_eq_some_iff.1 hh).1, hb⟩
    rw [h.cellAt j (by omega)]
    simp [cellsOf, hj]
theorem own_next {w wr w1 : World} {A : Option Addr} {c left : Nat} {out : List UInt8} {v' : Value} {o : Obj}
    (ho : w1.ownsRow w.heap.size 5 1 v' (out.length + 1) (cellsOf out ++ [.int .u8 (48 + (left : Int) % 10)]))
    (hg : (wr.alloc o).grownBy w1 (Value.ownBlock (.slice A out.length c))) (hown : wr.ownsRow w.heap.size 5 1 (.slice A out.length c) out.length (cellsOf out)) (hb : Below w.heap.size w wr) :
    ∃ A' c', v' = .slice A' (out ++ [dch left]).length c' ∧ w1.ownsRow w.heap.size 5 1 (.slice A' (out ++ [dch left]).length c') (out ++ [dch left]).length (cellsOf (out ++ [dch left])) ∧ Below w.heap.size w w1 := by
  obtain ⟨g, cap, rfl⟩ := own_form ho
  have e1 : (out ++ [dch left]).length = out.length + 1 := by simp
  have e2 : cellsOf (out ++ [dch left]) = cellsOf out ++ [.int .u8 (48 + (left : Int) % 10)] := by
    unfold cellsOf; rw [List.map_append, List.map_singleton, dch_int]
  rw [e1, e2]
  refine ⟨_, _, rfl, ho, ?_⟩
  have h1 : Below w.heap.size w (wr.alloc o) := hb.alloc hb.size o
  exact h1.grown hg h1.size (fun k hk => by
    have := hown.lt k hk
    exact this.1)
set_option maxHeartbeats 400000 in
theorem digits_is (u : Nat) (hu : u ≤ 9223372036854775808) (w : World) : Calls Tryz.prog 67 #[.int .u64 (u : Int)] w (DigsP (digs u).reverse w) := by
  have hlen : (digs u).length ≤ 19 := digs_le 18 u (by omega)
  have HL := Lib.hid hlen
  obtain ⟨i0, hi0, hz0, hz1, hz2⟩ := info_parts info5
  have I0 := Lib.hid (And.intro hi0 (And.intro hz0 (And.intro hz1 hz2)))
  clear hlen hi0 hz0 hz1 hz2
  go_enter Tryz.func67, Tryz.ntmps67
  go_wp2_with fail
  go_loopg [0, 3] (u + 1) (fun gk x v wr => ∃ (left : Nat) (A : Option Addr) (c : Nat) (out : List UInt8), left ≤ u ∧ x = .int .u64 (left : Int) ∧ v = .slice A out.length c ∧
    Hid (gk = left + flagN out ∧ D u left out ∧ wr.ownsRow w.heap.size 5 1 (.slice A out.length c) out.length (cellsOf out) ∧ Below w.heap.size w wr))
  case atStart => exact ⟨u, none, 0, [], Nat.le_refl _, rfl, rfl, rfl, .inl ⟨rfl, rfl⟩, World.ownsRow_nil _ _ _ _, Below.refl _ _⟩
  case round =>
    obtain ⟨left, A, c, out, hle, rfl, rfl, HH⟩ := hrel
    have hol : out.length ≤ 19 := Nat.le_trans HH.out.2.1.len HL.out
    have hlb : (left : Int) ≤ 9223372036854775808 := by omega
    by_cases hp : 0 < left
    · have hp' : (0 : Int) < left := by omega
      have Hs := Lib.hid hle
      clear hle hu
      go_wp2_with (at_builtin; refine wpList_append_own _ rfl _ _ 148 rfl w.heap.size 5 i0 (.int .u8 0) 1 1 Tryz.underlying148 I0.out.1 I0.out.2.1 I0.out.2.2.1 I0.out.2.2.2 rfl (by decide) _ _ _ rfl (HH.out.2.2.1.alloc _) ⟨wr.heap.size, 0, none⟩ 1 1 [.int .u8 (48 + (left : Int) % 10)] rfl rfl ?c1 ?c2 ?c3 ?c4 ?c5 ?_)
      case c1 => exact cell_one_new _ _ _
      case c2 => intro x hx; simp at hx; subst hx; rfl
      case c3 => unfold maxLen; omega
      case c4 => omega
      case c5 => have := HH.out.2.2.2.size; simp; omega
      · intro v' w1 hown' hgrow _
        obtain ⟨A', c', rfl, h2, h3⟩ := own_next hown' hgrow HH.out.2.2.1 HH.out.2.2.2
        have H2 := Lib.hid (And.intro h2 h3)
        clear hown' hgrow h2 h3
        go_wp2_with fail
        go_roundg (left / 10)
        case measure => rw [HH.out.1]; omega
        case rel => exact ⟨left / 10, A', c', out ++ [dch left], by have := Hs.out; omega, by go_num, rfl, by simp [flagN], HH.out.2.1.step (.inl hp), H2.out.1, H2.out.2⟩
    · obtain rfl : left = 0 := by omega
      by_cases ho : out = []
      · subst ho
        have HO : Hid (wr.ownsRow w.heap.size 5 1 (.slice A 0 c) 0 []) := HH.out.2.2.1
        clear hol hlb hp hle
        go_wp2_with (at_builtin; refine wpList_append_own _ rfl _ _ 148 rfl w.heap.size 5 i0 (.int .u8 0) 1 1 Tryz.underlying148 I0.out.1 I0.out.2.1 I0.out.2.2.1 I0.out.2.2.2 rfl (by decide) _ _ _ rfl (HO.out.alloc _) ⟨wr.heap.size, 0, none⟩ 1 1 [.int .u8 48] rfl rfl ?d1 ?d2 ?d3 ?d4 ?d5 ?_)
        case d1 => exact cell_one_new _ _ _
        case d2 => intro x hx; simp at hx; subst hx; rfl
        case d3 => unfold maxLen; omega
        case d4 => omega
        case d5 => have := HH.out.2.2.2.size; simp; omega
        · intro v' w1 hown' hgrow _
          obtain ⟨A', c', rfl, h2, h3⟩ := own_next (left := 0) (out := []) hown' hgrow HH.out.2.2.1 HH.out.2.2.2
          have H2 := Lib.hid (And.intro h2 h3)
          clear hown' hgrow h2 h3
          go_wp2_with fail
          go_roundg 0
          case measure => rw [HH.out.1]; simp [flagN]
          case rel => exact ⟨0, A', c', [] ++ [dch 0], by omega, by go_num, rfl, by simp [flagN], HH.out.2.1.step (.inr rfl), H2.out.1, H2.out.2⟩
      · have hl0 : 0 < out.length := List.length_pos_iff.2 ho
        have hl1 : ((out.length : Int) == 0) = false := by rw [beq_eq_false_iff_ne]; omega
        have HO := Lib.hid ho
        clear hol hlb hp hle ho
        go_wp2_with fail
        go_ret
        rw [← HH.out.2.1.done HO.out]
        exact own_done HH.out.2.2.1 HO.out HH.out.2.2.2
theorem one_convert (w : World) (c : UInt8) (z : Int) (hz : (c.toNat : Int) = z) :
    (convert 148 9 (.slice (some ⟨w.heap.size, 0, none⟩) 1 1)).run Tryz.prog (w.alloc (.cells #[.int .u8 z] 5)) = .ok (.string ⟨[c].toArray⟩) (w.alloc (.cells #[.int .u8 z] 5)) := by
  subst hz
  refine run_convert_bytes_back _ 148 9 5 _ 1 [c] Tryz.underlying148 Tryz.underlying5 Tryz.underlying9 (fun j hj => ?_)
  simp at hj
  subst hj
  exact cell_one_new w _ 5 0 _ rfl
theorem digits_v (u : Nat) (l : List UInt8) (hl : (digs u).reverse = l) (hu : u ≤ 9223372036854775808) (w : World) : Calls Tryz.prog 67 #[.int .u64 (u : Int)] w (DigsP l w) := by
  subst hl; exact digits_is u hu w
theorem rev_drop (l : List UInt8) (q : Nat) (h : q < l.length) : (l.drop q).reverse = (l.drop (q + 1)).reverse ++ [l[q]] := by
  rw [List.drop_eq_getElem_cons h, List.reverse_cons]
theorem txt_neg (n : Int) (u : Nat) (l : List UInt8) (h0 : n < 0) (hu : n.natAbs = u) (hl : (digs u).reverse = l) : [45] ++ (l.drop 0).reverse = txt n := by
  unfold txt; rw [if_pos h0, hu, ← hl]; simp
theorem txt_pos' (n : Int) (u : Nat) (l : List UInt8) (h0 : 0 ≤ n) (hu : n.natAbs = u) (hl : (digs u).reverse = l) : [] ++ (l.drop 0).reverse = txt n := by
  unfold txt; rw [if_neg (by omega), hu, ← hl]; simp
theorem ret_str {a b : List UInt8} (h : a = b) : Ending.returned (.string ⟨a.toArray⟩) = .returned (.string ⟨b.toArray⟩) := by rw [h]
set_option maxHeartbeats 400000 in
theorem refput_neg (n : Int) (h : fit n) (h0 : n < 0) (w : World) : Calls Tryz.prog 40 #[.int .i64 n] w fun e w' => e = .returned (.string ⟨(txt n).toArray⟩) ∧ Below w.heap.size w w' := by
  obtain ⟨u, hu⟩ : ∃ u, n.natAbs = u := ⟨_, rfl⟩
  have hw := neg_wrap n h0 h.1
  rw [hu] at hw
  have hub : u ≤ 9223372036854775808 := by have := h.1; omega
  obtain ⟨l, hl⟩ : ∃ l, (digs u).reverse = l := ⟨_, rfl⟩
  have HL := Lib.hid hl
  have HU := Lib.hid hu
  have hll : l.length ≤ 19 := by rw [← hl, List.length_reverse]; exact digs_le 18 u (by omega)
  clear hl hu h
  go_enter Tryz.func40, Tryz.ntmps40
  go_wp2_with fail
  refine (digits_v u l HL.out hub _).mono ?_
  rintro e w1 ⟨g, cap, rfl, hc, hg, hb⟩
  have HC := Lib.hid (And.intro hc (And.intro hg hb))
  clear hc hg hb
  go_wp2_with fail
  go_loopg [4, 6] l.length (fun gk s i wr => ∃ (z : Int) (t : List UInt8), z + 1 = gk ∧ gk ≤ l.length ∧ i = .int .i64 z ∧ s = .string ⟨t.toArray⟩ ∧ Hid (t = [45] ++ (l.drop gk).reverse ∧ Below w1.heap.size w1 wr))
  case atStart => exact ⟨(l.length : Int) - 1, [45], by omega, Nat.le_refl _, rfl, rfl, by simp, Below.refl _ _⟩
  case round =>
    obtain ⟨z, t, hz, hgk, rfl, rfl, HH⟩ := hrel
    have htl : t.length ≤ 20 := by rw [HH.out.1]; simp; omega
    by_cases hk : gk = 0
    · subst hk
      obtain rfl : z = -1 := by omega
      have ht : t = txt _ := HH.out.1.trans (txt_neg n u l h0 HU.out HL.out)
      have HT := Lib.hid ht
      clear ht htl hz
      go_wp2_with fail
      go_ret
      exact ⟨ret_str HT.out, HC.out.2.2.trans (HH.out.2.mono HC.out.2.2.size)⟩
    · obtain ⟨q, rfl⟩ : ∃ q, gk = q + 1 := ⟨gk - 1, by omega⟩
      obtain rfl : z = q := by omega
      obtain ⟨c, hcq⟩ : ∃ c, l[q] = c := ⟨_, rfl⟩
      have hcell : wr.cell? ⟨g, q, none⟩ = some (.int .u8 (c.toNat : Int)) := by
        rw [HH.out.2.cell (p := ⟨g, q, none⟩) HC.out.2.1, HC.out.1 q (by omega), hcq]
      have hnext : t ++ [c] = [45] ++ (l.drop q).reverse := by rw [rev_drop l q (by omega), HH.out.1, hcq, List.append_assoc]
      have hconv := one_convert wr c _ rfl
      have hql : q < l.length := by omega
      have hql' : (q : Int) < (l.length : Int) := by omega
      have HN := Lib.hid hnext
      have HQ := Lib.hid hcq
      clear hnext hcq hz hk
      go_wp2_with fail
      go_roundg q
      case measure => omega
      case rel => exact ⟨(q : Int) - 1, t ++ [c], by omega, by omega, rfl, by rw [← ByteArray.mk_append_mk], HN.out, HH.out.2.alloc HH.out.2.size _⟩
set_option maxHeartbeats 400000 in
theorem refput_pos (n : Int) (h : fit n) (h0 : 0 ≤ n) (w : World) : Calls Tryz.prog 40 #[.int .i64 n] w fun e w' => e = .returned (.string ⟨(txt n).toArray⟩) ∧ Below w.heap.size w w' := by
  obtain ⟨u, rfl⟩ : ∃ u : Nat, n = u := ⟨n.natAbs, by omega⟩
  have hu : ((u : Int)).natAbs = u := by omega
  have hub : u ≤ 9223372036854775808 := by have := h.2; omega
  have hub' : (u : Int) ≤ 9223372036854775807 := h.2
  obtain ⟨l, hl⟩ : ∃ l, (digs u).reverse = l := ⟨_, rfl⟩
  have HL := Lib.hid hl
  have HU := Lib.hid hu
  have hll : l.length ≤ 19 := by rw [← hl, List.length_reverse]; exact digs_le 18 u (by omega)
  clear hl hu h
  go_enter Tryz.func40, Tryz.ntmps40
  go_wp2_with fail
  refine (digits_v u l HL.out hub _).mono ?_
  rintro e w1 ⟨g, cap, rfl, hc, hg, hb⟩
  have HC := Lib.hid (And.intro hc (And.intro hg hb))
  clear hc hg hb
  go_wp2_with fail
  go_loopg [4, 6] l.length (fun gk s i wr => ∃ (z : Int) (t : List UInt8), z + 1 = gk ∧ gk ≤ l.length ∧ i = .int .i64 z ∧ s = .string ⟨t.toArray⟩ ∧ Hid (t = [] ++ (l.drop gk).reverse ∧ Below w1.heap.size w1 wr))
  case atStart => exact ⟨(l.length : Int) - 1, [], by omega, Nat.le_refl _, rfl, rfl, by simp, Below.refl _ _⟩
  case round =>
    obtain ⟨z, t, hz, hgk, rfl, rfl, HH⟩ := hrel
    have htl : t.length ≤ 20 := by rw [HH.out.1]; simp; omega
    by_cases hk : gk = 0
    · subst hk
      obtain rfl : z = -1 := by omega
      have ht : t = txt _ := HH.out.1.trans (txt_pos' u u l h0 HU.out HL.out)
      have HT := Lib.hid ht
      clear ht htl hz
      go_wp2_with fail
      go_ret
      exact ⟨ret_str HT.out, HC.out.2.2.trans (HH.out.2.mono HC.out.2.2.size)⟩
    · obtain ⟨q, rfl⟩ : ∃ q, gk = q + 1 := ⟨gk - 1, by omega⟩
      obtain rfl : z = q := by omega
      obtain ⟨c, hcq⟩ : ∃ c, l[q] = c := ⟨_, rfl⟩
      have hcell : wr.cell? ⟨g, q, none⟩ = some (.int .u8 (c.toNat : Int)) := by
        rw [HH.out.2.cell (p := ⟨g, q, none⟩) HC.out.2.1, HC.out.1 q (by omega), hcq]
      have hnext : t ++ [c] = [] ++ (l.drop q).reverse := by rw [rev_drop l q (by omega), HH.out.1, hcq, List.append_assoc]
      have hconv := one_convert wr c _ rfl
      have hql : q < l.length := by omega
      have hql' : (q : Int) < (l.length : Int) := by omega
      have HN := Lib.hid hnext
      have HQ := Lib.hid hcq
      clear hnext hcq hz hk
      go_wp2_with fail
      go_roundg q
      case measure => omega
      case rel => exact ⟨(q : Int) - 1, t ++ [c], by omega, by omega, rfl, by rw [← ByteArray.mk_append_mk], HN.out, HH.out.2.alloc HH.out.2.size _⟩
theorem refput_v (n : Int) (l : List UInt8) (hl : txt n = l) (h : fit n) (w : World) : Calls Tryz.prog 40 #[.int .i64 n] w fun e w' => e = .returned (.string ⟨l.toArray⟩) ∧ Below w.heap.size w w' := by
  subst hl
  by_cases h0 : n < 0
  · exact refput_neg n h h0 w
  · exact refput_pos n h (by omega) w
end Go.Proofs.YtbpichjmkllfaaaGreatDoor.Deci

/- What the program's and the document's own names of places, and the classes' letters, are (out of stage 13's texts). -/
namespace Go.Proofs.YtbpichjmkllfaaaGreatDoor.Tg
open Go.ChangeShapes Go.WideShapes Go.RowKit
set_option linter.unusedVariables false
set_option maxRecDepth 20000

theorem cell_in {w : World} {g : Nat} {cs : Array Value} {t : TypeId} (h : w.heap[g]? = some (.cells cs t (0, 0))) (j : Nat) : w.cell? ⟨g, j, none⟩ = cs[j]? := by
  simp only [World.cell?, h]
  simp
theorem froz_in {w : World} {g : Nat} {cs : Array Value} {t : TypeId} (h : w.heap[g]? = some (.cells cs t (0, 0))) (j : Nat) : w.frozen? ⟨g, j, none⟩ = false := by
  simp only [World.frozen?, h]
  simp
theorem kept_box {w w1 : World} {cs : Array Value} {t : TypeId} {g : Nat} {fr : Nat × Nat} (h : w.heap[g]? = some (.cells cs t fr)) (hb : Below w.heap.size w w1) : w1.heap[g]? = some (.cells cs t fr) := by
  rw [hb.block g (Array.getElem?_eq_some_iff.1 h).1]; exact h
theorem box_two (w : World) (a b : Obj) : ((w.alloc a).alloc b).heap[w.heap.size]? = some a ∧ ((w.alloc a).alloc b).heap[w.heap.size + 1]? = some b := by
  constructor
  · rw [Below.heap_alloc _ _ _ (by simp)]; exact heap_alloc_new w a
  · have := heap_alloc_new (w.alloc a) b
    simpa using this
theorem class_v (n : Int) (b : Bool) (hb : (decide (0 ≤ n) && decide (n < 2)) = b) (w : World) : Calls Tryz.prog 154 #[.int .i64 n] w fun e w' => e = .returned (.bool b) ∧ w = w' := by
  subst hb
  cases h0 : decide (0 ≤ n) <;> cases h1 : decide (n < 2)
  all_goals
    go_enter Tryz.func154, Tryz.ntmps154
    go_wp2_with fail
    go_ret
    exact ⟨rfl, rfl⟩
/-- A class's letter. -/
def letter (n : Int) : List UInt8 := if n = 0 then [103] else if n = 1 then [120] else []
theorem letter_v (n : Int) (s : ByteArray) (hs : (⟨(letter n).toArray⟩ : ByteArray) = s) (w : World) : Calls Tryz.prog 140 #[.int .i64 n] w fun e w' => e = .returned (.string s) ∧ w = w' := by
  by_cases h0 : n = 0
  · subst h0; subst hs
    go_enter Tryz.func140, Tryz.ntmps140
    go_wp2_with fail
    refine (class_v 0 true (by decide) _).mono ?_
    rintro e w1 ⟨rfl, rfl⟩
    go_wp2_with fail
    go_ret
    exact ⟨rfl, rfl⟩
  by_cases h1 : n = 1
  · subst h1; subst hs
    go_enter Tryz.func140, Tryz.ntmps140
    go_wp2_with fail
    refine (class_v 1 true (by decide) _).mono ?_
    rintro e w1 ⟨rfl, rfl⟩
    go_wp2_with fail
    go_ret
    exact ⟨rfl, rfl⟩
  · have hb : (decide (0 ≤ n) && decide (n < 2)) = false := by
      rw [← Bool.decide_and, decide_eq_false_iff_not]; omega
    have he : letter n = [] := by unfold letter; rw [if_neg h0, if_neg h1]
    rw [he] at hs
    subst hs
    go_enter Tryz.func140, Tryz.ntmps140
    go_wp2_with fail
    refine (class_v n false hb _).mono ?_
    rintro e w1 ⟨rfl, rfl⟩
    go_wp2_with fail
    go_ret
    exact ⟨rfl, rfl⟩
/-- Is a place a register of a class? -/
def regB (k c : Int) : Bool := decide (k = 2) && (decide (0 ≤ c) && decide (c < 2))
theorem loc_cells {W : World} {Q : Nat} {k c n : Int} (h : W.heap[Q]? = some (.cells #[.int .i64 k, .int .i64 c, .int .i64 n] 144 (0, 0))) :
    W.cell? ⟨Q, 0, none⟩ = some (.int .i64 k) ∧ W.cell? ⟨Q, 1, none⟩ = some (.int .i64 c) ∧ W.cell? ⟨Q, 2, none⟩ = some (.int .i64 n) :=
  ⟨cell_in h 0, cell_in h 1, cell_in h 2⟩
theorem add_run (a b c : ByteArray) (h : a.size + b.size ≤ 9223372036854775807) (hc : a ++ b = c) (W : World) : (Op.stringOp .add a b).run Tryz.prog W = .ok (.string c) W := by
  rw [run_string_add_sum W a b h, hc]
theorem cat_text (a b : List UInt8) : (ByteArray.mk a.toArray) ++ (ByteArray.mk b.toArray) = ByteArray.mk (a ++ b).toArray := by
  apply ByteArray.ext
  rw [ByteArray.data_append]
  simp
theorem size_text (a : List UInt8) : (ByteArray.mk a.toArray).size = a.length := by
  show a.toArray.size = _; simp
/-- A place's text. -/
def nameOf (k c n : Int) : List UInt8 := if k = 2 then (if c = 0 then [36, 103] ++ Deci.txt n else if c = 1 then [36, 120] ++ Deci.txt n else []) else if k = 3 then [35] ++ Deci.txt n else []
theorem txt_small (n : Int) (h : Deci.fit n) : (Deci.txt n).length ≤ 20 := Deci.txt_len n h.1 h.2
set_option maxHeartbeats 1000000 in
theorem rname_r0 (n : Int) (hf : Deci.fit n) (w : World) : Calls Tryz.prog 109 #[.agg #[.int .i64 2, .int .i64 0, .int .i64 n]] w fun e w' => e = .returned (.string (ByteArray.mk ([36, 103] ++ Deci.txt n).toArray)) ∧ Below w.heap.size w w' := by
  have B0 : Below w.heap.size w (w.alloc (.cells #[.int .i64 2, .int .i64 0, .int .i64 n] 144)) := (Below.refl _ w).alloc (Nat.le_refl _) _
  have D := Lib.hid (And.intro B0 (heap_alloc_new w (.cells #[.int .i64 2, .int .i64 0, .int .i64 n] 144)))
  clear B0
  obtain ⟨wa, hwa⟩ : ∃ wa, w.alloc (.cells #[.int .i64 2, .int .i64 0, .int .i64 n] 144) = wa := ⟨_, rfl⟩
  rw [hwa] at D
  obtain ⟨l0, l1, l2⟩ := loc_cells D.out.2
  obtain ⟨t, ht⟩ : ∃ t, Deci.txt n = t := ⟨_, rfl⟩
  have hlen := txt_small n hf
  rw [ht] at hlen
  have HT := Lib.hid (And.intro ht hf)
  rw [ht]
  clear ht hf
  obtain ⟨S, hS⟩ : ∃ S, ByteArray.mk t.toArray = S := ⟨_, rfl⟩
  have hsz : S.size ≤ 20 := by rw [← hS, size_text]; exact hlen
  obtain ⟨Y, hY⟩ : ∃ Y : ByteArray, (⟨#[36, 103]⟩ : ByteArray) ++ S = Y := ⟨_, rfl⟩
  have HY := Lib.hid (show Y = ByteArray.mk ([36, 103] ++ t).toArray from by
    rw [← hY, ← hS, ← cat_text [36, 103] t])
  have e1 := add_run ⟨#[36, 103]⟩ S Y (by show 2 + S.size ≤ _; omega) hY
  have HS := Lib.hid hS
  rw [← HY.out]
  clear hS hY hsz hlen
  go_enter Tryz.func109, Tryz.ntmps109
  go_wp2_with fail
  clear hwa
  refine (Deci.refput_v n t HT.out.1 HT.out.2 _).mono ?_
  rw [HS.out]
  rintro e w2 ⟨rfl, hb2⟩
  have B2 := Lib.hid hb2
  clear hb2
  go_wp2_with fail
  go_ret
  exact ⟨rfl, D.out.1.trans (B2.out.mono D.out.1.size)⟩
set_option maxHeartbeats 1000000 in
theorem rname_r1 (n : Int) (hf : Deci.fit n) (w : World) : Calls Tryz.prog 109 #[.agg #[.int .i64 2, .int .i64 1, .int .i64 n]] w fun e w' => e = .returned (.string (ByteArray.mk ([36, 120] ++ Deci.txt n).toArray)) ∧ Below w.heap.size w w' := by
  have B0 : Below w.heap.size w (w.alloc (.cells #[.int .i64 2, .int .i64 1, .int .i64 n] 144)) := (Below.refl _ w).alloc (Nat.le_refl _) _
  have D := Lib.hid (And.intro B0 (heap_alloc_new w (.cells #[.int .i64 2, .int .i64 1, .int .i64 n] 144)))
  clear B0
  obtain ⟨wa, hwa⟩ : ∃ wa, w.alloc (.cells #[.int .i64 2, .int .i64 1, .int .i64 n] 144) = wa := ⟨_, rfl⟩
  rw [hwa] at D
  obtain ⟨l0, l1, l2⟩ := loc_cells D.out.2
  obtain ⟨t, ht⟩ : ∃ t, Deci.txt n = t := ⟨_, rfl⟩
  have hlen := txt_small n hf
  rw [ht] at hlen
  have HT := Lib.hid (And.intro ht hf)
  rw [ht]
  clear ht hf
  obtain ⟨S, hS⟩ : ∃ S, ByteArray.mk t.toArray = S := ⟨_, rfl⟩
  have hsz : S.size ≤ 20 := by rw [← hS, size_text]; exact hlen
  obtain ⟨Y, hY⟩ : ∃ Y : ByteArray, (⟨#[36, 120]⟩ : ByteArray) ++ S = Y := ⟨_, rfl⟩
  have HY := Lib.hid (show Y = ByteArray.mk ([36, 120] ++ t).toArray from by
    rw [← hY, ← hS, ← cat_text [36, 120] t])
  have e1 := add_run ⟨#[36, 120]⟩ S Y (by show 2 + S.size ≤ _; omega) hY
  have HS := Lib.hid hS
  rw [← HY.out]
  clear hS hY hsz hlen
  go_enter Tryz.func109, Tryz.ntmps109
  go_wp2_with fail
  clear hwa
  refine (Deci.refput_v n t HT.out.1 HT.out.2 _).mono ?_
  rw [HS.out]
  rintro e w2 ⟨rfl, hb2⟩
  have B2 := Lib.hid hb2
  clear hb2
  go_wp2_with fail
  go_ret
  exact ⟨rfl, D.out.1.trans (B2.out.mono D.out.1.size)⟩
set_option maxHeartbeats 1000000 in
theorem rname_s (c n : Int) (hf : Deci.fit n) (w : World) : Calls Tryz.prog 109 #[.agg #[.int .i64 3, .int .i64 c, .int .i64 n]] w fun e w' => e = .returned (.string (ByteArray.mk ([35] ++ Deci.txt n).toArray)) ∧ Below w.heap.size w w' := by
  have B0 : Below w.heap.size w (w.alloc (.cells #[.int .i64 3, .int .i64 c, .int .i64 n] 144)) := (Below.refl _ w).alloc (Nat.le_refl _) _
  have D := Lib.hid (And.intro B0 (heap_alloc_new w (.cells #[.int .i64 3, .int .i64 c, .int .i64 n] 144)))
  clear B0
  obtain ⟨wa, hwa⟩ : ∃ wa, w.alloc (.cells #[.int .i64 3, .int .i64 c, .int .i64 n] 144) = wa := ⟨_, rfl⟩
  rw [hwa] at D
  obtain ⟨l0, l1, l2⟩ := loc_cells D.out.2
  obtain ⟨t, ht⟩ : ∃ t, Deci.txt n = t := ⟨_, rfl⟩
  have hlen := txt_small n hf
  rw [ht] at hlen
  have HT := Lib.hid (And.intro ht hf)
  rw [ht]
  clear ht hf
  obtain ⟨S, hS⟩ : ∃ S, ByteArray.mk t.toArray = S := ⟨_, rfl⟩
  have hsz : S.size ≤ 20 := by rw [← hS, size_text]; exact hlen
  obtain ⟨Y, hY⟩ : ∃ Y : ByteArray, (⟨#[35]⟩ : ByteArray) ++ S = Y := ⟨_, rfl⟩
  have HY := Lib.hid (show Y = ByteArray.mk ([35] ++ t).toArray from by
    rw [← hY, ← hS, ← cat_text [35] t])
  have e1 := add_run ⟨#[35]⟩ S Y (by show 1 + S.size ≤ _; omega) hY
  have HS := Lib.hid hS
  rw [← HY.out]
  clear hS hY hsz hlen
  go_enter Tryz.func109, Tryz.ntmps109
  go_wp2_with fail
  clear hwa
  refine (Deci.refput_v n t HT.out.1 HT.out.2 _).mono ?_
  rw [HS.out]
  rintro e w2 ⟨rfl, hb2⟩
  have B2 := Lib.hid hb2
  clear hb2
  go_wp2_with fail
  go_ret
  exact ⟨rfl, D.out.1.trans (B2.out.mono D.out.1.size)⟩
set_option maxHeartbeats 1000000 in
theorem rname_no (k c n : Int) (h3 : (k == 3) = false) (hr : (k == 2) = false ∨ ((c == 0) = false ∧ (c == 1) = false)) (w : World) : Calls Tryz.prog 109 #[.agg #[.int .i64 k, .int .i64 c, .int .i64 n]] w fun e w' => e = .returned (.string ⟨#[]⟩) ∧ Below w.heap.size w w' := by
  have B0 : Below w.heap.size w (w.alloc (.cells #[.int .i64 k, .int .i64 c, .int .i64 n] 144)) := (Below.refl _ w).alloc (Nat.le_refl _) _
  have D := Lib.hid (And.intro B0 (heap_alloc_new w (.cells #[.int .i64 k, .int .i64 c, .int .i64 n] 144)))
  clear B0
  obtain ⟨wa, hwa⟩ : ∃ wa, w.alloc (.cells #[.int .i64 k, .int .i64 c, .int .i64 n] 144) = wa := ⟨_, rfl⟩
  rw [hwa] at D
  obtain ⟨l0, l1, l2⟩ := loc_cells D.out.2
  rcases hr with d0 | ⟨d0, d1⟩
  · go_enter Tryz.func109, Tryz.ntmps109
    go_wp2_with fail
    go_ret
    exact ⟨rfl, D.out.1⟩
  · cases dk : k == 2
    all_goals
      go_enter Tryz.func109, Tryz.ntmps109
      go_wp2_with fail
      go_ret
      exact ⟨rfl, D.out.1⟩
theorem rname_v (k c n : Int) (hf : Deci.fit n) (s : ByteArray) (hs : ByteArray.mk (nameOf k c n).toArray = s) (w : World) : Calls Tryz.prog 109 #[.agg #[.int .i64 k, .int .i64 c, .int .i64 n]] w fun e w' => e = .returned (.string s) ∧ Below w.heap.size w w' := by
  subst hs
  unfold nameOf
  by_cases h2 : k = 2
  · rw [if_pos h2]; subst h2
    by_cases h0 : c = 0
    · rw [if_pos h0]; subst h0; exact rname_r0 n hf w
    by_cases h1 : c = 1
    · rw [if_neg h0, if_pos h1]; subst h1; exact rname_r1 n hf w
    rw [if_neg h0, if_neg h1]
    exact rname_no 2 c n (by decide) (.inr ⟨by rw [beq_eq_false_iff_ne]; exact h0, by rw [beq_eq_false_iff_ne]; exact h1⟩) w
  rw [if_neg h2]
  by_cases h3 : k = 3
  · rw [if_pos h3]; subst h3; exact rname_s c n hf w
  rw [if_neg h3]
  exact rname_no k c n (by rw [beq_eq_false_iff_ne]; exact h3) (.inl (by rw [beq_eq_false_iff_ne]; exact h2)) w
end Go.Proofs.YtbpichjmkllfaaaGreatDoor.Tg

/- The program's reader: what is found by a word: operations, classes. -/
namespace Go.Proofs.YtbpichjmkllfaaaGreatDoor.Par
open Go.ChangeShapes Go.WideShapes Go.RowKit
open Lex (Tok tcl tkv tk tc)
set_option linter.unusedVariables false
set_option maxRecDepth 20000

/-! Classes. -/
def ClassS (s : ByteArray) (r : Int) (b : Bool) : Prop := (s = ⟨#[103]⟩ ∧ r = 0 ∧ b = true) ∨ (s = ⟨#[120]⟩ ∧ r = 1 ∧ b = true) ∨ (s ≠ ⟨#[103]⟩ ∧ s ≠ ⟨#[120]⟩ ∧ r = 0 ∧ b = false)
theorem toList_ne {s t : ByteArray} (h : s ≠ t) : (t.toList == s.toList) = false := by
  rw [beq_eq_false_iff_ne, ByteArray.toList_eq, ByteArray.toList_eq]
  intro e
  exact h (ByteArray.ext (Array.ext' e.symm))
theorem toList_neL {s t : ByteArray} {l : List UInt8} (h : s ≠ t) (ht : t.toList = l) : (l == s.toList) = false := ht ▸ toList_ne h
theorem tclass_v (s : ByteArray) (w : World) : Calls Tryz.prog 119 #[.string s] w fun e w' => ∃ r b, ClassS s r b ∧ e = .returned (.tuple #[.int .i64 r, .bool b]) ∧ w = w' := by
  by_cases h0 : s = ⟨#[103]⟩
  · subst h0
    go_enter Tryz.func119, Tryz.ntmps119
    go_wp2_with fail
    refine wp_loop_rounds 3 ?_
    rw [rounds_succ]
    go_wp2_with fail
    refine (Tg.letter_v 0 ⟨#[103]⟩ rfl _).mono ?_
    rintro e w1 ⟨rfl, rfl⟩
    go_wp2_with fail
    go_ret2
    exact ⟨0, true, .inl ⟨rfl, rfl, rfl⟩, rfl, rfl⟩
  · have e0 := toList_neL (l := [103]) h0 (by decide +kernel)
    by_cases h1 : s = ⟨#[120]⟩
    · subst h1
      clear e0 h0
      go_enter Tryz.func119, Tryz.ntmps119
      go_wp2_with fail
      refine wp_loop_rounds 3 ?_
      rw [rounds_succ]
      go_wp2_with fail
      refine (Tg.letter_v 0 ⟨#[103]⟩ rfl _).mono ?_
      rintro e w1 ⟨rfl, rfl⟩
      go_wp2_with fail
      rw [rounds_succ]
      go_wp2_with fail
      refine (Tg.letter_v 1 ⟨#[120]⟩ rfl _).mono ?_
      rintro e w1 ⟨rfl, rfl⟩
      go_wp2_with fail
      go_ret2
      exact ⟨1, true, .inr (.inl ⟨rfl, rfl, rfl⟩), rfl, rfl⟩
    · have e1 := toList_neL (l := [120]) h1 (by decide +kernel)
      have H := Lib.hid (And.intro h0 h1)
      clear h0 h1
      go_enter Tryz.func119, Tryz.ntmps119
      go_wp2_with fail
      refine wp_loop_rounds 3 ?_
      rw [rounds_succ]
      go_wp2_with fail
      refine (Tg.letter_v 0 ⟨#[103]⟩ rfl _).mono ?_
      rintro e w1 ⟨rfl, rfl⟩
      go_wp2_with fail
      rw [rounds_succ]
      go_wp2_with fail
      refine (Tg.letter_v 1 ⟨#[120]⟩ rfl _).mono ?_
      rintro e w1 ⟨rfl, rfl⟩
      go_wp2_with fail
      rw [rounds_succ]
      go_wp2_with fail
      go_ret2
      exact ⟨0, false, .inr (.inr ⟨H.out.1, H.out.2, rfl, rfl⟩), rfl, rfl⟩
/-! Operations. -/
theorem nm_at (r : Nat) : Opr.nameOf ((r : Int)) = (Opr.rowOf (r : Int)).nm := rfl
section
variable {w : World} {p g n cp : Nat} {ts : List Tok} {a : Nat}
/-- A word by which something is found. -/
def knownM (f : List UInt8 → Int × Bool) (l : List Tok) : Res Int := if kindOf l = 1 ∧ (f (textOf l)).2 = true then .ok (f (textOf l)).1 l.tail else err l
theorem text_at {ts : List Tok} {a : Nat} {t : Tok} (h : ts[a]? = some t) : textOf (ts.drop a) = t.text := by rw [drop_at h]; rfl
/-- The operation of a word, as the program finds it. -/
def findF (s : List UInt8) : Int × Bool := ((findOp s : Nat), decide (findOp s ≠ 0))
theorem find_tab : ∀ k : Fin 27, (Opr.tab[k.val]?).map (fun r => r.nm) = some (Opr.nameOf ((k.val + 1 : Nat) : Int)) := by decide +kernel
theorem tab_len : Opr.tab.length = 27 := by decide +kernel
theorem find_is {s : List UInt8} {r : Int} {b : Bool} (h : Opr.FindS ⟨s.toArray⟩ r b) : findF s = (r, b) := by
  have hat : ∀ k, (hk : k < 27) → ∃ x, Opr.tab[k]? = some x ∧ x.nm = Opr.nameOf ((k + 1 : Nat) : Int) := by
    intro k hk
    have := find_tab ⟨k, hk⟩
    simp only [Option.map_eq_some_iff] at this
    exact this
  unfold findF findOp
  rcases h with ⟨rfl, h1, h2, h3⟩ | ⟨rfl, rfl, h3⟩
  · have hf : Opr.tab.findIdx? (fun x => decide (x.nm.data.toList = s)) = some (r.toNat - 1) := by
      rw [List.findIdx?_eq_some_iff_getElem]
      refine ⟨by rw [tab_len]; omega, ?_, ?_⟩
      · obtain ⟨x, hx, hn⟩ := hat (r.toNat - 1) (by omega)
        rw [List.getElem?_eq_getElem (by rw [tab_len]; omega)] at hx
        injection hx with hx
        rw [hx, hn, show ((r.toNat - 1 + 1 : Nat) : Int) = r by omega, h3]
        simp
      · intro j hj
        obtain ⟨x, hx, hn⟩ := hat j (by omega)
        rw [List.getElem?_eq_getElem (by rw [tab_len]; omega)] at hx
        injection hx with hx
        rw [hx, hn]
        simp only [decide_eq_true_eq]
        intro e
        have e2 : Opr.nameOf ((j + 1 : Nat) : Int) = Opr.nameOf r := by
          rw [h3]
          exact ByteArray.ext (Array.ext' e)
        have := Opr.names_apart ⟨j + 1, by omega⟩ ⟨r.toNat, by omega⟩ (by simp) (by simp; omega) (by
          show Opr.nameOf ((j + 1 : Nat) : Int) = Opr.nameOf ((r.toNat : Nat) : Int)
          rw [e2, show ((r.toNat : Nat) : Int) = r by omega])
        injection this with this
        omega
    rw [hf]
    simp only
    rw [show ((r.toNat - 1 + 1 : Nat) : Int) = r by omega]
    simp
  · have hf : Opr.tab.findIdx? (fun x => decide (x.nm.data.toList = s)) = none := by
      rw [List.findIdx?_eq_none_iff]
      intro x hx
      obtain ⟨j, hj, e⟩ := List.getElem_of_mem hx
      have hj' : j < 27 := by rw [tab_len] at hj; exact hj
      obtain ⟨y, hy, hn⟩ := hat j hj'
      rw [List.getElem?_eq_getElem hj, e] at hy
      injection hy with hy
      subst hy
      rw [hn]
      simp only [decide_eq_false_iff_not]
      intro e
      exact h3 (j + 1) (by omega) (by omega) (ByteArray.ext (Array.ext' e))
    rw [hf]
    rfl
theorem opfind_v (t : Tok) (w : World) (hg : Opr.Glob w) : Calls Tryz.prog 145 #[.string ⟨t.text.toArray⟩] w fun e w' => e = .returned (.tuple #[.int .i64 (findF t.text).1, .bool (findF t.text).2]) ∧ w = w' := by
  refine (Opr.find_v _ w hg).mono ?_
  rintro e w' ⟨r, b, hS, rfl, rfl⟩
  rw [find_is hS]
  exact ⟨rfl, rfl⟩
def classF (s : List UInt8) : Int × Bool := if s = [120] then (1, true) else if s = [103] then (0, true) else (0, false)
theorem classfind_v (t : Tok) (w : World) : Calls Tryz.prog 119 #[.string ⟨t.text.toArray⟩] w fun e w' => e = .returned (.tuple #[.int .i64 (classF t.text).1, .bool (classF t.text).2]) ∧ w = w' := by
  have inj : ∀ l m : List UInt8, (⟨l.toArray⟩ : ByteArray) = ⟨m.toArray⟩ → l = m := fun l m e => by injection e with e; injection e
  refine (tclass_v _ w).mono ?_
  rintro e w' ⟨r, b, hS, rfl, rfl⟩
  refine ⟨?_, rfl⟩
  unfold classF
  rcases hS with ⟨h, rfl, rfl⟩ | ⟨h, rfl, rfl⟩ | ⟨h1, h2, rfl, rfl⟩
  · have := inj _ [103] h
    rw [this]
    rfl
  · have := inj _ [120] h
    rw [this]
    rfl
  · rw [if_neg (fun e => h2 (by rw [e])), if_neg (fun e => h1 (by rw [e]))]
set_option maxHeartbeats 1000000 in
theorem kop_v (h : Lr w p g n cp ts a) :
    Calls Tryz.prog 118 #[.pointer (some ⟨p, 0, none⟩), .func (.func 145) #[] #[]] w (LP w p g n cp ts a (knownM findF) fun _ r val => val = .int .i64 r) := by
  obtain ⟨t, ht, _⟩ := h.tok
  have HA := Lib.hid (And.intro ht (And.intro h True.intro))
  clear ht h
  go_enter Tryz.func118, Tryz.ntmps118
  go_wp2_with fail
  refine (ltok_v HA.out.1 HA.out.2.1).mono ?_
  rintro e w1 ⟨rfl, hb1⟩
  obtain ⟨w2, hw2⟩ : ∃ w2, w1.alloc (.cells #[.int .i64 t.kind, .string ⟨t.text.toArray⟩, .int .i64 t.n, .int .i64 t.cls, .int .i64 t.at_] 72) = w2 := ⟨_, rfl⟩
  have nb2 := new_box w1 _ 72 hw2
  have B2 : Below w.heap.size w w2 := hb1.trans (nb2.1.mono hb1.size)
  have R2 := HA.out.2.1.below B2
  obtain ⟨⟨x0, x1, x2, x3, x4⟩, _⟩ := box5 nb2.2
  have HB := Lib.hid (And.intro B2 R2)
  clear hb1 nb2 B2 R2
  unfold tkv tk tc
  go_wp2_with fail
  refine (opfind_v t w2 HB.out.2.gl).mono ?_
  rintro e w3 ⟨rfl, rfl⟩
  obtain ⟨r, hr⟩ : ∃ r, (findF t.text).1 = r := ⟨_, rfl⟩
  obtain ⟨b, hb⟩ : ∃ b, (findF t.text).2 = b := ⟨_, rfl⟩
  rw [hr, hb]
  have HR := Lib.hid (And.intro hr hb)
  clear hr hb
  by_cases hk : t.kind = 1
  · have hk1 : ((t.kind : Int) != 1) = false := by rw [hk]; rfl
    cases b with
    | false =>
      have HK := Lib.hid hk
      clear hk
      go_wp2_with fail
      refine (lwrong_v HA.out.1 HB.out.2).mono ?_
      rintro e w3 ⟨rfl, hb⟩
      have HC := Lib.hid hb
      clear hb
      go_wp2_with fail
      refine ⟨rfl, Step.of (HB.out.1.trans (HC.out.mono HB.out.1.size)), Or.inr ⟨20, t.at_, by decide, ?_, rfl⟩⟩
      unfold knownM
      rw [text_at HA.out.1, HR.out.2, if_neg (by rintro ⟨_, h⟩; cases h)]
      unfold err
      rw [head_at HA.out.1]
    | true =>
      have hn := HA.out.2.1.more HA.out.1 (by omega)
      obtain ⟨a1, ha1⟩ : ∃ a1, a + 1 = a1 := ⟨_, rfl⟩
      obtain ⟨c0, c1⟩ := HB.out.2.cells
      have f1 := box_frozen HB.out.2.box 1
      obtain ⟨q1, q2, q3⟩ := plus1 hn HA.out.2.1.few ha1
      have g3 := HB.out.2.set a1 (by omega)
      have HK := Lib.hid (And.intro hk (And.intro g3 ha1))
      clear hk hn g3 ha1 c0
      go_wp2_with fail
      go_ret
      refine ⟨(Step.of HB.out.1).trans (HK.out.2.1.1.mono HB.out.1.size), Or.inl ⟨r, a1, _, ?_, rfl, rfl, HK.out.2.1.2⟩⟩
      unfold knownM
      rw [text_at HA.out.1, HR.out.2, HR.out.1, kind_at HA.out.1, if_pos ⟨HK.out.1, rfl⟩, tail_at, HK.out.2.2]
  · have hk1 : ((t.kind : Int) != 1) = true := by simp; omega
    have HK := Lib.hid hk
    clear hk
    go_wp2_with fail
    refine (lwrong_v HA.out.1 HB.out.2).mono ?_
    rintro e w3 ⟨rfl, hb⟩
    have HC := Lib.hid hb
    clear hb
    go_wp2_with fail
    refine ⟨rfl, Step.of (HB.out.1.trans (HC.out.mono HB.out.1.size)), Or.inr ⟨20, t.at_, by decide, ?_, rfl⟩⟩
    unfold knownM
    rw [kind_at HA.out.1, if_neg (by rintro ⟨h, _⟩; exact HK.out h)]
    unfold err
    rw [head_at HA.out.1]
set_option maxHeartbeats 1000000 in
theorem kclass_v (h : Lr w p g n cp ts a) :
    Calls Tryz.prog 118 #[.pointer (some ⟨p, 0, none⟩), .func (.func 119) #[] #[]] w (LP w p g n cp ts a (knownM classF) fun _ r val => val = .int .i64 r) := by
  obtain ⟨t, ht, _⟩ := h.tok
  have HA := Lib.hid (And.intro ht (And.intro h True.intro))
  clear ht h
  go_enter Tryz.func118, Tryz.ntmps118
  go_wp2_with fail
  refine (ltok_v HA.out.1 HA.out.2.1).mono ?_
  rintro e w1 ⟨rfl, hb1⟩
  obtain ⟨w2, hw2⟩ : ∃ w2, w1.alloc (.cells #[.int .i64 t.kind, .string ⟨t.text.toArray⟩, .int .i64 t.n, .int .i64 t.cls, .int .i64 t.at_] 72) = w2 := ⟨_, rfl⟩
  have nb2 := new_box w1 _ 72 hw2
  have B2 : Below w.heap.size w w2 := hb1.trans (nb2.1.mono hb1.size)
  have R2 := HA.out.2.1.below B2
  obtain ⟨⟨x0, x1, x2, x3, x4⟩, _⟩ := box5 nb2.2
  have HB := Lib.hid (And.intro B2 R2)
  clear hb1 nb2 B2 R2
  unfold tkv tk tc
  go_wp2_with fail
  refine (classfind_v t w2).mono ?_
  rintro e w3 ⟨rfl, rfl⟩
  obtain ⟨r, hr⟩ : ∃ r, (classF t.text).1 = r := ⟨_, rfl⟩
  obtain ⟨b, hb⟩ : ∃ b, (classF t.text).2 = b := ⟨_, rfl⟩
  rw [hr, hb]
  have HR := Lib.hid (And.intro hr hb)
  clear hr hb
  by_cases hk : t.kind = 1
  · have hk1 : ((t.kind : Int) != 1) = false := by rw [hk]; rfl
    cases b with
    | false =>
      have HK := Lib.hid hk
      clear hk
      go_wp2_with fail
      refine (lwrong_v HA.out.1 HB.out.2).mono ?_
      rintro e w3 ⟨rfl, hb⟩
      have HC := Lib.hid hb
      clear hb
      go_wp2_with fail
      refine ⟨rfl, Step.of (HB.out.1.trans (HC.out.mono HB.out.1.size)), Or.inr ⟨20, t.at_, by decide, ?_, rfl⟩⟩
      unfold knownM
      rw [text_at HA.out.1, HR.out.2, if_neg (by rintro ⟨_, h⟩; cases h)]
      unfold err
      rw [head_at HA.out.1]
    | true =>
      have hn := HA.out.2.1.more HA.out.1 (by omega)
      obtain ⟨a1, ha1⟩ : ∃ a1, a + 1 = a1 := ⟨_, rfl⟩
      obtain ⟨c0, c1⟩ := HB.out.2.cells
      have f1 := box_frozen HB.out.2.box 1
      obtain ⟨q1, q2, q3⟩ := plus1 hn HA.out.2.1.few ha1
      have g3 := HB.out.2.set a1 (by omega)
      have HK := Lib.hid (And.intro hk (And.intro g3 ha1))
      clear hk hn g3 ha1 c0
      go_wp2_with fail
      go_ret
      refine ⟨(Step.of HB.out.1).trans (HK.out.2.1.1.mono HB.out.1.size), Or.inl ⟨r, a1, _, ?_, rfl, rfl, HK.out.2.1.2⟩⟩
      unfold knownM
      rw [text_at HA.out.1, HR.out.2, HR.out.1, kind_at HA.out.1, if_pos ⟨HK.out.1, rfl⟩, tail_at, HK.out.2.2]
  · have hk1 : ((t.kind : Int) != 1) = true := by simp; omega
    have HK := Lib.hid hk
    clear hk
    go_wp2_with fail
    refine (lwrong_v HA.out.1 HB.out.2).mono ?_
    rintro e w3 ⟨rfl, hb⟩
    have HC := Lib.hid hb
    clear hb
    go_wp2_with fail
    refine ⟨rfl, Step.of (HB.out.1.trans (HC.out.mono HB.out.1.size)), Or.inr ⟨20, t.at_, by decide, ?_, rfl⟩⟩
    unfold knownM
    rw [kind_at HA.out.1, if_neg (by rintro ⟨h, _⟩; exact HK.out h)]
    unfold err
    rw [head_at HA.out.1]
end
end Go.Proofs.YtbpichjmkllfaaaGreatDoor.Par
