/- What Class, Usual, Spoilt and the document's Ints answer. -/
import Derived.Test.YtmfodjdgekafoaaSpoils
import Derived.ProofKit
import Derived.OwnWalk
import Derived.Laws.OwnMore
import Derived.Deep.Light
import Derived.Laws.Strings
namespace Go.Proofs.Ytmfodjdgekafoaa
open Go.ChangeShapes Go.WideShapes Go.RowKit
set_option linter.unusedVariables false
set_option maxRecDepth 20000

/-- Two lists held against each other. -/
def sameL {α : Type} (f : α → α → Bool) : List α → List α → Bool
  | [], [] => true
  | a :: l, b :: m => f a b && sameL f l m
  | _, _ => false
theorem sameL_len {α : Type} (f : α → α → Bool) (l m : List α) (h : l.length ≠ m.length) : sameL f l m = false := by
  induction l generalizing m with
  | nil => cases m with
    | nil => exact absurd rfl h
    | cons b m => rfl
  | cons a l ih => cases m with
    | nil => rfl
    | cons b m =>
      show (f a b && sameL f l m) = false
      rw [ih m (fun e => h (by simp [e])), Bool.and_false]
theorem sameL_no {α : Type} (f : α → α → Bool) (l m : List α) (k : Nat) (x y : α) (hx : l[k]? = some x) (hy : m[k]? = some y) (h : f x y = false) : sameL f l m = false := by
  induction l generalizing m k with
  | nil => simp at hx
  | cons a l ih => cases m with
    | nil => rfl
    | cons b m =>
      show (f a b && sameL f l m) = false
      cases k with
      | zero =>
        simp only [List.getElem?_cons_zero, Option.some.injEq] at hx hy
        rw [hx, hy, h, Bool.false_and]
      | succ k => rw [ih m k (by simpa using hx) (by simpa using hy), Bool.and_false]
theorem sameL_yes {α : Type} (f : α → α → Bool) (l m : List α) (hl : l.length = m.length) (h : ∀ (k : Nat) (x y : α), l[k]? = some x → m[k]? = some y → f x y = true) : sameL f l m = true := by
  induction l generalizing m with
  | nil => cases m with
    | nil => rfl
    | cons b m => simp at hl
  | cons a l ih => cases m with
    | nil => simp at hl
    | cons b m =>
      show (f a b && sameL f l m) = true
      rw [h 0 a b rfl rfl, ih m (by simpa using hl) (fun k x y hx hy => h (k + 1) x y (by simpa using hx) (by simpa using hy))]
      rfl
def intEq (a b : Int) : Bool := a == b
set_option maxHeartbeats 1000000 in
theorem ints_v (A A' : Option Addr) (n n' c c' : Nat) (l l' : List Int) (w : World) (h : IsInts w A n l) (h' : IsInts w A' n' l') :
    Calls Try.prog 21 #[.slice A n c, .slice A' n' c'] w fun e w' => e = .returned (.bool (sameL intEq l l')) ∧ Below w.heap.size w w' := by
  have hl := h.1
  have hl' := h'.1
  have hm := h.2.1
  by_cases hn : ¬ n = n'
  · rw [sameL_len intEq l l' (by omega)]
    have i1 : ¬ (n : Int) = (n' : Int) := by omega
    clear h h' hl hl'
    go_enter Try.func21, Try.ntmps21
    go_wp2_with fail
    go_ret
    exact ⟨rfl, Below.refl _ _⟩
  have hn := Decidable.not_not.1 hn
  subst hn
  have H0 := Lib.hid (And.intro h (And.intro h' (And.intro hl hl')))
  clear h h' hl hl'
  go_enter Try.func21, Try.ntmps21
  go_wp2_with fail
  go_loopg [5] n (fun gk u wr => ∃ k : Nat, k + gk = n ∧ u = .int .i64 (k : Int) ∧ Hid (Below w.heap.size w wr ∧ ∀ (j : Nat) (x y : Int), j < k → l[j]? = some x → l'[j]? = some y → intEq x y = true))
  case atStart => exact ⟨0, by omega, rfl, Below.refl _ _, fun j x y hj => by omega⟩
  case round =>
    obtain ⟨k, hk, rfl, HH⟩ := hrel
    by_cases hlt : k < n
    · obtain ⟨h, h', hl, hl'⟩ := H0.out
      obtain ⟨b, o, rfl, hb, x, hx, c0⟩ := (h.below HH.out.1).at hlt
      obtain ⟨b', o', rfl, hb', y, hy, d0⟩ := (h'.below HH.out.1).at hlt
      have i1 : (k : Int) < (n : Int) := by omega
      cases hq : intEq x y
      · have R : sameL intEq l l' = false := sameL_no intEq l l' k x y hx hy hq
        have HX := Lib.hid R
        clear h h' hl hl' R hx hy
        have E : (x == y) = false := hq
        have E' : ¬ x = y := by simpa using E
        clear hq
        go_wp2_with fail
        go_quiet (fail)
        go_wp2_with fail
        go_ret
        exact ⟨by rw [HX.out]; rfl, (Below.drewQ HH.out.1 _)⟩
      · have R : Hid (∀ (j : Nat) (x y : Int), j < k + 1 → l[j]? = some x → l'[j]? = some y → intEq x y = true) := Lib.hid (fun j x2 y2 hj h2 h3 => by
          rcases Nat.lt_or_ge j k with h4 | h4
          · exact HH.out.2 j x2 y2 h4 h2 h3
          · obtain rfl : j = k := by omega
            rw [hx] at h2; injection h2 with h2; rw [hy] at h3; injection h3 with h3
            subst h2 h3; exact hq)
        clear h h' hl hl' hx hy
        have E : (x == y) = true := hq
        have E' : x = y := by simpa using E
        clear hq
        go_wp2_with fail
        go_quiet (fail)
        go_wp2_with fail
        go_roundg (gk - 1)
        case measure => omega
        case rel => exact ⟨k + 1, by omega, by go_num, (Below.drewQ HH.out.1 _), R.out⟩
    · obtain rfl : k = n := by omega
      have hge : ¬ (k : Int) < (k : Int) := by omega
      have R : sameL intEq l l' = true := sameL_yes intEq l l' (by rw [H0.out.2.2.1, H0.out.2.2.2]) (fun j x y hx hy => HH.out.2 j x y (by
        have := (List.getElem?_eq_some_iff.1 hx).1; have := H0.out.2.2.1; omega) hx hy)
      have HX := Lib.hid R
      clear R
      go_wp2_with fail
      go_ret
      exact ⟨by rw [HX.out]; rfl, HH.out.1⟩
/-- Is a text a class's letter? -/
def isL (c : Nat) (s : ByteArray) : Bool := ((ByteArray.mk (letter (c : Int)).toArray).toList == s.toList)
def classOf (s : ByteArray) : Int × Bool := if isL 0 s = true then (0, true) else if isL 1 s = true then (1, true) else (0, false)
theorem class_hit (s : ByteArray) (c : Nat) (hc : c < 2) (hn : ∀ j, j < c → isL j s = false) (h : isL c s = true) : classOf s = ((c : Int), true) := by
  have : c = 0 ∨ c = 1 := by omega
  unfold classOf
  rcases this with rfl | rfl
  · rw [if_pos h]; rfl
  · rw [if_neg (by rw [hn 0 (by omega)]; decide), if_pos h]; rfl
theorem class_miss (s : ByteArray) (hn : ∀ j, j < 2 → isL j s = false) : classOf s = (0, false) := by
  unfold classOf
  rw [if_neg (by rw [hn 0 (by omega)]; decide), if_neg (by rw [hn 1 (by omega)]; decide)]
set_option maxHeartbeats 1000000 in
theorem clsOf_v (s : ByteArray) (z : Int) (b : Bool) (hz : classOf s = (z, b)) (w : World) : Calls Try.prog 19 #[.string s] w fun e w' => e = .returned (.tuple #[.int .i64 z, .bool b]) ∧ w = w' := by
  have HZ := Lib.hid hz
  clear hz
  go_enter Try.func19, Try.ntmps19
  go_wp2_with fail
  go_loopg [5] 2 (fun gk u wr => ∃ c : Nat, c + gk = 2 ∧ u = .int .i64 (c : Int) ∧ Hid (wr = w ∧ ∀ j, j < c → isL j s = false))
  case atStart => exact ⟨0, by omega, rfl, rfl, fun j hj => by omega⟩
  case round =>
    obtain ⟨c, hk, rfl, HH⟩ := hrel
    obtain rfl := HH.out.1
    by_cases hlt : c < 2
    · have i1 : (c : Int) < 2 := by omega
      obtain ⟨L, hL⟩ : ∃ L : ByteArray, ByteArray.mk (letter (c : Int)).toArray = L := ⟨_, rfl⟩
      have HL := Lib.hid hL
      cases hq : (L.toList == s.toList)
      · have HQ := Lib.hid (show isL c s = false from by unfold isL; rw [hL]; exact hq)
        clear hL
        go_wp2_with fail
        refine (letter_v (c : Int) L HL.out _).mono ?_
        rintro e w1 ⟨rfl, rfl⟩
        go_wp2_with fail
        go_roundg (gk - 1)
        case measure => omega
        case rel => exact ⟨c + 1, by omega, by go_num, rfl, fun j hj => by
          rcases Nat.lt_or_ge j c with h4 | h4
          · exact HH.out.2 j h4
          · have e : j = c := by omega
            rw [e]; exact HQ.out⟩
      · have HQ := Lib.hid (class_hit s c hlt HH.out.2 (by unfold isL; rw [hL]; exact hq))
        clear hL
        go_wp2_with fail
        refine (letter_v (c : Int) L HL.out _).mono ?_
        rintro e w1 ⟨rfl, rfl⟩
        go_wp2_with fail
        go_ret2
        have e := HZ.out
        rw [HQ.out] at e
        injection e with e1 e2
        subst e1; subst e2
        exact ⟨rfl, rfl⟩
    · obtain rfl : c = 2 := by omega
      have HQ := Lib.hid (class_miss s HH.out.2)
      go_wp2_with fail
      go_ret2
      have e := HZ.out
      rw [HQ.out] at e
      injection e with e1 e2
      subst e1; subst e2
      exact ⟨rfl, rfl⟩
/-- The usual target. -/
def usual : Tgt := ⟨8, 4, [0, 1, 2, 3], [0, 1], 1024⟩
structure UsualP (w : World) (e : Ending) (w' : World) : Prop where
  out : ∃ r, e = .returned (.agg (tgtR usual r)) ∧ IsTgt w' usual r ∧ Below w.heap.size w w'
theorem heap_at3 (w : World) (a b c : Obj) : (((w.alloc a).alloc b).alloc c).heap[w.heap.size]? = some a ∧ (((w.alloc a).alloc b).alloc c).heap[w.heap.size + 1]? = some b ∧ (((w.alloc a).alloc b).alloc c).heap[w.heap.size + 1 + 1]? = some c := by
  refine ⟨?_, ?_, ?_⟩
  · rw [Below.heap_alloc _ _ _ (by simp; omega)]; exact (box_two w a b).1
  · rw [Below.heap_alloc _ _ _ (by simp)]; exact (box_two w a b).2
  · have := heap_alloc_new ((w.alloc a).alloc b) c
    simpa using this
theorem ints_at {w : World} {g : Nat} {l : List Int} {t : TypeId} (h : w.heap[g]? = some (.cells (l.map (Value.int .i64)).toArray t (0, 0))) (hn : l.length ≤ 9223372036854775807) : IsInts w (some ⟨g, 0, none⟩) l.length l := by
  refine ⟨rfl, hn, .inr ⟨g, 0, rfl, (Array.getElem?_eq_some_iff.1 h).1, fun k hk => ?_⟩⟩
  rw [cell_in h]
  simp [hk]
set_option maxHeartbeats 1000000 in
theorem usual_v (w : World) : Calls Try.prog 20 #[] w (UsualP w) := by
  go_enter Try.func20, Try.ntmps20
  go_wp2_with fail
  obtain ⟨h1, h2, h3⟩ := heap_at3 w (.cells #[.int .i64 8, .int .i64 4, .slice (some ⟨w.heap.size + 1, 0, none⟩) 4 4, .slice (some ⟨w.heap.size + 1 + 1, 0, none⟩) 2 2, .int .i64 1024] 26) (.cells #[.int .i64 0, .int .i64 1, .int .i64 2, .int .i64 3] 3) (.cells #[.int .i64 0, .int .i64 1] 3)
  refine bodyPost_ret (results_cell_row (fn := Try.f20) rfl _ _ w.heap.size 26 #[.int .i64 8, .int .i64 4, .slice (some ⟨w.heap.size + 1, 0, none⟩) 4 4, .slice (some ⟨w.heap.size + 1 + 1, 0, none⟩) 2 2, .int .i64 1024] (0, 0) _ rfl h1 Try.underlying26 rfl (by kernel_rfl)) rfl ?_
  exact ⟨⟨some ⟨w.heap.size + 1, 0, none⟩, 4, 4, some ⟨w.heap.size + 1 + 1, 0, none⟩, 2, 2⟩, rfl, ⟨ints_at (l := [0, 1, 2, 3]) h2 (by decide), ints_at (l := [0, 1]) h3 (by decide)⟩, (((Below.refl _ w).alloc (Nat.le_refl _) _).alloc (by simp) _).alloc (by simp; omega) _⟩
/-- Places in registers. -/
def locC (x : Nat × Int) : List Value := [.int .i64 2, .int .i64 (x.1 : Int), .int .i64 x.2]
def IsLocs (w : World) (A : Option Addr) (n : Nat) (l : List (Nat × Int)) : Prop :=
  l.length = n ∧ n ≤ 9223372036854775807 ∧ (l = [] ∨ ∃ b o, A = some ⟨b, o, none⟩ ∧ b < w.heap.size ∧ ∀ k (h : k < l.length), w.cell? ⟨b, o + k * 3, none⟩ = some (.int .i64 2) ∧ w.cell? ⟨b, o + k * 3 + 1, none⟩ = some (.int .i64 (l[k].1 : Int)) ∧ w.cell? ⟨b, o + k * 3 + 2, none⟩ = some (.int .i64 l[k].2))
theorem IsLocs.below {w w' : World} {A : Option Addr} {n : Nat} {l : List (Nat × Int)} (h : IsLocs w A n l) (hb : Below w.heap.size w w') : IsLocs w' A n l := by
  obtain ⟨h1, hm, h | ⟨b, o, rfl, hlt, hc⟩⟩ := h
  · exact ⟨h1, hm, .inl h⟩
  · refine ⟨h1, hm, .inr ⟨b, o, rfl, Nat.lt_of_lt_of_le hlt hb.size, fun k hk => ?_⟩⟩
    obtain ⟨c0, c1, c2⟩ := hc k hk
    exact ⟨(hb.cell hlt).trans c0, (hb.cell hlt).trans c1, (hb.cell hlt).trans c2⟩
theorem IsLocs.at {w : World} {A : Option Addr} {n : Nat} {l : List (Nat × Int)} (h : IsLocs w A n l) {k : Nat} (hk : k < n) : ∃ b o, A = some ⟨b, o, none⟩ ∧ b < w.heap.size ∧ ∃ x, l[k]? = some x ∧ w.cell? ⟨b, o + k * 3, none⟩ = some (.int .i64 2) ∧ w.cell? ⟨b, o + k * 3 + 1, none⟩ = some (.int .i64 (x.1 : Int)) ∧ w.cell? ⟨b, o + k * 3 + 2, none⟩ = some (.int .i64 x.2) := by
  obtain ⟨h1, hm, h | ⟨b, o, rfl, hlt, hc⟩⟩ := h
  · rw [h] at h1; simp at h1; omega
  · exact ⟨b, o, rfl, hlt, l[k]'(by omega), List.getElem?_eq_getElem (by omega), hc k (by omega)⟩
theorem flat_len {α : Type} (f : α → List Value) (s : Nat) (hs : ∀ x, (f x).length = s) (l : List α) : (l.flatMap f).length = l.length * s := by
  induction l with
  | nil => simp
  | cons a l ih => rw [List.flatMap_cons, List.length_append, hs, ih, List.length_cons, Nat.add_mul]; omega
theorem flat_at {α : Type} (f : α → List Value) (s : Nat) (hs : ∀ x, (f x).length = s) (l : List α) (k j : Nat) (x : α) (hk : l[k]? = some x) (hj : j < s) : (l.flatMap f)[k * s + j]? = (f x)[j]? := by
  induction l generalizing k with
  | nil => simp at hk
  | cons a l ih =>
    cases k with
    | zero =>
      simp at hk; subst hk
      rw [List.flatMap_cons, Nat.zero_mul, Nat.zero_add, List.getElem?_append_left (by rw [hs]; exact hj)]
    | succ k =>
      rw [List.flatMap_cons, List.getElem?_append_right (by rw [hs, Nat.succ_mul]; omega), hs]
      have e : (k + 1) * s + j - s = k * s + j := by rw [Nat.succ_mul]; omega
      rw [e]
      exact ih k (by simpa using hk)
theorem locs_row {w : World} {base : Nat} {A : Option Addr} {c n : Nat} {l : List (Nat × Int)} (h : w.ownsRow base 28 3 (.slice A n c) n (l.flatMap locC)) (hl : l.length = n) (hn : n ≤ 9223372036854775807) : IsLocs w A n l := by
  refine ⟨hl, hn, ?_⟩
  rcases h.2 with ⟨h2, h3⟩ | ⟨g, cap, cur, h2, h3, h4, h5, h6, h7, h8⟩
  · subst h3; exact .inl (List.eq_nil_of_length_eq_zero hl)
  · injection h2 with e1 _ _
    subst e1
    have hc : ∀ k j (hk : k < l.length) (hj : j < 3) u, (locC l[k])[j]? = some u → w.cell? ⟨g, 0 + k * 3 + j, none⟩ = some u := fun k j hk hj u hu => by
      rw [cell_in h4, ← Array.getElem?_toList]
      have e : (cur.toList.take (n * 3))[0 + k * 3 + j]? = (l.flatMap locC)[0 + k * 3 + j]? := by rw [h8]
      rw [List.getElem?_take, if_pos (by omega)] at e
      rw [e, Nat.zero_add, flat_at locC 3 (fun _ => rfl) l k j l[k] (List.getElem?_eq_getElem hk) hj]
      exact hu
    exact .inr ⟨g, 0, rfl, (Array.getElem?_eq_some_iff.1 h4).1, fun k hk => ⟨hc k 0 hk (by omega) _ rfl, hc k 1 hk (by omega) _ rfl, hc k 2 hk (by omega) _ rfl⟩⟩
theorem grown_of {w w' : World} (hb : Below w.heap.size w w') : w.grownBy w' none := ⟨hb.os, hb.tape, hb.output, hb.size, fun k hk _ => hb.block k hk⟩
theorem owns_below {w w' : World} {base : Nat} {e : TypeId} {size : Nat} {v : Value} {n : Nat} {xs : List Value} (h : w.ownsRow base e size v n xs) (hb : Below w.heap.size w w') : w'.ownsRow base e size v n xs := by
  refine ⟨h.1, ?_⟩
  rcases h.2 with h2 | ⟨g, cap, cur, h2, h3, h4, h5⟩
  · exact .inl h2
  · exact .inr ⟨g, cap, cur, h2, h3, by rw [hb.block g (Array.getElem?_eq_some_iff.1 h4).1]; exact h4, h5⟩
theorem owns_form {w : World} {base : Nat} {e : TypeId} {size : Nat} {v : Value} {n : Nat} {xs : List Value} (h : w.ownsRow base e size v n xs) : ∃ A c, v = .slice A n c := by
  rcases h.2 with ⟨h2, h3⟩ | ⟨g, cap, cur, h2, _⟩
  · exact ⟨none, 0, by rw [h2, h3]⟩
  · exact ⟨_, _, h2⟩
theorem below_row {B base : Nat} {w wr w2 : World} {e : TypeId} {size : Nat} {v : Value} {n : Nat} {xs : List Value} (h : Below B w wr) (hg : wr.grownBy w2 v.ownBlock) (ho : wr.ownsRow base e size v n xs) (hB : B ≤ base) (hs : B ≤ wr.heap.size) : Below B w w2 :=
  h.grown hg hs (fun k hk => Nat.le_trans hB (World.ownsRow.lt ho k hk).1)
theorem new_cell (w : World) (cs : Array Value) (t : TypeId) (l : List Value) (hl : cs.toList = l) : ∀ j u, l[j]? = some u → (w.alloc (.cells cs t)).cell? ((⟨w.heap.size, 0, none⟩ : Addr).add j) = some u := by
  intro j u hj
  rw [add_at, Nat.zero_add, cell_in (heap_alloc_new w (.cells cs t)), ← Array.getElem?_toList, hl]
  exact hj
theorem info28_own : (Try.prog.info? 28).map (fun i => (i.zero, i.size, i.bytes)) = some (some (.agg #[.int .i64 0, .int .i64 0, .int .i64 0]), 3, 24) := by kernel_rfl
theorem info28_parts : ∃ i, Try.prog.info? 28 = some i ∧ i.zero = some (.agg #[.int .i64 0, .int .i64 0, .int .i64 0]) ∧ i.size = 3 ∧ i.bytes = 24 := by
  obtain ⟨i, hi, hinfo⟩ := Option.map_eq_some_iff.1 info28_own
  exact ⟨i, hi, congrArg Prod.fst hinfo, congrArg (fun x => x.2.1) hinfo, congrArg (fun x => x.2.2) hinfo⟩
/-- What a call spoils, so far in the classes. -/
def spl (i : Tgt) (c : Nat) : List (Nat × Int) := (i.c c).map (fun n => (c, n))
def spAll (i : Tgt) : List (Nat × Int) := spl i 0 ++ spl i 1
def spTo (i : Tgt) (c : Nat) : List (Nat × Int) := if c = 0 then [] else if c = 1 then spl i 0 else spAll i
theorem spTo_step (i : Tgt) (c : Nat) (hc : c < 2) : spTo i (c + 1) = spTo i c ++ spl i c := by
  have : c = 0 ∨ c = 1 := by omega
  rcases this with rfl | rfl <;> rfl
structure SpoiltP (i : Tgt) (w : World) (e : Ending) (w' : World) : Prop where
  out : ∃ A c, e = .returned (.slice A (spAll i).length c) ∧ IsLocs w' A (spAll i).length (spAll i) ∧ Below w.heap.size w w'
theorem spTo_len (i : Tgt) (c : Nat) (hc : c < 2) (h0 : i.c0.length ≤ 1048576) (h1 : i.c1.length ≤ 1048576) : (spTo i c).length ≤ 1048576 := by
  have : c = 0 ∨ c = 1 := by omega
  rcases this with rfl | rfl
  · exact Nat.zero_le _
  · show ((i.c 0).map _).length ≤ _; rw [List.length_map]; exact h0
set_option maxHeartbeats 4000000 in
theorem spoilt_v (i : Tgt) (r : TgtV) (w : World) (h : IsTgt w i r) (h0 : i.c0.length ≤ 1048576) (h1 : i.c1.length ≤ 1048576) : Calls Try.prog 16 #[.agg (tgtR i r)] w (SpoiltP i w) := by
  have B0 : Below w.heap.size w (w.alloc (.cells (tgtR i r) 26)) := (Below.refl _ w).alloc (Nat.le_refl _) _
  have D := Lib.hid (And.intro (h.below B0) (And.intro B0 (And.intro (heap_alloc_new w (.cells (tgtR i r) 26)) (And.intro (show (w.alloc (.cells (tgtR i r) 26)).heap.size = w.heap.size + 1 by simp) (And.intro h0 h1)))))
  clear h B0 h0 h1
  obtain ⟨i0, hi0, hz0, hz1, hz2⟩ := info28_parts
  have I0 := Lib.hid (And.intro hi0 (And.intro hz0 (And.intro hz1 hz2)))
  clear hi0 hz0 hz1 hz2
  obtain ⟨wa, hwa⟩ : ∃ wa, w.alloc (.cells (tgtR i r) 26) = wa := ⟨_, rfl⟩
  rw [hwa] at D
  obtain ⟨cs, hcs⟩ : ∃ cs, tgtR i r = cs := ⟨_, rfl⟩
  have HCS := Lib.hid hcs
  rw [hcs] at hwa D ⊢
  clear hcs
  go_enter Try.func16, Try.ntmps16
  go_wp2_with fail
  clear hwa
  obtain ⟨P, hP⟩ : ∃ P, w.heap.size = P := ⟨_, rfl⟩
  have HP := Lib.hid hP
  have D1 := Lib.hid (show Below P w wa ∧ wa.heap[P]? = some (.cells cs 26 (0, 0)) ∧ wa.heap.size = P + 1 from by rw [← hP]; exact ⟨D.out.2.1, D.out.2.2.1, D.out.2.2.2.1⟩)
  rw [hP]
  clear hP
  go_loopg [3, 7] 2 (fun gk u v wr => ∃ (c : Nat) (A : Option Addr) (cp L : Nat), c + gk = 2 ∧ u = .slice A L cp ∧ v = .int .i64 (c : Int) ∧ Hid ((spTo i c).length = L ∧ wr.ownsRow (P + 1) 28 3 (.slice A L cp) L ((spTo i c).flatMap locC) ∧ Below wa.heap.size wa wr))
  case atStart => exact ⟨0, none, 0, 0, by omega, rfl, rfl, rfl, World.ownsRow_nil _ _ _ _, Below.refl _ _⟩
  case round =>
    obtain ⟨c, A, cp, L, hk, rfl, rfl, HH⟩ := hrel
    have BW := Lib.hid HH.out.2.2
    by_cases hlt : c < 2
    · have i1 : (c : Int) < 2 := by omega
      have hbox := kept_box D1.out.2.1 BW.out
      have k1 : wr.cell? ⟨P, 2 + c, none⟩ = some (.slice (r.a c) (r.n c) (r.m c)) := (cell_in hbox (2 + c)).trans (by rw [← HCS.out]; exact tgt_c i r c hlt)
      have hin := D.out.1.ints c
      have hcl : (i.c c).length ≤ 1048576 := by
        have : c = 0 ∨ c = 1 := by omega
        rcases this with rfl | rfl
        · exact D.out.2.2.2.2.1
        · exact D.out.2.2.2.2.2
      have hLs : L ≤ 1048576 := by rw [← HH.out.1]; exact spTo_len i c hlt D.out.2.2.2.2.1 D.out.2.2.2.2.2
      obtain ⟨a, ha⟩ : ∃ a, r.a c = a := ⟨_, rfl⟩
      obtain ⟨n, hn⟩ : ∃ n, r.n c = n := ⟨_, rfl⟩
      obtain ⟨m, hm⟩ : ∃ m, r.m c = m := ⟨_, rfl⟩
      obtain ⟨l, hl⟩ : ∃ l, i.c c = l := ⟨_, rfl⟩
      have HL := Lib.hid hl
      rw [ha, hn, hm] at k1
      rw [ha, hn, hl] at hin
      rw [hl] at hcl
      have hns : n ≤ 1048576 := by rw [← hin.1]; exact hcl
      have HI := Lib.hid hin
      clear ha hn hm hl hin hbox hcl
      go_wp2_with fail
      clear k1
      go_loopg [3, 15] n (fun gk u v wr => ∃ (k : Nat) (A : Option Addr) (cp : Nat), k + gk = n ∧ u = .slice A (L + k) cp ∧ v = .int .i64 (k : Int) ∧ Hid (wr.ownsRow (P + 1) 28 3 (.slice A (L + k) cp) (L + k) ((spTo i c ++ (l.take k).map (fun n => (c, n))).flatMap locC) ∧ Below wa.heap.size wa wr))
      case atStart =>
        refine ⟨0, A, cp, by omega, rfl, rfl, ?_, BW.out⟩
        rw [List.take_zero, List.map_nil, List.append_nil]
        exact HH.out.2.1
      case round =>
        obtain ⟨k, A, cp, hk, rfl, rfl, HK⟩ := hrel
        by_cases hlk : k < n
        · obtain ⟨g, o, hA, hg, y, hy, c0⟩ := (HI.out.below HK.out.2).at hlk
          have i2 : (k : Int) < (n : Int) := by omega
          subst hA
          have HY := Lib.hid hy
          clear hy
          have B2 : Below wr.heap.size wr (wr.alloc (.cells #[.int .i64 2, .int .i64 (c : Int), .int .i64 y] 28)) := (Below.refl _ wr).alloc (Nat.le_refl _) _
          have HB2 := Lib.hid (And.intro B2 (And.intro D1.out.2.2 HK.out.2.size))
          clear B2
          go_wp2_with (at_builtin; refine wpList_append_own _ rfl _ _ 35 rfl (P + 1) 28 i0 (.agg #[.int .i64 0, .int .i64 0, .int .i64 0]) 3 24 Try.underlying35 I0.out.1 I0.out.2.1 I0.out.2.2.1 I0.out.2.2.2 rfl (by decide) _ _ _ rfl (World.ownsRow.alloc HK.out.1 _) ⟨wr.heap.size, 0, none⟩ 1 1 (locC (c, y)) rfl rfl (new_cell _ _ _ _ rfl) (by intro x hx; unfold locC at hx; simp at hx; rcases hx with rfl | rfl | rfl <;> rfl) (by unfold maxLen; omega) (by omega) (by have := HB2.out.2.1; have := HB2.out.2.2; simp at *; omega) ?_)
          intro v' w3 ho3 hg3 _
          obtain ⟨A3, c3, rfl⟩ := owns_form ho3
          have hfm : (spTo i c ++ (l.take (k + 1)).map (fun n => (c, n))).flatMap locC = List.flatMap locC (spTo i c) ++ (List.flatMap locC (List.take k (List.map (fun n => (c, n)) l)) ++ locC (c, y)) := by
            rw [← List.map_take, List.take_add_one, HY.out]; simp
          rw [← hfm] at ho3
          have B3 : Below wa.heap.size wa w3 := below_row (HK.out.2.alloc HK.out.2.size _) hg3 (World.ownsRow.alloc HK.out.1 _) (by have := D1.out.2.2; omega) (by have := HK.out.2.size; simp; omega)
          have H3 := Lib.hid (And.intro ho3 B3)
          clear ho3 hg3 hfm B3
          go_wp2_with fail
          go_roundg (gk - 1)
          case measure => omega
          case rel => exact ⟨k + 1, A3, c3, by omega, by first | rfl | (rw [Nat.add_assoc]), by go_num, by rw [← Nat.add_assoc]; exact H3.out.1, H3.out.2⟩
        · obtain rfl : k = n := by omega
          have hge : ¬ (k : Int) < (k : Int) := by omega
          go_wp2_with fail
          go_roundg (2 - c - 1)
          case measure => omega
          case rel =>
            have hs : spTo i (c + 1) = spTo i c ++ (l.take k).map (fun n => (c, n)) := by
              rw [spTo_step i c hlt, List.take_of_length_le (by have := HI.out.1; omega), ← HL.out]; rfl
            refine ⟨c + 1, A, cp, L + k, by omega, rfl, by go_num, ?_, ?_, HK.out.2⟩
            · rw [hs, List.length_append, List.length_map, List.length_take, HH.out.1]; have := HI.out.1; omega
            · rw [hs]; exact HK.out.1
    · obtain rfl : c = 2 := by omega
      have hge : ¬ (2 : Int) < 2 := by omega
      go_wp2_with fail
      go_ret
      have hL : (spAll i).length = L := HH.out.1
      have hs : L ≤ 2097152 := by
        rw [← hL]
        show (((i.c 0).map _) ++ ((i.c 1).map _)).length ≤ _
        rw [List.length_append, List.length_map, List.length_map]
        have h0 : (i.c 0).length ≤ 1048576 := D.out.2.2.2.2.1
        have h1 : (i.c 1).length ≤ 1048576 := D.out.2.2.2.2.2
        omega
      refine ⟨A, cp, by rw [hL]; rfl, ?_, ?_⟩
      · rw [hL]; exact locs_row HH.out.2.1 hL (by omega)
      · rw [HP.out]; exact D1.out.1.trans (BW.out.mono (by have := D1.out.2.2; omega))
end Go.Proofs.Ytmfodjdgekafoaa
