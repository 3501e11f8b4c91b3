
/- What the program answers when it is asked which registers a call spoils (out of stage 13's text): a list of the call's own. -/
import Derived.Test.YtakfoncdiejhaaaTg
import Derived.Test.YtakfoncdiejhaaaIrLarge
import Derived.ProofKit
import Derived.OwnWalk
import Derived.Laws.OwnMore
import Derived.Deep.Light
namespace Go.Proofs.Ytakfoncdiejhaaa.Sp
open Go.ChangeShapes Go.WideShapes Go.RowKit
set_option linter.unusedVariables false
set_option maxRecDepth 20000

structure Tgt where
  r0 : Int
  r1 : Int
  c0 : List Int
  c1 : List Int
  slots : Int
structure TgtV where
  a0 : Option Addr
  n0 : Nat
  m0 : Nat
  a1 : Option Addr
  n1 : Nat
  m1 : Nat
def tgtR (i : Tgt) (r : TgtV) : Array Value := #[.int .i64 i.r0, .int .i64 i.r1, .slice r.a0 r.n0 r.m0, .slice r.a1 r.n1 r.m1, .int .i64 i.slots]
structure IsTgt (w : World) (i : Tgt) (r : TgtV) : Prop where
  c0 : IsInts w r.a0 r.n0 i.c0
  c1 : IsInts w r.a1 r.n1 i.c1
theorem IsTgt.below {w w' : World} {i : Tgt} {r : TgtV} (h : IsTgt w i r) (hb : Below w.heap.size w w') : IsTgt w' i r := ⟨h.c0.below hb, h.c1.below hb⟩
/-- A class's registers, and its list. -/
def Tgt.r (i : Tgt) (c : Nat) : Int := if c = 0 then i.r0 else i.r1
def Tgt.c (i : Tgt) (c : Nat) : List Int := if c = 0 then i.c0 else i.c1
def TgtV.a (i : TgtV) (c : Nat) : Option Addr := if c = 0 then i.a0 else i.a1
def TgtV.n (i : TgtV) (c : Nat) : Nat := if c = 0 then i.n0 else i.n1
def TgtV.m (i : TgtV) (c : Nat) : Nat := if c = 0 then i.m0 else i.m1
theorem IsTgt.ints {w : World} {i : Tgt} {r : TgtV} (h : IsTgt w i r) (c : Nat) : IsInts w (r.a c) (r.n c) (i.c c) := by
  unfold Tgt.c TgtV.a TgtV.n
  by_cases e : c = 0
  · simp only [if_pos e]; exact h.c0
  · simp only [if_neg e]; exact h.c1
theorem tgt_c (i : Tgt) (r : TgtV) (c : Nat) (hc : c < 2) : (tgtR i r)[2 + c]? = some (.slice (r.a c) (r.n c) (r.m c)) := by
  have : c = 0 ∨ c = 1 := by omega
  rcases this with rfl | rfl <;> rfl
theorem flat_len {α : Type} (f : α → List Value) (s : Nat) (hs : ∀ x, (f x).length = s) (l : List α) : (l.flatMap f).length = l.length * s := by
  induction l with
  | nil => simp
  | cons a l ih => rw [List.flatMap_cons, List.length_append, hs, ih, List.length_cons, Nat.add_mul]; omega
theorem flat_at {α : Type} (f : α → List Value) (s : Nat) (hs : ∀ x, (f x).length = s) (l : List α) (k j : Nat) (x : α) (hk : l[k]? = some x) (hj : j < s) : (l.flatMap f)[k * s + j]? = (f x)[j]? := by
  induction l generalizing k with
  | nil => simp at hk
  | cons a l ih =>
    cases k with
    | zero =>
      simp at hk; subst hk
      rw [List.flatMap_cons, Nat.zero_mul, Nat.zero_add, List.getElem?_append_left (by rw [hs]; exact hj)]
    | succ k =>
      rw [List.flatMap_cons, List.getElem?_append_right (by rw [hs, Nat.succ_mul]; omega), hs]
      have e : (k + 1) * s + j - s = k * s + j := by rw [Nat.succ_mul]; omega
      rw [e]
      exact ih k (by simpa using hk)
theorem grown_of {w w' : World} (hb : Below w.heap.size w w') : w.grownBy w' none := ⟨hb.os, hb.tape, hb.output, hb.size, fun k hk _ => hb.block k hk⟩
theorem owns_below {w w' : World} {base : Nat} {e : TypeId} {size : Nat} {v : Value} {n : Nat} {xs : List Value} (h : w.ownsRow base e size v n xs) (hb : Below w.heap.size w w') : w'.ownsRow base e size v n xs := by
  refine ⟨h.1, ?_⟩
  rcases h.2 with h2 | ⟨g, cap, cur, h2, h3, h4, h5⟩
  · exact .inl h2
  · exact .inr ⟨g, cap, cur, h2, h3, by rw [hb.block g (Array.getElem?_eq_some_iff.1 h4).1]; exact h4, h5⟩
theorem owns_form {w : World} {base : Nat} {e : TypeId} {size : Nat} {v : Value} {n : Nat} {xs : List Value} (h : w.ownsRow base e size v n xs) : ∃ A c, v = .slice A n c := by
  rcases h.2 with ⟨h2, h3⟩ | ⟨g, cap, cur, h2, _⟩
  · exact ⟨none, 0, by rw [h2, h3]⟩
  · exact ⟨_, _, h2⟩
theorem below_row {B base : Nat} {w wr w2 : World} {e : TypeId} {size : Nat} {v : Value} {n : Nat} {xs : List Value} (h : Below B w wr) (hg : wr.grownBy w2 v.ownBlock) (ho : wr.ownsRow base e size v n xs) (hB : B ≤ base) (hs : B ≤ wr.heap.size) : Below B w w2 :=
  h.grown hg hs (fun k hk => Nat.le_trans hB (World.ownsRow.lt ho k hk).1)
theorem new_cell (w : World) (cs : Array Value) (t : TypeId) (l : List Value) (hl : cs.toList = l) : ∀ j u, l[j]? = some u → (w.alloc (.cells cs t)).cell? ((⟨w.heap.size, 0, none⟩ : Addr).add j) = some u := by
  intro j u hj
  rw [add_at, Nat.zero_add, cell_in (heap_alloc_new w (.cells cs t)), ← Array.getElem?_toList, hl]
  exact hj
/-- Places in registers, in a list of the call's own. -/
def locC (x : Nat × Int) : List Value := [.int .i64 2, .int .i64 (x.1 : Int), .int .i64 x.2]
structure LocsK (w : World) (A : Option Addr) (n : Nat) (l : List (Nat × Int)) : Prop where
  len : l.length = n
  most : n ≤ 9223372036854775807
  row : l = [] ∨ ∃ g cs, A = some ⟨g, 0, none⟩ ∧ w.heap[g]? = some (.cells cs 33 (0, 0)) ∧ ∀ k (h : k < l.length), cs[k * 3]? = some (.int .i64 2) ∧ cs[k * 3 + 1]? = some (.int .i64 (l[k].1 : Int)) ∧ cs[k * 3 + 2]? = some (.int .i64 l[k].2)
theorem LocsK.at {w : World} {A : Option Addr} {n : Nat} {l : List (Nat × Int)} (h : LocsK w A n l) {k : Nat} (hk : k < n) : ∃ g x, A = some ⟨g, 0, none⟩ ∧ l[k]? = some x ∧ w.cell? ⟨g, k * 3, none⟩ = some (.int .i64 2) ∧ w.cell? ⟨g, k * 3 + 1, none⟩ = some (.int .i64 (x.1 : Int)) ∧ w.cell? ⟨g, k * 3 + 2, none⟩ = some (.int .i64 x.2) := by
  obtain ⟨h1, hm, h | ⟨g, cs, rfl, hg, hc⟩⟩ := h
  · rw [h] at h1; simp at h1; omega
  · obtain ⟨c0, c1, c2⟩ := hc k (by omega)
    refine ⟨g, l[k]'(by omega), rfl, List.getElem?_eq_getElem (by omega), ?_, ?_, ?_⟩
    · rw [cell_in hg]; exact c0
    · rw [cell_in hg]; exact c1
    · rw [cell_in hg]; exact c2
theorem locs_row {w : World} {base : Nat} {A : Option Addr} {c n : Nat} {l : List (Nat × Int)} (h : w.ownsRow base 33 3 (.slice A n c) n (l.flatMap locC)) (hl : l.length = n) (hn : n ≤ 9223372036854775807) : LocsK w A n l := by
  refine ⟨hl, hn, ?_⟩
  rcases h.2 with ⟨h2, h3⟩ | ⟨g, cap, cur, h2, h3, h4, h5, h6, h7, h8⟩
  · subst h3; exact .inl (List.eq_nil_of_length_eq_zero hl)
  · injection h2 with e1 _ _
    subst e1
    have hc : ∀ k j (hk : k < l.length) (hj : j < 3) u, (locC l[k])[j]? = some u → cur[k * 3 + j]? = some u := fun k j hk hj u hu => by
      rw [← Array.getElem?_toList]
      have e : (cur.toList.take (n * 3))[k * 3 + j]? = (l.flatMap locC)[k * 3 + j]? := by rw [h8]
      rw [List.getElem?_take, if_pos (by omega)] at e
      rw [e, flat_at locC 3 (fun _ => rfl) l k j l[k] (List.getElem?_eq_getElem hk) hj]
      exact hu
    exact .inr ⟨g, cur, rfl, h4, fun k hk => ⟨hc k 0 hk (by omega) _ rfl, hc k 1 hk (by omega) _ rfl, hc k 2 hk (by omega) _ rfl⟩⟩
theorem info28_own : (Try.prog.info? 33).map (fun i => (i.zero, i.size, i.bytes)) = some (some (.agg #[.int .i64 0, .int .i64 0, .int .i64 0]), 3, 24) := by kernel_rfl
theorem info28_parts : ∃ i, Try.prog.info? 33 = some i ∧ i.zero = some (.agg #[.int .i64 0, .int .i64 0, .int .i64 0]) ∧ i.size = 3 ∧ i.bytes = 24 := by
  obtain ⟨i, hi, hinfo⟩ := Option.map_eq_some_iff.1 info28_own
  exact ⟨i, hi, congrArg Prod.fst hinfo, congrArg (fun x => x.2.1) hinfo, congrArg (fun x => x.2.2) hinfo⟩
/-- What a call spoils, so far in the classes. -/
def spl (i : Tgt) (c : Nat) : List (Nat × Int) := (i.c c).map (fun n => (c, n))
def spAll (i : Tgt) : List (Nat × Int) := spl i 0 ++ spl i 1
def spTo (i : Tgt) (c : Nat) : List (Nat × Int) := if c = 0 then [] else if c = 1 then spl i 0 else spAll i
theorem spTo_step (i : Tgt) (c : Nat) (hc : c < 2) : spTo i (c + 1) = spTo i c ++ spl i c := by
  have : c = 0 ∨ c = 1 := by omega
  rcases this with rfl | rfl <;> rfl
structure SpoiltP (i : Tgt) (w : World) (e : Ending) (w' : World) : Prop where
  out : ∃ A c, e = .returned (.slice A (spAll i).length c) ∧ LocsK w' A (spAll i).length (spAll i) ∧ Below w.heap.size w w'
theorem spTo_len (i : Tgt) (c : Nat) (hc : c < 2) (h0 : i.c0.length ≤ 1048576) (h1 : i.c1.length ≤ 1048576) : (spTo i c).length ≤ 1048576 := by
  have : c = 0 ∨ c = 1 := by omega
  rcases this with rfl | rfl
  · exact Nat.zero_le _
  · show ((i.c 0).map _).length ≤ _; rw [List.length_map]; exact h0
set_option maxHeartbeats 4000000 in
theorem spoilt_v (i : Tgt) (r : TgtV) (w : World) (h : IsTgt w i r) (h0 : i.c0.length ≤ 1048576) (h1 : i.c1.length ≤ 1048576) : Calls Try.prog 24 #[.agg (tgtR i r)] w (SpoiltP i w) := by
  have B0 : Below w.heap.size w (w.alloc (.cells (tgtR i r) 31)) := (Below.refl _ w).alloc (Nat.le_refl _) _
  have D := Lib.hid (And.intro (h.below B0) (And.intro B0 (And.intro (heap_alloc_new w (.cells (tgtR i r) 31)) (And.intro (show (w.alloc (.cells (tgtR i r) 31)).heap.size = w.heap.size + 1 by simp) (And.intro h0 h1)))))
  clear h B0 h0 h1
  obtain ⟨i0, hi0, hz0, hz1, hz2⟩ := info28_parts
  have I0 := Lib.hid (And.intro hi0 (And.intro hz0 (And.intro hz1 hz2)))
  clear hi0 hz0 hz1 hz2
  obtain ⟨wa, hwa⟩ : ∃ wa, w.alloc (.cells (tgtR i r) 31) = wa := ⟨_, rfl⟩
  rw [hwa] at D
  obtain ⟨cs, hcs⟩ : ∃ cs, tgtR i r = cs := ⟨_, rfl⟩
  have HCS := Lib.hid hcs
  rw [hcs] at hwa D ⊢
  clear hcs
  go_enter Try.func24, Try.ntmps24
  go_wp2_with fail
  clear hwa
  obtain ⟨P, hP⟩ : ∃ P, w.heap.size = P := ⟨_, rfl⟩
  have HP := Lib.hid hP
  have D1 := Lib.hid (show Below P w wa ∧ wa.heap[P]? = some (.cells cs 31 (0, 0)) ∧ wa.heap.size = P + 1 from by rw [← hP]; exact ⟨D.out.2.1, D.out.2.2.1, D.out.2.2.2.1⟩)
  rw [hP]
  clear hP
  go_loopg [3, 7] 2 (fun gk u v wr => ∃ (c : Nat) (A : Option Addr) (cp L : Nat), c + gk = 2 ∧ u = .slice A L cp ∧ v = .int .i64 (c : Int) ∧ Hid ((spTo i c).length = L ∧ wr.ownsRow (P + 1) 33 3 (.slice A L cp) L ((spTo i c).flatMap locC) ∧ Below wa.heap.size wa wr))
  case atStart => exact ⟨0, none, 0, 0, by omega, rfl, rfl, rfl, World.ownsRow_nil _ _ _ _, Below.refl _ _⟩
  case round =>
    obtain ⟨c, A, cp, L, hk, rfl, rfl, HH⟩ := hrel
    have BW := Lib.hid HH.out.2.2
    by_cases hlt : c < 2
    · have i1 : (c : Int) < 2 := by omega
      have hbox := kept_box D1.out.2.1 BW.out
      have k1 : wr.cell? ⟨P, 2 + c, none⟩ = some (.slice (r.a c) (r.n c) (r.m c)) := (cell_in hbox (2 + c)).trans (by rw [← HCS.out]; exact tgt_c i r c hlt)
      have hin := D.out.1.ints c
      have hcl : (i.c c).length ≤ 1048576 := by
        have : c = 0 ∨ c = 1 := by omega
        rcases this with rfl | rfl
        · exact D.out.2.2.2.2.1
        · exact D.out.2.2.2.2.2
      have hLs : L ≤ 1048576 := by rw [← HH.out.1]; exact spTo_len i c hlt D.out.2.2.2.2.1 D.out.2.2.2.2.2
      obtain ⟨a, ha⟩ : ∃ a, r.a c = a := ⟨_, rfl⟩
      obtain ⟨n, hn⟩ : ∃ n, r.n c = n := ⟨_, rfl⟩
      obtain ⟨m, hm⟩ : ∃ m, r.m c = m := ⟨_, rfl⟩
      obtain ⟨l, hl⟩ : ∃ l, i.c c = l := ⟨_, rfl⟩
      have HL := Lib.hid hl
      rw [ha, hn, hm] at k1
      rw [ha, hn, hl] at hin
      rw [hl] at hcl
      have hns : n ≤ 1048576 := by rw [← hin.1]; exact hcl
      have HI := Lib.hid hin
      clear ha hn hm hl hin hbox hcl
      go_wp2_with fail
      clear k1
      go_loopg [3, 15] n (fun gk u v wr => ∃ (k : Nat) (A : Option Addr) (cp : Nat), k + gk = n ∧ u = .slice A (L + k) cp ∧ v = .int .i64 (k : Int) ∧ Hid (wr.ownsRow (P + 1) 33 3 (.slice A (L + k) cp) (L + k) ((spTo i c ++ (l.take k).map (fun n => (c, n))).flatMap locC) ∧ Below wa.heap.size wa wr))
      case atStart =>
        refine ⟨0, A, cp, by omega, rfl, rfl, ?_, BW.out⟩
        rw [List.take_zero, List.map_nil, List.append_nil]
        exact HH.out.2.1
      case round =>
        obtain ⟨k, A, cp, hk, rfl, rfl, HK⟩ := hrel
        by_cases hlk : k < n
        · obtain ⟨g, o, hA, hg, y, hy, c0⟩ := (HI.out.below HK.out.2).at hlk
          have i2 : (k : Int) < (n : Int) := by omega
          subst hA
          have HY := Lib.hid hy
          clear hy
          have B2 : Below wr.heap.size wr (wr.alloc (.cells #[.int .i64 2, .int .i64 (c : Int), .int .i64 y] 33)) := (Below.refl _ wr).alloc (Nat.le_refl _) _
          have HB2 := Lib.hid (And.intro B2 (And.intro D1.out.2.2 HK.out.2.size))
          clear B2
          go_wp2_with (at_builtin; refine wpList_append_own _ rfl _ _ 66 rfl (P + 1) 33 i0 (.agg #[.int .i64 0, .int .i64 0, .int .i64 0]) 3 24 Try.underlying66 I0.out.1 I0.out.2.1 I0.out.2.2.1 I0.out.2.2.2 rfl (by decide) _ _ _ rfl (World.ownsRow.alloc HK.out.1 _) ⟨wr.heap.size, 0, none⟩ 1 1 (locC (c, y)) rfl rfl (new_cell _ _ _ _ rfl) (by intro x hx; unfold locC at hx; simp at hx; rcases hx with rfl | rfl | rfl <;> rfl) (by unfold maxLen; omega) (by omega) (by have := HB2.out.2.1; have := HB2.out.2.2; simp at *; omega) ?_)
          intro v' w3 ho3 hg3 _
          obtain ⟨A3, c3, rfl⟩ := owns_form ho3
          have hfm : (spTo i c ++ (l.take (k + 1)).map (fun n => (c, n))).flatMap locC = List.flatMap locC (spTo i c) ++ (List.flatMap locC (List.take k (List.map (fun n => (c, n)) l)) ++ locC (c, y)) := by
            rw [← List.map_take, List.take_add_one, HY.out]; simp
          rw [← hfm] at ho3
          have B3 : Below wa.heap.size wa w3 := below_row (HK.out.2.alloc HK.out.2.size _) hg3 (World.ownsRow.alloc HK.out.1 _) (by have := D1.out.2.2; omega) (by have := HK.out.2.size; simp; omega)
          have H3 := Lib.hid (And.intro ho3 B3)
          clear ho3 hg3 hfm B3
          go_wp2_with fail
          go_roundg (gk - 1)
          case measure => omega
          case rel => exact ⟨k + 1, A3, c3, by omega, by first | rfl | (rw [Nat.add_assoc]), by go_num, by rw [← Nat.add_assoc]; exact H3.out.1, H3.out.2⟩
        · obtain rfl : k = n := by omega
          have hge : ¬ (k : Int) < (k : Int) := by omega
          go_wp2_with fail
          go_roundg (2 - c - 1)
          case measure => omega
          case rel =>
            have hs : spTo i (c + 1) = spTo i c ++ (l.take k).map (fun n => (c, n)) := by
              rw [spTo_step i c hlt, List.take_of_length_le (by have := HI.out.1; omega), ← HL.out]; rfl
            refine ⟨c + 1, A, cp, L + k, by omega, rfl, by go_num, ?_, ?_, HK.out.2⟩
            · rw [hs, List.length_append, List.length_map, List.length_take, HH.out.1]; have := HI.out.1; omega
            · rw [hs]; exact HK.out.1
    · obtain rfl : c = 2 := by omega
      have hge : ¬ (2 : Int) < 2 := by omega
      go_wp2_with fail
      go_ret
      have hL : (spAll i).length = L := HH.out.1
      have hs : L ≤ 2097152 := by
        rw [← hL]
        show (((i.c 0).map _) ++ ((i.c 1).map _)).length ≤ _
        rw [List.length_append, List.length_map, List.length_map]
        have h0 : (i.c 0).length ≤ 1048576 := D.out.2.2.2.2.1
        have h1 : (i.c 1).length ≤ 1048576 := D.out.2.2.2.2.2
        omega
      refine ⟨A, cp, by rw [hL]; rfl, ?_, ?_⟩
      · rw [hL]; exact locs_row HH.out.2.1 hL (by omega)
      · rw [HP.out]; exact D1.out.1.trans (BW.out.mono (by have := D1.out.2.2; omega))
end Go.Proofs.Ytakfoncdiejhaaa.Sp
