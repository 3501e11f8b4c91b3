/- What the document's own List, Same and With answer. -/
import Derived.Test.YtgckoiepclgofaaDoorRef
import Derived.Laws.AppendOwn
namespace Go.Proofs.YtgckoiepclgofaaDoor
open Go.ChangeShapes Go.WideShapes Go.RowKit
set_option linter.unusedVariables false

/-- Numbers as cells. -/
def nums (t : List Nat) : List Value := t.map fun n : Nat => Value.int .i64 (n : Int)
/-- The numbers t are those of a slice that the call has made. -/
def OwnN (base : Nat) (w : World) (A : Option Addr) (c : Nat) (t : List Nat) : Prop := w.ownsRow base 3 1 (.slice A t.length c) t.length (nums t)
theorem info3 : (Tryd.prog.info? 3).map (fun i => (i.zero, i.size, i.bytes)) = some (some (.int .i64 0), 1, 8) := by kernel_rfl
theorem news_new (w : World) (cs : Array Value) (t : TypeId) (l : List Value) (hl : cs.toList = l) : ∀ j u, l[j]? = some u → (w.alloc (.cells cs t)).cell? ((⟨w.heap.size, 0, none⟩ : Addr).add j) = some u := by
  subst hl
  exact World.news_of_block (heap_alloc_new w _)
theorem OwnN.ints {base : Nat} {w : World} {A : Option Addr} {c : Nat} {t : List Nat} (h : OwnN base w A c t) : Ints w A (t.map fun n : Nat => (n : Int)) := by
  by_cases ht : t = []
  · subst ht; exact .inl rfl
  · have hl : 0 < t.length := List.length_pos_iff.2 ht
    obtain ⟨g, cap, e, _, _⟩ := World.ownsRow.form h (by omega)
    simp only [Value.slice.injEq] at e
    obtain ⟨rfl, _, rfl⟩ := e
    refine .inr ⟨g, 0, rfl, (World.ownsRow.lt h g rfl).2, fun k hk => ?_⟩
    rw [List.length_map] at hk
    rw [Nat.zero_add, World.ownsRow.cellAt h k (by omega)]
    unfold nums
    rw [List.getElem?_map, List.getElem?_eq_getElem hk]; simp
theorem OwnN.grow {base : Nat} {w w' : World} {A : Option Addr} {c : Nat} {t : List Nat} (h : OwnN base w A c t) (hg : w.grownBy w' none) : OwnN base w' A c t :=
  World.ownsRow.kept h hg (by cases hv : Value.ownBlock (.slice A t.length c) <;> simp)
theorem ownN_next {base : Nat} {w wr w1 : World} {A : Option Addr} {c : Nat} {t : List Nat} {p : Nat} {v' : Value} {o : Obj}
    (ho : w1.ownsRow base 3 1 v' (t.length + 1) (nums t ++ [.int .i64 (p : Int)]))
    (hg : (wr.alloc o).grownBy w1 (Value.ownBlock (.slice A t.length c))) (hown : OwnN base wr A c t) (hb : w.grownBy wr none) (hB : w.heap.size ≤ base) :
    ∃ A' c', v' = .slice A' (t ++ [p]).length c' ∧ OwnN base w1 A' c' (t ++ [p]) ∧ w.grownBy w1 none := by
  obtain ⟨g, cap, rfl, _, _⟩ := ho.form (by omega)
  have e1 : (t ++ [p]).length = t.length + 1 := by simp
  have e2 : nums (t ++ [p]) = nums t ++ [.int .i64 (p : Int)] := by unfold nums; rw [List.map_append]; rfl
  unfold OwnN
  rw [e1, e2]
  refine ⟨_, _, rfl, ho, ?_⟩
  have h1 : w.grownBy (wr.alloc o) none := gtrans hb (galloc _ _ _)
  refine ⟨hg.os.trans h1.os, hg.tape.trans h1.tape, hg.output.trans h1.output, Nat.le_trans h1.size hg.size, fun k hk _ => (hg.block k (Nat.lt_of_lt_of_le hk h1.size) (fun e => ?_)).trans (h1.block k hk (by simp))⟩
  have := (World.ownsRow.lt hown k e.symm).1
  omega
/-- What List hands back: the numbers, in a slice of its own. -/
def ListP (t : List Nat) (w : World) (e : Ending) (w' : World) : Prop := ∃ A c, e = .returned (.slice A t.length c) ∧ OwnN w.heap.size w' A c t ∧ w.grownBy w' none
set_option maxRecDepth 100000 in
set_option maxHeartbeats 2000000 in
theorem rlist_v (g n c : Nat) (bs : List Bool) (hn : bs.length = n) (w : World) (h : Bl w g bs) :
    Calls Tryd.prog 10 #[.agg #[.slice (some ⟨g, 0, none⟩) n c]] w (ListP (all bs) w) := by
  obtain ⟨i0, hi0, hz0, hz1, hz2⟩ := info_parts info3
  have I0 := Lib.hid (And.intro hi0 (And.intro hz0 (And.intro hz1 hz2)))
  clear hi0 hz0 hz1 hz2
  have hn3 : n ≤ 300 := by rw [← hn]; exact h.small
  have HQ := Lib.hid (And.intro h hn)
  clear h hn
  go_enter Tryd.func10, Tryd.ntmps10
  go_wp2_with fail
  go_loopg [3, 4] n (fun gk u v wr => ∃ (k : Nat) (A : Option Addr) (c' : Nat) (t : List Nat), k + gk = n ∧ u = .slice A t.length c' ∧ v = .int .i64 (k : Int) ∧
    Hid (t = low bs k ∧ OwnN w.heap.size wr A c' t ∧ w.grownBy wr none ∧ Boxed wr w.heap.size 29 (.slice (some ⟨g, 0, none⟩) n c)))
  case atStart => exact ⟨0, none, 0, [], by omega, rfl, rfl, rfl, World.ownsRow_nil _ _ _ _, galloc _ _ _, Boxed.new w 29 _⟩
  case round =>
    obtain ⟨k, A, c', t, hk, rfl, rfl, HH⟩ := hrel
    have b0 := HH.out.2.2.2.cell
    by_cases hlt : k < n
    · have hkn : (k : Int) < (n : Int) := by omega
      have htl : t.length ≤ k := by rw [HH.out.1]; exact low_len _ _
      have c0 := (HQ.out.1.grow HH.out.2.2.1).cell k (by rw [HQ.out.2]; exact hlt)
      have HTL := Lib.hid htl
      clear htl
      cases hh : has bs k
      · rw [hh] at c0
        have H1 := Lib.hid hh
        clear hh
        go_wp2_with fail
        go_roundg (gk - 1)
        case measure => omega
        case rel => exact ⟨k + 1, A, c', t, by omega, rfl, by go_num, by rw [low_miss H1.out]; exact HH.out.1, HH.out.2⟩
      · rw [hh] at c0
        have H1 := Lib.hid hh
        clear hh
        go_wp2_with (at_builtin; refine wpList_append_own _ rfl _ _ 33 rfl w.heap.size 3 i0 (.int .i64 0) 1 8 Tryd.underlying33 I0.out.1 I0.out.2.1 I0.out.2.2.1 I0.out.2.2.2 rfl (by decide) _ _ _ rfl (World.ownsRow.alloc HH.out.2.1 _) ⟨wr.heap.size, 0, none⟩ 1 1 _ rfl rfl (news_new _ _ _ _ rfl) (by intro x hx; simp at hx; subst hx; rfl) (by have := HTL.out; unfold maxLen; omega) (by have := HTL.out; omega) (by have := HH.out.2.2.1.size; simp; omega) ?_)
        intro v' w2 hown' hgrow _
        have bx := HH.out.2.2.2
        have bx2 : Boxed w2 w.heap.size 29 (.slice (some ⟨g, 0, none⟩) n c) := (bx.alloc _).kept hgrow (bx.not_row (by decide) HH.out.2.1)
        obtain ⟨A', c2, rfl, h2, h3⟩ := ownN_next hown' hgrow HH.out.2.1 HH.out.2.2.1 (Nat.le_refl _)
        have H2 := Lib.hid (And.intro h2 (And.intro h3 bx2))
        clear hown' hgrow h2 h3 bx bx2
        go_wp2_with fail
        go_roundg (gk - 1)
        case measure => omega
        case rel => exact ⟨k + 1, A', c2, t ++ [k], by omega, rfl, by go_num, by rw [low_hit H1.out, HH.out.1], H2.out⟩
    · obtain rfl : k = n := by omega
      have hge : ¬ (k : Int) < (k : Int) := by omega
      go_wp2_with fail
      go_ret
      obtain ⟨h1, h2, h3, _⟩ := HH.out
      have e : low bs k = all bs := by unfold all; rw [HQ.out.2]
      rw [e] at h1
      subst h1
      exact ⟨A, c', rfl, h2, h3⟩
theorem rsame_v (A A' : Option Addr) (n c c' : Nat) (l : List Int) (hn : l.length = n) (hn2 : n ≤ 1000) (w : World) (h : Ints w A l) (h' : Ints w A' l) :
    Calls Tryd.prog 11 #[.slice A n c, .slice A' n c'] w fun e w' => e = .returned (.bool true) ∧ w.grownBy w' none := by
  have hne : ((n : Int) != (n : Int)) = false := by simp
  have HQ := Lib.hid (And.intro h (And.intro h' hn))
  clear h h' hn
  go_enter Tryd.func11, Tryd.ntmps11
  go_wp2_with fail
  go_loopg [5] n (fun gk u wr => ∃ k : Nat, k + gk = n ∧ u = .int .i64 (k : Int) ∧ Hid (w.grownBy wr none))
  case atStart => exact ⟨0, by omega, rfl, World.grownBy.refl _ _⟩
  case round =>
    obtain ⟨k, hk, rfl, HH⟩ := hrel
    by_cases hlt : k < n
    · obtain ⟨h, h', hn⟩ := HQ.out
      have hkl : k < l.length := by omega
      rcases h.kept HH.out (by simp) with h0 | ⟨b, o, rfl, hb, hc⟩
      · rw [h0] at hkl; cases hkl
      rcases h'.kept HH.out (by simp) with h0 | ⟨b', o', rfl, hb', hc'⟩
      · rw [h0] at hkl; cases hkl
      have c0 : wr.cell? ⟨b, o + k, none⟩ = some (.int .i64 l[k]) := hc k hkl
      have c1 : wr.cell? ⟨b', o' + k, none⟩ = some (.int .i64 l[k]) := hc' k hkl
      obtain ⟨x, hx⟩ : ∃ x, l[k] = x := ⟨_, rfl⟩
      rw [hx] at c0 c1
      have hne2 : (x != x) = false := by simp
      have kn : (k : Int) < (n : Int) := by omega
      have k0 : (0 : Int) ≤ (k : Int) := by omega
      clear hc hc' hx hkl hn hb hb'
      go_wp2_with fail
      go_quiet (fail)
      go_wp2_with fail
      go_roundg (gk - 1)
      case measure => omega
      case rel => exact ⟨k + 1, by omega, by go_num, gtrans HH.out (drewN_grown _ _ _)⟩
    · obtain rfl : k = n := by omega
      have hge : ¬ (k : Int) < (k : Int) := by omega
      go_wp2_with fail
      go_ret
      exact ⟨rfl, HH.out⟩
/-- Bools as cells. -/
def bls (bs : List Bool) : List Value := bs.map fun b => Value.bool b
theorem bls_at (bs : List Bool) (k : Nat) (h : k < bs.length) : (bls bs)[k]? = some (.bool (has bs k)) := by
  unfold bls; rw [List.getElem?_map, List.getElem?_eq_getElem h, has_get h]; rfl
theorem bls_set (bs : List Bool) (k : Nat) (b : Bool) : (bls bs).set k (.bool b) = bls (bs.set k b) := by unfold bls; rw [List.map_set]
theorem bls_one {bs : List Bool} : ∀ u ∈ bls bs, u.oneCell' = true := by
  intro u hu; unfold bls at hu; obtain ⟨b, _, rfl⟩ := List.mem_map.1 hu; rfl
/-- What With hands back. -/
def WithP (g0 : Nat) (bs : List Bool) (i : Int) (b : Bool) (n : Nat) (w : World) (e : Ending) (w' : World) : Prop :=
  ∃ g c, e = .returned (.tuple #[.agg #[.slice (some ⟨g, 0, none⟩) n c], .bool (chg bs i b)]) ∧ Bl w' g (wth bs i b) ∧ w.grownBy w' none ∧ (g = g0 ∨ w.heap.size ≤ g)
theorem with_keep (i : Int) (b : Bool) (g n c : Nat) (bs : List Bool) (hn : bs.length = n) (hw : wth bs i b = bs ∧ chg bs i b = false)
    (hi : (decide (i < 0) = true) ∨ (∃ k : Nat, i = (k : Int) ∧ n ≤ k) ∨ (∃ k : Nat, i = (k : Int) ∧ k < n ∧ has bs k = b)) (w : World) (h : Bl w g bs) :
    Calls Tryd.prog 22 #[.agg #[.slice (some ⟨g, 0, none⟩) n c], .int .i64 i, .bool b] w (WithP g bs i b n w) := by
  have hgr : w.grownBy ((w.alloc (.cells #[.slice (some ⟨g, 0, none⟩) n c] 29)).alloc (.cells #[.slice none 0 0] 29)) none := gtrans (galloc _ _ _) (galloc _ _ _)
  have hgr2 : w.grownBy ((w.alloc (.cells #[.slice (some ⟨g, 0, none⟩) n c] 29)).alloc (.cells #[.slice (some ⟨g, 0, none⟩) n c] 29)) none := gtrans (galloc _ _ _) (galloc _ _ _)
  have hB := h.grow hgr2
  have HQ := Lib.hid (And.intro hw (And.intro hB hgr2))
  rcases hi with hi | ⟨k, rfl, hk⟩ | ⟨k, rfl, hk, hh⟩
  · have h1 : i < 0 := by simpa using hi
    clear h hw hgr hgr2 hB
    go_enter Tryd.func22, Tryd.ntmps22
    go_wp2_with fail
    refine bodyPost_ret (v := .tuple #[.agg #[.slice (some ⟨g, 0, none⟩) n c], .bool false]) (by simp [results, Tryd.f22, go_sem]) rfl ?_
    obtain ⟨⟨e1, e2⟩, h1, h2⟩ := HQ.out
    unfold WithP; rw [e1, e2]
    exact ⟨g, c, rfl, h1, h2, .inl rfl⟩
  · have h1 : ¬ (k : Int) < 0 := by omega
    have h2 : decide ((k : Int) < 0) = false := by simp
    have h3 : decide ((n : Int) ≤ (k : Int)) = true := by simp; omega
    have h4 : (n : Int) ≤ (k : Int) := by omega
    clear h hw hgr hgr2 hB
    go_enter Tryd.func22, Tryd.ntmps22
    go_wp2_with fail
    refine bodyPost_ret (v := .tuple #[.agg #[.slice (some ⟨g, 0, none⟩) n c], .bool false]) (by simp [results, Tryd.f22, go_sem]) rfl ?_
    obtain ⟨⟨e1, e2⟩, h1, h2⟩ := HQ.out
    unfold WithP; rw [e1, e2]
    exact ⟨g, c, rfl, h1, h2, .inl rfl⟩
  · have h1 : ¬ (k : Int) < 0 := by omega
    have h2 : decide ((k : Int) < 0) = false := by simp
    have h3 : decide ((n : Int) ≤ (k : Int)) = false := by simp; omega
    have h3' : decide (n ≤ k) = false := by simp; omega
    have h4 : (k : Int) < (n : Int) := by omega
    have d0 := (h.grow hgr).cell k (by omega)
    rw [hh] at d0
    have hbb : (b == b) = true := by simp
    clear h hw hgr hgr2 hB
    go_enter Tryd.func22, Tryd.ntmps22
    go_wp2_with fail
    refine bodyPost_ret (v := .tuple #[.agg #[.slice (some ⟨g, 0, none⟩) n c], .bool false]) (by simp [results, Tryd.f22, go_sem]) rfl ?_
    obtain ⟨⟨e1, e2⟩, h1, h2⟩ := HQ.out
    unfold WithP; rw [e1, e2]
    exact ⟨g, c, rfl, h1, h2, .inl rfl⟩
set_option maxRecDepth 100000 in
set_option maxHeartbeats 2000000 in
theorem with_new (k : Nat) (b : Bool) (g n c : Nat) (bs : List Bool) (hn : bs.length = n) (hk : k < n) (hh : has bs k = !b) (w : World) (h : Bl w g bs) :
    Calls Tryd.prog 22 #[.agg #[.slice (some ⟨g, 0, none⟩) n c], .int .i64 (k : Int), .bool b] w (WithP g bs (k : Int) b n w) := by
  obtain ⟨i0, hi0, hz0, hz1, hz2⟩ := info_parts info4
  have I0 := Lib.hid (And.intro hi0 (And.intro hz0 (And.intro hz1 hz2)))
  clear hi0 hz0 hz1 hz2
  have hn3 : n ≤ 300 := by rw [← hn]; exact h.small
  have hgr : w.grownBy ((w.alloc (.cells #[.slice (some ⟨g, 0, none⟩) n c] 29)).alloc (.cells #[.slice none 0 0] 29)) none := gtrans (galloc _ _ _) (galloc _ _ _)
  have h1 : ¬ (k : Int) < 0 := by omega
  have h2 : decide ((k : Int) < 0) = false := by simp
  have h3 : decide ((n : Int) ≤ (k : Int)) = false := by simp; omega
  have h3' : decide (n ≤ k) = false := by simp; omega
  have h4 : (k : Int) < (n : Int) := by omega
  have d0 := (h.grow hgr).cell k (by omega)
  rw [hh] at d0
  have hbb : ((!b) == b) = false := by cases b <;> rfl
  have HQ := Lib.hid (And.intro h (And.intro hn (And.intro hh hgr)))
  clear h hh hgr hn
  go_enter Tryd.func22, Tryd.ntmps22
  have ho := World.ownsRow_lit (base := w.heap.size + 1 + 1) (e := 4) (size := 1) ((w.alloc (.cells #[.slice (some ⟨g, 0, none⟩) n c] 29)).alloc (.cells #[.slice none 0 0] 29)) #[] 0 (by simp) (by unfold maxLen; omega) rfl
  have hnews : ∀ j u, (bls bs)[j]? = some u → (((w.alloc (.cells #[.slice (some ⟨g, 0, none⟩) n c] 29)).alloc (.cells #[.slice none 0 0] 29)).alloc (.cells #[] 4)).cell? ((⟨g, 0, none⟩ : Addr).add j) = some u := by
    intro j u hj
    have hjl : j < bs.length := by
      have := (List.getElem?_eq_some_iff.1 hj).1
      simpa [bls] using this
    rw [bls_at bs j hjl] at hj
    rw [← hj]
    have := (HQ.out.1.grow (gtrans HQ.out.2.2.2 (galloc _ (.cells #[] 4) none))).cell j hjl
    by_cases h0 : j = 0
    · subst h0; simpa [Addr.add] using this
    · simpa [Addr.add, h0] using this
  simp only [World.size_alloc] at ho
  have HO := Lib.hid (And.intro ho hnews)
  clear ho hnews
  go_wp2_with (at_builtin; refine wpList_append_own _ rfl _ _ 27 rfl (w.heap.size + 1 + 1) 4 i0 (.bool false) 1 1 Tryd.underlying27 I0.out.1 I0.out.2.1 I0.out.2.2.1 I0.out.2.2.2 rfl (by decide) _ _ _ rfl HO.out.1 ⟨g, 0, none⟩ n c (bls bs) rfl (by simp [bls, HQ.out.2.1]) HO.out.2 bls_one (by unfold maxLen; omega) (by omega) (by simp) ?_)
  intro v' w2 hown' hgrow _
  obtain ⟨g2, cap, rfl, _, _⟩ := hown'.form (by omega)
  have hg2 := hown'.lt g2 rfl
  have hcell := hown'.cellAt k (by omega)
  rw [bls_at bs k (by rw [HQ.out.2.1]; exact hk)] at hcell
  have hfree := hown'.frozenAt k
  have bx6 : Boxed w2 (w.heap.size + 1) 29 (.slice none 0 0) := by
    have h0 := Boxed.new (w.alloc (.cells #[.slice (some ⟨g, 0, none⟩) n c] 29)) 29 (.slice none 0 0)
    rw [World.size_alloc] at h0
    exact (h0.alloc _).kept hgrow (by simp [Value.ownBlock])
  have bx7 := (bx6.kept (gset w2 g2 k (.bool b)) (by have := hg2.1; simp; omega)).alloc (.cells #[.slice (some ⟨g2, 0, none⟩) n cap] 29)
  have c6 := bx7.cell
  have f6 := bx7.frozen
  have hgw : w.grownBy w2 none := gnew (gtrans HQ.out.2.2.2 (galloc _ _ _)) hgrow (show w.heap.size ≤ w.heap.size + 1 + 1 by omega)
  have hst := (hown'.stored k (.bool b)).1
  rw [bls_set] at hst
  have hr := (bx7.set (.slice (some ⟨g2, 0, none⟩) n cap)).cell
  have H2 := Lib.hid (And.intro hgw (And.intro hg2 hst))
  clear hown' hgrow hgw bx6 bx7 hg2 hst
  go_wp2_with fail
  refine bodyPost_ret (v := .tuple #[.agg #[.slice (some ⟨g2, 0, none⟩) n cap], .bool true]) (by simp [results, Tryd.f22, go_sem, hr]) rfl ?_
  obtain ⟨hgw, ⟨hg2, hg3⟩, hst⟩ := H2.out
  obtain ⟨hB, hn, hh, _⟩ := HQ.out
  obtain ⟨e1, e2⟩ := wth_new (b := b) (by rw [hn]; exact hk) hh
  unfold WithP; rw [e1, e2]
  have s1 := gset w2 g2 k (.bool b)
  have s2 := galloc (w2.setCell ⟨g2, k, none⟩ (.bool b)) (.cells #[.slice (some ⟨g2, 0, none⟩) n cap] 29) none
  have s3 := gset ((w2.setCell ⟨g2, k, none⟩ (.bool b)).alloc (.cells #[.slice (some ⟨g2, 0, none⟩) n cap] 29)) (w.heap.size + 1) 0 (.slice (some ⟨g2, 0, none⟩) n cap)
  have l1 : g2 < (w2.setCell ⟨g2, k, none⟩ (.bool b)).heap.size := Nat.lt_of_lt_of_le hg3 s1.size
  have l2 := Nat.lt_of_lt_of_le l1 s2.size
  refine ⟨g2, cap, rfl, ⟨Nat.lt_of_lt_of_le l2 s3.size, by simp; omega, fun j hj => ?_, fun j => by rw [s3.frozen_far ⟨g2, j, none⟩ l2 (by simp; omega), s2.frozen_far ⟨g2, j, none⟩ l1 (by simp)]; exact hst.frozenAt j⟩, gnew (gtrans (gnew hgw s1 (by omega)) s2) s3 (by omega), .inr (by omega)⟩
  have hj2 : j < n := by simp at hj; omega
  rw [s3.cell_far ⟨g2, j, none⟩ l2 (by simp; omega), s2.cell_far ⟨g2, j, none⟩ l1 (by simp), hst.cellAt j (by omega)]
  exact bls_at _ j hj
theorem with_v (i : Int) (b : Bool) (g n c : Nat) (bs : List Bool) (hn : bs.length = n) (w : World) (h : Bl w g bs) :
    Calls Tryd.prog 22 #[.agg #[.slice (some ⟨g, 0, none⟩) n c], .int .i64 i, .bool b] w (WithP g bs i b n w) := by
  by_cases hi : i < 0
  · exact with_keep i b g n c bs hn (wth_out (by omega)) (.inl (by simpa using hi)) w h
  · obtain ⟨k, rfl⟩ : ∃ k : Nat, i = (k : Int) := ⟨i.toNat, by omega⟩
    by_cases hl : k < n
    · by_cases hh : has bs k = b
      · exact with_keep _ b g n c bs hn (wth_same hh) (.inr (.inr ⟨k, rfl, hl, hh⟩)) w h
      · exact with_new k b g n c bs hn hl (by cases b <;> simpa using hh) w h
    · exact with_keep _ b g n c bs hn (wth_out (by omega)) (.inr (.inl ⟨k, rfl, by omega⟩)) w h
end Go.Proofs.YtgckoiepclgofaaDoor
