/- Packed texts of one proof. Conditions: none. -/
import Derived.Test.YtbpichjmkllfaaaGreatDoorPq28
import Derived.Test.YtbpichjmkllfaaaGreatDoorPq26
namespace Go.Proofs.YtbpichjmkllfaaaGreatDoor.Opr
open Go.ChangeShapes Go.WideShapes Go.RowKit
set_option linter.unusedVariables false
def rc (x : Rw × Option Addr) : Array Value := #[.string x.1.nm, .string x.1.ds, .slice x.2 x.1.ar.length x.1.ar.length, .int .i64 x.1.lb, .bool x.1.al]
def rcs (l : List (Rw × Option Addr)) : List Value := l.flatMap fun x => (rc x).toList
theorem rcs_append (l m : List (Rw × Option Addr)) : rcs (l ++ m) = rcs l ++ rcs m := List.flatMap_append
theorem rcs_one (x : Rw × Option Addr) : rcs [x] = (rc x).toList := by unfold rcs; simp
theorem rcs_at (l : List (Rw × Option Addr)) (k j : Nat) (hk : k < l.length) (hj : j < 5) : (rcs l)[k * 5 + j]? = (rc l[k])[j]? := by
 induction l generalizing k with
 | nil => cases hk
 | cons t l ih =>
  show (rcs ([t] ++ l))[k * 5 + j]? = _
  rw [rcs_append, rcs_one]
  have h5 : (rc t).toList.length = 5 := rfl
  cases k with
  | zero =>
   rw [List.getElem?_append_left (by omega)]
   simp
  | succ k =>
   rw [List.getElem?_append_right (by omega), h5, show (k + 1) * 5 + j - 5 = k * 5 + j by omega, ih k (by simpa using hk)]
   simp
theorem rcs_cell (x : Rw × Option Addr) : ∀ u ∈ rcs [x], u.oneCell' = true := by
 rw [rcs_one]
 intro u hu
 unfold rc at hu
 simp at hu
 rcases hu with rfl | rfl | rfl | rfl | rfl <;> rfl
def z25 : Array Value := #[.string ⟨#[]⟩, .string ⟨#[]⟩, .slice none 0 0, .int .i64 0, .bool false]
theorem info25 : (Tryz.prog.info? 151).map (fun i => (i.zero, i.size, i.bytes)) = some (some (.agg z25), 5, 72) := by kernel_rfl
def Argd (B : Nat) (w : World) (A : Option Addr) (ar : List ByteArray) : Prop :=
 (ar = [] ∧ A = none) ∨ ∃ g cs, A = some ⟨g, 0, none⟩ ∧ B ≤ g ∧ w.heap[g]? = some (.cells cs 9 (0, 0)) ∧ cs.toList = ar.map Value.string
theorem Argd.grown {B : Nat} {w w' : World} {A : Option Addr} {ar : List ByteArray} (h : Argd B w A ar) {row : Option Nat} (hg : w.grownBy w' row) (hr : ∀ g, row = some g → ∃ cs, w.heap[g]? = some (.cells cs 151 (0, 0))) : Argd B w' A ar := by
 rcases h with h | ⟨g, cs, h1, h2, h3, h4⟩
 ·exact .inl h
 ·refine .inr ⟨g, cs, h1, h2, ?_, h4⟩
  have hlt := (Array.getElem?_eq_some_iff.1 h3).1
  rw [hg.block g hlt ?_]
  ·exact h3
  ·intro e
   obtain ⟨cs', h5⟩ := hr g e.symm
   rw [h3] at h5
   injection h5 with h5
   injection h5 with _ h6
   cases h6
theorem Argd.alloc {B : Nat} {w : World} {A : Option Addr} {ar : List ByteArray} (h : Argd B w A ar) (o : Obj) : Argd B (w.alloc o) A ar := by
 rcases h with h | ⟨g, cs, h1, h2, h3, h4⟩
 ·exact .inl h
 ·exact .inr ⟨g, cs, h1, h2, by rw [Below.heap_alloc _ _ _ (Array.getElem?_eq_some_iff.1 h3).1]; exact h3, h4⟩
theorem own_row {B : Nat} {w : World} {A : Option Addr} {c N : Nat} {xs : List Value} (h : w.ownsRow B 151 5 (.slice A N c) N xs) : ∀ g, Value.ownBlock (.slice A N c) = some g → ∃ cs, w.heap[g]? = some (.cells cs 151 (0, 0)) := by
 intro g hg
 rcases h.2 with ⟨h1, _⟩ | ⟨g', cap, cur, h1, _, h3, _⟩
 ·injection h1 with h1 _ _
  subst h1
  cases hg
 ·injection h1 with h1 _ _
  subst h1
  injection hg with hg
  exact ⟨cur, by rw [← hg]; exact h3⟩
structure Tb (w wr : World) (N : Nat) (A : Option Addr) (c : Nat) (l : List (Rw × Option Addr)) : Prop where
 len : l.length = N
 rows : l.map Prod.fst = tab.take N
 own : wr.ownsRow w.heap.size 151 5 (.slice A N c) N (rcs l)
 below : Below w.heap.size w wr
 args : ∀ x ∈ l, Argd w.heap.size wr x.2 x.1.ar
theorem Tb.snoc {w wr W w1 : World} {N : Nat} {A : Option Addr} {c g cap : Nat} {l : List (Rw × Option Addr)} (h : Tb w wr N A c l) (x : Rw × Option Addr) (hx : tab[N]? = some x.1)
  (hbW : Below w.heap.size w W) (hW : W.ownsRow w.heap.size 151 5 (.slice A N c) N (rcs l)) (ha : ∀ y ∈ l, Argd w.heap.size W y.2 y.1.ar) (hxa : Argd w.heap.size W x.2 x.1.ar)
  (ho : w1.ownsRow w.heap.size 151 5 (.slice (some ⟨g, 0, none⟩) (N + 1) cap) (N + 1) (rcs l ++ rcs [x])) (hg : W.grownBy w1 (Value.ownBlock (.slice A N c))) :
  Tb w w1 (N + 1) (some ⟨g, 0, none⟩) cap (l ++ [x]) := by
 have hr := own_row hW
 refine ⟨by rw [List.length_append, h.len]; rfl, ?_, by rw [rcs_append]; exact ho, hbW.grown hg hbW.size (fun k hk => (hW.lt k hk).1), ?_⟩
 ·rw [List.map_append, h.rows, List.take_add_one, hx]; rfl
 ·intro y hy
  rcases List.mem_append.1 hy with hy | hy
  ·exact (ha y hy).grown hg hr
  ·have : y = x := by simpa using hy
   subst this
   exact hxa.grown hg hr
theorem Tb.next {w wr w1 : World} {N : Nat} {A : Option Addr} {c g cap : Nat} {l : List (Rw × Option Addr)} (h : Tb w wr N A c l) (r : Rw) (hx : tab[N]? = some r) (cs ds : Array Value) (hcs : cs.toList = r.ar.map Value.string)
  (ho : w1.ownsRow w.heap.size 151 5 (.slice (some ⟨g, 0, none⟩) (N + 1) cap) (N + 1) (rcs l ++ rcs [(r, some ⟨wr.heap.size, 0, none⟩)])) (hg : ((wr.alloc (.cells cs 9)).alloc (.cells ds 151)).grownBy w1 (Value.ownBlock (.slice A N c))) :
  Tb w w1 (N + 1) (some ⟨g, 0, none⟩) cap (l ++ [(r, some ⟨wr.heap.size, 0, none⟩)]) := by
 have hs := h.below.size
 refine h.snoc (r, some ⟨wr.heap.size, 0, none⟩) hx ((h.below.alloc hs _).alloc (by simp; omega) _) ((h.own.alloc _).alloc _) (fun y hy => ((h.args y hy).alloc _).alloc _) ?_ ho hg
 refine Argd.alloc (.inr ⟨wr.heap.size, cs, rfl, hs, heap_alloc_new wr _, hcs⟩) _
theorem Tb.next0 {w wr w1 : World} {N : Nat} {A : Option Addr} {c g cap : Nat} {l : List (Rw × Option Addr)} (h : Tb w wr N A c l) (r : Rw) (hx : tab[N]? = some r) (ds : Array Value) (hr : r.ar = [])
  (ho : w1.ownsRow w.heap.size 151 5 (.slice (some ⟨g, 0, none⟩) (N + 1) cap) (N + 1) (rcs l ++ rcs [(r, none)])) (hg : (wr.alloc (.cells ds 151)).grownBy w1 (Value.ownBlock (.slice A N c))) :
  Tb w w1 (N + 1) (some ⟨g, 0, none⟩) cap (l ++ [(r, none)]) := by
 have hs := h.below.size
 exact h.snoc (r, none) hx (h.below.alloc hs _) (h.own.alloc _) (fun y hy => (h.args y hy).alloc _) (.inl ⟨hr, rfl⟩) ho hg
theorem tab_15 : tab[15]? = some r15 := rfl
theorem tab_16 : tab[16]? = some r16 := rfl
theorem tab_17 : tab[17]? = some r17 := rfl
theorem tab_18 : tab[18]? = some r18 := rfl
theorem tab_19 : tab[19]? = some r19 := rfl
theorem tab_20 : tab[20]? = some r20 := rfl
theorem tab_21 : tab[21]? = some r21 := rfl
theorem tab_22 : tab[22]? = some r22 := rfl
theorem tab_23 : tab[23]? = some r23 := rfl
theorem tab_24 : tab[24]? = some r24 := rfl
theorem tab_25 : tab[0x19]? = some r25 := rfl
theorem tab_26 : tab[26]? = some r26 := rfl
theorem names_tab (k : Nat) (hk : k < 15) : tab[k]? = some (two (names.getD k ⟨#[]⟩)) := by
 match k, hk with
 | 0, _ => rfl
 | 1, _ => rfl
 | 2, _ => rfl
 | 3, _ => rfl
 | 4, _ => rfl
 | 5, _ => rfl
 | 6, _ => rfl
 | 7, _ => rfl
 | 8, _ => rfl
 | 9, _ => rfl
 | 10, _ => rfl
 | 11, _ => rfl
 | 12, _ => rfl
 | 13, _ => rfl
 | 14, _ => rfl
theorem two_new (w : World) (x : Obj) (cs : Array Value) (l : List Value) (hl : cs.toList = l) : ∀ j u, l[j]? = some u → ((w.alloc x).alloc (.cells cs 151)).cell? ((⟨w.heap.size + 1, 0, none⟩ : Addr).add j) = some u := fun j u hj => by
 have := news_new (w.alloc x) cs 151 l hl j u hj
 simpa using this
def namesBlock : Obj := (.cells #[.string ⟨#[97, 100, 100]⟩, .string ⟨#[115, 117, 98]⟩, .string ⟨#[109, 117, 108]⟩, .string ⟨#[97, 110, 100]⟩, .string ⟨#[111, 114]⟩, .string ⟨#[120, 111, 114]⟩, .string ⟨#[115, 104, 108]⟩, .string ⟨#[115, 104, 114]⟩, .string ⟨#[115, 97, 114]⟩, .string ⟨#[100, 105, 118]⟩, .string ⟨#[114, 101, 109]⟩, .string ⟨#[101, 113]⟩, .string ⟨#[110, 101]⟩, .string ⟨#[108, 116]⟩, .string ⟨#[108, 101]⟩] 9)
theorem names_cells (j : Nat) (hj : j < 15) : (#[.string ⟨#[97, 100, 100]⟩, .string ⟨#[115, 117, 98]⟩, .string ⟨#[109, 117, 108]⟩, .string ⟨#[97, 110, 100]⟩, .string ⟨#[111, 114]⟩, .string ⟨#[120, 111, 114]⟩, .string ⟨#[115, 104, 108]⟩, .string ⟨#[115, 104, 114]⟩, .string ⟨#[115, 97, 114]⟩, .string ⟨#[100, 105, 118]⟩, .string ⟨#[114, 101, 109]⟩, .string ⟨#[101, 113]⟩, .string ⟨#[110, 101]⟩, .string ⟨#[108, 116]⟩, .string ⟨#[108, 101]⟩] : Array Value)[j]? = some (.string (names.getD j ⟨#[]⟩)) := by
 match j, hj with
 | 0, _ => rfl
 | 1, _ => rfl
 | 2, _ => rfl
 | 3, _ => rfl
 | 4, _ => rfl
 | 5, _ => rfl
 | 6, _ => rfl
 | 7, _ => rfl
 | 8, _ => rfl
 | 9, _ => rfl
 | 10, _ => rfl
 | 11, _ => rfl
 | 12, _ => rfl
 | 13, _ => rfl
 | 14, _ => rfl
theorem keep_names {w wr w1 : World} {A : Option Addr} {c N : Nat} {xs : List Value} {o o' : Obj} (h : wr.heap[w.heap.size]? = some namesBlock)
  (ho : wr.ownsRow w.heap.size 151 5 (.slice A N c) N xs) (hg : ((wr.alloc o).alloc o').grownBy w1 (Value.ownBlock (.slice A N c))) :
  w1.heap[w.heap.size]? = some namesBlock := by
 have hlt := (Array.getElem?_eq_some_iff.1 h).1
 rw [hg.block w.heap.size (by simp; omega) ?_, Below.heap_alloc _ _ _ (by simp; omega), Below.heap_alloc _ _ _ hlt]
 ·exact h
 ·intro e
  obtain ⟨cs', h5⟩ := own_row ho _ e.symm
  rw [h] at h5
  injection h5 with h5
  injection h5 with _ h6
  cases h6
def AllP (w : World) (e : Ending) (w' : World) : Prop := ∃ g c l, e = .returned (.slice (some ⟨g, 0, none⟩) 27 c) ∧ Tb w w' 27 (some ⟨g, 0, none⟩) c l
set_option maxHeartbeats 4000000 in
set_option maxRecDepth 100000 in
theorem all_v (w : World) : Calls Tryz.prog 110 #[] w (AllP w) := by
 obtain ⟨i0, hi0, hz0, hz1, hz2⟩ := info_parts info25
 have I0 := Hh (Ai hi0 (Ai hz0 (Ai hz1 hz2)))
 clear hi0 hz0 hz1 hz2
 go_enter Tryz.func110, Tryz.ntmps110
 go_wp2_with fail
 go_loopg [1, 3] 15 (fun gk x u wr => ∃ (k : Nat) (A : Option Addr) (c : Nat) (l : List (Rw × Option Addr)), k + gk = 15 ∧ x = .slice A k c ∧ u = .int .i64 (k : Int) ∧ Hid (Tb w wr k A c l ∧ wr.heap[w.heap.size]? = some namesBlock))
 case atStart => exact ⟨0, none, 0, [], by omega, rfl, rfl, ⟨rfl, rfl, World.ownsRow_nil _ _ _ _, (Below.refl _ w).alloc (Nat.le_refl _) _, by simp⟩, heap_alloc_new w _⟩
 case round =>
  obtain ⟨k, A, c, l, hk, rfl, rfl, HH⟩ := hrel
  by_cases hlt : k < 15
  ·obtain ⟨s, hs⟩ : ∃ s, names.getD k ⟨#[]⟩ = s := ⟨_, rfl⟩
   have hc : wr.cell? ⟨w.heap.size, k, none⟩ = some (.string s) := by rw [cell_of_row _ _ _ _ _ _ HH.out.2, ← hs]; exact names_cells k hlt
   have HS := Hh hs
   have hB2 : w.heap.size ≤ wr.heap.size := HH.out.1.below.size
   clear hs
   go_wp2_with (at_builtin; refine wpList_append_lies _ rfl (.tmp 9) (.tmp 16) 189 rfl w.heap.size 151 i0 (.agg z25) 5 72 Tryz.underlying189 I0.out.1 I0.out.2.1 I0.out.2.2.1 I0.out.2.2.2 rfl (by decide) (.slice A k c) k (rcs l) rfl ((HH.out.1.own.alloc _).alloc _) ⟨wr.heap.size + 1, 0, none⟩ 1 1 (rcs [(two s, some ⟨wr.heap.size, 0, none⟩)]) rfl rfl (two_new wr _ _ _ (rcs_one (two s, some ⟨wr.heap.size, 0, none⟩)).symm) (rcs_cell _) (by decide) (by unfold maxLen; omega) (by omega) (by simp; omega) _ rfl ?_)
   intro g' cap' w1 hown hgrow _ _
   have H2 := Hh (Ai (HH.out.1.next (two s) (by rw [names_tab k hlt, HS.out]) _ _ rfl hown hgrow) (keep_names HH.out.2 HH.out.1.own hgrow))
   clear hown hgrow
   go_wp2_with fail
   go_roundg (gk - 1)
   case measure => omega
   case rel => exact ⟨k + 1, _, _, _, by omega, rfl, by go_num, H2.out⟩
  ·obtain rfl : k = 15 := by omega
   have H15 := Hh HH.out.1
   have hB15 : w.heap.size ≤ wr.heap.size := HH.out.1.below.size
   clear hlt HH hk
   go_wp2_with (at_builtin; refine wpList_append_lies _ rfl (.tmp 18) (.tmp 21) 189 rfl w.heap.size 151 i0 (.agg z25) 5 72 Tryz.underlying189 I0.out.1 I0.out.2.1 I0.out.2.2.1 I0.out.2.2.2 rfl (by decide) (.slice A 15 c) 15 (rcs l) rfl ((H15.out.own.alloc _).alloc _) ⟨wr.heap.size + 1, 0, none⟩ 1 1 (rcs [(r15, some ⟨wr.heap.size, 0, none⟩)]) rfl rfl (two_new wr _ _ _ (rcs_one (r15, some ⟨wr.heap.size, 0, none⟩)).symm) (rcs_cell _) (by decide) (by unfold maxLen; omega) (by omega) (by simp; omega) _ rfl ?_)
   intro g15 c15 w15 hown hgrow _ _
   have H16 := Hh (H15.out.next r15 tab_15 _ _ rfl hown hgrow)
   have hB16 : w.heap.size ≤ w15.heap.size := H16.out.below.size
   clear hown hgrow H15 hB15
   obtain ⟨l15, hl15⟩ : ∃ l', l ++ [(r15, some ⟨wr.heap.size, 0, none⟩)] = l' := ⟨_, rfl⟩
   rw [hl15] at H16
   clear hl15
   go_wp2_with (at_builtin; refine wpList_append_lies _ rfl (.tmp 23) (.tmp 26) 189 rfl w.heap.size 151 i0 (.agg z25) 5 72 Tryz.underlying189 I0.out.1 I0.out.2.1 I0.out.2.2.1 I0.out.2.2.2 rfl (by decide) (.slice (some ⟨g15, 0, none⟩) 16 c15) 16 (rcs l15) rfl ((H16.out.own.alloc _).alloc _) ⟨w15.heap.size + 1, 0, none⟩ 1 1 (rcs [(r16, some ⟨w15.heap.size, 0, none⟩)]) rfl rfl (two_new w15 _ _ _ (rcs_one (r16, some ⟨w15.heap.size, 0, none⟩)).symm) (rcs_cell _) (by decide) (by unfold maxLen; omega) (by omega) (by simp; omega) _ rfl ?_)
   intro g16 c16 w16 hown hgrow _ _
   have H17 := Hh (H16.out.next r16 tab_16 _ _ rfl hown hgrow)
   have hB17 : w.heap.size ≤ w16.heap.size := H17.out.below.size
   clear hown hgrow H16 hB16
   obtain ⟨l16, hl16⟩ : ∃ l', l15 ++ [(r16, some ⟨w15.heap.size, 0, none⟩)] = l' := ⟨_, rfl⟩
   rw [hl16] at H17
   clear hl16
   go_wp2_with (at_builtin; refine wpList_append_lies _ rfl (.tmp 28) (.tmp 31) 189 rfl w.heap.size 151 i0 (.agg z25) 5 72 Tryz.underlying189 I0.out.1 I0.out.2.1 I0.out.2.2.1 I0.out.2.2.2 rfl (by decide) (.slice (some ⟨g16, 0, none⟩) 17 c16) 17 (rcs l16) rfl ((H17.out.own.alloc _).alloc _) ⟨w16.heap.size + 1, 0, none⟩ 1 1 (rcs [(r17, some ⟨w16.heap.size, 0, none⟩)]) rfl rfl (two_new w16 _ _ _ (rcs_one (r17, some ⟨w16.heap.size, 0, none⟩)).symm) (rcs_cell _) (by decide) (by unfold maxLen; omega) (by omega) (by simp; omega) _ rfl ?_)
   intro g17 c17 w17 hown hgrow _ _
   have H18 := Hh (H17.out.next r17 tab_17 _ _ rfl hown hgrow)
   have hB18 : w.heap.size ≤ w17.heap.size := H18.out.below.size
   clear hown hgrow H17 hB17
   obtain ⟨l17, hl17⟩ : ∃ l', l16 ++ [(r17, some ⟨w16.heap.size, 0, none⟩)] = l' := ⟨_, rfl⟩
   rw [hl17] at H18
   clear hl17
   go_wp2_with (at_builtin; refine wpList_append_lies _ rfl (.tmp 33) (.tmp 36) 189 rfl w.heap.size 151 i0 (.agg z25) 5 72 Tryz.underlying189 I0.out.1 I0.out.2.1 I0.out.2.2.1 I0.out.2.2.2 rfl (by decide) (.slice (some ⟨g17, 0, none⟩) 18 c17) 18 (rcs l17) rfl ((H18.out.own.alloc _).alloc _) ⟨w17.heap.size + 1, 0, none⟩ 1 1 (rcs [(r18, some ⟨w17.heap.size, 0, none⟩)]) rfl rfl (two_new w17 _ _ _ (rcs_one (r18, some ⟨w17.heap.size, 0, none⟩)).symm) (rcs_cell _) (by decide) (by unfold maxLen; omega) (by omega) (by simp; omega) _ rfl ?_)
   intro g18 c18 w18 hown hgrow _ _
   have H19 := Hh (H18.out.next r18 tab_18 _ _ rfl hown hgrow)
   have hB19 : w.heap.size ≤ w18.heap.size := H19.out.below.size
   clear hown hgrow H18 hB18
   obtain ⟨l18, hl18⟩ : ∃ l', l17 ++ [(r18, some ⟨w17.heap.size, 0, none⟩)] = l' := ⟨_, rfl⟩
   rw [hl18] at H19
   clear hl18
   go_wp2_with (at_builtin; refine wpList_append_lies _ rfl (.tmp 38) (.tmp 40) 189 rfl w.heap.size 151 i0 (.agg z25) 5 72 Tryz.underlying189 I0.out.1 I0.out.2.1 I0.out.2.2.1 I0.out.2.2.2 rfl (by decide) (.slice (some ⟨g18, 0, none⟩) 19 c18) 19 (rcs l18) rfl (H19.out.own.alloc _) ⟨w18.heap.size, 0, none⟩ 1 1 (rcs [(r19, none)]) rfl rfl (news_new w18 _ _ _ (rcs_one (r19, none)).symm) (rcs_cell _) (by decide) (by unfold maxLen; omega) (by omega) (by simp; omega) _ rfl ?_)
   intro g19 c19 w19 hown hgrow _ _
   have H20 := Hh (H19.out.next0 r19 tab_19 _ rfl hown hgrow)
   have hB20 : w.heap.size ≤ w19.heap.size := H20.out.below.size
   clear hown hgrow H19 hB19
   obtain ⟨l19, hl19⟩ : ∃ l', l18 ++ [(r19, none)] = l' := ⟨_, rfl⟩
   rw [hl19] at H20
   clear hl19
   go_wp2_with (at_builtin; refine wpList_append_lies _ rfl (.tmp 42) (.tmp 45) 189 rfl w.heap.size 151 i0 (.agg z25) 5 72 Tryz.underlying189 I0.out.1 I0.out.2.1 I0.out.2.2.1 I0.out.2.2.2 rfl (by decide) (.slice (some ⟨g19, 0, none⟩) 20 c19) 20 (rcs l19) rfl ((H20.out.own.alloc _).alloc _) ⟨w19.heap.size + 1, 0, none⟩ 1 1 (rcs [(r20, some ⟨w19.heap.size, 0, none⟩)]) rfl rfl (two_new w19 _ _ _ (rcs_one (r20, some ⟨w19.heap.size, 0, none⟩)).symm) (rcs_cell _) (by decide) (by unfold maxLen; omega) (by omega) (by simp; omega) _ rfl ?_)
   intro g20 c20 w20 hown hgrow _ _
   have H21 := Hh (H20.out.next r20 tab_20 _ _ rfl hown hgrow)
   have hB21 : w.heap.size ≤ w20.heap.size := H21.out.below.size
   clear hown hgrow H20 hB20
   obtain ⟨l20, hl20⟩ : ∃ l', l19 ++ [(r20, some ⟨w19.heap.size, 0, none⟩)] = l' := ⟨_, rfl⟩
   rw [hl20] at H21
   clear hl20
   go_wp2_with (at_builtin; refine wpList_append_lies _ rfl (.tmp 47) (.tmp 50) 189 rfl w.heap.size 151 i0 (.agg z25) 5 72 Tryz.underlying189 I0.out.1 I0.out.2.1 I0.out.2.2.1 I0.out.2.2.2 rfl (by decide) (.slice (some ⟨g20, 0, none⟩) 21 c20) 21 (rcs l20) rfl ((H21.out.own.alloc _).alloc _) ⟨w20.heap.size + 1, 0, none⟩ 1 1 (rcs [(r21, some ⟨w20.heap.size, 0, none⟩)]) rfl rfl (two_new w20 _ _ _ (rcs_one (r21, some ⟨w20.heap.size, 0, none⟩)).symm) (rcs_cell _) (by decide) (by unfold maxLen; omega) (by omega) (by simp; omega) _ rfl ?_)
   intro g21 c21 w21 hown hgrow _ _
   have H22 := Hh (H21.out.next r21 tab_21 _ _ rfl hown hgrow)
   have hB22 : w.heap.size ≤ w21.heap.size := H22.out.below.size
   clear hown hgrow H21 hB21
   obtain ⟨l21, hl21⟩ : ∃ l', l20 ++ [(r21, some ⟨w20.heap.size, 0, none⟩)] = l' := ⟨_, rfl⟩
   rw [hl21] at H22
   clear hl21
   go_wp2_with (at_builtin; refine wpList_append_lies _ rfl (.tmp 52) (.tmp 55) 189 rfl w.heap.size 151 i0 (.agg z25) 5 72 Tryz.underlying189 I0.out.1 I0.out.2.1 I0.out.2.2.1 I0.out.2.2.2 rfl (by decide) (.slice (some ⟨g21, 0, none⟩) 22 c21) 22 (rcs l21) rfl ((H22.out.own.alloc _).alloc _) ⟨w21.heap.size + 1, 0, none⟩ 1 1 (rcs [(r22, some ⟨w21.heap.size, 0, none⟩)]) rfl rfl (two_new w21 _ _ _ (rcs_one (r22, some ⟨w21.heap.size, 0, none⟩)).symm) (rcs_cell _) (by decide) (by unfold maxLen; omega) (by omega) (by simp; omega) _ rfl ?_)
   intro g22 c22 w22 hown hgrow _ _
   have H23 := Hh (H22.out.next r22 tab_22 _ _ rfl hown hgrow)
   have hB23 : w.heap.size ≤ w22.heap.size := H23.out.below.size
   clear hown hgrow H22 hB22
   obtain ⟨l22, hl22⟩ : ∃ l', l21 ++ [(r22, some ⟨w21.heap.size, 0, none⟩)] = l' := ⟨_, rfl⟩
   rw [hl22] at H23
   clear hl22
   go_wp2_with (at_builtin; refine wpList_append_lies _ rfl (.tmp 57) (.tmp 60) 189 rfl w.heap.size 151 i0 (.agg z25) 5 72 Tryz.underlying189 I0.out.1 I0.out.2.1 I0.out.2.2.1 I0.out.2.2.2 rfl (by decide) (.slice (some ⟨g22, 0, none⟩) 23 c22) 23 (rcs l22) rfl ((H23.out.own.alloc _).alloc _) ⟨w22.heap.size + 1, 0, none⟩ 1 1 (rcs [(r23, some ⟨w22.heap.size, 0, none⟩)]) rfl rfl (two_new w22 _ _ _ (rcs_one (r23, some ⟨w22.heap.size, 0, none⟩)).symm) (rcs_cell _) (by decide) (by unfold maxLen; omega) (by omega) (by simp; omega) _ rfl ?_)
   intro g23 c23 w23 hown hgrow _ _
   have H24 := Hh (H23.out.next r23 tab_23 _ _ rfl hown hgrow)
   have hB24 : w.heap.size ≤ w23.heap.size := H24.out.below.size
   clear hown hgrow H23 hB23
   obtain ⟨l23, hl23⟩ : ∃ l', l22 ++ [(r23, some ⟨w22.heap.size, 0, none⟩)] = l' := ⟨_, rfl⟩
   rw [hl23] at H24
   clear hl23
   go_wp2_with (at_builtin; refine wpList_append_lies _ rfl (.tmp 62) (.tmp 65) 189 rfl w.heap.size 151 i0 (.agg z25) 5 72 Tryz.underlying189 I0.out.1 I0.out.2.1 I0.out.2.2.1 I0.out.2.2.2 rfl (by decide) (.slice (some ⟨g23, 0, none⟩) 24 c23) 24 (rcs l23) rfl ((H24.out.own.alloc _).alloc _) ⟨w23.heap.size + 1, 0, none⟩ 1 1 (rcs [(r24, some ⟨w23.heap.size, 0, none⟩)]) rfl rfl (two_new w23 _ _ _ (rcs_one (r24, some ⟨w23.heap.size, 0, none⟩)).symm) (rcs_cell _) (by decide) (by unfold maxLen; omega) (by omega) (by simp; omega) _ rfl ?_)
   intro g24 c24 w24 hown hgrow _ _
   have H25 := Hh (H24.out.next r24 tab_24 _ _ rfl hown hgrow)
   have hB25 : w.heap.size ≤ w24.heap.size := H25.out.below.size
   clear hown hgrow H24 hB24
   obtain ⟨l24, hl24⟩ : ∃ l', l23 ++ [(r24, some ⟨w23.heap.size, 0, none⟩)] = l' := ⟨_, rfl⟩
   rw [hl24] at H25
   clear hl24
   go_wp2_with (at_builtin; refine wpList_append_lies _ rfl (.tmp 67) (.tmp 70) 189 rfl w.heap.size 151 i0 (.agg z25) 5 72 Tryz.underlying189 I0.out.1 I0.out.2.1 I0.out.2.2.1 I0.out.2.2.2 rfl (by decide) (.slice (some ⟨g24, 0, none⟩) 0x19 c24) 0x19 (rcs l24) rfl ((H25.out.own.alloc _).alloc _) ⟨w24.heap.size + 1, 0, none⟩ 1 1 (rcs [(r25, some ⟨w24.heap.size, 0, none⟩)]) rfl rfl (two_new w24 _ _ _ (rcs_one (r25, some ⟨w24.heap.size, 0, none⟩)).symm) (rcs_cell _) (by decide) (by unfold maxLen; omega) (by omega) (by simp; omega) _ rfl ?_)
   intro g25 c25 w25 hown hgrow _ _
   have H26 := Hh (H25.out.next r25 tab_25 _ _ rfl hown hgrow)
   have hB26 : w.heap.size ≤ w25.heap.size := H26.out.below.size
   clear hown hgrow H25 hB25
   obtain ⟨l25, hl25⟩ : ∃ l', l24 ++ [(r25, some ⟨w24.heap.size, 0, none⟩)] = l' := ⟨_, rfl⟩
   rw [hl25] at H26
   clear hl25
   go_wp2_with (at_builtin; refine wpList_append_lies _ rfl (.tmp 72) (.tmp 75) 189 rfl w.heap.size 151 i0 (.agg z25) 5 72 Tryz.underlying189 I0.out.1 I0.out.2.1 I0.out.2.2.1 I0.out.2.2.2 rfl (by decide) (.slice (some ⟨g25, 0, none⟩) 26 c25) 26 (rcs l25) rfl ((H26.out.own.alloc _).alloc _) ⟨w25.heap.size + 1, 0, none⟩ 1 1 (rcs [(r26, some ⟨w25.heap.size, 0, none⟩)]) rfl rfl (two_new w25 _ _ _ (rcs_one (r26, some ⟨w25.heap.size, 0, none⟩)).symm) (rcs_cell _) (by decide) (by unfold maxLen; omega) (by omega) (by simp; omega) _ rfl ?_)
   intro g26 c26 w26 hown hgrow _ _
   have H27 := Hh (H26.out.next r26 tab_26 _ _ rfl hown hgrow)
   have hB27 : w.heap.size ≤ w26.heap.size := H27.out.below.size
   clear hown hgrow H26 hB26
   obtain ⟨l26, hl26⟩ : ∃ l', l25 ++ [(r26, some ⟨w25.heap.size, 0, none⟩)] = l' := ⟨_, rfl⟩
   rw [hl26] at H27
   clear hl26
   go_wp2_with fail
   go_ret
   exact ⟨_, _, _, rfl, H27.out⟩
end Go.Proofs.YtbpichjmkllfaaaGreatDoor.Opr
namespace Go.Proofs.YtbpichjmkllfaaaGreatDoor.Opr
open Go.ChangeShapes Go.WideShapes Go.RowKit
set_option linter.unusedVariables false
set_option maxRecDepth 20000
theorem Tb.at {w wr : World} {g c : Nat} {l : List (Rw × Option Addr)} (h : Tb w wr 27 (some ⟨g, 0, none⟩) c l) (k : Nat) (hk : k < 27) :
  ∃ A, Argd w.heap.size wr A (tab.getD k rw0).ar ∧ wr.cell? ⟨g, k * 5, none⟩ = some (.string (tab.getD k rw0).nm) ∧ wr.cell? ⟨g, k * 5 + 1, none⟩ = some (.string (tab.getD k rw0).ds) ∧
   wr.cell? ⟨g, k * 5 + 2, none⟩ = some (.slice A (tab.getD k rw0).ar.length (tab.getD k rw0).ar.length) ∧ wr.cell? ⟨g, k * 5 + 3, none⟩ = some (.int .i64 (tab.getD k rw0).lb) ∧ wr.cell? ⟨g, k * 5 + 4, none⟩ = some (.bool (tab.getD k rw0).al) := by
 have hkl : k < l.length := by rw [h.len]; exact hk
 have hr : (l[k]).1 = tab.getD k rw0 := by
  have e := congrArg (fun m => m[k]?) h.rows
  simp only [List.getElem?_map, List.getElem?_eq_getElem hkl, Option.map_some] at e
  rw [List.getElem?_take_of_lt hk, List.getElem?_eq_getElem (by rw [tab_len]; exact hk)] at e
  injection e with e
  rw [e, List.getD_eq_getElem?_getD, List.getElem?_eq_getElem (by rw [tab_len]; exact hk)]; rfl
 have hA := h.args l[k] (List.getElem_mem hkl)
 rw [hr] at hA
 have hc := fun j (hj : j < 5) => (h.own.cellAt (k * 5 + j) (by omega)).trans (rcs_at l k j hkl hj)
 have c0 := hc 0 (by decide)
 have c1 := hc 1 (by decide)
 have c2 := hc 2 (by decide)
 have c3 := hc 3 (by decide)
 have c4 := hc 4 (by decide)
 unfold rc at c0 c1 c2 c3 c4
 rw [hr] at c0 c1 c2 c3 c4
 exact ⟨_, hA, c0, c1, c2, c3, c4⟩
theorem results_cell2 {P : Program} {fn : Func} {p u : Tmp} {ty : TypeId} (h : fn.results = #[.cell p ty, .tmp u]) (tmps : Array Value) (w : World) (g : Nat) (t : TypeId) (cs : Array Value) (fr : Nat × Nat) (d : TypeDesc)
  (hp : tmps.getD p undef = .pointer (some ⟨g, 0, none⟩)) (hg : w.heap[g]? = some (.cells cs t fr))
  (hu : P.underlying ty = some d) (hd : (match d with | .struct _ | .array _ _ => true | _ => false) = true) (hi : (P.info? ty).map (·.size) = some cs.size) :
  (results fn tmps).run P w = .ok (.tuple #[.agg cs, tmps.getD u undef]) w := by
 have hp' : tmps[p]?.getD undef = .pointer (some ⟨g, 0, none⟩) := by simpa using hp
 simp [results, h, hp', asAddr, run_loadVar_row w g t ty cs fr d hg hu hd hi]
end Go.Proofs.YtbpichjmkllfaaaGreatDoor.Opr
namespace Go.Proofs.YtbpichjmkllfaaaGreatDoor.Par
open Go.ChangeShapes Go.WideShapes Go.RowKit
open Lex (Tok tcl tkv tk tc)
set_option linter.unusedVariables false
set_option maxRecDepth 20000
def textB : ByteArray := ⟨#[116, 101, 120, 116]⟩
def funcB : ByteArray := ⟨#[102, 117, 110, 99]⟩
def TextP (s : ByteArray) (w : World) (e : Ending) (w' : World) : Prop :=
 Below w.heap.size w w' ∧ ((∃ m code q, code ≠ 0 ∧ Lex.all s.data.toList = (m, code, q) ∧ e = .returned (.tuple #[funZ, Flt.err code (q : Int) [textB]])) ∨
  (∃ m q x l r, Lex.all s.data.toList = (m, 0, q) ∧ whole m = .ok x l ∧ e = .returned (.tuple #[.agg (funR x r), .nilIface]) ∧ IsFun w' x r) ∨
  (∃ m q c p, Lex.all s.data.toList = (m, 0, q) ∧ c ≠ 0 ∧ whole m = .bad c p ∧ e = .returned (.tuple #[funZ, Flt.err c (p : Int) [funcB]])))
theorem fin_text {fn : Func} {q u : Tmp} (h : fn.results = #[.cell q 27, .tmp u]) {act : Act} {w : World} {g : Nat} {x0 x1 x2 x3 x4 : Value} {R : Ending → World → Prop}
  (hp : act.tmps.getD q undef = .pointer (some ⟨g, 0, none⟩)) (hg : w.heap[g]? = some (.cells #[x0, x1, x2, x3, x4] 27 (0, 0))) (hd : act.defers = [])
  (hR : R (.returned (.tuple #[.agg #[x0, x1, x2, x3, x4], act.tmps.getD u undef])) w) : bodyPost Tryz.prog fn R .ret act w :=
 bodyPost_ret (Opr.results_cell2 h _ _ g 27 _ (0, 0) _ hp hg Tryz.underlying27 rfl sizeFun) hd hR
theorem in_bare (p : ByteArray) (code place : Int) (w : World) : Calls Tryz.prog 25 #[.string p, Fau.bare code place] w fun e w' => e = .returned (Flt.err code place [p]) ∧ w = w' := Flt.in_v p code place [] w
theorem tks_of {s : ByteArray} {w w1 : World} {m : List Tok} {q : Nat} {A : Option Addr} {c : Nat} (hG : Opr.Glob w) (hm : Lex.all s.data.toList = (m, 0, q)) (hb : Below w.heap.size w w1) (ho : Lex.OwnK w.heap.size w1 A c m) :
  ∃ g, A = some ⟨g, 0, none⟩ ∧ w.heap.size ≤ g ∧ Tks w1 g m.length m := by
 have hE := all_ends hm
 obtain ⟨g, rfl, hlo, hlt, hc⟩ := ho.form (List.length_pos_iff.2 hE.ne)
 have hl : s.data.toList.length ≤ 65536 := by
  rcases Nat.lt_or_ge 65536 s.data.toList.length with h1 | h1
  ·rw [Lex.all_long h1] at hm
   injection hm with _ h
   injection h with h _
   exact absurd h (by decide)
  ·exact h1
 obtain ⟨t1, t2⟩ := Lex.all_text hm
 have hw := all_wf hm
 exact ⟨g, rfl, hlo, toks_of_own ho (by omega), hlt, hE, hw, fun t ht => (hw t ht).sgn, fun t ht => by have := t1 t ht; omega, hG.below hb hG.1⟩
set_option maxHeartbeats 2000000 in
theorem text_v (s : ByteArray) (w : World) (hG : Opr.Glob w) : Calls Tryz.prog 8 #[.string s] w (TextP s w) := by
 obtain ⟨w0, hw0⟩ : ∃ w0, w.alloc (.cells #[.bool false, .string ⟨#[]⟩, .slice none 0 0, .slice none 0 0, .slice none 0 0] 27) = w0 := ⟨_, rfl⟩
 have nb := new_box w _ 27 hw0
 have HA := Hh (Ai nb (hG.below nb.1 hG.1))
 clear nb hG
 go_enter Tryz.func8, Tryz.ntmps8
 go_wp2_with fail
 try rw [hw0]
 clear hw0
 refine (Lex.all_v s w0).mono ?_
 rintro e w1 ⟨m, code, q, hm, hb, ⟨rfl, A, c, rfl, ho⟩ | ⟨hc, rfl⟩⟩
 ·obtain ⟨g, rfl, hglo, hT⟩ := tks_of HA.out.2 hm hb ho
  have z1 := kept_box HA.out.1.2 hb
  have HB := Hh (Ai hm (Ai (HA.out.1.1.trans (hb.mono HA.out.1.1.size)) (Ai hT (Ai z1 ho))))
  obtain ⟨n, hn⟩ : ∃ n, m.length = n := ⟨_, rfl⟩
  rw [hn] at HB
  clear hm hb ho hT z1 hglo
  rw [hn]
  go_wp2_with fail
  refine (pfunc_v (cp := c) 0 HB.out.2.2.1.pos HB.out.2.2.1).mono ?_
  rintro e w2 ⟨hb2, ⟨x, a', r, hf, hlt, rfl, hF⟩ | ⟨cd, p, hcd, hf, rfl⟩⟩
  ·obtain ⟨w3, hw3⟩ : ∃ w3, w2.alloc (.cells #[.bool x.machine, .string x.name, .slice r.ra r.rn r.rc, .slice r.pa r.pn r.pc, .slice r.ba r.bn r.bc] 27) = w3 := ⟨_, rfl⟩
   have nb3 := new_box w2 _ 27 hw3
   have B3 := hb2.trans (nb3.1.mono hb2.size)
   have T3 := HB.out.2.2.1.below B3
   have z3 := kept_box HB.out.2.2.2.1 B3
   have hat : m[a']? = some (m[a']'(by rw [HB.out.2.2.1.len]; exact hlt)) := List.getElem?_eq_getElem _
   obtain ⟨t, ht⟩ : ∃ t, (m[a']'(by rw [HB.out.2.2.1.len]; exact hlt)) = t := ⟨_, rfl⟩
   rw [ht] at hat
   obtain ⟨b, o, e, _, d0, d1, d2, d3, d4⟩ := T3.toks.at hat
   have e1 : b = g ∧ o = 0 := by injection e with e; injection e with e1 e2; exact ⟨e1.symm, e2.symm⟩
   obtain ⟨rfl, rfl⟩ := e1
   rw [Nat.zero_add] at d0 d4
   have l0 : (0 : Int) ≤ (a' : Int) := Int.natCast_nonneg _
   have l1 : (a' : Int) < (n : Int) := by omega
   obtain ⟨⟨u0, u1, u2, u3, u4⟩, _⟩ := box5 nb3.2
   obtain ⟨⟨v0, v1, v2, v3, v4⟩, y0, y1, y2, y3, y4⟩ := box5 z3
   have hwh : whole m = (ofk 0 (m.drop a')).bind fun _ r => .ok x r := by
    unfold whole
    rw [show func m = _ from hf]
    rfl
   rw [drop_at hat] at hwh
   have HC := Hh (Ai (HB.out.2.1.trans (B3.mono HB.out.2.1.size)) (Ai hwh (Ai (hF.keep ⟨nb3.1.size, fun k hk _ => nb3.1.block k hk⟩) z3)))
   clear hb2 hf hF nb3 B3 T3 z3 hat ht d1 d2 d3 e hlt hn hwh
   unfold funR
   by_cases hk : t.kind = 0
   ·have hk0 : ((t.kind : Int) != 0) = false := by rw [hk]; rfl
    have HK := Hh hk
    clear hk
    go_wp2_with fail
    try rw [hw3]
    refine fin_text (fn := Tryz.f8) rfl rfl (Lex.five_heap HC.out.2.2.2) rfl ?_
    have hb : Below w.heap.size w3 (Lex.five w3 w.heap.size (.bool x.machine) (.string x.name) (.slice r.ra r.rn r.rc) (.slice r.pa r.pn r.pc) (.slice r.ba r.bn r.bc)) := Lex.five_below (Below.refl _ w3) (Nat.le_refl _)
    refine ⟨HC.out.1.trans hb, Or.inr (Or.inl ⟨m, q, x, m.drop (a' + 1), r, HB.out.1, ?_, rfl, ?_⟩)⟩
    ·rw [HC.out.2.1]
     unfold ofk
     simp only
     rw [if_pos HK.out]
     rfl
    ·have h1 := HB.out.2.1.size
     have h2 := (Array.getElem?_eq_some_iff.1 HB.out.2.2.2.1).1
     exact HC.out.2.2.1 _ ⟨hb.size, fun k _ hk => by (try unfold Lex.five); simp [World.setCell, Array.getElem?_modify, show w.heap.size ≠ k by omega]⟩
   ·have hk0 : ((t.kind : Int) != 0) = true := by simp; omega
    have HK := Hh hk
    clear hk
    go_wp2_with fail
    refine (Fau.new_v 20 _ (by decide) _).mono ?_
    rintro e w4 ⟨rfl, rfl⟩
    unfold Fau.bare
    go_wp2_with fail
    refine (in_bare funcB 20 (t.at_ : Int) _).mono ?_
    rintro e w4 ⟨rfl, rfl⟩
    go_wp2_with fail
    refine fin_text (fn := Tryz.f8) rfl rfl (Lex.five_heap HC.out.2.2.2) rfl ?_
    refine ⟨HC.out.1.trans (Lex.five_below (Below.refl _ w3) (Nat.le_refl _)), Or.inr (Or.inr ⟨m, q, 20, t.at_, HB.out.1, by decide, ?_, rfl⟩)⟩
    rw [HC.out.2.1]
    unfold ofk
    simp only
    rw [if_neg HK.out]
    rfl
  ·obtain ⟨w3, hw3⟩ : ∃ w3, w2.alloc (.cells #[.bool false, .string ⟨#[]⟩, .slice none 0 0, .slice none 0 0, .slice none 0 0] 27) = w3 := ⟨_, rfl⟩
   have nb3 := new_box w2 _ 27 hw3
   have B3 := hb2.trans (nb3.1.mono hb2.size)
   have z3 := kept_box HB.out.2.2.2.1 B3
   have HC := Hh (Ai (HB.out.2.1.trans (B3.mono HB.out.2.1.size)) (Ai hf (Ai z3 hcd)))
   obtain ⟨⟨v0, v1, v2, v3, v4⟩, y0, y1, y2, y3, y4⟩ := box5 z3
   have HW := Hh hw3
   clear hb2 hf nb3 B3 z3 hcd hn hw3
   unfold funZ Fau.bare
   go_wp2_with fail
   rw [HW.out]
   refine (in_bare funcB cd (p : Int) _).mono ?_
   rintro e w4 ⟨rfl, rfl⟩
   go_wp2_with fail
   refine fin_text (fn := Tryz.f8) rfl rfl (Lex.five_heap HC.out.2.2.1) rfl ?_
   refine ⟨HC.out.1.trans (Lex.five_below (Below.refl _ w3) (Nat.le_refl _)), Or.inr (Or.inr ⟨m, q, cd, p, HB.out.1, HC.out.2.2.2, ?_, rfl⟩)⟩
   unfold whole
   rw [show func m = _ from HC.out.2.1]
   rfl
 ·have z1 := kept_box HA.out.1.2 hb
  have HB := Hh (Ai hm (Ai (HA.out.1.1.trans (hb.mono HA.out.1.1.size)) (Ai hc z1)))
  obtain ⟨⟨v0, v1, v2, v3, v4⟩, y0, y1, y2, y3, y4⟩ := box5 z1
  clear hm hb hc z1
  unfold Fau.bare
  go_wp2_with fail
  refine (in_bare textB code (q : Int) _).mono ?_
  rintro e w4 ⟨rfl, rfl⟩
  go_wp2_with fail
  refine fin_text (fn := Tryz.f8) rfl rfl (Lex.five_heap HB.out.2.2.2) rfl ?_
  exact ⟨HB.out.2.1.trans (Lex.five_below (Below.refl _ w1) (Nat.le_refl _)), Or.inl ⟨m, code, q, HB.out.2.2.1, HB.out.1, rfl⟩⟩
end Go.Proofs.YtbpichjmkllfaaaGreatDoor.Par
