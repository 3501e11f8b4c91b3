
/- Where the places of an order go on from each other: the program's walk. -/
import Derived.Test.YtojfbcfbnadboaaDomNrW
import Derived.Test.YtojfbcfbnadboaaGraNext
namespace Go.Proofs.Ytojfbcfbnadboaa.Gra
open Go.ChangeShapes Go.WideShapes Go.RowKit Par
set_option linter.unusedVariables false
set_option maxRecDepth 20000
set_option maxHeartbeats 4000000

theorem Fam.more {N m L d : Nat} {W W' : World} {hs : List Nat} {v : Nat → Il} {B : Option Addr} {r : List Nat} (h : Fam N W hs m v) (hb : Below W.heap.size W W') (ho : OwnL 3 1 intC N W' B d (nn r)) (hl : r.length = L) (hnew : ∀ b, Value.ownBlock (.slice B L d) = some b → W.heap.size ≤ b) : Fam N W' hs (m + 1) (upd v m ⟨B, L, d, r⟩) := by
  have h' := h.below hb
  refine ⟨fun k hk => ?_, fun k hk => ?_, h'.hd, fun k hk b hb2 => ?_, fun j k hj hk hjk b hb1 hb2 => ?_⟩
  · by_cases e : k = m
    · subst e; rw [upd_same]; exact ho
    · rw [upd_else _ _ e]; exact h'.own k (by omega)
  · by_cases e : k = m
    · subst e; rw [upd_same]; exact hl
    · rw [upd_else _ _ e]; exact h'.len k (by omega)
  · by_cases e : k = m
    · subst e
      rw [upd_same] at hb2
      intro hm
      have := hnew b hb2
      have := h.hd b hm
      omega
    · rw [upd_else _ _ e] at hb2; exact h'.far k (by omega) b hb2
  · by_cases e : j = m
    · subst e
      rw [upd_same] at hb1
      rw [upd_else _ _ (fun q => hjk q.symm)] at hb2
      have := hnew b hb1
      have := (h.lo (k := k) (by omega) hb2).2
      omega
    · rw [upd_else _ _ e] at hb1
      by_cases e2 : k = m
      · subst e2
        rw [upd_same] at hb2
        have := hnew b hb2
        have := (h.lo (k := j) (by omega) hb1).2
        omega
      · rw [upd_else _ _ e2] at hb2
        exact h'.ap j k (by omega) (by omega) hjk b hb1 hb2
theorem Fam.less {N m : Nat} {W : World} {hs : List Nat} {v : Nat → Il} (h : Fam N W hs (m + 1) v) : Fam N W hs m v :=
  ⟨fun k hk => h.own k (by omega), fun k hk => h.len k (by omega), h.hd, fun k hk => h.far k (by omega), fun j k hj hk => h.ap j k (by omega) (by omega)⟩
theorem Fam.congr {N m : Nat} {W : World} {hs : List Nat} {v u : Nat → Il} (h : Fam N W hs m v) (he : ∀ k, k < m → v k = u k) : Fam N W hs m u :=
  ⟨fun k hk => by rw [← he k hk]; exact h.own k hk, fun k hk => by rw [← he k hk]; exact h.len k hk, h.hd, fun k hk => by rw [← he k hk]; exact h.far k hk, fun j k hj hk => by rw [← he j hj, ← he k hk]; exact h.ap j k hj hk⟩
/-- Places of blocks, and rows of places that grow. -/
structure Jm (w0 W : World) (gP gF n m M : Nat) (pv : Nat → Int) (v : Nat → Il) : Prop where
  bel : Below w0.heap.size w0 W
  ip : Ir W gP n pv
  rc : RC W gF m v
  f : Fam w0.heap.size W [gP, gF] M v
  mM : m ≤ M
  lp : w0.heap.size ≤ gP
  lf : w0.heap.size ≤ gF
  ne : gP ≠ gF
section
variable {w0 W W' : World} {gP gF n m M : Nat} {pv : Nat → Int} {v : Nat → Il}
theorem Jm.below (h : Jm w0 W gP gF n m M pv v) (hb : Below W.heap.size W W') : Jm w0 W' gP gF n m M pv v :=
  ⟨h.bel.trans (hb.mono h.bel.size), h.ip.below hb, h.rc.below hb, h.f.below hb, h.mM, h.lp, h.lf, h.ne⟩
theorem Jm.belrow (h : Jm w0 W gP gF n m M pv v) {i : Nat} (hi : i < M) (hg : W.grownBy W' (ilB (v i))) : Below w0.heap.size w0 W' :=
  ⟨hg.os.trans h.bel.os, hg.tape.trans h.bel.tape, hg.output.trans h.bel.output, Nat.le_trans h.bel.size hg.size, fun k hk => (hg.block k (Nat.lt_of_lt_of_le hk h.bel.size) (fun e => by have := (h.f.lo hi e.symm).1; omega)).trans (h.bel.block k hk)⟩
theorem Jm.still (h : Jm w0 W gP gF n m M pv v) {i : Nat} (hi : i < M) (hg : W.grownBy W' (ilB (v i))) : Ir W' gP n pv ∧ RC W' gF m v :=
  ⟨h.ip.grown hg (fun e => h.f.far i hi gP e (by simp)), h.rc.grown hg (fun e => h.f.far i hi gF e (by simp))⟩
theorem Jm.grow {i g' c' n' : Nat} {l' : List Nat} (h : Jm w0 W gP gF n m M pv v) (hi : i < m) (ho : OwnL 3 1 intC w0.heap.size W' (some ⟨g', 0, none⟩) c' (nn l')) (hl : l'.length = n') (hg : W.grownBy W' (ilB (v i))) (hat : ilB (v i) = some g' ∨ g' = W.heap.size) :
    Jm w0 (W'.setCell ⟨gF, i, none⟩ (.slice (some ⟨g', 0, none⟩) n' c')) gP gF n m M pv (upd v i ⟨some ⟨g', 0, none⟩, n', c', l'⟩) := by
  have hiM : i < M := Nat.lt_of_lt_of_le hi h.mM
  obtain ⟨h1, h2⟩ := h.still hiM hg
  exact ⟨(h.belrow hiM hg).setCell (p := ⟨gF, i, none⟩) h.lf _, h1.other (fun e => h.ne e.symm) _, h2.put hi ⟨some ⟨g', 0, none⟩, n', c', l'⟩, (h.f.grow hiM ho hl hg hat).put (by simp) _, h.mM, h.lp, h.lf, h.ne⟩
theorem Jm.ownr (h : Jm w0 W gP gF n m M pv v) {k : Nat} (hk : k < M) {x : Il} (hx : v k = x) : OwnL 3 1 intC w0.heap.size W x.A x.c (nn x.l) ∧ x.l.length = x.n := by subst hx; exact ⟨h.f.own k hk, h.f.len k hk⟩
theorem Jm.ints (h : Jm w0 W gP gF n m M pv v) {k : Nat} (hk : k < M) : IsInts W (v k).A (v k).n (nn (v k).l) := by
  have h1 := (h.f.own k hk).ints
  rw [nn_len, h.f.len k hk] at h1
  exact h1
end
/-- Places that were told already. -/
def plA (O : List Nat) (k b : Nat) : Int := if b ∈ O.take k then ((pl O b : Nat) : Int) else 0
theorem plA_next {O : List Nat} (hn : O.Nodup) {k b : Nat} (h : O[k]? = some b) : upd (plA O k) b ((k : Nat) : Int) = plA O (k + 1) := by
  funext x
  unfold upd plA
  rw [List.take_add_one, h]
  by_cases e : x = b
  · subst e
    rw [if_pos rfl, if_pos (by simp), pl_at hn h]
  · rw [if_neg e]
    have : x ∈ O.take k ++ [b] ↔ x ∈ O.take k := by simp [e]
    show _ = if x ∈ O.take k ++ [b] then _ else _
    by_cases e2 : x ∈ O.take k
    · rw [if_pos e2, if_pos (this.2 e2)]
    · rw [if_neg e2, if_neg (fun q => e2 (this.1 q))]
theorem joined_v (P : Nat) (q : GV) (s t : Gr) (O : List Nat) (B : Option Addr) (m c : Nat) (w : World) (h : IsG w P q s t) (hs : Ok s) (hO : IsO s O) (hn : q.n ≤ 300) (hnd : ∀ k, (nx s k).Nodup ∧ (nx s k).length ≤ 300) (hB : IsInts w B m (nn O)) :
    Calls Try.prog 56 #[.pointer (some ⟨P, 0, none⟩), .slice B m c] w fun e w' => (∃ g, e = .returned (.slice (some ⟨g, 0, none⟩) m m) ∧ IsGr w' (some ⟨g, 0, none⟩) m (prs (tg s O))) ∧ Below w.heap.size w w' := by
  obtain ⟨i0, hi0, hz0, hz1, hz2⟩ := info_parts intInfo
  have I0 := Lib.hid (And.intro hi0 (And.intro hz0 (And.intro hz1 hz2)))
  obtain ⟨i1, hi1, hy0, hy1, hy2⟩ := info_parts ilInfo
  have I1 := Lib.hid (And.intro hi1 (And.intro hy0 (And.intro hy1 hy2)))
  have H := Lib.hid (And.intro h (And.intro hs (And.intro hO (And.intro hnd hB))))
  have hm : O.length = m := by rw [← nn_len]; exact hB.1
  have hmx : m ≤ 9223372036854775807 := hB.2.1
  have hmn : m ≤ q.n := by
    rw [← hm, ← h.su.1]
    exact nodup_len hO.nd fun x hx => ((hO.mem x).1 hx).lt hs
  have hqs : s.length = q.n := h.su.1
  have HM := Lib.hid (And.intro hm hqs)
  clear h hs hO hnd hB hi0 hz0 hz1 hz2 hi1 hy0 hy1 hy2 hm hqs
  go_enter Try.func56, Try.ntmps56
  go_wp2_with fail
  refine (glen_v P q s t w H.out.1).mono ?_
  rintro e w1 ⟨rfl, rfl⟩
  go_wp2_with (at_make; refine wpList_make_full _ rfl _ _ 37 rfl w.heap.size 3 i0 (.int .i64 0) 1 Try.underlying37 I0.out.1 I0.out.2.1 I0.out.2.2.1 _ _ _ _ q.n rfl rfl rfl rfl (by rw [I0.out.2.2.2]; omega) (by unfold maxLen; omega) (Nat.le_refl _) ?_)
  intro w2 hown hgrow
  have HB := Lib.hid (And.intro (ir_made hown) ((Below.refl _ w).grown hgrow (Nat.le_refl _) (by intro k hk; cases hk)))
  clear hown hgrow
  go_wp2_with fail
  go_loopg [18] m (fun gk s18 wr => ∃ k : Nat, k + gk = m ∧ s18 = .int .i64 (k : Int) ∧ Hid (Ir wr w.heap.size q.n (plA O k) ∧ Below w.heap.size w wr))
  case atStart => exact ⟨0, by omega, rfl, Lib.hid ⟨HB.out.1.congr (fun k hk => by unfold plA; rw [if_neg (by simp)]), HB.out.2⟩⟩
  case round =>
    obtain ⟨k, hk, rfl, HK⟩ := hrel
    by_cases hkm : k < m
    · have t1 : (k : Int) < (m : Int) := by omega
      obtain ⟨vb, vo, rfl, -, y, hy, v0⟩ := (H.out.2.2.2.2.below HK.out.2).at hkm
      obtain ⟨b, hb, rfl⟩ := nn_at hy
      have hbn : b < q.n := by
        rw [← HM.out.2]
        exact ((H.out.2.2.1.mem b).1 (List.mem_of_getElem? hb)).lt H.out.2.1
      have t2 : (b : Int) < (q.n : Int) := by omega
      have hc := HK.out.1.cell b hbn
      have hf := HK.out.1.free b
      obtain ⟨w3, hw3⟩ : ∃ w3, wr.setCell ⟨w.heap.size, b, none⟩ (.int .i64 ((k : Nat) : Int)) = w3 := ⟨_, rfl⟩
      have HW := Lib.hid (show Ir w3 w.heap.size q.n (plA O (k + 1)) ∧ Below w.heap.size w w3 from hw3 ▸ ⟨by rw [← plA_next H.out.2.2.1.nd hb]; exact HK.out.1.put hbn _, HK.out.2.setCell (p := ⟨w.heap.size, b, none⟩) (Nat.le_refl _) _⟩)
      clear hy hb
      go_wp2_with fail
      try rw [hw3]
      clear hw3 hc hf v0
      go_roundg (m - k - 1)
      case measure => omega
      case rel => exact ⟨k + 1, by omega, by go_num, HW⟩
    · obtain rfl : k = m := by omega
      have t1 : ¬ (k : Int) < (k : Int) := by omega
      go_wp2_with (at_make; refine wpList_make_full _ rfl _ _ 31 rfl w.heap.size 37 i1 (.slice none 0 0) 1 Try.underlying31 I1.out.1 I1.out.2.1 I1.out.2.2.1 _ _ _ _ k rfl rfl rfl rfl (by rw [I1.out.2.2.2]; omega) (by unfold maxLen; omega) HK.out.2.size ?_)
      intro w4 hown hgrow
      have h4 := rc_made hown
      have l4 := hown.lt wr.heap.size rfl
      have HJ0 := Lib.hid (show Jm w w4 w.heap.size wr.heap.size q.n k k (plA O k) (fun _ => ⟨none, 0, 0, []⟩) from
        ⟨HK.out.2.grown hgrow HK.out.2.size (by intro k hk; cases hk), HK.out.1.grown hgrow (by simp), h4, Fam.start (by
          intro h hh
          have h5 := HK.out.1.lt
          have h6 := hgrow.size
          have h7 := h4.lt
          simp at hh
          omega), Nat.le_refl _, Nat.le_refl _, HK.out.2.size, by have := HK.out.1.lt; omega⟩)
      clear hown hgrow h4 l4
      obtain ⟨gF, hgF⟩ : ∃ gF, wr.heap.size = gF := ⟨_, rfl⟩
      rw [hgF] at HJ0 ⊢
      clear hgF
      go_wp2_with fail
      go_loopg [33] k (fun gk s33 wr => ∃ (a : Nat) (v : Nat → Il), a + gk = k ∧ s33 = .int .i64 (a : Int) ∧ Hid (Jm w wr w.heap.size gF q.n k k (plA O k) v ∧ ∃ S : Nat → List Nat, JI k a S (fun t => (v t).l) ∧ (a < k → S a = []) ∧ ∀ x, x < a → S x = nx (tg s O) x))
      case atStart => exact ⟨0, _, by omega, rfl, Lib.hid ⟨HJ0.out, fun _ => [], JI.start (fun _ _ => rfl) (fun _ _ => rfl), fun _ => rfl, fun x hx => by omega⟩⟩
      case round =>
        obtain ⟨a, v, ha, rfl, HA⟩ := hrel
        obtain ⟨S, hS1, hS2, hS3⟩ := HA.out.2
        by_cases hak : a < k
        · have u1 : (a : Int) < (k : Int) := by omega
          obtain ⟨vb, vo, rfl, -, y, hy, v0⟩ := (H.out.2.2.2.2.below HA.out.1.bel).at hak
          obtain ⟨b, hb, rfl⟩ := nn_at hy
          have hbn : b < q.n := by
            rw [← HM.out.2]
            exact ((H.out.2.2.1.mem b).1 (List.mem_of_getElem? hb)).lt H.out.2.1
          have HS := Lib.hid (And.intro hS1 (And.intro (hS2 hak) hS3))
          have HGs := Lib.hid (gsucc_v P q s t (b : Int) wr (H.out.1.below HA.out.1.bel) (fun k => by have := (H.out.2.2.2.1 k).2; omega))
          have hrow : rowI s (b : Int) = nx s b := by unfold rowI; rw [if_pos ⟨by omega, by rw [HM.out.2]; omega⟩]; simp
          rw [hrow] at HGs
          have HBb := Lib.hid hb
          clear hy hb hS1 hS2 hS3 hrow
          go_wp2_with fail
          refine HGs.out.mono ?_
          rintro e w5 ⟨⟨C, L, d, rfl, hL, ho⟩, hb5⟩
          have H5 := Lib.hid (show Jm w w5 w.heap.size gF q.n k (k + 1) (plA O k) (upd v k ⟨C, L, d, nx s b⟩) from
            ⟨HA.out.1.bel.trans (hb5.mono HA.out.1.bel.size), HA.out.1.ip.below hb5, (HA.out.1.rc.below hb5).congr (fun x hx => (upd_else _ _ (by omega)).symm), HA.out.1.f.more hb5 (OwnL.less ho HA.out.1.bel.size) hL (fun x hx => (ho.lo x (by rw [nn_len, hL]; exact hx)).1), by omega, HA.out.1.lp, HA.out.1.lf, HA.out.1.ne⟩)
          have HL := Lib.hid hL
          have hLx : L ≤ 300 := by rw [← hL]; exact (H.out.2.2.2.1 b).2
          clear ho hb5 v0 hL
          go_wp2_with fail
          go_loopg [42] L (fun gk2 s42 wr => ∃ (j : Nat) (v : Nat → Il), j + gk2 = L ∧ s42 = .int .i64 (j : Int) ∧ Hid (Jm w wr w.heap.size gF q.n k (k + 1) (plA O k) v ∧ v k = ⟨C, L, d, nx s b⟩ ∧ ∃ S : Nat → List Nat, JI k a S (fun t => (v t).l) ∧ S a = ((nx s b).take j).map (pl O) ∧ ∀ x, x < a → S x = nx (tg s O) x))
          case atStart => exact ⟨0, _, by omega, rfl, Lib.hid ⟨H5.out, upd_same _ _ _, S, HS.out.1.same (fun _ _ => rfl) (fun x hx => by show (upd v k _ x).l = _; rw [upd_else _ _ (by omega)]), by rw [HS.out.2.1]; rfl, HS.out.2.2⟩⟩
          case round =>
            obtain ⟨j, v, hj, rfl, HJ⟩ := hrel
            obtain ⟨hJ1, hJ2, S, hJ3, hJ4, hJ5⟩ := HJ.out
            by_cases hjL : j < L
            · have u2 : (j : Int) < (L : Int) := by omega
              have hin := hJ1.ints (k := k) (by omega)
              rw [hJ2] at hin
              dsimp only at hin
              obtain ⟨vb2, vo2, hC, -, y, hy, v0⟩ := hin.at hjL
              obtain ⟨nx', hnx, rfl⟩ := nn_at hy
              have hnO : nx' ∈ O := H.out.2.2.1.succ (List.mem_of_getElem? HBb.out) (List.mem_of_getElem? hnx)
              have hnn : nx' < q.n := by
                rw [← HM.out.2]
                exact ((H.out.2.2.1.mem nx').1 hnO).lt H.out.2.1
              obtain ⟨p', hp'⟩ : ∃ p', pl O nx' = p' := ⟨_, rfl⟩
              have hpk : p' < k := by rw [← hp', ← HM.out.1]; exact pl_lt hnO
              have hpl : plA O k nx' = ((p' : Nat) : Int) := by
                unfold plA
                rw [List.take_of_length_le (Nat.le_of_eq HM.out.1), if_pos hnO, hp']
              have u3 : (nx' : Int) < (q.n : Int) := by omega
              have u4 : (p' : Int) < (k : Int) := by omega
              obtain ⟨x, hx⟩ : ∃ x, v p' = x := ⟨_, rfl⟩
              obtain ⟨xA, xm, xd, xl⟩ := x
              have HX := Lib.hid hx
              have hxl : xl.length ≤ 1000 := by
                have h1 := hJ3.pr p' hpk
                try dsimp only at h1
                rw [hx] at h1
                try dsimp only at h1
                rw [h1]
                have := List.length_filter_le (fun z => decide (p' ∈ S z)) (List.range k)
                rw [List.length_range] at this
                omega
              have hnew : p' ∉ S a := by
                rw [hJ4, List.mem_map]
                rintro ⟨z, hz, hzp⟩
                have hzO := H.out.2.2.1.succ (List.mem_of_getElem? HBb.out) (List.mem_of_mem_take hz)
                have h1 := at_pl hzO
                rw [hzp, ← hp', at_pl hnO] at h1
                injection h1 with h1
                subst h1
                obtain ⟨i, hi, he⟩ := List.mem_take_iff_getElem.1 hz
                obtain ⟨hj2, he2⟩ := List.getElem?_eq_some_iff.1 hnx
                have := nodup_inj (H.out.2.2.2.1 b).1 (by omega) hj2 (he.trans he2.symm)
                have h7 := Nat.lt_of_lt_of_le hi (Nat.min_le_left _ _)
                omega
              have HJm := Lib.hid hJ1
              have HSj := Lib.hid (show (∃ S : Nat → List Nat, ∀ v' : Nat → Il, (∀ z, z < k → (v' z).l = if z = p' then xl ++ [a] else (v z).l) → JI k a S (fun t => (v' t).l) ∧ S a = ((nx s b).take (j + 1)).map (pl O) ∧ ∀ x, x < a → S x = nx (tg s O) x) from
                ⟨upd S a (S a ++ [p']), fun v' hv' => ⟨hJ3.add hak hnew hpk (fun z hz => by
                  by_cases e : z = a
                  · subst e; rw [upd_same, if_pos rfl]
                  · rw [upd_else _ _ e, if_neg e]) (fun z hz => by
                  show (v' z).l = _
                  rw [hv' z hz]
                  by_cases e : z = p'
                  · subst e; rw [if_pos rfl, if_pos rfl, hx]
                  · rw [if_neg e, if_neg e]), by rw [upd_same, hJ4, List.take_add_one, hnx, List.map_append]; show _ = _ ++ [pl O nx']; rw [hp'], fun z hz => by rw [upd_else _ _ (by omega)]; exact hJ5 z hz⟩⟩)
              have HV := Lib.hid hJ2
              clear hJ1 hJ2 hJ3 hJ4 hJ5 hin hy hnx hnO hnew
              subst hC
              go_upto_region 14 with fail
              clear v0
              refine region_z 16 (fun W => Ir W w.heap.size q.n (plA O k) ∧ RC W gF k v) (by kernel_rfl) ?_
              obtain ⟨wd, hwd⟩ : ∃ wd, wr.drew = wd := ⟨_, rfl⟩
              have HDx := Lib.hid (hwd ▸ HJm.out.below ((Below.refl _ wr).drew))
              have HSx := Lib.hid (And.intro HDx.out.ip HDx.out.rc)
              rw [hwd]
              clear hwd
              refine anyZ_take (i := 0) (v := _) rfl (by kernel_rfl) (fun _ _ _ h => h) (Or.inl ⟨by rfl, by intro W hSw; have c0 := hSw.1.cell nx' hnn; rw [hpl] at c0; have ci := hSw.2.cell p' hpk; rw [HX.out] at ci; dsimp only at ci; clear hSw; go_simp; try with_reducible rfl⟩) HSx.out ?_
              try simp only [Act.put, List.getElem_toArray, List.getElem_cons_zero, List.setIfInBounds_toArray, List.set_cons_zero, List.set_cons_succ]
              refine anyZ_take (i := 1) (v := _) rfl (by kernel_rfl) (fun _ _ _ h => h) (Or.inl ⟨by rfl, by intro W hSw; have c0 := hSw.1.cell nx' hnn; rw [hpl] at c0; have ci := hSw.2.cell p' hpk; rw [HX.out] at ci; dsimp only at ci; clear hSw; go_simp; try with_reducible rfl⟩) HSx.out ?_
              try simp only [Act.put, List.getElem_toArray, List.getElem_cons_zero, List.getElem_cons_succ, List.setIfInBounds_toArray, List.set_cons_zero, List.set_cons_succ]
              refine anyZ_take (i := 2) (v := _) rfl (by kernel_rfl) (fun _ _ _ h => h) (Or.inl ⟨by rfl, by intro W hSw; have c0 := hSw.1.cell nx' hnn; rw [hpl] at c0; have ci := hSw.2.cell p' hpk; rw [HX.out] at ci; dsimp only at ci; clear hSw; go_simp; try with_reducible rfl⟩) HSx.out ?_
              try simp only [Act.put, List.getElem_toArray, List.getElem_cons_zero, List.getElem_cons_succ, List.setIfInBounds_toArray, List.set_cons_zero, List.set_cons_succ]
              refine anyZ_take (i := 3) (v := _) rfl (by kernel_rfl) (fun _ _ _ h => h) (Or.inl ⟨by rfl, by intro W hSw; have c0 := hSw.1.cell nx' hnn; rw [hpl] at c0; have ci := hSw.2.cell p' hpk; rw [HX.out] at ci; dsimp only at ci; clear hSw; go_simp; try with_reducible rfl⟩) HSx.out ?_
              try simp only [Act.put, List.getElem_toArray, List.getElem_cons_zero, List.getElem_cons_succ, List.setIfInBounds_toArray, List.set_cons_zero, List.set_cons_succ]
              refine anyZ_take (i := 4) (v := _) rfl (by kernel_rfl) (fun _ _ _ h => h) (Or.inl ⟨by rfl, by intro W hSw; have c0 := hSw.1.cell nx' hnn; rw [hpl] at c0; have ci := hSw.2.cell p' hpk; rw [HX.out] at ci; dsimp only at ci; clear hSw; go_simp; try with_reducible rfl⟩) HSx.out ?_
              try simp only [Act.put, List.getElem_toArray, List.getElem_cons_zero, List.getElem_cons_succ, List.setIfInBounds_toArray, List.set_cons_zero, List.set_cons_succ]
              refine anyZ_take (i := 5) (v := _) rfl (by kernel_rfl) (fun _ _ _ h => h) (Or.inl ⟨by rfl, by intro W hSw; have c0 := hSw.1.cell nx' hnn; rw [hpl] at c0; have ci := hSw.2.cell p' hpk; rw [HX.out] at ci; dsimp only at ci; clear hSw; go_simp; try with_reducible rfl⟩) HSx.out ?_
              try simp only [Act.put, List.getElem_toArray, List.getElem_cons_zero, List.getElem_cons_succ, List.setIfInBounds_toArray, List.set_cons_zero, List.set_cons_succ]
              refine anyZ_take (i := 6) (v := _) rfl (by kernel_rfl) (fun _ _ _ h => h) (Or.inl ⟨by rfl, by intro W hSw; have c0 := hSw.1.cell nx' hnn; rw [hpl] at c0; have ci := hSw.2.cell p' hpk; rw [HX.out] at ci; dsimp only at ci; clear hSw; go_simp; try with_reducible rfl⟩) HSx.out ?_
              try simp only [Act.put, List.getElem_toArray, List.getElem_cons_zero, List.getElem_cons_succ, List.setIfInBounds_toArray, List.set_cons_zero, List.set_cons_succ]
              refine anyZ_take (i := 7) (v := _) rfl (by kernel_rfl) (fun _ _ _ h => h) (Or.inl ⟨by rfl, by intro W hSw; have c0 := hSw.1.cell nx' hnn; rw [hpl] at c0; have ci := hSw.2.cell p' hpk; rw [HX.out] at ci; dsimp only at ci; clear hSw; go_simp; try with_reducible rfl⟩) HSx.out ?_
              try simp only [Act.put, List.getElem_toArray, List.getElem_cons_zero, List.getElem_cons_succ, List.setIfInBounds_toArray, List.set_cons_zero, List.set_cons_succ]
              refine anyZ_take (i := 8) (v := _) rfl (by kernel_rfl) (fun _ _ _ h => h) (Or.inl ⟨by rfl, by intro W hSw; have c0 := hSw.1.cell nx' hnn; rw [hpl] at c0; have ci := hSw.2.cell p' hpk; rw [HX.out] at ci; dsimp only at ci; clear hSw; go_simp; try with_reducible rfl⟩) HSx.out ?_
              try simp only [Act.put, List.getElem_toArray, List.getElem_cons_zero, List.getElem_cons_succ, List.setIfInBounds_toArray, List.set_cons_zero, List.set_cons_succ]
              refine anyZ_take (i := 9) (v := _) rfl (by kernel_rfl) (fun _ _ _ h => h) (Or.inl ⟨by rfl, by intro W hSw; have c0 := hSw.1.cell nx' hnn; rw [hpl] at c0; have ci := hSw.2.cell p' hpk; rw [HX.out] at ci; dsimp only at ci; clear hSw; go_simp; try with_reducible rfl⟩) HSx.out ?_
              try simp only [Act.put, List.getElem_toArray, List.getElem_cons_zero, List.getElem_cons_succ, List.setIfInBounds_toArray, List.set_cons_zero, List.set_cons_succ]
              refine anyZ_take (i := 10) (v := _) rfl (by kernel_rfl) (fun _ _ _ h => h) (Or.inl ⟨by rfl, by intro W hSw; have c0 := hSw.1.cell nx' hnn; rw [hpl] at c0; have ci := hSw.2.cell p' hpk; rw [HX.out] at ci; dsimp only at ci; clear hSw; go_simp; try with_reducible rfl⟩) HSx.out ?_
              try simp only [Act.put, List.getElem_toArray, List.getElem_cons_zero, List.getElem_cons_succ, List.setIfInBounds_toArray, List.set_cons_zero, List.set_cons_succ]
              refine anyZ_take (i := 11) (v := _) rfl (by kernel_rfl) (fun _ _ _ h => h) (Or.inl ⟨by rfl, by intro W hSw; have c0 := hSw.1.cell nx' hnn; rw [hpl] at c0; have ci := hSw.2.cell p' hpk; rw [HX.out] at ci; dsimp only at ci; clear hSw; go_simp; try with_reducible rfl⟩) HSx.out ?_
              try simp only [Act.put, List.getElem_toArray, List.getElem_cons_zero, List.getElem_cons_succ, List.setIfInBounds_toArray, List.set_cons_zero, List.set_cons_succ]
              refine anyZ_take (i := 12) (v := _) rfl (by kernel_rfl) (fun _ _ _ h => h) (Or.inl ⟨by rfl, by intro W hSw; have c0 := hSw.1.cell nx' hnn; rw [hpl] at c0; have ci := hSw.2.cell p' hpk; rw [HX.out] at ci; dsimp only at ci; clear hSw; go_simp; try with_reducible rfl⟩) HSx.out ?_
              try simp only [Act.put, List.getElem_toArray, List.getElem_cons_zero, List.getElem_cons_succ, List.setIfInBounds_toArray, List.set_cons_zero, List.set_cons_succ]
              refine anyZ_one (i := 13) (by kernel_rfl) rfl (fun K hK => ?_)
              obtain ⟨wn, hwn⟩ : ∃ wn, wd.alloc (.cells #[.int .i64 (a : Int)] 3) = wn := ⟨_, rfl⟩
              have mb := m_box wd _ 3 hwn
              have HNx := Lib.hid (HDx.out.below mb.1)
              have Fnx := Lib.hid mb.2
              clear mb
              go_simp
              try rw [hwn]
              clear hwn
              refine hK.out _ _ (fun _ => ⟨HNx.out.ip, HNx.out.rc⟩) ?_
              clear hK K
              try simp only [Act.put, List.getElem_toArray, List.getElem_cons_zero, List.getElem_cons_succ, List.setIfInBounds_toArray, List.set_cons_zero, List.set_cons_succ]
              refine anyZ_one (i := 14) (by kernel_rfl) rfl (fun K hK => ?_)
              have HOx := Lib.hid (HNx.out.ownr (k := p') (by omega) HX.out)
              rw [if_pos (by rfl)]
              refine mapp_wp (N := w.heap.size) mInt _ _ rfl ((nn_len _).trans HOx.out.2) rfl HOx.out.1 wd.heap.size (a : Int) rfl Fnx.out (by have h7 := HOx.out.2; (try dsimp only at h7 ⊢); skip; omega) HNx.out.bel.size ?_
              intro gx cx wh ho hgr hat
              have HGx := Lib.hid (HNx.out.grow (i := p') (l' := xl ++ [a]) (n' := xm + 1) hpk (by rw [nn_app]; exact ho) (by rw [List.length_append, HOx.out.2]; rfl) (by rw [HX.out]; exact hgr) (by rw [HX.out]; exact hat))
              have HKx := Lib.hid (HNx.out.still (i := p') (by omega) (by rw [HX.out]; exact hgr))
              clear ho hgr hat HOx
              try simp only [Act.put]
              refine hK.out _ _ (fun _ => ⟨HKx.out.1, HKx.out.2⟩) ?_
              clear hK K
              try simp only [List.getElem_toArray, List.getElem_cons_zero, List.getElem_cons_succ, List.setIfInBounds_toArray, List.set_cons_zero, List.set_cons_succ]
              refine anyZ_one (i := 15) (by kernel_rfl) rfl (fun K hK => ?_)
              go_simp
              refine hK.out _ _ (fun _ => ⟨HKx.out.1, HKx.out.2⟩) ?_
              clear hK K
              try simp only [Act.put, List.getElem_toArray, List.getElem_cons_zero, List.getElem_cons_succ, List.setIfInBounds_toArray, List.set_cons_zero, List.set_cons_succ]
              refine anyZ_one (i := 16) (by kernel_rfl) rfl (fun K hK => ?_)
              have ck := HKx.out.2.cell p' hpk
              have cf := HKx.out.2.free p'
              obtain ⟨ws, hws⟩ : ∃ ws, wh.setCell ⟨gF, p', none⟩ (.slice (some ⟨gx, 0, none⟩) (xm + 1) cx) = ws := ⟨_, rfl⟩
              have HZx := Lib.hid (hws ▸ HGx.out)
              go_simp
              try rw [hws]
              clear hws ck cf
              refine hK.out _ _ (fun h => absurd rfl h) ?_
              clear hK K
              try simp only [Act.put, List.getElem_toArray, List.getElem_cons_zero, List.getElem_cons_succ, List.setIfInBounds_toArray, List.set_cons_zero, List.set_cons_succ]
              refine anyZ_done (by kernel_rfl) ?_ _
              go_wp2_with fail
              go_roundg (L - j - 1)
              case measure => omega
              case rel => exact ⟨j + 1, _, by omega, by go_num, Lib.hid ⟨HZx.out, by rw [upd_else _ _ (by omega)]; exact HV.out, by
                obtain ⟨S', h1⟩ := HSj.out
                exact ⟨S', h1 _ (fun z hz => by
                  by_cases e : z = p'
                  · subst e; rw [upd_same, if_pos rfl]
                  · rw [upd_else _ _ e, if_neg e])⟩⟩⟩
            · obtain rfl : j = L := by omega
              have u2 : ¬ (j : Int) < (j : Int) := by omega
              have HN := Lib.hid (show Jm w wr w.heap.size gF q.n k k (plA O k) v ∧ ∃ S : Nat → List Nat, JI k (a + 1) S (fun t => (v t).l) ∧ (a + 1 < k → S (a + 1) = []) ∧ ∀ x, x < a + 1 → S x = nx (tg s O) x from
                ⟨⟨hJ1.bel, hJ1.ip, hJ1.rc, hJ1.f.less, Nat.le_refl _, hJ1.lp, hJ1.lf, hJ1.ne⟩, S, hJ3.next, fun h => hJ3.hi (a + 1) (by omega) h, fun x hx => by
                  by_cases e : x = a
                  · subst e
                    rw [hJ4, List.take_of_length_le (Nat.le_of_eq HL.out), tg_at HBb.out]
                  · exact hJ5 x (by omega)⟩)
              clear hJ1 hJ2 hJ3 hJ4 hJ5
              go_wp2_with fail
              go_roundg (k - a - 1)
              case measure => omega
              case rel => exact ⟨a + 1, v, by omega, by go_num, HN⟩
        · obtain rfl : a = k := by omega
          have u1 : ¬ (a : Int) < (a : Int) := by omega
          have HN := Lib.hid (show IsGr wr (some ⟨gF, 0, none⟩) a (prs (tg s O)) from by
            have hT : (tg s O).length = a := by rw [tg_len]; exact HM.out.1
            refine HA.out.1.rc.gr (N := w.heap.size) (by omega) (fun x hx => ⟨HA.out.1.f.own x hx, HA.out.1.f.len x hx⟩) (by rw [prs_len]; exact hT) (fun x hx => ?_)
            rw [prs_at _ (by omega)]
            have h1 := hS1.pr x hx
            try dsimp only at h1
            rw [h1]
            unfold preds
            rw [hT]
            exact List.filter_congr fun z hz => by rw [hS3 z (List.mem_range.1 hz)])
          clear hS1 hS2 hS3
          go_wp2_with fail
          go_ret
          exact ⟨⟨gF, rfl, HN.out⟩, HA.out.1.bel⟩
end Go.Proofs.Ytojfbcfbnadboaa.Gra
