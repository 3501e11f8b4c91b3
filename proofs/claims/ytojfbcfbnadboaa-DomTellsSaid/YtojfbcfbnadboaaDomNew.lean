
/- The tree of a graph is made. -/
import Derived.Test.YtojfbcfbnadboaaDomJn
import Derived.Test.YtojfbcfbnadboaaGraOrW
import Derived.Test.YtojfbcfbnadboaaGraNew
import Derived.StillTailTactics
import Derived.Deep.CutRange
namespace Go.Proofs.Ytojfbcfbnadboaa.Gra
open Go.ChangeShapes Go.WideShapes Go.RowKit Par
set_option linter.unusedVariables false
set_option maxRecDepth 20000
set_option maxHeartbeats 8000000

/-- The tree while it is made. -/
structure Tm (w0 W : World) (p gI gD gK n : Nat) (idf dpf : Nat → Int) (v : Nat → Il) : Prop where
  bel : Below w0.heap.size w0 W
  box : W.heap[p]? = some (.cells #[.slice (some ⟨gI, 0, none⟩) n n, .slice (some ⟨gD, 0, none⟩) n n, .slice (some ⟨gK, 0, none⟩) n n] 88 (0, 0))
  ii : Ir W gI n idf
  id : Ir W gD n dpf
  rk : RC W gK n v
  f : Fam w0.heap.size W [p, gI, gD, gK] n v
  lp : w0.heap.size ≤ p
  lI : w0.heap.size ≤ gI
  lD : w0.heap.size ≤ gD
  lK : w0.heap.size ≤ gK
  nd : [p, gI, gD, gK].Nodup
section
variable {w0 W W' : World} {p gI gD gK n : Nat} {idf dpf : Nat → Int} {v : Nat → Il}
theorem Tm.hi (h : Tm w0 W p gI gD gK n idf dpf v) : p < W.heap.size := (Array.getElem?_eq_some_iff.1 h.box).1
theorem Tm.below (h : Tm w0 W p gI gD gK n idf dpf v) (hb : Below W.heap.size W W') : Tm w0 W' p gI gD gK n idf dpf v :=
  ⟨h.bel.trans (hb.mono h.bel.size), kept_box h.box hb, h.ii.below hb, h.id.below hb, h.rk.below hb, h.f.below hb, h.lp, h.lI, h.lD, h.lK, h.nd⟩
theorem Tm.putI (h : Tm w0 W p gI gD gK n idf dpf v) {i : Nat} (hi : i < n) (x : Int) : Tm w0 (W.setCell ⟨gI, i, none⟩ (.int .i64 x)) p gI gD gK n (upd idf i x) dpf v := by
  have nd := h.nd
  simp at nd
  exact ⟨h.bel.setCell (p := ⟨gI, i, none⟩) h.lI _, (Below.heap_setCell _ _ _ _ (by show p ≠ gI; omega)).trans h.box, h.ii.put hi x, h.id.other (by omega) _, h.rk.other (by omega) _, h.f.put (by simp) _, h.lp, h.lI, h.lD, h.lK, h.nd⟩
theorem Tm.putD (h : Tm w0 W p gI gD gK n idf dpf v) {i : Nat} (hi : i < n) (x : Int) : Tm w0 (W.setCell ⟨gD, i, none⟩ (.int .i64 x)) p gI gD gK n idf (upd dpf i x) v := by
  have nd := h.nd
  simp at nd
  exact ⟨h.bel.setCell (p := ⟨gD, i, none⟩) h.lD _, (Below.heap_setCell _ _ _ _ (by show p ≠ gD; omega)).trans h.box, h.ii.other (by omega) _, h.id.put hi x, h.rk.other (by omega) _, h.f.put (by simp) _, h.lp, h.lI, h.lD, h.lK, h.nd⟩
theorem Tm.congr {idf' dpf' : Nat → Int} (h : Tm w0 W p gI gD gK n idf dpf v) (h1 : ∀ k, k < n → idf k = idf' k) (h2 : ∀ k, k < n → dpf k = dpf' k) : Tm w0 W p gI gD gK n idf' dpf' v :=
  ⟨h.bel, h.box, h.ii.congr h1, h.id.congr h2, h.rk, h.f, h.lp, h.lI, h.lD, h.lK, h.nd⟩
theorem Tm.ownr (h : Tm w0 W p gI gD gK n idf dpf v) {k : Nat} (hk : k < n) {x : Il} (hx : v k = x) : OwnL 3 1 intC w0.heap.size W x.A x.c (nn x.l) ∧ x.l.length = x.n := by subst hx; exact ⟨h.f.own k hk, h.f.len k hk⟩
theorem Tm.still (h : Tm w0 W p gI gD gK n idf dpf v) {i : Nat} (hi : i < n) (hg : W.grownBy W' (ilB (v i))) : W'.heap[p]? = some (.cells #[.slice (some ⟨gI, 0, none⟩) n n, .slice (some ⟨gD, 0, none⟩) n n, .slice (some ⟨gK, 0, none⟩) n n] 88 (0, 0)) ∧ RC W' gK n v :=
  ⟨(hg.block p h.hi (fun e => h.f.far i hi p e.symm (by simp))).trans h.box, h.rk.grown hg (fun e => h.f.far i hi gK e (by simp))⟩
theorem Tm.growK {i g' c' n' : Nat} {l' : List Nat} (h : Tm w0 W p gI gD gK n idf dpf v) (hi : i < n) (ho : OwnL 3 1 intC w0.heap.size W' (some ⟨g', 0, none⟩) c' (nn l')) (hl : l'.length = n') (hg : W.grownBy W' (ilB (v i))) (hat : ilB (v i) = some g' ∨ g' = W.heap.size) :
    Tm w0 (W'.setCell ⟨gK, i, none⟩ (.slice (some ⟨g', 0, none⟩) n' c')) p gI gD gK n idf dpf (upd v i ⟨some ⟨g', 0, none⟩, n', c', l'⟩) := by
  have nd := h.nd
  simp at nd
  obtain ⟨h1, h2⟩ := h.still hi hg
  have hb : Below w0.heap.size w0 W' := ⟨hg.os.trans h.bel.os, hg.tape.trans h.bel.tape, hg.output.trans h.bel.output, Nat.le_trans h.bel.size hg.size, fun k hk => (hg.block k (Nat.lt_of_lt_of_le hk h.bel.size) (fun e => by have := (h.f.lo hi e.symm).1; omega)).trans (h.bel.block k hk)⟩
  exact ⟨hb.setCell (p := ⟨gK, i, none⟩) h.lK _, (Below.heap_setCell _ _ _ _ (by show p ≠ gK; omega)).trans h1, (h.ii.grown hg (fun e => h.f.far i hi gI e (by simp))).other (by omega) _, (h.id.grown hg (fun e => h.f.far i hi gD e (by simp))).other (by omega) _, h2.put hi ⟨some ⟨g', 0, none⟩, n', c', l'⟩, (h.f.grow hi ho hl hg hat).put (by simp) _, h.lp, h.lI, h.lD, h.lK, h.nd⟩
end
theorem Tm.start {w W Wp : World} {gI gD gK n : Nat} (hb : Below w.heap.size w W) (hp : Below W.heap.size W Wp ∧ Wp.heap[W.heap.size]? = some (.cells #[.slice (some ⟨gI, 0, none⟩) n n, .slice (some ⟨gD, 0, none⟩) n n, .slice (some ⟨gK, 0, none⟩) n n] 88 (0, 0)))
    (hI : Ir W gI n (fun _ => -1)) (hD : Ir W gD n (fun _ => 0)) (hK : RC W gK n (fun _ => ⟨none, 0, 0, []⟩)) (lI : w.heap.size ≤ gI) (lD : w.heap.size ≤ gD) (lK : w.heap.size ≤ gK) (h1 : gI ≠ gD) (h2 : gI ≠ gK) (h3 : gD ≠ gK) :
    Tm w Wp W.heap.size gI gD gK n (fun _ => -1) (fun _ => 0) (fun _ => ⟨none, 0, 0, []⟩) := by
  have a := hI.lt
  have b := hD.lt
  have c := hK.lt
  have d := (Array.getElem?_eq_some_iff.1 hp.2).1
  exact ⟨hb.trans (hp.1.mono hb.size), hp.2, hI.below hp.1, hD.below hp.1, hK.below hp.1, Fam.start (by
    intro h hh
    simp at hh
    omega), hb.size, lI, lD, lK, by simp; omega⟩
/-- The blocks whose nearest dominator one is. -/
def kidsB (s : Gr) (b : Nat) : List Nat := (List.range s.length).filter fun z => decide (idB s z = (b : Int))
def kd (s : Gr) : Gr := (List.range s.length).map (kidsB s)
theorem kd_at {s : Gr} {b : Nat} (h : b < s.length) : nx (kd s) b = kidsB s b := by
  unfold nx kd
  rw [List.getD_eq_getElem?_getD, List.getElem?_map, List.getElem?_range h]
  rfl
/-- The tree of a graph, in memory. -/
structure IsT (W : World) (p gI gD gK n : Nat) (s : Gr) : Prop where
  box : W.heap[p]? = some (.cells #[.slice (some ⟨gI, 0, none⟩) n n, .slice (some ⟨gD, 0, none⟩) n n, .slice (some ⟨gK, 0, none⟩) n n] 88 (0, 0))
  ii : Ir W gI n (idB s)
  id : Ir W gD n (fun b => ((cntB s b : Nat) : Int))
  rk : IsGr W (some ⟨gK, 0, none⟩) n (kd s)
  len : s.length = n
  few : n ≤ 300
theorem IsT.below {W W' : World} {p gI gD gK n : Nat} {s : Gr} (h : IsT W p gI gD gK n s) (hb : Below W.heap.size W W') : IsT W' p gI gD gK n s :=
  ⟨kept_box h.box hb, h.ii.below hb, h.id.below hb, h.rk.below hb, h.len, h.few⟩
section
variable {s : Gr} {O : List Nat} {ov : Nat → Nat}
theorem DO.depth0 (h : DO s O ov) {b : Nat} (hb : O[0]? = some b) : cntB s b = 1 := by
  rw [h.cnt (List.mem_of_getElem? hb) (by rw [pl_at h.o.nd hb]; exact .zero)]
  rfl
theorem DO.depth (h : DO s O ov) {k b : Nat} (hk : 0 < k) (hb : O[k]? = some b) : cntB s b = 1 + cntB s (O.getD (ov k) 0) := by
  have hkl := (List.getElem?_eq_some_iff.1 hb).1
  have hlt := h.fall k hk hkl
  have hat : O[ov k]? = some (O.getD (ov k) 0) := by rw [List.getD_eq_getElem?_getD, List.getElem?_eq_getElem (by omega)]; rfl
  obtain ⟨l, hl⟩ := ch_ex h.fall (ov k) (by omega)
  rw [h.cnt (List.mem_of_getElem? hb) (by rw [pl_at h.o.nd hb]; exact .up hk hl), h.cnt (List.mem_of_getElem? hat) (by rw [pl_at h.o.nd hat]; exact hl), List.length_cons]
  omega
end
/-- What was told of the first places. -/
def idA (O : List Nat) (ov : Nat → Nat) (k b : Nat) : Int := if b ∈ O.take k then idO O ov b else -1
def dpA (s : Gr) (O : List Nat) (k b : Nat) : Int := if b ∈ O.take k then ((cntB s b : Nat) : Int) else 0
theorem take_mem {O : List Nat} {k b x : Nat} (h : O[k]? = some b) : x ∈ O.take (k + 1) ↔ x = b ∨ x ∈ O.take k := by
  rw [List.take_add_one, h, List.mem_append]
  show _ ∨ x ∈ [b] ↔ _
  rw [List.mem_singleton, or_comm]
theorem idA_next {O : List Nat} {ov : Nat → Nat} {k b : Nat} {x : Int} (h : O[k]? = some b) (hx : idO O ov b = x) : upd (idA O ov k) b x = idA O ov (k + 1) := by
  funext y
  unfold upd idA
  by_cases e : y = b
  · subst e; rw [if_pos rfl, if_pos ((take_mem h).2 (.inl rfl)), hx]
  · rw [if_neg e]
    by_cases e2 : y ∈ O.take k
    · rw [if_pos e2, if_pos ((take_mem h).2 (.inr e2))]
    · rw [if_neg e2, if_neg (fun q => ((take_mem h).1 q).elim e e2)]
theorem dpA_next {s : Gr} {O : List Nat} {k b : Nat} {x : Int} (h : O[k]? = some b) (hx : ((cntB s b : Nat) : Int) = x) : upd (dpA s O k) b x = dpA s O (k + 1) := by
  funext y
  unfold upd dpA
  by_cases e : y = b
  · subst e; rw [if_pos rfl, if_pos ((take_mem h).2 (.inl rfl)), hx]
  · rw [if_neg e]
    by_cases e2 : y ∈ O.take k
    · rw [if_pos e2, if_pos ((take_mem h).2 (.inr e2))]
    · rw [if_neg e2, if_neg (fun q => ((take_mem h).1 q).elim e e2)]
theorem upd_upd {β : Type} (f : Nat → β) (i : Nat) (x y : β) : upd (upd f i x) i y = upd f i y := by
  funext k
  unfold upd
  by_cases e : k = i
  · rw [if_pos e, if_pos e]
  · rw [if_neg e, if_neg e, if_neg e]
/-- The order, as the loop reads it. -/
def Od (W : World) (B : Option Addr) (m gI gD : Nat) (O : List Nat) : Prop := ∀ k, k < m → ∃ gB, B = some ⟨gB, 0, none⟩ ∧ gB ≠ gI ∧ gB ≠ gD ∧ gB < W.heap.size ∧ ∃ b, O[k]? = some b ∧ W.cell? ⟨gB, k, none⟩ = some (.int .i64 (b : Int))
theorem Od.below {W W' : World} {B : Option Addr} {m gI gD : Nat} {O : List Nat} (h : Od W B m gI gD O) (hb : Below W.heap.size W W') : Od W' B m gI gD O := fun k hk => by
  obtain ⟨g, h1, h2, h3, h4, b, h5, h6⟩ := h k hk
  exact ⟨g, h1, h2, h3, Nat.lt_of_lt_of_le h4 hb.size, b, h5, (hb.cell (p := ⟨g, k, none⟩) h4).trans h6⟩
theorem Od.put {W : World} {B : Option Addr} {m gI gD : Nat} {O : List Nat} (h : Od W B m gI gD O) {g o : Nat} (hg : g = gI ∨ g = gD) (x : Value) : Od (W.setCell ⟨g, o, none⟩ x) B m gI gD O := fun k hk => by
  obtain ⟨g', h1, h2, h3, h4, b, h5, h6⟩ := h k hk
  exact ⟨g', h1, h2, h3, by simpa [World.setCell] using h4, b, h5, by rw [World.cell?_setCell_other (h := by intro q; injection q with q _; omega)]; exact h6⟩
theorem Od.make {N m d gI gD : Nat} {W : World} {B : Option Addr} {O : List Nat} (h : OwnL 3 1 intC N W B d (nn O)) (hl : O.length = m) (h1 : gI < N) (h2 : gD < N) : Od W B m gI gD O := fun k hk => by
  have hlen : (nn O).length = m := by rw [nn_len]; exact hl
  obtain ⟨_, h3 | ⟨g, e1, e2, e3, h4⟩⟩ := OwnL.form h (fun _ => rfl)
  · rw [h3] at hlen; simp at hlen; omega
  · have h5 := h4 k 0 (by omega) (by decide)
    refine ⟨g, e1, by omega, by omega, e3, O[k]'(by omega), List.getElem?_eq_getElem (by omega), ?_⟩
    rw [Nat.mul_one, Nat.add_zero] at h5
    rw [h5]
    show some (Value.int .i64 ((nn O)[k])) = _
    unfold nn
    simp
theorem dnew_v (P : Nat) (q : GV) (s : Gr) (w : World) (h : IsG w P q s (prs s)) (hs : Ok s) (hn : q.n ≤ 300) (hnd : ∀ k, (nx s k).Nodup ∧ (nx s k).length ≤ 300) :
    Calls Try.prog 25 #[.pointer (some ⟨P, 0, none⟩)] w fun e w' => (∃ p, e = .returned (.pointer (some ⟨p, 0, none⟩)) ∧ ∃ gI gD gK, IsT w' p gI gD gK q.n s ∧ (0 < q.n → ∃ O ov, DO s O ov)) ∧ Below w.heap.size w w' := by
  obtain ⟨i0, hi0, hz0, hz1, hz2⟩ := info_parts intInfo
  have I0 := Lib.hid (And.intro hi0 (And.intro hz0 (And.intro hz1 hz2)))
  obtain ⟨i1, hi1, hy0, hy1, hy2⟩ := info_parts ilInfo
  have I1 := Lib.hid (And.intro hi1 (And.intro hy0 (And.intro hy1 hy2)))
  have hqs : s.length = q.n := h.su.1
  have H := Lib.hid (And.intro h (And.intro hs (And.intro hnd hqs)))
  clear h hs hnd hi0 hz0 hz1 hz2 hi1 hy0 hy1 hy2 hqs
  go_enter Try.func25, Try.ntmps25
  go_wp2_with fail
  refine (glen_v P q s (prs s) w H.out.1).mono ?_
  rintro e w1 ⟨rfl, rfl⟩
  go_upto_region 2 with fail
  go_cut [4] from 13 to 21 (fun s4 wc => ∃ pT gI gD gK, s4 = .pointer (some ⟨pT, 0, none⟩) ∧ Hid (Tm w wc pT gI gD gK q.n (fun _ => -1) (fun _ => 0) (fun _ => ⟨none, 0, 0, []⟩)))
  case first =>
    refine region_z 1000 (fun W => True) (by kernel_rfl) ?_
    obtain ⟨wd, hwd⟩ : ∃ wd, w.drew = wd := ⟨_, rfl⟩
    have BW := Lib.hid (hwd ▸ (Below.refl _ w).drew : Below w.heap.size w wd)
    rw [hwd]
    clear hwd
    refine anyS_take (i := 1) (v := _) rfl (by kernel_rfl) (fun _ _ _ h => h) (Or.inl ⟨by rfl, by intro W hSw; go_simp; try with_reducible rfl⟩) trivial ?_
    try simp only [Act.put, List.getElem_toArray, List.getElem_cons_zero, List.getElem_cons_succ, List.setIfInBounds_toArray, List.set_cons_zero, List.set_cons_succ]
    refine anyS_take (i := 3) (v := _) rfl (by kernel_rfl) (fun _ _ _ h => h) (Or.inl ⟨by rfl, by intro W hSw; go_simp; try with_reducible rfl⟩) trivial ?_
    try simp only [Act.put, List.getElem_toArray, List.getElem_cons_zero, List.getElem_cons_succ, List.setIfInBounds_toArray, List.set_cons_zero, List.set_cons_succ]
    refine anyS_take (i := 5) (v := _) rfl (by kernel_rfl) (fun _ _ _ h => h) (Or.inl ⟨by rfl, by intro W hSw; go_simp; try with_reducible rfl⟩) trivial ?_
    try simp only [Act.put, List.getElem_toArray, List.getElem_cons_zero, List.getElem_cons_succ, List.setIfInBounds_toArray, List.set_cons_zero, List.set_cons_succ]
    refine anyZ_three (i := 0) (j := 4) (k := 6) (by kernel_rfl) ?_ ?_ ?_
    · refine ⟨_, rfl, fun K hK => ?_⟩
      obtain ⟨k1, hwn⟩ : ∃ wn, wd.alloc (.cells #[.int .i64 (-1)] 3) = wn := ⟨_, rfl⟩
      have mb := m_box wd _ 3 hwn
      have X1 := Lib.hid (And.intro mb.1 mb.2)
      clear mb
      go_simp
      try rw [hwn]
      clear hwn
      have BWn := Lib.hid (BW.out.trans (X1.out.1.mono BW.out.size))
      have F0 := Lib.hid ((show k1.heap[wd.heap.size]? = some (.cells #[.int .i64 (-1)] 3 (0, 0)) from X1.out.2))
      replace BW := BWn
      clear BWn
      refine hK.out _ _ (fun _ => trivial) ?_
      clear hK K
      try simp only [Act.put, List.getElem_toArray, List.getElem_cons_zero, List.getElem_cons_succ, List.setIfInBounds_toArray, List.set_cons_zero, List.set_cons_succ]
      refine anyZ_three (i := 2) (j := 4) (k := 6) (by kernel_rfl) ?_ ?_ ?_
      · refine ⟨_, rfl, fun K hK => ?_⟩
        go_simp
        refine Calls.mono (repeat_v wd.heap.size q.n (-1) k1 F0.out (by omega)) ?_
        rintro e k2 ⟨⟨gI, rfl, hir, hge⟩, hb⟩
        have X2 := Lib.hid (And.intro hb (And.intro hir hge))
        clear hb hir hge
        go_wp2_with fail
        have BWn := Lib.hid (BW.out.trans (X2.out.1.mono BW.out.size))
        have F0n := Lib.hid (kept_box F0.out X2.out.1)
        have L2 := Lib.hid (Nat.le_trans BW.out.size (show k1.heap.size ≤ gI from X2.out.2.2))
        have F2 := Lib.hid (X2.out.2.1)
        replace F0 := F0n
        clear F0n
        replace BW := BWn
        clear BWn
        refine hK.out _ _ (fun _ => trivial) ?_
        clear hK K
        try simp only [Act.put, List.getElem_toArray, List.getElem_cons_zero, List.getElem_cons_succ, List.setIfInBounds_toArray, List.set_cons_zero, List.set_cons_succ]
        refine anyZ_two (i := 4) (j := 6) (by kernel_rfl) ?_ ?_
        · refine ⟨_, rfl, fun K hK => ?_⟩
          rw [if_pos (by rfl)]
          refine make_wp k2 _ _ 37 rfl w.heap.size 3 i0 (.int .i64 0) 1 Try.underlying37 I0.out.1 I0.out.2.1 I0.out.2.2.1 _ _ _ _ q.n rfl rfl rfl rfl (by rw [I0.out.2.2.2]; omega) (by unfold maxLen; omega) BW.out.size ?_
          intro k3 howa hga
          have X3 := Lib.hid (And.intro (grown_below hga) (ir_made (by rw [Nat.mul_one] at howa; exact howa)))
          clear howa hga
          try simp only [Act.put]
          have BWn := Lib.hid (BW.out.trans (X3.out.1.mono BW.out.size))
          have F0n := Lib.hid (kept_box F0.out X3.out.1)
          have F2n := Lib.hid (F2.out.below X3.out.1)
          have N24 := Lib.hid (show gI ≠ k2.heap.size from by have h1 := F2.out.lt; have h2 : k2.heap.size ≤ k2.heap.size := Nat.le_refl k2.heap.size; omega)
          have L4 := Lib.hid (Nat.le_trans BW.out.size (show k2.heap.size ≤ k2.heap.size from Nat.le_refl k2.heap.size))
          have F4 := Lib.hid (X3.out.2)
          replace F0 := F0n
          clear F0n
          replace F2 := F2n
          clear F2n
          replace BW := BWn
          clear BWn
          refine hK.out _ _ (fun _ => trivial) ?_
          clear hK K
          try simp only [List.getElem_toArray, List.getElem_cons_zero, List.getElem_cons_succ, List.setIfInBounds_toArray, List.set_cons_zero, List.set_cons_succ]
          refine anyZ_one (i := 6) (by kernel_rfl) rfl (fun K hK => ?_)
          rw [if_pos (by rfl)]
          refine make_wp k3 _ _ 31 rfl w.heap.size 37 i1 (.slice none 0 0) 1 Try.underlying31 I1.out.1 I1.out.2.1 I1.out.2.2.1 _ _ _ _ q.n rfl rfl rfl rfl (by rw [I1.out.2.2.2]; omega) (by unfold maxLen; omega) BW.out.size ?_
          intro k4 howa hga
          have X4 := Lib.hid (And.intro (grown_below hga) (rc_made (by rw [Nat.mul_one] at howa; exact howa)))
          clear howa hga
          try simp only [Act.put]
          have BWn := Lib.hid (BW.out.trans (X4.out.1.mono BW.out.size))
          have F0n := Lib.hid (kept_box F0.out X4.out.1)
          have F2n := Lib.hid (F2.out.below X4.out.1)
          have F4n := Lib.hid (F4.out.below X4.out.1)
          have N26 := Lib.hid (show gI ≠ k3.heap.size from by have h1 := F2.out.lt; have h2 : k3.heap.size ≤ k3.heap.size := Nat.le_refl k3.heap.size; omega)
          have N46 := Lib.hid (show k2.heap.size ≠ k3.heap.size from by have h1 := F4.out.lt; have h2 : k3.heap.size ≤ k3.heap.size := Nat.le_refl k3.heap.size; omega)
          have L6 := Lib.hid (Nat.le_trans BW.out.size (show k3.heap.size ≤ k3.heap.size from Nat.le_refl k3.heap.size))
          have F6 := Lib.hid (X4.out.2)
          replace F0 := F0n
          clear F0n
          replace F2 := F2n
          clear F2n
          replace F4 := F4n
          clear F4n
          replace BW := BWn
          clear BWn
          refine hK.out _ _ (fun _ => trivial) ?_
          clear hK K
          try simp only [List.getElem_toArray, List.getElem_cons_zero, List.getElem_cons_succ, List.setIfInBounds_toArray, List.set_cons_zero, List.set_cons_succ]
          refine anyZ_one (i := 7) (by kernel_rfl) rfl (fun K hK => ?_)
          go_simp
          refine hK.out _ _ (fun _ => trivial) ?_
          clear hK K
          try simp only [Act.put, List.getElem_toArray, List.getElem_cons_zero, List.getElem_cons_succ, List.setIfInBounds_toArray, List.set_cons_zero, List.set_cons_succ]
          refine anyZ_one (i := 8) (by kernel_rfl) rfl (fun K hK => ?_)
          obtain ⟨wp, hwp⟩ : ∃ wp, k4.alloc (.cells #[.slice (some ⟨gI, 0, none⟩) q.n q.n, .slice (some ⟨k2.heap.size, 0, none⟩) q.n q.n, .slice (some ⟨k3.heap.size, 0, none⟩) q.n q.n] 88) = wp := ⟨_, rfl⟩
          have mb := m_box k4 _ 88 hwp
          have HP := Lib.hid mb
          clear mb
          go_simp
          try rw [hwp]
          clear hwp
          refine hK.out _ _ (fun _ => trivial) ?_
          clear hK K
          try simp only [Act.put, List.getElem_toArray, List.getElem_cons_zero, List.getElem_cons_succ, List.setIfInBounds_toArray, List.set_cons_zero, List.set_cons_succ]
          refine anyZ_one (i := 9) (by kernel_rfl) rfl (fun K hK => ?_)
          go_simp
          refine hK.out _ _ (fun _ => trivial) ?_
          clear hK K
          try simp only [Act.put, List.getElem_toArray, List.getElem_cons_zero, List.getElem_cons_succ, List.setIfInBounds_toArray, List.set_cons_zero, List.set_cons_succ]
          refine anyZ_done (by kernel_rfl) ?_ _
          go_wp2_with fail
          go_meet
          case rel => exact ⟨_, _, _, _, rfl, Lib.hid (Tm.start BW.out HP.out F2.out F4.out F6.out L2.out L4.out L6.out (by first | exact N24.out | exact N24.out.symm) (by first | exact N26.out | exact N26.out.symm) (by first | exact N46.out | exact N46.out.symm))⟩
        · refine ⟨_, rfl, fun K hK => ?_⟩
          rw [if_pos (by rfl)]
          refine make_wp k2 _ _ 31 rfl w.heap.size 37 i1 (.slice none 0 0) 1 Try.underlying31 I1.out.1 I1.out.2.1 I1.out.2.2.1 _ _ _ _ q.n rfl rfl rfl rfl (by rw [I1.out.2.2.2]; omega) (by unfold maxLen; omega) BW.out.size ?_
          intro k5 howa hga
          have X5 := Lib.hid (And.intro (grown_below hga) (rc_made (by rw [Nat.mul_one] at howa; exact howa)))
          clear howa hga
          try simp only [Act.put]
          have BWn := Lib.hid (BW.out.trans (X5.out.1.mono BW.out.size))
          have F0n := Lib.hid (kept_box F0.out X5.out.1)
          have F2n := Lib.hid (F2.out.below X5.out.1)
          have N26 := Lib.hid (show gI ≠ k2.heap.size from by have h1 := F2.out.lt; have h2 : k2.heap.size ≤ k2.heap.size := Nat.le_refl k2.heap.size; omega)
          have L6 := Lib.hid (Nat.le_trans BW.out.size (show k2.heap.size ≤ k2.heap.size from Nat.le_refl k2.heap.size))
          have F6 := Lib.hid (X5.out.2)
          replace F0 := F0n
          clear F0n
          replace F2 := F2n
          clear F2n
          replace BW := BWn
          clear BWn
          refine hK.out _ _ (fun _ => trivial) ?_
          clear hK K
          try simp only [List.getElem_toArray, List.getElem_cons_zero, List.getElem_cons_succ, List.setIfInBounds_toArray, List.set_cons_zero, List.set_cons_succ]
          refine anyZ_one (i := 4) (by kernel_rfl) rfl (fun K hK => ?_)
          rw [if_pos (by rfl)]
          refine make_wp k5 _ _ 37 rfl w.heap.size 3 i0 (.int .i64 0) 1 Try.underlying37 I0.out.1 I0.out.2.1 I0.out.2.2.1 _ _ _ _ q.n rfl rfl rfl rfl (by rw [I0.out.2.2.2]; omega) (by unfold maxLen; omega) BW.out.size ?_
          intro k6 howa hga
          have X6 := Lib.hid (And.intro (grown_below hga) (ir_made (by rw [Nat.mul_one] at howa; exact howa)))
          clear howa hga
          try simp only [Act.put]
          have BWn := Lib.hid (BW.out.trans (X6.out.1.mono BW.out.size))
          have F0n := Lib.hid (kept_box F0.out X6.out.1)
          have F2n := Lib.hid (F2.out.below X6.out.1)
          have F6n := Lib.hid (F6.out.below X6.out.1)
          have N24 := Lib.hid (show gI ≠ k5.heap.size from by have h1 := F2.out.lt; have h2 : k5.heap.size ≤ k5.heap.size := Nat.le_refl k5.heap.size; omega)
          have N46 := Lib.hid (show k2.heap.size ≠ k5.heap.size from by have h1 := F6.out.lt; have h2 : k5.heap.size ≤ k5.heap.size := Nat.le_refl k5.heap.size; omega)
          have L4 := Lib.hid (Nat.le_trans BW.out.size (show k5.heap.size ≤ k5.heap.size from Nat.le_refl k5.heap.size))
          have F4 := Lib.hid (X6.out.2)
          replace F0 := F0n
          clear F0n
          replace F2 := F2n
          clear F2n
          replace F6 := F6n
          clear F6n
          replace BW := BWn
          clear BWn
          refine hK.out _ _ (fun _ => trivial) ?_
          clear hK K
          try simp only [List.getElem_toArray, List.getElem_cons_zero, List.getElem_cons_succ, List.setIfInBounds_toArray, List.set_cons_zero, List.set_cons_succ]
          refine anyZ_one (i := 7) (by kernel_rfl) rfl (fun K hK => ?_)
          go_simp
          refine hK.out _ _ (fun _ => trivial) ?_
          clear hK K
          try simp only [Act.put, List.getElem_toArray, List.getElem_cons_zero, List.getElem_cons_succ, List.setIfInBounds_toArray, List.set_cons_zero, List.set_cons_succ]
          refine anyZ_one (i := 8) (by kernel_rfl) rfl (fun K hK => ?_)
          obtain ⟨wp, hwp⟩ : ∃ wp, k6.alloc (.cells #[.slice (some ⟨gI, 0, none⟩) q.n q.n, .slice (some ⟨k5.heap.size, 0, none⟩) q.n q.n, .slice (some ⟨k2.heap.size, 0, none⟩) q.n q.n] 88) = wp := ⟨_, rfl⟩
          have mb := m_box k6 _ 88 hwp
          have HP := Lib.hid mb
          clear mb
          go_simp
          try rw [hwp]
          clear hwp
          refine hK.out _ _ (fun _ => trivial) ?_
          clear hK K
          try simp only [Act.put, List.getElem_toArray, List.getElem_cons_zero, List.getElem_cons_succ, List.setIfInBounds_toArray, List.set_cons_zero, List.set_cons_succ]
          refine anyZ_one (i := 9) (by kernel_rfl) rfl (fun K hK => ?_)
          go_simp
          refine hK.out _ _ (fun _ => trivial) ?_
          clear hK K
          try simp only [Act.put, List.getElem_toArray, List.getElem_cons_zero, List.getElem_cons_succ, List.setIfInBounds_toArray, List.set_cons_zero, List.set_cons_succ]
          refine anyZ_done (by kernel_rfl) ?_ _
          go_wp2_with fail
          go_meet
          case rel => exact ⟨_, _, _, _, rfl, Lib.hid (Tm.start BW.out HP.out F2.out F4.out F6.out L2.out L4.out L6.out (by first | exact N24.out | exact N24.out.symm) (by first | exact N26.out | exact N26.out.symm) (by first | exact N46.out | exact N46.out.symm))⟩
      · refine ⟨_, rfl, fun K hK => ?_⟩
        rw [if_pos (by rfl)]
        refine make_wp k1 _ _ 37 rfl w.heap.size 3 i0 (.int .i64 0) 1 Try.underlying37 I0.out.1 I0.out.2.1 I0.out.2.2.1 _ _ _ _ q.n rfl rfl rfl rfl (by rw [I0.out.2.2.2]; omega) (by unfold maxLen; omega) BW.out.size ?_
        intro k7 howa hga
        have X7 := Lib.hid (And.intro (grown_below hga) (ir_made (by rw [Nat.mul_one] at howa; exact howa)))
        clear howa hga
        try simp only [Act.put]
        have BWn := Lib.hid (BW.out.trans (X7.out.1.mono BW.out.size))
        have F0n := Lib.hid (kept_box F0.out X7.out.1)
        have L4 := Lib.hid (Nat.le_trans BW.out.size (show k1.heap.size ≤ k1.heap.size from Nat.le_refl k1.heap.size))
        have F4 := Lib.hid (X7.out.2)
        replace F0 := F0n
        clear F0n
        replace BW := BWn
        clear BWn
        refine hK.out _ _ (fun _ => trivial) ?_
        clear hK K
        try simp only [List.getElem_toArray, List.getElem_cons_zero, List.getElem_cons_succ, List.setIfInBounds_toArray, List.set_cons_zero, List.set_cons_succ]
        refine anyZ_two (i := 2) (j := 6) (by kernel_rfl) ?_ ?_
        · refine ⟨_, rfl, fun K hK => ?_⟩
          go_simp
          refine Calls.mono (repeat_v wd.heap.size q.n (-1) k7 F0.out (by omega)) ?_
          rintro e k8 ⟨⟨gI, rfl, hir, hge⟩, hb⟩
          have X8 := Lib.hid (And.intro hb (And.intro hir hge))
          clear hb hir hge
          go_wp2_with fail
          have BWn := Lib.hid (BW.out.trans (X8.out.1.mono BW.out.size))
          have F0n := Lib.hid (kept_box F0.out X8.out.1)
          have F4n := Lib.hid (F4.out.below X8.out.1)
          have N24 := Lib.hid (show k1.heap.size ≠ gI from by have h1 := F4.out.lt; have h2 : k7.heap.size ≤ gI := X8.out.2.2; omega)
          have L2 := Lib.hid (Nat.le_trans BW.out.size (show k7.heap.size ≤ gI from X8.out.2.2))
          have F2 := Lib.hid (X8.out.2.1)
          replace F0 := F0n
          clear F0n
          replace F4 := F4n
          clear F4n
          replace BW := BWn
          clear BWn
          refine hK.out _ _ (fun _ => trivial) ?_
          clear hK K
          try simp only [Act.put, List.getElem_toArray, List.getElem_cons_zero, List.getElem_cons_succ, List.setIfInBounds_toArray, List.set_cons_zero, List.set_cons_succ]
          refine anyZ_one (i := 6) (by kernel_rfl) rfl (fun K hK => ?_)
          rw [if_pos (by rfl)]
          refine make_wp k8 _ _ 31 rfl w.heap.size 37 i1 (.slice none 0 0) 1 Try.underlying31 I1.out.1 I1.out.2.1 I1.out.2.2.1 _ _ _ _ q.n rfl rfl rfl rfl (by rw [I1.out.2.2.2]; omega) (by unfold maxLen; omega) BW.out.size ?_
          intro k9 howa hga
          have X9 := Lib.hid (And.intro (grown_below hga) (rc_made (by rw [Nat.mul_one] at howa; exact howa)))
          clear howa hga
          try simp only [Act.put]
          have BWn := Lib.hid (BW.out.trans (X9.out.1.mono BW.out.size))
          have F0n := Lib.hid (kept_box F0.out X9.out.1)
          have F4n := Lib.hid (F4.out.below X9.out.1)
          have F2n := Lib.hid (F2.out.below X9.out.1)
          have N46 := Lib.hid (show k1.heap.size ≠ k8.heap.size from by have h1 := F4.out.lt; have h2 : k8.heap.size ≤ k8.heap.size := Nat.le_refl k8.heap.size; omega)
          have N26 := Lib.hid (show gI ≠ k8.heap.size from by have h1 := F2.out.lt; have h2 : k8.heap.size ≤ k8.heap.size := Nat.le_refl k8.heap.size; omega)
          have L6 := Lib.hid (Nat.le_trans BW.out.size (show k8.heap.size ≤ k8.heap.size from Nat.le_refl k8.heap.size))
          have F6 := Lib.hid (X9.out.2)
          replace F0 := F0n
          clear F0n
          replace F4 := F4n
          clear F4n
          replace F2 := F2n
          clear F2n
          replace BW := BWn
          clear BWn
          refine hK.out _ _ (fun _ => trivial) ?_
          clear hK K
          try simp only [List.getElem_toArray, List.getElem_cons_zero, List.getElem_cons_succ, List.setIfInBounds_toArray, List.set_cons_zero, List.set_cons_succ]
          refine anyZ_one (i := 7) (by kernel_rfl) rfl (fun K hK => ?_)
          go_simp
          refine hK.out _ _ (fun _ => trivial) ?_
          clear hK K
          try simp only [Act.put, List.getElem_toArray, List.getElem_cons_zero, List.getElem_cons_succ, List.setIfInBounds_toArray, List.set_cons_zero, List.set_cons_succ]
          refine anyZ_one (i := 8) (by kernel_rfl) rfl (fun K hK => ?_)
          obtain ⟨wp, hwp⟩ : ∃ wp, k9.alloc (.cells #[.slice (some ⟨gI, 0, none⟩) q.n q.n, .slice (some ⟨k1.heap.size, 0, none⟩) q.n q.n, .slice (some ⟨k8.heap.size, 0, none⟩) q.n q.n] 88) = wp := ⟨_, rfl⟩
          have mb := m_box k9 _ 88 hwp
          have HP := Lib.hid mb
          clear mb
          go_simp
          try rw [hwp]
          clear hwp
          refine hK.out _ _ (fun _ => trivial) ?_
          clear hK K
          try simp only [Act.put, List.getElem_toArray, List.getElem_cons_zero, List.getElem_cons_succ, List.setIfInBounds_toArray, List.set_cons_zero, List.set_cons_succ]
          refine anyZ_one (i := 9) (by kernel_rfl) rfl (fun K hK => ?_)
          go_simp
          refine hK.out _ _ (fun _ => trivial) ?_
          clear hK K
          try simp only [Act.put, List.getElem_toArray, List.getElem_cons_zero, List.getElem_cons_succ, List.setIfInBounds_toArray, List.set_cons_zero, List.set_cons_succ]
          refine anyZ_done (by kernel_rfl) ?_ _
          go_wp2_with fail
          go_meet
          case rel => exact ⟨_, _, _, _, rfl, Lib.hid (Tm.start BW.out HP.out F2.out F4.out F6.out L2.out L4.out L6.out (by first | exact N24.out | exact N24.out.symm) (by first | exact N26.out | exact N26.out.symm) (by first | exact N46.out | exact N46.out.symm))⟩
        · refine ⟨_, rfl, fun K hK => ?_⟩
          rw [if_pos (by rfl)]
          refine make_wp k7 _ _ 31 rfl w.heap.size 37 i1 (.slice none 0 0) 1 Try.underlying31 I1.out.1 I1.out.2.1 I1.out.2.2.1 _ _ _ _ q.n rfl rfl rfl rfl (by rw [I1.out.2.2.2]; omega) (by unfold maxLen; omega) BW.out.size ?_
          intro k10 howa hga
          have X10 := Lib.hid (And.intro (grown_below hga) (rc_made (by rw [Nat.mul_one] at howa; exact howa)))
          clear howa hga
          try simp only [Act.put]
          have BWn := Lib.hid (BW.out.trans (X10.out.1.mono BW.out.size))
          have F0n := Lib.hid (kept_box F0.out X10.out.1)
          have F4n := Lib.hid (F4.out.below X10.out.1)
          have N46 := Lib.hid (show k1.heap.size ≠ k7.heap.size from by have h1 := F4.out.lt; have h2 : k7.heap.size ≤ k7.heap.size := Nat.le_refl k7.heap.size; omega)
          have L6 := Lib.hid (Nat.le_trans BW.out.size (show k7.heap.size ≤ k7.heap.size from Nat.le_refl k7.heap.size))
          have F6 := Lib.hid (X10.out.2)
          replace F0 := F0n
          clear F0n
          replace F4 := F4n
          clear F4n
          replace BW := BWn
          clear BWn
          refine hK.out _ _ (fun _ => trivial) ?_
          clear hK K
          try simp only [List.getElem_toArray, List.getElem_cons_zero, List.getElem_cons_succ, List.setIfInBounds_toArray, List.set_cons_zero, List.set_cons_succ]
          refine anyZ_one (i := 2) (by kernel_rfl) rfl (fun K hK => ?_)
          go_simp
          refine Calls.mono (repeat_v wd.heap.size q.n (-1) k10 F0.out (by omega)) ?_
          rintro e k11 ⟨⟨gI, rfl, hir, hge⟩, hb⟩
          have X11 := Lib.hid (And.intro hb (And.intro hir hge))
          clear hb hir hge
          go_wp2_with fail
          have BWn := Lib.hid (BW.out.trans (X11.out.1.mono BW.out.size))
          have F0n := Lib.hid (kept_box F0.out X11.out.1)
          have F4n := Lib.hid (F4.out.below X11.out.1)
          have F6n := Lib.hid (F6.out.below X11.out.1)
          have N24 := Lib.hid (show k1.heap.size ≠ gI from by have h1 := F4.out.lt; have h2 : k10.heap.size ≤ gI := X11.out.2.2; omega)
          have N26 := Lib.hid (show k7.heap.size ≠ gI from by have h1 := F6.out.lt; have h2 : k10.heap.size ≤ gI := X11.out.2.2; omega)
          have L2 := Lib.hid (Nat.le_trans BW.out.size (show k10.heap.size ≤ gI from X11.out.2.2))
          have F2 := Lib.hid (X11.out.2.1)
          replace F0 := F0n
          clear F0n
          replace F4 := F4n
          clear F4n
          replace F6 := F6n
          clear F6n
          replace BW := BWn
          clear BWn
          refine hK.out _ _ (fun _ => trivial) ?_
          clear hK K
          try simp only [Act.put, List.getElem_toArray, List.getElem_cons_zero, List.getElem_cons_succ, List.setIfInBounds_toArray, List.set_cons_zero, List.set_cons_succ]
          refine anyZ_one (i := 7) (by kernel_rfl) rfl (fun K hK => ?_)
          go_simp
          refine hK.out _ _ (fun _ => trivial) ?_
          clear hK K
          try simp only [Act.put, List.getElem_toArray, List.getElem_cons_zero, List.getElem_cons_succ, List.setIfInBounds_toArray, List.set_cons_zero, List.set_cons_succ]
          refine anyZ_one (i := 8) (by kernel_rfl) rfl (fun K hK => ?_)
          obtain ⟨wp, hwp⟩ : ∃ wp, k11.alloc (.cells #[.slice (some ⟨gI, 0, none⟩) q.n q.n, .slice (some ⟨k1.heap.size, 0, none⟩) q.n q.n, .slice (some ⟨k7.heap.size, 0, none⟩) q.n q.n] 88) = wp := ⟨_, rfl⟩
          have mb := m_box k11 _ 88 hwp
          have HP := Lib.hid mb
          clear mb
          go_simp
          try rw [hwp]
          clear hwp
          refine hK.out _ _ (fun _ => trivial) ?_
          clear hK K
          try simp only [Act.put, List.getElem_toArray, List.getElem_cons_zero, List.getElem_cons_succ, List.setIfInBounds_toArray, List.set_cons_zero, List.set_cons_succ]
          refine anyZ_one (i := 9) (by kernel_rfl) rfl (fun K hK => ?_)
          go_simp
          refine hK.out _ _ (fun _ => trivial) ?_
          clear hK K
          try simp only [Act.put, List.getElem_toArray, List.getElem_cons_zero, List.getElem_cons_succ, List.setIfInBounds_toArray, List.set_cons_zero, List.set_cons_succ]
          refine anyZ_done (by kernel_rfl) ?_ _
          go_wp2_with fail
          go_meet
          case rel => exact ⟨_, _, _, _, rfl, Lib.hid (Tm.start BW.out HP.out F2.out F4.out F6.out L2.out L4.out L6.out (by first | exact N24.out | exact N24.out.symm) (by first | exact N26.out | exact N26.out.symm) (by first | exact N46.out | exact N46.out.symm))⟩
      · refine ⟨_, rfl, fun K hK => ?_⟩
        rw [if_pos (by rfl)]
        refine make_wp k1 _ _ 31 rfl w.heap.size 37 i1 (.slice none 0 0) 1 Try.underlying31 I1.out.1 I1.out.2.1 I1.out.2.2.1 _ _ _ _ q.n rfl rfl rfl rfl (by rw [I1.out.2.2.2]; omega) (by unfold maxLen; omega) BW.out.size ?_
        intro k12 howa hga
        have X12 := Lib.hid (And.intro (grown_below hga) (rc_made (by rw [Nat.mul_one] at howa; exact howa)))
        clear howa hga
        try simp only [Act.put]
        have BWn := Lib.hid (BW.out.trans (X12.out.1.mono BW.out.size))
        have F0n := Lib.hid (kept_box F0.out X12.out.1)
        have L6 := Lib.hid (Nat.le_trans BW.out.size (show k1.heap.size ≤ k1.heap.size from Nat.le_refl k1.heap.size))
        have F6 := Lib.hid (X12.out.2)
        replace F0 := F0n
        clear F0n
        replace BW := BWn
        clear BWn
        refine hK.out _ _ (fun _ => trivial) ?_
        clear hK K
        try simp only [List.getElem_toArray, List.getElem_cons_zero, List.getElem_cons_succ, List.setIfInBounds_toArray, List.set_cons_zero, List.set_cons_succ]
        refine anyZ_two (i := 2) (j := 4) (by kernel_rfl) ?_ ?_
        · refine ⟨_, rfl, fun K hK => ?_⟩
          go_simp
          refine Calls.mono (repeat_v wd.heap.size q.n (-1) k12 F0.out (by omega)) ?_
          rintro e k13 ⟨⟨gI, rfl, hir, hge⟩, hb⟩
          have X13 := Lib.hid (And.intro hb (And.intro hir hge))
          clear hb hir hge
          go_wp2_with fail
          have BWn := Lib.hid (BW.out.trans (X13.out.1.mono BW.out.size))
          have F0n := Lib.hid (kept_box F0.out X13.out.1)
          have F6n := Lib.hid (F6.out.below X13.out.1)
          have N26 := Lib.hid (show k1.heap.size ≠ gI from by have h1 := F6.out.lt; have h2 : k12.heap.size ≤ gI := X13.out.2.2; omega)
          have L2 := Lib.hid (Nat.le_trans BW.out.size (show k12.heap.size ≤ gI from X13.out.2.2))
          have F2 := Lib.hid (X13.out.2.1)
          replace F0 := F0n
          clear F0n
          replace F6 := F6n
          clear F6n
          replace BW := BWn
          clear BWn
          refine hK.out _ _ (fun _ => trivial) ?_
          clear hK K
          try simp only [Act.put, List.getElem_toArray, List.getElem_cons_zero, List.getElem_cons_succ, List.setIfInBounds_toArray, List.set_cons_zero, List.set_cons_succ]
          refine anyZ_one (i := 4) (by kernel_rfl) rfl (fun K hK => ?_)
          rw [if_pos (by rfl)]
          refine make_wp k13 _ _ 37 rfl w.heap.size 3 i0 (.int .i64 0) 1 Try.underlying37 I0.out.1 I0.out.2.1 I0.out.2.2.1 _ _ _ _ q.n rfl rfl rfl rfl (by rw [I0.out.2.2.2]; omega) (by unfold maxLen; omega) BW.out.size ?_
          intro k14 howa hga
          have X14 := Lib.hid (And.intro (grown_below hga) (ir_made (by rw [Nat.mul_one] at howa; exact howa)))
          clear howa hga
          try simp only [Act.put]
          have BWn := Lib.hid (BW.out.trans (X14.out.1.mono BW.out.size))
          have F0n := Lib.hid (kept_box F0.out X14.out.1)
          have F6n := Lib.hid (F6.out.below X14.out.1)
          have F2n := Lib.hid (F2.out.below X14.out.1)
          have N46 := Lib.hid (show k1.heap.size ≠ k13.heap.size from by have h1 := F6.out.lt; have h2 : k13.heap.size ≤ k13.heap.size := Nat.le_refl k13.heap.size; omega)
          have N24 := Lib.hid (show gI ≠ k13.heap.size from by have h1 := F2.out.lt; have h2 : k13.heap.size ≤ k13.heap.size := Nat.le_refl k13.heap.size; omega)
          have L4 := Lib.hid (Nat.le_trans BW.out.size (show k13.heap.size ≤ k13.heap.size from Nat.le_refl k13.heap.size))
          have F4 := Lib.hid (X14.out.2)
          replace F0 := F0n
          clear F0n
          replace F6 := F6n
          clear F6n
          replace F2 := F2n
          clear F2n
          replace BW := BWn
          clear BWn
          refine hK.out _ _ (fun _ => trivial) ?_
          clear hK K
          try simp only [List.getElem_toArray, List.getElem_cons_zero, List.getElem_cons_succ, List.setIfInBounds_toArray, List.set_cons_zero, List.set_cons_succ]
          refine anyZ_one (i := 7) (by kernel_rfl) rfl (fun K hK => ?_)
          go_simp
          refine hK.out _ _ (fun _ => trivial) ?_
          clear hK K
          try simp only [Act.put, List.getElem_toArray, List.getElem_cons_zero, List.getElem_cons_succ, List.setIfInBounds_toArray, List.set_cons_zero, List.set_cons_succ]
          refine anyZ_one (i := 8) (by kernel_rfl) rfl (fun K hK => ?_)
          obtain ⟨wp, hwp⟩ : ∃ wp, k14.alloc (.cells #[.slice (some ⟨gI, 0, none⟩) q.n q.n, .slice (some ⟨k13.heap.size, 0, none⟩) q.n q.n, .slice (some ⟨k1.heap.size, 0, none⟩) q.n q.n] 88) = wp := ⟨_, rfl⟩
          have mb := m_box k14 _ 88 hwp
          have HP := Lib.hid mb
          clear mb
          go_simp
          try rw [hwp]
          clear hwp
          refine hK.out _ _ (fun _ => trivial) ?_
          clear hK K
          try simp only [Act.put, List.getElem_toArray, List.getElem_cons_zero, List.getElem_cons_succ, List.setIfInBounds_toArray, List.set_cons_zero, List.set_cons_succ]
          refine anyZ_one (i := 9) (by kernel_rfl) rfl (fun K hK => ?_)
          go_simp
          refine hK.out _ _ (fun _ => trivial) ?_
          clear hK K
          try simp only [Act.put, List.getElem_toArray, List.getElem_cons_zero, List.getElem_cons_succ, List.setIfInBounds_toArray, List.set_cons_zero, List.set_cons_succ]
          refine anyZ_done (by kernel_rfl) ?_ _
          go_wp2_with fail
          go_meet
          case rel => exact ⟨_, _, _, _, rfl, Lib.hid (Tm.start BW.out HP.out F2.out F4.out F6.out L2.out L4.out L6.out (by first | exact N24.out | exact N24.out.symm) (by first | exact N26.out | exact N26.out.symm) (by first | exact N46.out | exact N46.out.symm))⟩
        · refine ⟨_, rfl, fun K hK => ?_⟩
          rw [if_pos (by rfl)]
          refine make_wp k12 _ _ 37 rfl w.heap.size 3 i0 (.int .i64 0) 1 Try.underlying37 I0.out.1 I0.out.2.1 I0.out.2.2.1 _ _ _ _ q.n rfl rfl rfl rfl (by rw [I0.out.2.2.2]; omega) (by unfold maxLen; omega) BW.out.size ?_
          intro k15 howa hga
          have X15 := Lib.hid (And.intro (grown_below hga) (ir_made (by rw [Nat.mul_one] at howa; exact howa)))
          clear howa hga
          try simp only [Act.put]
          have BWn := Lib.hid (BW.out.trans (X15.out.1.mono BW.out.size))
          have F0n := Lib.hid (kept_box F0.out X15.out.1)
          have F6n := Lib.hid (F6.out.below X15.out.1)
          have N46 := Lib.hid (show k1.heap.size ≠ k12.heap.size from by have h1 := F6.out.lt; have h2 : k12.heap.size ≤ k12.heap.size := Nat.le_refl k12.heap.size; omega)
          have L4 := Lib.hid (Nat.le_trans BW.out.size (show k12.heap.size ≤ k12.heap.size from Nat.le_refl k12.heap.size))
          have F4 := Lib.hid (X15.out.2)
          replace F0 := F0n
          clear F0n
          replace F6 := F6n
          clear F6n
          replace BW := BWn
          clear BWn
          refine hK.out _ _ (fun _ => trivial) ?_
          clear hK K
          try simp only [List.getElem_toArray, List.getElem_cons_zero, List.getElem_cons_succ, List.setIfInBounds_toArray, List.set_cons_zero, List.set_cons_succ]
          refine anyZ_one (i := 2) (by kernel_rfl) rfl (fun K hK => ?_)
          go_simp
          refine Calls.mono (repeat_v wd.heap.size q.n (-1) k15 F0.out (by omega)) ?_
          rintro e k16 ⟨⟨gI, rfl, hir, hge⟩, hb⟩
          have X16 := Lib.hid (And.intro hb (And.intro hir hge))
          clear hb hir hge
          go_wp2_with fail
          have BWn := Lib.hid (BW.out.trans (X16.out.1.mono BW.out.size))
          have F0n := Lib.hid (kept_box F0.out X16.out.1)
          have F6n := Lib.hid (F6.out.below X16.out.1)
          have F4n := Lib.hid (F4.out.below X16.out.1)
          have N26 := Lib.hid (show k1.heap.size ≠ gI from by have h1 := F6.out.lt; have h2 : k15.heap.size ≤ gI := X16.out.2.2; omega)
          have N24 := Lib.hid (show k12.heap.size ≠ gI from by have h1 := F4.out.lt; have h2 : k15.heap.size ≤ gI := X16.out.2.2; omega)
          have L2 := Lib.hid (Nat.le_trans BW.out.size (show k15.heap.size ≤ gI from X16.out.2.2))
          have F2 := Lib.hid (X16.out.2.1)
          replace F0 := F0n
          clear F0n
          replace F6 := F6n
          clear F6n
          replace F4 := F4n
          clear F4n
          replace BW := BWn
          clear BWn
          refine hK.out _ _ (fun _ => trivial) ?_
          clear hK K
          try simp only [Act.put, List.getElem_toArray, List.getElem_cons_zero, List.getElem_cons_succ, List.setIfInBounds_toArray, List.set_cons_zero, List.set_cons_succ]
          refine anyZ_one (i := 7) (by kernel_rfl) rfl (fun K hK => ?_)
          go_simp
          refine hK.out _ _ (fun _ => trivial) ?_
          clear hK K
          try simp only [Act.put, List.getElem_toArray, List.getElem_cons_zero, List.getElem_cons_succ, List.setIfInBounds_toArray, List.set_cons_zero, List.set_cons_succ]
          refine anyZ_one (i := 8) (by kernel_rfl) rfl (fun K hK => ?_)
          obtain ⟨wp, hwp⟩ : ∃ wp, k16.alloc (.cells #[.slice (some ⟨gI, 0, none⟩) q.n q.n, .slice (some ⟨k12.heap.size, 0, none⟩) q.n q.n, .slice (some ⟨k1.heap.size, 0, none⟩) q.n q.n] 88) = wp := ⟨_, rfl⟩
          have mb := m_box k16 _ 88 hwp
          have HP := Lib.hid mb
          clear mb
          go_simp
          try rw [hwp]
          clear hwp
          refine hK.out _ _ (fun _ => trivial) ?_
          clear hK K
          try simp only [Act.put, List.getElem_toArray, List.getElem_cons_zero, List.getElem_cons_succ, List.setIfInBounds_toArray, List.set_cons_zero, List.set_cons_succ]
          refine anyZ_one (i := 9) (by kernel_rfl) rfl (fun K hK => ?_)
          go_simp
          refine hK.out _ _ (fun _ => trivial) ?_
          clear hK K
          try simp only [Act.put, List.getElem_toArray, List.getElem_cons_zero, List.getElem_cons_succ, List.setIfInBounds_toArray, List.set_cons_zero, List.set_cons_succ]
          refine anyZ_done (by kernel_rfl) ?_ _
          go_wp2_with fail
          go_meet
          case rel => exact ⟨_, _, _, _, rfl, Lib.hid (Tm.start BW.out HP.out F2.out F4.out F6.out L2.out L4.out L6.out (by first | exact N24.out | exact N24.out.symm) (by first | exact N26.out | exact N26.out.symm) (by first | exact N46.out | exact N46.out.symm))⟩
    · refine ⟨_, rfl, fun K hK => ?_⟩
      rw [if_pos (by rfl)]
      refine make_wp wd _ _ 37 rfl w.heap.size 3 i0 (.int .i64 0) 1 Try.underlying37 I0.out.1 I0.out.2.1 I0.out.2.2.1 _ _ _ _ q.n rfl rfl rfl rfl (by rw [I0.out.2.2.2]; omega) (by unfold maxLen; omega) BW.out.size ?_
      intro k17 howa hga
      have X17 := Lib.hid (And.intro (grown_below hga) (ir_made (by rw [Nat.mul_one] at howa; exact howa)))
      clear howa hga
      try simp only [Act.put]
      have BWn := Lib.hid (BW.out.trans (X17.out.1.mono BW.out.size))
      have L4 := Lib.hid (Nat.le_trans BW.out.size (show wd.heap.size ≤ wd.heap.size from Nat.le_refl wd.heap.size))
      have F4 := Lib.hid (X17.out.2)
      replace BW := BWn
      clear BWn
      refine hK.out _ _ (fun _ => trivial) ?_
      clear hK K
      try simp only [List.getElem_toArray, List.getElem_cons_zero, List.getElem_cons_succ, List.setIfInBounds_toArray, List.set_cons_zero, List.set_cons_succ]
      refine anyZ_two (i := 0) (j := 6) (by kernel_rfl) ?_ ?_
      · refine ⟨_, rfl, fun K hK => ?_⟩
        obtain ⟨k18, hwn⟩ : ∃ wn, k17.alloc (.cells #[.int .i64 (-1)] 3) = wn := ⟨_, rfl⟩
        have mb := m_box k17 _ 3 hwn
        have X18 := Lib.hid (And.intro mb.1 mb.2)
        clear mb
        go_simp
        try rw [hwn]
        clear hwn
        have BWn := Lib.hid (BW.out.trans (X18.out.1.mono BW.out.size))
        have F4n := Lib.hid (F4.out.below X18.out.1)
        have F0 := Lib.hid ((show k18.heap[k17.heap.size]? = some (.cells #[.int .i64 (-1)] 3 (0, 0)) from X18.out.2))
        replace F4 := F4n
        clear F4n
        replace BW := BWn
        clear BWn
        refine hK.out _ _ (fun _ => trivial) ?_
        clear hK K
        try simp only [Act.put, List.getElem_toArray, List.getElem_cons_zero, List.getElem_cons_succ, List.setIfInBounds_toArray, List.set_cons_zero, List.set_cons_succ]
        refine anyZ_two (i := 2) (j := 6) (by kernel_rfl) ?_ ?_
        · refine ⟨_, rfl, fun K hK => ?_⟩
          go_simp
          refine Calls.mono (repeat_v k17.heap.size q.n (-1) k18 F0.out (by omega)) ?_
          rintro e k19 ⟨⟨gI, rfl, hir, hge⟩, hb⟩
          have X19 := Lib.hid (And.intro hb (And.intro hir hge))
          clear hb hir hge
          go_wp2_with fail
          have BWn := Lib.hid (BW.out.trans (X19.out.1.mono BW.out.size))
          have F4n := Lib.hid (F4.out.below X19.out.1)
          have F0n := Lib.hid (kept_box F0.out X19.out.1)
          have N24 := Lib.hid (show wd.heap.size ≠ gI from by have h1 := F4.out.lt; have h2 : k18.heap.size ≤ gI := X19.out.2.2; omega)
          have L2 := Lib.hid (Nat.le_trans BW.out.size (show k18.heap.size ≤ gI from X19.out.2.2))
          have F2 := Lib.hid (X19.out.2.1)
          replace F4 := F4n
          clear F4n
          replace F0 := F0n
          clear F0n
          replace BW := BWn
          clear BWn
          refine hK.out _ _ (fun _ => trivial) ?_
          clear hK K
          try simp only [Act.put, List.getElem_toArray, List.getElem_cons_zero, List.getElem_cons_succ, List.setIfInBounds_toArray, List.set_cons_zero, List.set_cons_succ]
          refine anyZ_one (i := 6) (by kernel_rfl) rfl (fun K hK => ?_)
          rw [if_pos (by rfl)]
          refine make_wp k19 _ _ 31 rfl w.heap.size 37 i1 (.slice none 0 0) 1 Try.underlying31 I1.out.1 I1.out.2.1 I1.out.2.2.1 _ _ _ _ q.n rfl rfl rfl rfl (by rw [I1.out.2.2.2]; omega) (by unfold maxLen; omega) BW.out.size ?_
          intro k20 howa hga
          have X20 := Lib.hid (And.intro (grown_below hga) (rc_made (by rw [Nat.mul_one] at howa; exact howa)))
          clear howa hga
          try simp only [Act.put]
          have BWn := Lib.hid (BW.out.trans (X20.out.1.mono BW.out.size))
          have F4n := Lib.hid (F4.out.below X20.out.1)
          have F0n := Lib.hid (kept_box F0.out X20.out.1)
          have F2n := Lib.hid (F2.out.below X20.out.1)
          have N46 := Lib.hid (show wd.heap.size ≠ k19.heap.size from by have h1 := F4.out.lt; have h2 : k19.heap.size ≤ k19.heap.size := Nat.le_refl k19.heap.size; omega)
          have N26 := Lib.hid (show gI ≠ k19.heap.size from by have h1 := F2.out.lt; have h2 : k19.heap.size ≤ k19.heap.size := Nat.le_refl k19.heap.size; omega)
          have L6 := Lib.hid (Nat.le_trans BW.out.size (show k19.heap.size ≤ k19.heap.size from Nat.le_refl k19.heap.size))
          have F6 := Lib.hid (X20.out.2)
          replace F4 := F4n
          clear F4n
          replace F0 := F0n
          clear F0n
          replace F2 := F2n
          clear F2n
          replace BW := BWn
          clear BWn
          refine hK.out _ _ (fun _ => trivial) ?_
          clear hK K
          try simp only [List.getElem_toArray, List.getElem_cons_zero, List.getElem_cons_succ, List.setIfInBounds_toArray, List.set_cons_zero, List.set_cons_succ]
          refine anyZ_one (i := 7) (by kernel_rfl) rfl (fun K hK => ?_)
          go_simp
          refine hK.out _ _ (fun _ => trivial) ?_
          clear hK K
          try simp only [Act.put, List.getElem_toArray, List.getElem_cons_zero, List.getElem_cons_succ, List.setIfInBounds_toArray, List.set_cons_zero, List.set_cons_succ]
          refine anyZ_one (i := 8) (by kernel_rfl) rfl (fun K hK => ?_)
          obtain ⟨wp, hwp⟩ : ∃ wp, k20.alloc (.cells #[.slice (some ⟨gI, 0, none⟩) q.n q.n, .slice (some ⟨wd.heap.size, 0, none⟩) q.n q.n, .slice (some ⟨k19.heap.size, 0, none⟩) q.n q.n] 88) = wp := ⟨_, rfl⟩
          have mb := m_box k20 _ 88 hwp
          have HP := Lib.hid mb
          clear mb
          go_simp
          try rw [hwp]
          clear hwp
          refine hK.out _ _ (fun _ => trivial) ?_
          clear hK K
          try simp only [Act.put, List.getElem_toArray, List.getElem_cons_zero, List.getElem_cons_succ, List.setIfInBounds_toArray, List.set_cons_zero, List.set_cons_succ]
          refine anyZ_one (i := 9) (by kernel_rfl) rfl (fun K hK => ?_)
          go_simp
          refine hK.out _ _ (fun _ => trivial) ?_
          clear hK K
          try simp only [Act.put, List.getElem_toArray, List.getElem_cons_zero, List.getElem_cons_succ, List.setIfInBounds_toArray, List.set_cons_zero, List.set_cons_succ]
          refine anyZ_done (by kernel_rfl) ?_ _
          go_wp2_with fail
          go_meet
          case rel => exact ⟨_, _, _, _, rfl, Lib.hid (Tm.start BW.out HP.out F2.out F4.out F6.out L2.out L4.out L6.out (by first | exact N24.out | exact N24.out.symm) (by first | exact N26.out | exact N26.out.symm) (by first | exact N46.out | exact N46.out.symm))⟩
        · refine ⟨_, rfl, fun K hK => ?_⟩
          rw [if_pos (by rfl)]
          refine make_wp k18 _ _ 31 rfl w.heap.size 37 i1 (.slice none 0 0) 1 Try.underlying31 I1.out.1 I1.out.2.1 I1.out.2.2.1 _ _ _ _ q.n rfl rfl rfl rfl (by rw [I1.out.2.2.2]; omega) (by unfold maxLen; omega) BW.out.size ?_
          intro k21 howa hga
          have X21 := Lib.hid (And.intro (grown_below hga) (rc_made (by rw [Nat.mul_one] at howa; exact howa)))
          clear howa hga
          try simp only [Act.put]
          have BWn := Lib.hid (BW.out.trans (X21.out.1.mono BW.out.size))
          have F4n := Lib.hid (F4.out.below X21.out.1)
          have F0n := Lib.hid (kept_box F0.out X21.out.1)
          have N46 := Lib.hid (show wd.heap.size ≠ k18.heap.size from by have h1 := F4.out.lt; have h2 : k18.heap.size ≤ k18.heap.size := Nat.le_refl k18.heap.size; omega)
          have L6 := Lib.hid (Nat.le_trans BW.out.size (show k18.heap.size ≤ k18.heap.size from Nat.le_refl k18.heap.size))
          have F6 := Lib.hid (X21.out.2)
          replace F4 := F4n
          clear F4n
          replace F0 := F0n
          clear F0n
          replace BW := BWn
          clear BWn
          refine hK.out _ _ (fun _ => trivial) ?_
          clear hK K
          try simp only [List.getElem_toArray, List.getElem_cons_zero, List.getElem_cons_succ, List.setIfInBounds_toArray, List.set_cons_zero, List.set_cons_succ]
          refine anyZ_one (i := 2) (by kernel_rfl) rfl (fun K hK => ?_)
          go_simp
          refine Calls.mono (repeat_v k17.heap.size q.n (-1) k21 F0.out (by omega)) ?_
          rintro e k22 ⟨⟨gI, rfl, hir, hge⟩, hb⟩
          have X22 := Lib.hid (And.intro hb (And.intro hir hge))
          clear hb hir hge
          go_wp2_with fail
          have BWn := Lib.hid (BW.out.trans (X22.out.1.mono BW.out.size))
          have F4n := Lib.hid (F4.out.below X22.out.1)
          have F0n := Lib.hid (kept_box F0.out X22.out.1)
          have F6n := Lib.hid (F6.out.below X22.out.1)
          have N24 := Lib.hid (show wd.heap.size ≠ gI from by have h1 := F4.out.lt; have h2 : k21.heap.size ≤ gI := X22.out.2.2; omega)
          have N26 := Lib.hid (show k18.heap.size ≠ gI from by have h1 := F6.out.lt; have h2 : k21.heap.size ≤ gI := X22.out.2.2; omega)
          have L2 := Lib.hid (Nat.le_trans BW.out.size (show k21.heap.size ≤ gI from X22.out.2.2))
          have F2 := Lib.hid (X22.out.2.1)
          replace F4 := F4n
          clear F4n
          replace F0 := F0n
          clear F0n
          replace F6 := F6n
          clear F6n
          replace BW := BWn
          clear BWn
          refine hK.out _ _ (fun _ => trivial) ?_
          clear hK K
          try simp only [Act.put, List.getElem_toArray, List.getElem_cons_zero, List.getElem_cons_succ, List.setIfInBounds_toArray, List.set_cons_zero, List.set_cons_succ]
          refine anyZ_one (i := 7) (by kernel_rfl) rfl (fun K hK => ?_)
          go_simp
          refine hK.out _ _ (fun _ => trivial) ?_
          clear hK K
          try simp only [Act.put, List.getElem_toArray, List.getElem_cons_zero, List.getElem_cons_succ, List.setIfInBounds_toArray, List.set_cons_zero, List.set_cons_succ]
          refine anyZ_one (i := 8) (by kernel_rfl) rfl (fun K hK => ?_)
          obtain ⟨wp, hwp⟩ : ∃ wp, k22.alloc (.cells #[.slice (some ⟨gI, 0, none⟩) q.n q.n, .slice (some ⟨wd.heap.size, 0, none⟩) q.n q.n, .slice (some ⟨k18.heap.size, 0, none⟩) q.n q.n] 88) = wp := ⟨_, rfl⟩
          have mb := m_box k22 _ 88 hwp
          have HP := Lib.hid mb
          clear mb
          go_simp
          try rw [hwp]
          clear hwp
          refine hK.out _ _ (fun _ => trivial) ?_
          clear hK K
          try simp only [Act.put, List.getElem_toArray, List.getElem_cons_zero, List.getElem_cons_succ, List.setIfInBounds_toArray, List.set_cons_zero, List.set_cons_succ]
          refine anyZ_one (i := 9) (by kernel_rfl) rfl (fun K hK => ?_)
          go_simp
          refine hK.out _ _ (fun _ => trivial) ?_
          clear hK K
          try simp only [Act.put, List.getElem_toArray, List.getElem_cons_zero, List.getElem_cons_succ, List.setIfInBounds_toArray, List.set_cons_zero, List.set_cons_succ]
          refine anyZ_done (by kernel_rfl) ?_ _
          go_wp2_with fail
          go_meet
          case rel => exact ⟨_, _, _, _, rfl, Lib.hid (Tm.start BW.out HP.out F2.out F4.out F6.out L2.out L4.out L6.out (by first | exact N24.out | exact N24.out.symm) (by first | exact N26.out | exact N26.out.symm) (by first | exact N46.out | exact N46.out.symm))⟩
      · refine ⟨_, rfl, fun K hK => ?_⟩
        rw [if_pos (by rfl)]
        refine make_wp k17 _ _ 31 rfl w.heap.size 37 i1 (.slice none 0 0) 1 Try.underlying31 I1.out.1 I1.out.2.1 I1.out.2.2.1 _ _ _ _ q.n rfl rfl rfl rfl (by rw [I1.out.2.2.2]; omega) (by unfold maxLen; omega) BW.out.size ?_
        intro k23 howa hga
        have X23 := Lib.hid (And.intro (grown_below hga) (rc_made (by rw [Nat.mul_one] at howa; exact howa)))
        clear howa hga
        try simp only [Act.put]
        have BWn := Lib.hid (BW.out.trans (X23.out.1.mono BW.out.size))
        have F4n := Lib.hid (F4.out.below X23.out.1)
        have N46 := Lib.hid (show wd.heap.size ≠ k17.heap.size from by have h1 := F4.out.lt; have h2 : k17.heap.size ≤ k17.heap.size := Nat.le_refl k17.heap.size; omega)
        have L6 := Lib.hid (Nat.le_trans BW.out.size (show k17.heap.size ≤ k17.heap.size from Nat.le_refl k17.heap.size))
        have F6 := Lib.hid (X23.out.2)
        replace F4 := F4n
        clear F4n
        replace BW := BWn
        clear BWn
        refine hK.out _ _ (fun _ => trivial) ?_
        clear hK K
        try simp only [List.getElem_toArray, List.getElem_cons_zero, List.getElem_cons_succ, List.setIfInBounds_toArray, List.set_cons_zero, List.set_cons_succ]
        refine anyZ_one (i := 0) (by kernel_rfl) rfl (fun K hK => ?_)
        obtain ⟨k24, hwn⟩ : ∃ wn, k23.alloc (.cells #[.int .i64 (-1)] 3) = wn := ⟨_, rfl⟩
        have mb := m_box k23 _ 3 hwn
        have X24 := Lib.hid (And.intro mb.1 mb.2)
        clear mb
        go_simp
        try rw [hwn]
        clear hwn
        have BWn := Lib.hid (BW.out.trans (X24.out.1.mono BW.out.size))
        have F4n := Lib.hid (F4.out.below X24.out.1)
        have F6n := Lib.hid (F6.out.below X24.out.1)
        have F0 := Lib.hid ((show k24.heap[k23.heap.size]? = some (.cells #[.int .i64 (-1)] 3 (0, 0)) from X24.out.2))
        replace F4 := F4n
        clear F4n
        replace F6 := F6n
        clear F6n
        replace BW := BWn
        clear BWn
        refine hK.out _ _ (fun _ => trivial) ?_
        clear hK K
        try simp only [Act.put, List.getElem_toArray, List.getElem_cons_zero, List.getElem_cons_succ, List.setIfInBounds_toArray, List.set_cons_zero, List.set_cons_succ]
        refine anyZ_one (i := 2) (by kernel_rfl) rfl (fun K hK => ?_)
        go_simp
        refine Calls.mono (repeat_v k23.heap.size q.n (-1) k24 F0.out (by omega)) ?_
        rintro e k25 ⟨⟨gI, rfl, hir, hge⟩, hb⟩
        have X25 := Lib.hid (And.intro hb (And.intro hir hge))
        clear hb hir hge
        go_wp2_with fail
        have BWn := Lib.hid (BW.out.trans (X25.out.1.mono BW.out.size))
        have F4n := Lib.hid (F4.out.below X25.out.1)
        have F6n := Lib.hid (F6.out.below X25.out.1)
        have F0n := Lib.hid (kept_box F0.out X25.out.1)
        have N24 := Lib.hid (show wd.heap.size ≠ gI from by have h1 := F4.out.lt; have h2 : k24.heap.size ≤ gI := X25.out.2.2; omega)
        have N26 := Lib.hid (show k17.heap.size ≠ gI from by have h1 := F6.out.lt; have h2 : k24.heap.size ≤ gI := X25.out.2.2; omega)
        have L2 := Lib.hid (Nat.le_trans BW.out.size (show k24.heap.size ≤ gI from X25.out.2.2))
        have F2 := Lib.hid (X25.out.2.1)
        replace F4 := F4n
        clear F4n
        replace F6 := F6n
        clear F6n
        replace F0 := F0n
        clear F0n
        replace BW := BWn
        clear BWn
        refine hK.out _ _ (fun _ => trivial) ?_
        clear hK K
        try simp only [Act.put, List.getElem_toArray, List.getElem_cons_zero, List.getElem_cons_succ, List.setIfInBounds_toArray, List.set_cons_zero, List.set_cons_succ]
        refine anyZ_one (i := 7) (by kernel_rfl) rfl (fun K hK => ?_)
        go_simp
        refine hK.out _ _ (fun _ => trivial) ?_
        clear hK K
        try simp only [Act.put, List.getElem_toArray, List.getElem_cons_zero, List.getElem_cons_succ, List.setIfInBounds_toArray, List.set_cons_zero, List.set_cons_succ]
        refine anyZ_one (i := 8) (by kernel_rfl) rfl (fun K hK => ?_)
        obtain ⟨wp, hwp⟩ : ∃ wp, k25.alloc (.cells #[.slice (some ⟨gI, 0, none⟩) q.n q.n, .slice (some ⟨wd.heap.size, 0, none⟩) q.n q.n, .slice (some ⟨k17.heap.size, 0, none⟩) q.n q.n] 88) = wp := ⟨_, rfl⟩
        have mb := m_box k25 _ 88 hwp
        have HP := Lib.hid mb
        clear mb
        go_simp
        try rw [hwp]
        clear hwp
        refine hK.out _ _ (fun _ => trivial) ?_
        clear hK K
        try simp only [Act.put, List.getElem_toArray, List.getElem_cons_zero, List.getElem_cons_succ, List.setIfInBounds_toArray, List.set_cons_zero, List.set_cons_succ]
        refine anyZ_one (i := 9) (by kernel_rfl) rfl (fun K hK => ?_)
        go_simp
        refine hK.out _ _ (fun _ => trivial) ?_
        clear hK K
        try simp only [Act.put, List.getElem_toArray, List.getElem_cons_zero, List.getElem_cons_succ, List.setIfInBounds_toArray, List.set_cons_zero, List.set_cons_succ]
        refine anyZ_done (by kernel_rfl) ?_ _
        go_wp2_with fail
        go_meet
        case rel => exact ⟨_, _, _, _, rfl, Lib.hid (Tm.start BW.out HP.out F2.out F4.out F6.out L2.out L4.out L6.out (by first | exact N24.out | exact N24.out.symm) (by first | exact N26.out | exact N26.out.symm) (by first | exact N46.out | exact N46.out.symm))⟩
    · refine ⟨_, rfl, fun K hK => ?_⟩
      rw [if_pos (by rfl)]
      refine make_wp wd _ _ 31 rfl w.heap.size 37 i1 (.slice none 0 0) 1 Try.underlying31 I1.out.1 I1.out.2.1 I1.out.2.2.1 _ _ _ _ q.n rfl rfl rfl rfl (by rw [I1.out.2.2.2]; omega) (by unfold maxLen; omega) BW.out.size ?_
      intro k26 howa hga
      have X26 := Lib.hid (And.intro (grown_below hga) (rc_made (by rw [Nat.mul_one] at howa; exact howa)))
      clear howa hga
      try simp only [Act.put]
      have BWn := Lib.hid (BW.out.trans (X26.out.1.mono BW.out.size))
      have L6 := Lib.hid (Nat.le_trans BW.out.size (show wd.heap.size ≤ wd.heap.size from Nat.le_refl wd.heap.size))
      have F6 := Lib.hid (X26.out.2)
      replace BW := BWn
      clear BWn
      refine hK.out _ _ (fun _ => trivial) ?_
      clear hK K
      try simp only [List.getElem_toArray, List.getElem_cons_zero, List.getElem_cons_succ, List.setIfInBounds_toArray, List.set_cons_zero, List.set_cons_succ]
      refine anyZ_two (i := 0) (j := 4) (by kernel_rfl) ?_ ?_
      · refine ⟨_, rfl, fun K hK => ?_⟩
        obtain ⟨k27, hwn⟩ : ∃ wn, k26.alloc (.cells #[.int .i64 (-1)] 3) = wn := ⟨_, rfl⟩
        have mb := m_box k26 _ 3 hwn
        have X27 := Lib.hid (And.intro mb.1 mb.2)
        clear mb
        go_simp
        try rw [hwn]
        clear hwn
        have BWn := Lib.hid (BW.out.trans (X27.out.1.mono BW.out.size))
        have F6n := Lib.hid (F6.out.below X27.out.1)
        have F0 := Lib.hid ((show k27.heap[k26.heap.size]? = some (.cells #[.int .i64 (-1)] 3 (0, 0)) from X27.out.2))
        replace F6 := F6n
        clear F6n
        replace BW := BWn
        clear BWn
        refine hK.out _ _ (fun _ => trivial) ?_
        clear hK K
        try simp only [Act.put, List.getElem_toArray, List.getElem_cons_zero, List.getElem_cons_succ, List.setIfInBounds_toArray, List.set_cons_zero, List.set_cons_succ]
        refine anyZ_two (i := 2) (j := 4) (by kernel_rfl) ?_ ?_
        · refine ⟨_, rfl, fun K hK => ?_⟩
          go_simp
          refine Calls.mono (repeat_v k26.heap.size q.n (-1) k27 F0.out (by omega)) ?_
          rintro e k28 ⟨⟨gI, rfl, hir, hge⟩, hb⟩
          have X28 := Lib.hid (And.intro hb (And.intro hir hge))
          clear hb hir hge
          go_wp2_with fail
          have BWn := Lib.hid (BW.out.trans (X28.out.1.mono BW.out.size))
          have F6n := Lib.hid (F6.out.below X28.out.1)
          have F0n := Lib.hid (kept_box F0.out X28.out.1)
          have N26 := Lib.hid (show wd.heap.size ≠ gI from by have h1 := F6.out.lt; have h2 : k27.heap.size ≤ gI := X28.out.2.2; omega)
          have L2 := Lib.hid (Nat.le_trans BW.out.size (show k27.heap.size ≤ gI from X28.out.2.2))
          have F2 := Lib.hid (X28.out.2.1)
          replace F6 := F6n
          clear F6n
          replace F0 := F0n
          clear F0n
          replace BW := BWn
          clear BWn
          refine hK.out _ _ (fun _ => trivial) ?_
          clear hK K
          try simp only [Act.put, List.getElem_toArray, List.getElem_cons_zero, List.getElem_cons_succ, List.setIfInBounds_toArray, List.set_cons_zero, List.set_cons_succ]
          refine anyZ_one (i := 4) (by kernel_rfl) rfl (fun K hK => ?_)
          rw [if_pos (by rfl)]
          refine make_wp k28 _ _ 37 rfl w.heap.size 3 i0 (.int .i64 0) 1 Try.underlying37 I0.out.1 I0.out.2.1 I0.out.2.2.1 _ _ _ _ q.n rfl rfl rfl rfl (by rw [I0.out.2.2.2]; omega) (by unfold maxLen; omega) BW.out.size ?_
          intro k29 howa hga
          have X29 := Lib.hid (And.intro (grown_below hga) (ir_made (by rw [Nat.mul_one] at howa; exact howa)))
          clear howa hga
          try simp only [Act.put]
          have BWn := Lib.hid (BW.out.trans (X29.out.1.mono BW.out.size))
          have F6n := Lib.hid (F6.out.below X29.out.1)
          have F0n := Lib.hid (kept_box F0.out X29.out.1)
          have F2n := Lib.hid (F2.out.below X29.out.1)
          have N46 := Lib.hid (show wd.heap.size ≠ k28.heap.size from by have h1 := F6.out.lt; have h2 : k28.heap.size ≤ k28.heap.size := Nat.le_refl k28.heap.size; omega)
          have N24 := Lib.hid (show gI ≠ k28.heap.size from by have h1 := F2.out.lt; have h2 : k28.heap.size ≤ k28.heap.size := Nat.le_refl k28.heap.size; omega)
          have L4 := Lib.hid (Nat.le_trans BW.out.size (show k28.heap.size ≤ k28.heap.size from Nat.le_refl k28.heap.size))
          have F4 := Lib.hid (X29.out.2)
          replace F6 := F6n
          clear F6n
          replace F0 := F0n
          clear F0n
          replace F2 := F2n
          clear F2n
          replace BW := BWn
          clear BWn
          refine hK.out _ _ (fun _ => trivial) ?_
          clear hK K
          try simp only [List.getElem_toArray, List.getElem_cons_zero, List.getElem_cons_succ, List.setIfInBounds_toArray, List.set_cons_zero, List.set_cons_succ]
          refine anyZ_one (i := 7) (by kernel_rfl) rfl (fun K hK => ?_)
          go_simp
          refine hK.out _ _ (fun _ => trivial) ?_
          clear hK K
          try simp only [Act.put, List.getElem_toArray, List.getElem_cons_zero, List.getElem_cons_succ, List.setIfInBounds_toArray, List.set_cons_zero, List.set_cons_succ]
          refine anyZ_one (i := 8) (by kernel_rfl) rfl (fun K hK => ?_)
          obtain ⟨wp, hwp⟩ : ∃ wp, k29.alloc (.cells #[.slice (some ⟨gI, 0, none⟩) q.n q.n, .slice (some ⟨k28.heap.size, 0, none⟩) q.n q.n, .slice (some ⟨wd.heap.size, 0, none⟩) q.n q.n] 88) = wp := ⟨_, rfl⟩
          have mb := m_box k29 _ 88 hwp
          have HP := Lib.hid mb
          clear mb
          go_simp
          try rw [hwp]
          clear hwp
          refine hK.out _ _ (fun _ => trivial) ?_
          clear hK K
          try simp only [Act.put, List.getElem_toArray, List.getElem_cons_zero, List.getElem_cons_succ, List.setIfInBounds_toArray, List.set_cons_zero, List.set_cons_succ]
          refine anyZ_one (i := 9) (by kernel_rfl) rfl (fun K hK => ?_)
          go_simp
          refine hK.out _ _ (fun _ => trivial) ?_
          clear hK K
          try simp only [Act.put, List.getElem_toArray, List.getElem_cons_zero, List.getElem_cons_succ, List.setIfInBounds_toArray, List.set_cons_zero, List.set_cons_succ]
          refine anyZ_done (by kernel_rfl) ?_ _
          go_wp2_with fail
          go_meet
          case rel => exact ⟨_, _, _, _, rfl, Lib.hid (Tm.start BW.out HP.out F2.out F4.out F6.out L2.out L4.out L6.out (by first | exact N24.out | exact N24.out.symm) (by first | exact N26.out | exact N26.out.symm) (by first | exact N46.out | exact N46.out.symm))⟩
        · refine ⟨_, rfl, fun K hK => ?_⟩
          rw [if_pos (by rfl)]
          refine make_wp k27 _ _ 37 rfl w.heap.size 3 i0 (.int .i64 0) 1 Try.underlying37 I0.out.1 I0.out.2.1 I0.out.2.2.1 _ _ _ _ q.n rfl rfl rfl rfl (by rw [I0.out.2.2.2]; omega) (by unfold maxLen; omega) BW.out.size ?_
          intro k30 howa hga
          have X30 := Lib.hid (And.intro (grown_below hga) (ir_made (by rw [Nat.mul_one] at howa; exact howa)))
          clear howa hga
          try simp only [Act.put]
          have BWn := Lib.hid (BW.out.trans (X30.out.1.mono BW.out.size))
          have F6n := Lib.hid (F6.out.below X30.out.1)
          have F0n := Lib.hid (kept_box F0.out X30.out.1)
          have N46 := Lib.hid (show wd.heap.size ≠ k27.heap.size from by have h1 := F6.out.lt; have h2 : k27.heap.size ≤ k27.heap.size := Nat.le_refl k27.heap.size; omega)
          have L4 := Lib.hid (Nat.le_trans BW.out.size (show k27.heap.size ≤ k27.heap.size from Nat.le_refl k27.heap.size))
          have F4 := Lib.hid (X30.out.2)
          replace F6 := F6n
          clear F6n
          replace F0 := F0n
          clear F0n
          replace BW := BWn
          clear BWn
          refine hK.out _ _ (fun _ => trivial) ?_
          clear hK K
          try simp only [List.getElem_toArray, List.getElem_cons_zero, List.getElem_cons_succ, List.setIfInBounds_toArray, List.set_cons_zero, List.set_cons_succ]
          refine anyZ_one (i := 2) (by kernel_rfl) rfl (fun K hK => ?_)
          go_simp
          refine Calls.mono (repeat_v k26.heap.size q.n (-1) k30 F0.out (by omega)) ?_
          rintro e k31 ⟨⟨gI, rfl, hir, hge⟩, hb⟩
          have X31 := Lib.hid (And.intro hb (And.intro hir hge))
          clear hb hir hge
          go_wp2_with fail
          have BWn := Lib.hid (BW.out.trans (X31.out.1.mono BW.out.size))
          have F6n := Lib.hid (F6.out.below X31.out.1)
          have F0n := Lib.hid (kept_box F0.out X31.out.1)
          have F4n := Lib.hid (F4.out.below X31.out.1)
          have N26 := Lib.hid (show wd.heap.size ≠ gI from by have h1 := F6.out.lt; have h2 : k30.heap.size ≤ gI := X31.out.2.2; omega)
          have N24 := Lib.hid (show k27.heap.size ≠ gI from by have h1 := F4.out.lt; have h2 : k30.heap.size ≤ gI := X31.out.2.2; omega)
          have L2 := Lib.hid (Nat.le_trans BW.out.size (show k30.heap.size ≤ gI from X31.out.2.2))
          have F2 := Lib.hid (X31.out.2.1)
          replace F6 := F6n
          clear F6n
          replace F0 := F0n
          clear F0n
          replace F4 := F4n
          clear F4n
          replace BW := BWn
          clear BWn
          refine hK.out _ _ (fun _ => trivial) ?_
          clear hK K
          try simp only [Act.put, List.getElem_toArray, List.getElem_cons_zero, List.getElem_cons_succ, List.setIfInBounds_toArray, List.set_cons_zero, List.set_cons_succ]
          refine anyZ_one (i := 7) (by kernel_rfl) rfl (fun K hK => ?_)
          go_simp
          refine hK.out _ _ (fun _ => trivial) ?_
          clear hK K
          try simp only [Act.put, List.getElem_toArray, List.getElem_cons_zero, List.getElem_cons_succ, List.setIfInBounds_toArray, List.set_cons_zero, List.set_cons_succ]
          refine anyZ_one (i := 8) (by kernel_rfl) rfl (fun K hK => ?_)
          obtain ⟨wp, hwp⟩ : ∃ wp, k31.alloc (.cells #[.slice (some ⟨gI, 0, none⟩) q.n q.n, .slice (some ⟨k27.heap.size, 0, none⟩) q.n q.n, .slice (some ⟨wd.heap.size, 0, none⟩) q.n q.n] 88) = wp := ⟨_, rfl⟩
          have mb := m_box k31 _ 88 hwp
          have HP := Lib.hid mb
          clear mb
          go_simp
          try rw [hwp]
          clear hwp
          refine hK.out _ _ (fun _ => trivial) ?_
          clear hK K
          try simp only [Act.put, List.getElem_toArray, List.getElem_cons_zero, List.getElem_cons_succ, List.setIfInBounds_toArray, List.set_cons_zero, List.set_cons_succ]
          refine anyZ_one (i := 9) (by kernel_rfl) rfl (fun K hK => ?_)
          go_simp
          refine hK.out _ _ (fun _ => trivial) ?_
          clear hK K
          try simp only [Act.put, List.getElem_toArray, List.getElem_cons_zero, List.getElem_cons_succ, List.setIfInBounds_toArray, List.set_cons_zero, List.set_cons_succ]
          refine anyZ_done (by kernel_rfl) ?_ _
          go_wp2_with fail
          go_meet
          case rel => exact ⟨_, _, _, _, rfl, Lib.hid (Tm.start BW.out HP.out F2.out F4.out F6.out L2.out L4.out L6.out (by first | exact N24.out | exact N24.out.symm) (by first | exact N26.out | exact N26.out.symm) (by first | exact N46.out | exact N46.out.symm))⟩
      · refine ⟨_, rfl, fun K hK => ?_⟩
        rw [if_pos (by rfl)]
        refine make_wp k26 _ _ 37 rfl w.heap.size 3 i0 (.int .i64 0) 1 Try.underlying37 I0.out.1 I0.out.2.1 I0.out.2.2.1 _ _ _ _ q.n rfl rfl rfl rfl (by rw [I0.out.2.2.2]; omega) (by unfold maxLen; omega) BW.out.size ?_
        intro k32 howa hga
        have X32 := Lib.hid (And.intro (grown_below hga) (ir_made (by rw [Nat.mul_one] at howa; exact howa)))
        clear howa hga
        try simp only [Act.put]
        have BWn := Lib.hid (BW.out.trans (X32.out.1.mono BW.out.size))
        have F6n := Lib.hid (F6.out.below X32.out.1)
        have N46 := Lib.hid (show wd.heap.size ≠ k26.heap.size from by have h1 := F6.out.lt; have h2 : k26.heap.size ≤ k26.heap.size := Nat.le_refl k26.heap.size; omega)
        have L4 := Lib.hid (Nat.le_trans BW.out.size (show k26.heap.size ≤ k26.heap.size from Nat.le_refl k26.heap.size))
        have F4 := Lib.hid (X32.out.2)
        replace F6 := F6n
        clear F6n
        replace BW := BWn
        clear BWn
        refine hK.out _ _ (fun _ => trivial) ?_
        clear hK K
        try simp only [List.getElem_toArray, List.getElem_cons_zero, List.getElem_cons_succ, List.setIfInBounds_toArray, List.set_cons_zero, List.set_cons_succ]
        refine anyZ_one (i := 0) (by kernel_rfl) rfl (fun K hK => ?_)
        obtain ⟨k33, hwn⟩ : ∃ wn, k32.alloc (.cells #[.int .i64 (-1)] 3) = wn := ⟨_, rfl⟩
        have mb := m_box k32 _ 3 hwn
        have X33 := Lib.hid (And.intro mb.1 mb.2)
        clear mb
        go_simp
        try rw [hwn]
        clear hwn
        have BWn := Lib.hid (BW.out.trans (X33.out.1.mono BW.out.size))
        have F6n := Lib.hid (F6.out.below X33.out.1)
        have F4n := Lib.hid (F4.out.below X33.out.1)
        have F0 := Lib.hid ((show k33.heap[k32.heap.size]? = some (.cells #[.int .i64 (-1)] 3 (0, 0)) from X33.out.2))
        replace F6 := F6n
        clear F6n
        replace F4 := F4n
        clear F4n
        replace BW := BWn
        clear BWn
        refine hK.out _ _ (fun _ => trivial) ?_
        clear hK K
        try simp only [Act.put, List.getElem_toArray, List.getElem_cons_zero, List.getElem_cons_succ, List.setIfInBounds_toArray, List.set_cons_zero, List.set_cons_succ]
        refine anyZ_one (i := 2) (by kernel_rfl) rfl (fun K hK => ?_)
        go_simp
        refine Calls.mono (repeat_v k32.heap.size q.n (-1) k33 F0.out (by omega)) ?_
        rintro e k34 ⟨⟨gI, rfl, hir, hge⟩, hb⟩
        have X34 := Lib.hid (And.intro hb (And.intro hir hge))
        clear hb hir hge
        go_wp2_with fail
        have BWn := Lib.hid (BW.out.trans (X34.out.1.mono BW.out.size))
        have F6n := Lib.hid (F6.out.below X34.out.1)
        have F4n := Lib.hid (F4.out.below X34.out.1)
        have F0n := Lib.hid (kept_box F0.out X34.out.1)
        have N26 := Lib.hid (show wd.heap.size ≠ gI from by have h1 := F6.out.lt; have h2 : k33.heap.size ≤ gI := X34.out.2.2; omega)
        have N24 := Lib.hid (show k26.heap.size ≠ gI from by have h1 := F4.out.lt; have h2 : k33.heap.size ≤ gI := X34.out.2.2; omega)
        have L2 := Lib.hid (Nat.le_trans BW.out.size (show k33.heap.size ≤ gI from X34.out.2.2))
        have F2 := Lib.hid (X34.out.2.1)
        replace F6 := F6n
        clear F6n
        replace F4 := F4n
        clear F4n
        replace F0 := F0n
        clear F0n
        replace BW := BWn
        clear BWn
        refine hK.out _ _ (fun _ => trivial) ?_
        clear hK K
        try simp only [Act.put, List.getElem_toArray, List.getElem_cons_zero, List.getElem_cons_succ, List.setIfInBounds_toArray, List.set_cons_zero, List.set_cons_succ]
        refine anyZ_one (i := 7) (by kernel_rfl) rfl (fun K hK => ?_)
        go_simp
        refine hK.out _ _ (fun _ => trivial) ?_
        clear hK K
        try simp only [Act.put, List.getElem_toArray, List.getElem_cons_zero, List.getElem_cons_succ, List.setIfInBounds_toArray, List.set_cons_zero, List.set_cons_succ]
        refine anyZ_one (i := 8) (by kernel_rfl) rfl (fun K hK => ?_)
        obtain ⟨wp, hwp⟩ : ∃ wp, k34.alloc (.cells #[.slice (some ⟨gI, 0, none⟩) q.n q.n, .slice (some ⟨k26.heap.size, 0, none⟩) q.n q.n, .slice (some ⟨wd.heap.size, 0, none⟩) q.n q.n] 88) = wp := ⟨_, rfl⟩
        have mb := m_box k34 _ 88 hwp
        have HP := Lib.hid mb
        clear mb
        go_simp
        try rw [hwp]
        clear hwp
        refine hK.out _ _ (fun _ => trivial) ?_
        clear hK K
        try simp only [Act.put, List.getElem_toArray, List.getElem_cons_zero, List.getElem_cons_succ, List.setIfInBounds_toArray, List.set_cons_zero, List.set_cons_succ]
        refine anyZ_one (i := 9) (by kernel_rfl) rfl (fun K hK => ?_)
        go_simp
        refine hK.out _ _ (fun _ => trivial) ?_
        clear hK K
        try simp only [Act.put, List.getElem_toArray, List.getElem_cons_zero, List.getElem_cons_succ, List.setIfInBounds_toArray, List.set_cons_zero, List.set_cons_succ]
        refine anyZ_done (by kernel_rfl) ?_ _
        go_wp2_with fail
        go_meet
        case rel => exact ⟨_, _, _, _, rfl, Lib.hid (Tm.start BW.out HP.out F2.out F4.out F6.out L2.out L4.out L6.out (by first | exact N24.out | exact N24.out.symm) (by first | exact N26.out | exact N26.out.symm) (by first | exact N46.out | exact N46.out.symm))⟩
  obtain ⟨pT, gI, gD, gK, rfl, HT⟩ := hcut
  obtain ⟨R, hR⟩ := isLeft_ex H.out.2.1
  have hO := isO H.out.2.1 hR
  have HO := Lib.hid (gorder_v P q s (prs s) R wc (H.out.1.below HT.out.bel) H.out.2.1 hn hR)
  obtain ⟨O, hRO⟩ : ∃ O, R.reverse = O := ⟨_, rfl⟩
  rw [hRO] at hO HO
  have HIs := Lib.hid hO
  have hRl : R.length = O.length := by rw [← hRO, List.length_reverse]
  rw [hRl] at HO
  have HTg := Lib.hid (show (tg s O).length = O.length ∧ Ok (tg s O) ∧ ∀ t, 0 < t → t < O.length → ∃ i, i < t ∧ t ∈ nx (tg s O) i from ⟨tg_len s O, hO.ok, fun t h0 ht => hO.ahead h0 ht⟩)
  clear hR hO hRO hRl
  go_wp2_with fail
  refine HO.out.mono ?_
  rintro e w2 ⟨⟨B, m, d, rfl, hl, ho, hmq⟩, hb⟩
  have hin : IsInts w2 B m (nn O) := by
    have h1 := ho.ints
    rw [nn_len, hl] at h1
    exact h1
  have HOd := Lib.hid (Od.make ho hl HT.out.ii.lt HT.out.id.lt)
  have H2 := Lib.hid (show IsInts w2 B m (nn O) ∧ O.length = m ∧ Tm w w2 pT gI gD gK q.n (fun _ => -1) (fun _ => 0) (fun _ => ⟨none, 0, 0, []⟩) from ⟨hin, hl, HT.out.below hb⟩)
  clear ho hb hin hl
  have HJ := Lib.hid (joined_v P q s (prs s) O B m d w2 (H.out.1.below H2.out.2.2.bel) H.out.2.1 HIs.out hn H.out.2.2.1 H2.out.1)
  go_wp2_with fail
  refine HJ.out.mono ?_
  rintro e w3 ⟨⟨gF, rfl, hgr⟩, hb⟩
  have HOd3 := Lib.hid (HOd.out.below hb)
  have H3 := Lib.hid (show IsGr w3 (some ⟨gF, 0, none⟩) m (prs (tg s O)) ∧ IsInts w3 B m (nn O) ∧ Tm w w3 pT gI gD gK q.n (fun _ => -1) (fun _ => 0) (fun _ => ⟨none, 0, 0, []⟩) from ⟨hgr, H2.out.1.below hb, H2.out.2.2.below hb⟩)
  clear hgr hb
  have HNr := Lib.hid (nearest_v (tg s O) m m (some ⟨gF, 0, none⟩) w3 H3.out.1 (by rw [HTg.out.1]; exact H2.out.2.1) HTg.out.2.1 (by omega) (by rw [← H2.out.2.1]; exact HTg.out.2.2))
  go_wp2_with fail
  refine HNr.out.mono ?_
  rintro e w4 ⟨⟨gO, rfl, ov, hir, hdi, hchk, hge⟩, hb⟩
  have HOd4 := Lib.hid (HOd3.out.below hb)
  have hTl : (tg s O).length = m := by rw [HTg.out.1]; exact H2.out.2.1
  have HDO := Lib.hid (show 0 < s.length → DO s O ov from fun h0 => ⟨H.out.2.1, h0, HIs.out, by rw [H2.out.2.1]; exact hdi.fall, fun a b => by
    rw [HIs.out.dom h0]
    constructor
    · rintro ⟨h1, h2, h3⟩
      exact ⟨h1, h2, (hdi.final hTl HTg.out.2.1 (fun t o h4 h5 h6 => hchk t o h4 h5 h6) (by have := pl_lt h2; rw [H2.out.2.1] at this; exact this)).2 h3⟩
    · rintro ⟨h1, h2, h3⟩
      exact ⟨h1, h2, (hdi.final hTl HTg.out.2.1 (fun t o h4 h5 h6 => hchk t o h4 h5 h6) (by have := pl_lt h2; rw [H2.out.2.1] at this; exact this)).1 h3⟩⟩)
  have H4 := Lib.hid (show Ir w4 gO m (ovI ov) ∧ IsInts w4 B m (nn O) ∧ Tm w w4 pT gI gD gK q.n (fun _ => -1) (fun _ => 0) (fun _ => ⟨none, 0, 0, []⟩) from ⟨hir, H3.out.2.1.below hb, H3.out.2.2.below hb⟩)
  have hap : gO ≠ gI ∧ gO ≠ gD := by
    have h1 := H3.out.2.2.ii.lt
    have h2 := H3.out.2.2.id.lt
    omega
  have HAp := Lib.hid hap
  have HF := Lib.hid hdi.fall
  have hmx : m ≤ 300 := by omega
  clear hir hdi hchk hb hTl hap hge
  go_wp2_with fail
  go_loopg [29] m (fun gk s29 wr => ∃ k : Nat, k + gk = m ∧ s29 = .int .i64 (k : Int) ∧ Hid (Tm w wr pT gI gD gK q.n (idA O ov k) (dpA s O k) (fun _ => ⟨none, 0, 0, []⟩) ∧ Od wr B m gI gD O ∧ Ir wr gO m (ovI ov)))
  case atStart => exact ⟨0, by omega, rfl, Lib.hid ⟨H4.out.2.2.congr (fun k hk => by unfold idA; rw [if_neg (by simp)]) (fun k hk => by unfold dpA; rw [if_neg (by simp)]), HOd4.out, H4.out.1⟩⟩
  case round =>
    obtain ⟨k, hk, rfl, HK⟩ := hrel
    by_cases hkm : k < m
    · have t1 : (k : Int) < (m : Int) := by omega
      obtain ⟨gB, hB, hB1, hB2, -, b, hb, cb⟩ := HK.out.2.1 k hkm
      subst hB
      have hs0 : 0 < s.length := by
        have := (HIs.out.mem b).1 (List.mem_of_getElem? hb)
        have := this.lt H.out.2.1
        omega
      have HD := Lib.hid (HDO.out hs0)
      have hbn : b < q.n := by
        rw [← H.out.2.2.2]
        exact HD.out.lt (List.mem_of_getElem? hb)
      have t2 : (b : Int) < (q.n : Int) := by omega
      have cov := HK.out.2.2.cell k hkm
      have b0 := cell_i HK.out.1.box 0
      have b1 := cell_i HK.out.1.box 1
      have cd := HK.out.1.id.cell b hbn
      have fd := HK.out.1.id.free b
      obtain ⟨w5, hw5⟩ : ∃ w5, wr.setCell ⟨gD, b, none⟩ (.int .i64 1) = w5 := ⟨_, rfl⟩
      have H5 := Lib.hid (show Tm w w5 pT gI gD gK q.n (idA O ov k) (upd (dpA s O k) b 1) (fun _ => ⟨none, 0, 0, []⟩) ∧ Od w5 (some ⟨gB, 0, none⟩) m gI gD O ∧ Ir w5 gO m (ovI ov) from hw5 ▸ ⟨HK.out.1.putD hbn 1, HK.out.2.1.put (.inr rfl) _, HK.out.2.2.other (fun e => HAp.out.2 e.symm) _⟩)
      have Hb := Lib.hid hb
      by_cases hk0 : k = 0
      · subst hk0
        have hov : ovI ov 0 = -1 := rfl
        rw [hov] at cov
        have HN := Lib.hid (show Tm w w5 pT gI gD gK q.n (idA O ov (0 + 1)) (dpA s O (0 + 1)) (fun _ => ⟨none, 0, 0, []⟩) from by
          have h1 := H5.out.1
          rw [dpA_next (x := 1) Hb.out (by rw [HD.out.depth0 Hb.out]; rfl)] at h1
          refine h1.congr (fun x hx => ?_) (fun _ _ => rfl)
          have h2 := idA_next (ov := ov) Hb.out (x := -1) (by unfold idO; rw [if_neg (by rw [pl_at HIs.out.nd Hb.out]; omega)])
          rw [← h2]
          unfold upd
          by_cases e : x = b
          · rw [if_pos e]; unfold idA; rw [if_neg (by simp)]
          · rw [if_neg e])
        clear hb
        go_wp2_with fail
        try rw [hw5]
        clear hw5 cov b0 b1 cd fd cb
        go_roundg (m - 1)
        case measure => omega
        case rel => exact ⟨0 + 1, by omega, by go_num, Lib.hid ⟨HN.out, H5.out.2⟩⟩
      · have hlt := HF.out k (by omega) hkm
        obtain ⟨oc, hoc⟩ : ∃ oc, ov k = oc := ⟨_, rfl⟩
        rw [ovI_pos (by omega), hoc] at cov
        rw [hoc] at hlt
        have u1 : ((oc : Int) != -1) = true := by simp <;> omega
        go_upto_region 10 with fail
        try rw [hw5]
        clear hw5 cov b0 b1 cd fd cb
        obtain ⟨gB', hB', -, -, -, cB, hcB, cc⟩ := H5.out.2.1 oc (by omega)
        injection hB' with hB'
        injection hB' with hB' _
        subst hB'
        have hcn : cB < q.n := by
          rw [← H.out.2.2.2]
          exact HD.out.lt (List.mem_of_getElem? hcB)
        have u2 : (oc : Int) < (m : Int) := by omega
        have u3 : (cB : Int) < (q.n : Int) := by omega
        have b0 := cell_i H5.out.1.box 0
        have ci := H5.out.1.ii.cell b hbn
        have fi := H5.out.1.ii.free b
        obtain ⟨w6, hw6⟩ : ∃ w6, (w5.setCell ⟨gI, b, none⟩ (.int .i64 ((cB : Nat) : Int))).drew = w6 := ⟨_, rfl⟩
        have H6 := Lib.hid (show Tm w w6 pT gI gD gK q.n (idA O ov (k + 1)) (upd (dpA s O k) b 1) (fun _ => ⟨none, 0, 0, []⟩) ∧ Od w6 (some ⟨gB, 0, none⟩) m gI gD O ∧ Ir w6 gO m (ovI ov) from by
          have h1 := H5.out.1.putI hbn ((cB : Nat) : Int)
          have h2 := H5.out.2.1.put (o := b) (.inl rfl) (.int .i64 ((cB : Nat) : Int))
          have h3 := H5.out.2.2.other (b := gI) (o := b) (fun e => HAp.out.1 e.symm) (.int .i64 ((cB : Nat) : Int))
          rw [idA_next Hb.out (by
            unfold idO
            rw [if_pos ⟨List.mem_of_getElem? Hb.out, by rw [pl_at HIs.out.nd Hb.out]; omega⟩, pl_at HIs.out.nd Hb.out, hoc, List.getD_eq_getElem?_getD, hcB]
            rfl)] at h1
          rw [← hw6]
          exact ⟨h1.below ((Below.refl _ _).drew), h2.below ((Below.refl _ _).drew), h3.below ((Below.refl _ _).drew)⟩)
        have HcB := Lib.hid hcB
        clear hcB hb
        go_still_tail 10, (by kernel_rfl)
        go_upto_region 11 with fail
        try rw [hw6]
        clear hw6 b0 ci fi cc
        obtain ⟨gB', hB', -, -, -, cB', hcB', cc⟩ := H6.out.2.1 oc (by omega)
        injection hB' with hB'
        injection hB' with hB' _
        subst hB'
        have hcc : cB' = cB := by rw [HcB.out] at hcB'; injection hcB' with h; exact h.symm
        subst hcc
        have hcb : cB' ≠ b := fun e => by
          subst e
          have h1 := pl_at HIs.out.nd HcB.out
          have h2 := pl_at HIs.out.nd Hb.out
          omega
        have b1 := cell_i H6.out.1.box 1
        have cd := H6.out.1.id.cell b hbn
        rw [upd_same] at cd
        have cd2 := H6.out.1.id.cell cB' hcn
        obtain ⟨nc, hnc⟩ : ∃ nc, cntB s cB' = nc := ⟨_, rfl⟩
        rw [upd_else _ _ hcb, show dpA s O k cB' = ((nc : Nat) : Int) from by unfold dpA; rw [if_pos (List.mem_take_iff_getElem.2 ⟨oc, by have := (List.getElem?_eq_some_iff.1 HcB.out).1; omega, (List.getElem?_eq_some_iff.1 HcB.out).2⟩), hnc]] at cd2
        have hnc3 : nc ≤ 300 := by
          rw [← hnc]
          unfold cntB
          have := List.length_filter_le (fun a => isB s a cB') (List.range s.length)
          rw [List.length_range] at this
          have := H.out.2.2.2
          omega
        have fd := H6.out.1.id.free b
        have hcnt : ((cntB s b : Nat) : Int) = 1 + ((nc : Nat) : Int) := by
          rw [HD.out.depth (by omega) Hb.out, hoc, List.getD_eq_getElem?_getD, HcB.out]
          show ((1 + cntB s cB' : Nat) : Int) = _
          rw [hnc]
          omega
        have HCn := Lib.hid hcnt
        have u5 : IntKind.i64.wrap (1 + ((nc : Nat) : Int)) = 1 + ((nc : Nat) : Int) := by rw [IntKind.wrap_i64]; omega
        obtain ⟨w7, hw7⟩ : ∃ w7, (w6.setCell ⟨gD, b, none⟩ (.int .i64 (1 + ((nc : Nat) : Int)))).drew = w7 := ⟨_, rfl⟩
        have H7 := Lib.hid (show Tm w w7 pT gI gD gK q.n (idA O ov (k + 1)) (dpA s O (k + 1)) (fun _ => ⟨none, 0, 0, []⟩) ∧ Od w7 (some ⟨gB, 0, none⟩) m gI gD O ∧ Ir w7 gO m (ovI ov) from by
          have h1 := H6.out.1.putD hbn (1 + ((nc : Nat) : Int))
          have h2 := H6.out.2.1.put (o := b) (.inr rfl) (.int .i64 (1 + ((nc : Nat) : Int)))
          have h3 := H6.out.2.2.other (b := gD) (o := b) (fun e => HAp.out.2 e.symm) (.int .i64 (1 + ((nc : Nat) : Int)))
          rw [upd_upd, dpA_next Hb.out HCn.out] at h1
          rw [← hw7]
          exact ⟨h1.below ((Below.refl _ _).drew), h2.below ((Below.refl _ _).drew), h3.below ((Below.refl _ _).drew)⟩)
        clear hnc hcB' hcnt hcb
        go_still_tail 19, (by kernel_rfl)
        go_wp2_with fail
        try rw [hw7]
        clear hw7 b1 cd cd2 fd cc
        go_roundg (m - k - 1)
        case measure => omega
        case rel => exact ⟨k + 1, by omega, by go_num, H7⟩
    · obtain rfl : k = m := by omega
      have t1 : ¬ (k : Int) < (k : Int) := by omega
      have HFin := Lib.hid (show Tm w wr pT gI gD gK q.n (idB s) (fun b => ((cntB s b : Nat) : Int)) (fun _ => ⟨none, 0, 0, []⟩) from
        HK.out.1.congr (fun x hx => by
          have hs0 : 0 < s.length := by rw [H.out.2.2.2]; omega
          rw [(HDO.out hs0).idom x]
          unfold idA
          rw [List.take_of_length_le (Nat.le_of_eq H2.out.2.1)]
          by_cases e : x ∈ O
          · rw [if_pos e]
          · rw [if_neg e]; unfold idO; rw [if_neg (fun q => e q.1)]) (fun x hx => by
          have hs0 : 0 < s.length := by rw [H.out.2.2.2]; omega
          unfold dpA
          rw [List.take_of_length_le (Nat.le_of_eq H2.out.2.1)]
          by_cases e : x ∈ O
          · rw [if_pos e]
          · rw [if_neg e, (HDO.out hs0).cnt_no e]; rfl))
      have b0 := cell_i HFin.out.box 0
      go_wp2_with fail
      clear b0
      go_loopg [81] q.n (fun gk s81 wr => ∃ (z : Nat) (v : Nat → Il), z + gk = q.n ∧ s81 = .int .i64 (z : Int) ∧ Hid (Tm w wr pT gI gD gK q.n (idB s) (fun b => ((cntB s b : Nat) : Int)) v ∧ ∀ b, b < q.n → (v b).l = (List.range z).filter fun y => decide (idB s y = (b : Int))))
      case atStart => exact ⟨0, _, by omega, rfl, Lib.hid ⟨HFin.out, fun _ _ => rfl⟩⟩
      case round =>
        obtain ⟨z, v, hz, rfl, HZ⟩ := hrel
        by_cases hzn : z < q.n
        · have u1 : (z : Int) < (q.n : Int) := by omega
          have ci := HZ.out.1.ii.cell z hzn
          have hs0 : 0 < s.length := by rw [H.out.2.2.2]; omega
          have hid := (HDO.out hs0).idom z
          by_cases hneg : z ∈ O ∧ 0 < pl O z
          · obtain ⟨cB, hcB⟩ : ∃ cB, O.getD (ov (pl O z)) 0 = cB := ⟨_, rfl⟩
            have hidc : idB s z = ((cB : Nat) : Int) := by rw [hid]; unfold idO; rw [if_pos hneg, hcB]
            have hcn : cB < q.n := by
              have h1 := pl_lt hneg.1
              have h2 := HF.out _ hneg.2 (by rw [← H2.out.2.1]; exact h1)
              rw [← H.out.2.2.2]
              refine (HDO.out hs0).lt (b := cB) ?_
              rw [← hcB, List.getD_eq_getElem?_getD, List.getElem?_eq_getElem (by omega)]
              exact List.getElem_mem _
            have HId := Lib.hid hidc
            rw [hidc] at ci
            have u2 : ((cB : Int) != -1) = true := by simp <;> omega
            have u3 : (cB : Int) < (q.n : Int) := by omega
            obtain ⟨x, hx⟩ : ∃ x, v cB = x := ⟨_, rfl⟩
            obtain ⟨xA, xm, xd, xl⟩ := x
            have HX := Lib.hid hx
            have hxl : xl.length ≤ 1000 := by
              have h1 := HZ.out.2 cB hcn
              rw [hx] at h1
              try dsimp only at h1
              rw [h1]
              have := List.length_filter_le (fun y => decide (idB s y = (cB : Int))) (List.range z)
              rw [List.length_range] at this
              omega
            have HJm := Lib.hid HZ.out.1
            clear hneg hid hcB hidc hx
            go_upto_region 17 with fail
            clear ci
            refine region_z 16 (fun W => W.heap[pT]? = some (.cells #[.slice (some ⟨gI, 0, none⟩) q.n q.n, .slice (some ⟨gD, 0, none⟩) q.n q.n, .slice (some ⟨gK, 0, none⟩) q.n q.n] 88 (0, 0)) ∧ RC W gK q.n v) (by kernel_rfl) ?_
            obtain ⟨wd, hwd⟩ : ∃ wd, wr.drew = wd := ⟨_, rfl⟩
            have HDx := Lib.hid (hwd ▸ HJm.out.below ((Below.refl _ wr).drew))
            have HSx := Lib.hid (And.intro HDx.out.box HDx.out.rk)
            rw [hwd]
            clear hwd
            refine anyZ_take (i := 0) (v := _) rfl (by kernel_rfl) (fun _ _ _ h => h) (Or.inl ⟨by rfl, by intro W hSw; have c0 := cell_i hSw.1 0; have c1 := cell_i hSw.1 1; have c2 := cell_i hSw.1 2; have ci := hSw.2.cell cB hcn; rw [HX.out] at ci; dsimp only at ci; clear hSw; go_simp; try with_reducible rfl⟩) HSx.out ?_
            try simp only [Act.put, List.getElem_toArray, List.getElem_cons_zero, List.setIfInBounds_toArray, List.set_cons_zero, List.set_cons_succ]
            refine anyZ_take (i := 1) (v := _) rfl (by kernel_rfl) (fun _ _ _ h => h) (Or.inl ⟨by rfl, by intro W hSw; have c0 := cell_i hSw.1 0; have c1 := cell_i hSw.1 1; have c2 := cell_i hSw.1 2; have ci := hSw.2.cell cB hcn; rw [HX.out] at ci; dsimp only at ci; clear hSw; go_simp; try with_reducible rfl⟩) HSx.out ?_
            try simp only [Act.put, List.getElem_toArray, List.getElem_cons_zero, List.getElem_cons_succ, List.setIfInBounds_toArray, List.set_cons_zero, List.set_cons_succ]
            refine anyZ_take (i := 2) (v := _) rfl (by kernel_rfl) (fun _ _ _ h => h) (Or.inl ⟨by rfl, by intro W hSw; have c0 := cell_i hSw.1 0; have c1 := cell_i hSw.1 1; have c2 := cell_i hSw.1 2; have ci := hSw.2.cell cB hcn; rw [HX.out] at ci; dsimp only at ci; clear hSw; go_simp; try with_reducible rfl⟩) HSx.out ?_
            try simp only [Act.put, List.getElem_toArray, List.getElem_cons_zero, List.getElem_cons_succ, List.setIfInBounds_toArray, List.set_cons_zero, List.set_cons_succ]
            refine anyZ_take (i := 3) (v := _) rfl (by kernel_rfl) (fun _ _ _ h => h) (Or.inl ⟨by rfl, by intro W hSw; have c0 := cell_i hSw.1 0; have c1 := cell_i hSw.1 1; have c2 := cell_i hSw.1 2; have ci := hSw.2.cell cB hcn; rw [HX.out] at ci; dsimp only at ci; clear hSw; go_simp; try with_reducible rfl⟩) HSx.out ?_
            try simp only [Act.put, List.getElem_toArray, List.getElem_cons_zero, List.getElem_cons_succ, List.setIfInBounds_toArray, List.set_cons_zero, List.set_cons_succ]
            refine anyZ_take (i := 4) (v := _) rfl (by kernel_rfl) (fun _ _ _ h => h) (Or.inl ⟨by rfl, by intro W hSw; have c0 := cell_i hSw.1 0; have c1 := cell_i hSw.1 1; have c2 := cell_i hSw.1 2; have ci := hSw.2.cell cB hcn; rw [HX.out] at ci; dsimp only at ci; clear hSw; go_simp; try with_reducible rfl⟩) HSx.out ?_
            try simp only [Act.put, List.getElem_toArray, List.getElem_cons_zero, List.getElem_cons_succ, List.setIfInBounds_toArray, List.set_cons_zero, List.set_cons_succ]
            refine anyZ_take (i := 5) (v := _) rfl (by kernel_rfl) (fun _ _ _ h => h) (Or.inl ⟨by rfl, by intro W hSw; have c0 := cell_i hSw.1 0; have c1 := cell_i hSw.1 1; have c2 := cell_i hSw.1 2; have ci := hSw.2.cell cB hcn; rw [HX.out] at ci; dsimp only at ci; clear hSw; go_simp; try with_reducible rfl⟩) HSx.out ?_
            try simp only [Act.put, List.getElem_toArray, List.getElem_cons_zero, List.getElem_cons_succ, List.setIfInBounds_toArray, List.set_cons_zero, List.set_cons_succ]
            refine anyZ_take (i := 6) (v := _) rfl (by kernel_rfl) (fun _ _ _ h => h) (Or.inl ⟨by rfl, by intro W hSw; have c0 := cell_i hSw.1 0; have c1 := cell_i hSw.1 1; have c2 := cell_i hSw.1 2; have ci := hSw.2.cell cB hcn; rw [HX.out] at ci; dsimp only at ci; clear hSw; go_simp; try with_reducible rfl⟩) HSx.out ?_
            try simp only [Act.put, List.getElem_toArray, List.getElem_cons_zero, List.getElem_cons_succ, List.setIfInBounds_toArray, List.set_cons_zero, List.set_cons_succ]
            refine anyZ_take (i := 7) (v := _) rfl (by kernel_rfl) (fun _ _ _ h => h) (Or.inl ⟨by rfl, by intro W hSw; have c0 := cell_i hSw.1 0; have c1 := cell_i hSw.1 1; have c2 := cell_i hSw.1 2; have ci := hSw.2.cell cB hcn; rw [HX.out] at ci; dsimp only at ci; clear hSw; go_simp; try with_reducible rfl⟩) HSx.out ?_
            try simp only [Act.put, List.getElem_toArray, List.getElem_cons_zero, List.getElem_cons_succ, List.setIfInBounds_toArray, List.set_cons_zero, List.set_cons_succ]
            refine anyZ_take (i := 8) (v := _) rfl (by kernel_rfl) (fun _ _ _ h => h) (Or.inl ⟨by rfl, by intro W hSw; have c0 := cell_i hSw.1 0; have c1 := cell_i hSw.1 1; have c2 := cell_i hSw.1 2; have ci := hSw.2.cell cB hcn; rw [HX.out] at ci; dsimp only at ci; clear hSw; go_simp; try with_reducible rfl⟩) HSx.out ?_
            try simp only [Act.put, List.getElem_toArray, List.getElem_cons_zero, List.getElem_cons_succ, List.setIfInBounds_toArray, List.set_cons_zero, List.set_cons_succ]
            refine anyZ_take (i := 9) (v := _) rfl (by kernel_rfl) (fun _ _ _ h => h) (Or.inl ⟨by rfl, by intro W hSw; have c0 := cell_i hSw.1 0; have c1 := cell_i hSw.1 1; have c2 := cell_i hSw.1 2; have ci := hSw.2.cell cB hcn; rw [HX.out] at ci; dsimp only at ci; clear hSw; go_simp; try with_reducible rfl⟩) HSx.out ?_
            try simp only [Act.put, List.getElem_toArray, List.getElem_cons_zero, List.getElem_cons_succ, List.setIfInBounds_toArray, List.set_cons_zero, List.set_cons_succ]
            refine anyZ_take (i := 10) (v := _) rfl (by kernel_rfl) (fun _ _ _ h => h) (Or.inl ⟨by rfl, by intro W hSw; have c0 := cell_i hSw.1 0; have c1 := cell_i hSw.1 1; have c2 := cell_i hSw.1 2; have ci := hSw.2.cell cB hcn; rw [HX.out] at ci; dsimp only at ci; clear hSw; go_simp; try with_reducible rfl⟩) HSx.out ?_
            try simp only [Act.put, List.getElem_toArray, List.getElem_cons_zero, List.getElem_cons_succ, List.setIfInBounds_toArray, List.set_cons_zero, List.set_cons_succ]
            refine anyZ_take (i := 11) (v := _) rfl (by kernel_rfl) (fun _ _ _ h => h) (Or.inl ⟨by rfl, by intro W hSw; have c0 := cell_i hSw.1 0; have c1 := cell_i hSw.1 1; have c2 := cell_i hSw.1 2; have ci := hSw.2.cell cB hcn; rw [HX.out] at ci; dsimp only at ci; clear hSw; go_simp; try with_reducible rfl⟩) HSx.out ?_
            try simp only [Act.put, List.getElem_toArray, List.getElem_cons_zero, List.getElem_cons_succ, List.setIfInBounds_toArray, List.set_cons_zero, List.set_cons_succ]
            refine anyZ_take (i := 12) (v := _) rfl (by kernel_rfl) (fun _ _ _ h => h) (Or.inl ⟨by rfl, by intro W hSw; have c0 := cell_i hSw.1 0; have c1 := cell_i hSw.1 1; have c2 := cell_i hSw.1 2; have ci := hSw.2.cell cB hcn; rw [HX.out] at ci; dsimp only at ci; clear hSw; go_simp; try with_reducible rfl⟩) HSx.out ?_
            try simp only [Act.put, List.getElem_toArray, List.getElem_cons_zero, List.getElem_cons_succ, List.setIfInBounds_toArray, List.set_cons_zero, List.set_cons_succ]
            refine anyZ_one (i := 13) (by kernel_rfl) rfl (fun K hK => ?_)
            obtain ⟨wn, hwn⟩ : ∃ wn, wd.alloc (.cells #[.int .i64 (z : Int)] 3) = wn := ⟨_, rfl⟩
            have mb := m_box wd _ 3 hwn
            have HNx := Lib.hid (HDx.out.below mb.1)
            have Fnx := Lib.hid mb.2
            clear mb
            go_simp
            try rw [hwn]
            clear hwn
            refine hK.out _ _ (fun _ => ⟨HNx.out.box, HNx.out.rk⟩) ?_
            clear hK K
            try simp only [Act.put, List.getElem_toArray, List.getElem_cons_zero, List.getElem_cons_succ, List.setIfInBounds_toArray, List.set_cons_zero, List.set_cons_succ]
            refine anyZ_one (i := 14) (by kernel_rfl) rfl (fun K hK => ?_)
            have HOx := Lib.hid (HNx.out.ownr (k := cB) hcn HX.out)
            rw [if_pos (by rfl)]
            refine mapp_wp (N := w.heap.size) mInt _ _ rfl ((nn_len _).trans HOx.out.2) rfl HOx.out.1 wd.heap.size (z : Int) rfl Fnx.out (by have h7 := HOx.out.2; (try dsimp only at h7 ⊢); skip; omega) HNx.out.bel.size ?_
            intro gx cx wh ho hgr hat
            have HGx := Lib.hid (HNx.out.growK (i := cB) (l' := xl ++ [z]) (n' := xm + 1) hcn (by rw [nn_app]; exact ho) (by rw [List.length_append, HOx.out.2]; rfl) (by rw [HX.out]; exact hgr) (by rw [HX.out]; exact hat))
            have HKx := Lib.hid (HNx.out.still (i := cB) hcn (by rw [HX.out]; exact hgr))
            clear ho hgr hat HOx
            try simp only [Act.put]
            refine hK.out _ _ (fun _ => ⟨HKx.out.1, HKx.out.2⟩) ?_
            clear hK K
            try simp only [List.getElem_toArray, List.getElem_cons_zero, List.getElem_cons_succ, List.setIfInBounds_toArray, List.set_cons_zero, List.set_cons_succ]
            refine anyZ_one (i := 15) (by kernel_rfl) rfl (fun K hK => ?_)
            go_simp
            refine hK.out _ _ (fun _ => ⟨HKx.out.1, HKx.out.2⟩) ?_
            clear hK K
            try simp only [Act.put, List.getElem_toArray, List.getElem_cons_zero, List.getElem_cons_succ, List.setIfInBounds_toArray, List.set_cons_zero, List.set_cons_succ]
            refine anyZ_one (i := 16) (by kernel_rfl) rfl (fun K hK => ?_)
            have ck := HKx.out.2.cell cB hcn
            have cf := HKx.out.2.free cB
            obtain ⟨ws, hws⟩ : ∃ ws, wh.setCell ⟨gK, cB, none⟩ (.slice (some ⟨gx, 0, none⟩) (xm + 1) cx) = ws := ⟨_, rfl⟩
            have HZx := Lib.hid (hws ▸ HGx.out)
            go_simp
            try rw [hws]
            clear hws ck cf
            refine hK.out _ _ (fun h => absurd rfl h) ?_
            clear hK K
            try simp only [Act.put, List.getElem_toArray, List.getElem_cons_zero, List.getElem_cons_succ, List.setIfInBounds_toArray, List.set_cons_zero, List.set_cons_succ]
            refine anyZ_done (by kernel_rfl) ?_ _
            go_wp2_with fail
            go_roundg (q.n - z - 1)
            case measure => omega
            case rel => exact ⟨z + 1, _, by omega, by go_num, Lib.hid ⟨HZx.out, fun y hy => by
              have h1 := HZ.out.2 y hy
              rw [List.range_succ, List.filter_append, List.filter_cons, HId.out]
              by_cases e : y = cB
              · subst e
                rw [upd_same]
                rw [HX.out] at h1
                try dsimp only at h1 ⊢
                rw [h1]
                simp
              · rw [upd_else _ _ e, h1]
                have : decide (((cB : Nat) : Int) = (y : Int)) = false := by rw [decide_eq_false_iff_not]; omega
                rw [this]
                simp⟩⟩
          · have hidc : idB s z = -1 := by rw [hid]; unfold idO; rw [if_neg hneg]
            rw [hidc] at ci
            have HId := Lib.hid hidc
            clear hneg hid hidc
            go_wp2_with fail
            clear ci
            go_roundg (q.n - z - 1)
            case measure => omega
            case rel => exact ⟨z + 1, v, by omega, by go_num, Lib.hid ⟨HZ.out.1, fun y hy => by
              rw [HZ.out.2 y hy, List.range_succ, List.filter_append, List.filter_cons, HId.out]
              have : decide ((-1 : Int) = (y : Int)) = false := by rw [decide_eq_false_iff_not]; omega
              rw [this]
              simp⟩⟩
        · obtain rfl : z = q.n := by omega
          have u1 : ¬ (q.n : Int) < (q.n : Int) := by omega
          have HEnd := Lib.hid (show IsT wr pT gI gD gK q.n s from ⟨HZ.out.1.box, HZ.out.1.ii, HZ.out.1.id, HZ.out.1.rk.gr (N := w.heap.size) (by omega) (fun x hx => ⟨HZ.out.1.f.own x hx, HZ.out.1.f.len x hx⟩) (by unfold kd; rw [List.length_map, List.length_range]; exact H.out.2.2.2) (fun x hx => by
            rw [kd_at (by rw [H.out.2.2.2]; exact hx), HZ.out.2 x hx]
            unfold kidsB
            rw [H.out.2.2.2]), H.out.2.2.2, hn⟩)
          go_wp2_with fail
          go_ret
          exact ⟨⟨pT, rfl, ⟨gI, gD, gK, HEnd.out⟩, fun h0 => ⟨O, ov, HDO.out (by rw [H.out.2.2.2]; exact h0)⟩⟩, HZ.out.1.bel⟩
end Go.Proofs.Ytojfbcfbnadboaa.Gra
