
/- The program's graph while it is made; two blocks are joined. -/
import Derived.Test.YtojfbcfbnadboaaGraRow
import Derived.Test.YtojfbcfbnadboaaGraTop
import Derived.Test.YtojfbcfbnadboaaGraCont
import Derived.Test.YtojfbcfbnadboaaParZ
namespace Go.Proofs.Ytojfbcfbnadboaa.Gra
open Go.ChangeShapes Go.WideShapes Go.RowKit Par
set_option linter.unusedVariables false
set_option maxRecDepth 20000
set_option maxHeartbeats 4000000

/-- The graph's box, its two rows of lists. -/
structure Gm (w0 W : World) (p gA gB n : Nat) (v : Nat → Il) : Prop where
  bel : Below w0.heap.size w0 W
  box : W.heap[p]? = some (.cells #[.slice (some ⟨gA, 0, none⟩) n n, .slice (some ⟨gB, 0, none⟩) n n] 69 (0, 0))
  a : RC W gA n v
  b : RC W gB n (fun k => v (n + k))
  f : Fam w0.heap.size W [p, gA, gB] (n + n) v
  lp : w0.heap.size ≤ p
  la : w0.heap.size ≤ gA
  lb : w0.heap.size ≤ gB
  ab : gA ≠ gB
  pa : p ≠ gA
  pb : p ≠ gB
section
variable {w0 W W' : World} {p gA gB n : Nat} {v : Nat → Il}
theorem Gm.hi (h : Gm w0 W p gA gB n v) : p < W.heap.size := (Array.getElem?_eq_some_iff.1 h.box).1
theorem Gm.below (h : Gm w0 W p gA gB n v) (hb : Below W.heap.size W W') : Gm w0 W' p gA gB n v :=
  ⟨h.bel.trans (hb.mono h.bel.size), kept_box h.box hb, h.a.below hb, h.b.below hb, h.f.below hb, h.lp, h.la, h.lb, h.ab, h.pa, h.pb⟩
theorem Gm.ints (h : Gm w0 W p gA gB n v) {k : Nat} (hk : k < n + n) : IsInts W (v k).A (v k).n (nn (v k).l) := by
  have h1 := (h.f.own k hk).ints
  rw [nn_len, h.f.len k hk] at h1
  exact h1
theorem Gm.ownr (h : Gm w0 W p gA gB n v) {k : Nat} (hk : k < n + n) {x : Il} (hx : v k = x) : OwnL 3 1 intC w0.heap.size W x.A x.c (nn x.l) ∧ x.l.length = x.n := by subst hx; exact ⟨h.f.own k hk, h.f.len k hk⟩
theorem Gm.belrow (h : Gm w0 W p gA gB n v) {i : Nat} (hi : i < n + n) (hg : W.grownBy W' (ilB (v i))) : Below w0.heap.size w0 W' :=
  ⟨hg.os.trans h.bel.os, hg.tape.trans h.bel.tape, hg.output.trans h.bel.output, Nat.le_trans h.bel.size hg.size, fun k hk => (hg.block k (Nat.lt_of_lt_of_le hk h.bel.size) (fun e => by have := (h.f.lo hi e.symm).1; omega)).trans (h.bel.block k hk)⟩
theorem Gm.drew (h : Gm w0 W p gA gB n v) : Gm w0 W.drew p gA gB n v := h.below ((Below.refl _ W).drew)
/-- A row has grown, and its cell is stored anew. -/
theorem Gm.grow {i g' c' n' : Nat} {l' : List Nat} (h : Gm w0 W p gA gB n v) (hi : i < n) (b : Bool) (ho : OwnL 3 1 intC w0.heap.size W' (some ⟨g', 0, none⟩) c' (nn l')) (hl : l'.length = n') (hg : W.grownBy W' (ilB (v (if b then n + i else i)))) (hat : ilB (v (if b then n + i else i)) = some g' ∨ g' = W.heap.size) :
    Gm w0 (W'.setCell ⟨if b then gB else gA, i, none⟩ (.slice (some ⟨g', 0, none⟩) n' c')) p gA gB n (upd v (if b then n + i else i) ⟨some ⟨g', 0, none⟩, n', c', l'⟩) := by
  have hj : (if b = true then n + i else i) < n + n := by split <;> omega
  have hfar := fun x hx => h.f.far _ hj x hx
  have hp : ilB (v (if b then n + i else i)) ≠ some p := fun e => hfar p e (by simp)
  have hA : ilB (v (if b then n + i else i)) ≠ some gA := fun e => hfar gA e (by simp)
  have hB : ilB (v (if b then n + i else i)) ≠ some gB := fun e => hfar gB e (by simp)
  have hF := h.f.grow hj ho hl hg hat
  have a1 := h.a.grown hg hA
  have b1 := h.b.grown hg hB
  have x1 : W'.heap[p]? = _ := (hg.block p h.hi (fun e => hp e.symm)).trans h.box
  have bl := h.belrow hj hg
  cases b with
  | false =>
    refine ⟨bl.setCell (p := ⟨gA, i, none⟩) h.la _, ?_, a1.put hi ⟨some ⟨g', 0, none⟩, n', c', l'⟩, ((b1.other h.ab _).congr fun k hk => ?_), hF.put (by simp) _, h.lp, h.la, h.lb, h.ab, h.pa, h.pb⟩
    · exact (Below.heap_setCell _ _ _ _ (fun e => h.pa e)).trans x1
    · exact (upd_else _ _ (show n + k ≠ i by omega)).symm
  | true =>
    refine ⟨bl.setCell (p := ⟨gB, i, none⟩) h.lb _, ?_, ((a1.other (fun e => h.ab e.symm) _).congr fun k hk => ?_), ((b1.put hi ⟨some ⟨g', 0, none⟩, n', c', l'⟩).congr fun k hk => ?_), hF.put (by simp) _, h.lp, h.la, h.lb, h.ab, h.pa, h.pb⟩
    · exact (Below.heap_setCell _ _ _ _ (fun e => h.pb e)).trans x1
    · exact (upd_else _ _ (show k ≠ n + i by omega)).symm
    · by_cases e : k = i
      · subst e; rw [upd_same]; exact (upd_same _ _ _).symm
      · rw [upd_else _ _ e]; exact (upd_else v _ (show n + k ≠ n + i by omega)).symm
theorem Gm.growA {i g' c' n' : Nat} {l' : List Nat} (h : Gm w0 W p gA gB n v) (hi : i < n) (ho : OwnL 3 1 intC w0.heap.size W' (some ⟨g', 0, none⟩) c' (nn l')) (hl : l'.length = n') (hg : W.grownBy W' (ilB (v i))) (hat : ilB (v i) = some g' ∨ g' = W.heap.size) :
    Gm w0 (W'.setCell ⟨gA, i, none⟩ (.slice (some ⟨g', 0, none⟩) n' c')) p gA gB n (upd v i ⟨some ⟨g', 0, none⟩, n', c', l'⟩) := h.grow hi false ho hl hg hat
theorem Gm.growB {i g' c' n' : Nat} {l' : List Nat} (h : Gm w0 W p gA gB n v) (hi : i < n) (ho : OwnL 3 1 intC w0.heap.size W' (some ⟨g', 0, none⟩) c' (nn l')) (hl : l'.length = n') (hg : W.grownBy W' (ilB (v (n + i)))) (hat : ilB (v (n + i)) = some g' ∨ g' = W.heap.size) :
    Gm w0 (W'.setCell ⟨gB, i, none⟩ (.slice (some ⟨g', 0, none⟩) n' c')) p gA gB n (upd v (n + i) ⟨some ⟨g', 0, none⟩, n', c', l'⟩) := h.grow hi true ho hl hg hat
theorem Gm.still {k : Nat} (h : Gm w0 W p gA gB n v) (hk : k < n + n) (hg : W.grownBy W' (ilB (v k))) : W'.heap[p]? = some (.cells #[.slice (some ⟨gA, 0, none⟩) n n, .slice (some ⟨gB, 0, none⟩) n n] 69 (0, 0)) ∧ RC W' gA n v ∧ RC W' gB n (fun k => v (n + k)) :=
  ⟨(hg.block p h.hi (fun e => h.f.far k hk p e.symm (by simp))).trans h.box, h.a.grown hg (fun e => h.f.far k hk gA e (by simp)), h.b.grown hg (fun e => h.f.far k hk gB e (by simp))⟩
end
theorem join_out (w : World) (p i : Nat) (z : Int) (h : z < 0) : Calls Try.prog 38 #[.pointer (some ⟨p, 0, none⟩), .int .i64 (i : Int), .int .i64 z] w fun e w' => e = .returned (.tuple #[]) ∧ w = w' := by
  go_enter Try.func38, Try.ntmps38
  go_wp2_with fail
  (try simp only [Exit.inBlock, Exit.then]); refine bodyPost_ret (results_none rfl _ _ _) rfl ?_
  exact ⟨rfl, rfl⟩
theorem join_in (w0 w : World) (p gA gB n i j : Nat) (v : Nat → Il) (h : Gm w0 w p gA gB n v) (hi : i < n) (hj : j ∈ (v i).l) : Calls Try.prog 38 #[.pointer (some ⟨p, 0, none⟩), .int .i64 (i : Int), .int .i64 (j : Int)] w fun e w' => e = .returned (.tuple #[]) ∧ w = w' := by
  have c0 := cell_i h.box 0
  have c1 := cell_i h.box 1
  have ci := h.a.cell i hi
  have hI := h.ints (k := i) (by omega)
  have t1 : (i : Int) < (n : Int) := by omega
  have t0 : ¬ (j : Int) < 0 := by omega
  obtain ⟨x, hx⟩ : ∃ x, v i = x := ⟨_, rfl⟩
  rw [hx] at ci hI hj
  obtain ⟨A, m, d, l⟩ := x
  dsimp only at ci hI hj
  have HC := Lib.hid (show Calls Try.prog 63 #[.slice A m d, .int .i64 (j : Int)] w fun e w' => e = .returned (.bool true) ∧ w = w' from (decide_eq_true ((nn_mem l j).2 hj)) ▸ contains_v A m d (nn l) (j : Int) w hI)
  clear h hI hx hj
  go_enter Try.func38, Try.ntmps38
  go_wp2_with fail
  refine HC.out.mono ?_
  rintro e w1 ⟨rfl, rfl⟩
  go_wp2_with fail
  (try simp only [Exit.inBlock, Exit.then]); refine bodyPost_ret (results_none rfl _ _ _) rfl ?_
  exact ⟨rfl, rfl⟩
theorem join_new (w0 w : World) (p gA gB n i j : Nat) (v : Nat → Il) (h : Gm w0 w p gA gB n v) (hi : i < n) (hjn : j < n) (hj : j ∉ (v i).l) (hm1 : (v i).l.length ≤ 1000) (hm2 : (v (n + j)).l.length ≤ 1000) :
    Calls Try.prog 38 #[.pointer (some ⟨p, 0, none⟩), .int .i64 (i : Int), .int .i64 (j : Int)] w fun e w' => e = .returned (.tuple #[]) ∧ ∃ v', Gm w0 w' p gA gB n v' ∧ ∀ k, (v' k).l = if k = i then (v i).l ++ [j] else if k = n + j then (v (n + j)).l ++ [i] else (v k).l := by
  have c0 := cell_i h.box 0
  have c1 := cell_i h.box 1
  have ci := h.a.cell i hi
  have hI := h.ints (k := i) (by omega)
  have t1 : (i : Int) < (n : Int) := by omega
  have t2 : (j : Int) < (n : Int) := by omega
  have t0 : ¬ (j : Int) < 0 := by omega
  obtain ⟨x, hx⟩ : ∃ x, v i = x := ⟨_, rfl⟩
  have hw := h.ownr (k := i) (by omega) hx
  rw [hx] at ci hI hj hm1
  obtain ⟨A, m, d, l⟩ := x
  dsimp only at ci hI hj hw hm1
  have HC := Lib.hid (show Calls Try.prog 63 #[.slice A m d, .int .i64 (j : Int)] w fun e w' => e = .returned (.bool false) ∧ w = w' from (decide_eq_false (fun q => hj ((nn_mem l j).1 q))) ▸ contains_v A m d (nn l) (j : Int) w hI)
  have H := Lib.hid h
  have HX := Lib.hid (And.intro hx (And.intro hm1 hm2))
  have HX1 := Lib.hid hx
  clear h hI hx hj hw hm1 hm2
  go_enter Try.func38, Try.ntmps38
  go_wp2_with fail
  refine HC.out.mono ?_
  rintro e w1 ⟨rfl, rfl⟩
  clear c0 c1 ci
  go_wp2_with fail
  refine region_z 16 (fun W => W.heap[p]? = some (.cells #[.slice (some ⟨gA, 0, none⟩) n n, .slice (some ⟨gB, 0, none⟩) n n] 69 (0, 0)) ∧ RC W gA n v) (by kernel_rfl) ?_
  obtain ⟨wd1, hwd⟩ : ∃ wd, w.drew = wd := ⟨_, rfl⟩
  have HD1 := Lib.hid (hwd ▸ H.out.drew)
  have HS1 := Lib.hid (And.intro HD1.out.box HD1.out.a)
  rw [hwd]
  clear hwd
  refine anyZ_take (i := 0) (v := _) rfl (by kernel_rfl) (fun _ _ _ h => h) (Or.inl ⟨by rfl, by intro W hSw; have c0 := cell_i hSw.1 0; have c1 := cell_i hSw.1 1; have ci := hSw.2.cell i (by omega); (try dsimp only at ci); rw [HX1.out] at ci; dsimp only at ci; clear hSw; go_simp; try with_reducible rfl⟩) HS1.out ?_
  try simp only [Act.put, List.getElem_toArray, List.getElem_cons_zero, List.getElem_cons_succ, List.setIfInBounds_toArray, List.set_cons_zero, List.set_cons_succ]
  refine anyZ_take (i := 1) (v := _) rfl (by kernel_rfl) (fun _ _ _ h => h) (Or.inl ⟨by rfl, by intro W hSw; have c0 := cell_i hSw.1 0; have c1 := cell_i hSw.1 1; have ci := hSw.2.cell i (by omega); (try dsimp only at ci); rw [HX1.out] at ci; dsimp only at ci; clear hSw; go_simp; try with_reducible rfl⟩) HS1.out ?_
  try simp only [Act.put, List.getElem_toArray, List.getElem_cons_zero, List.getElem_cons_succ, List.setIfInBounds_toArray, List.set_cons_zero, List.set_cons_succ]
  refine anyZ_take (i := 2) (v := _) rfl (by kernel_rfl) (fun _ _ _ h => h) (Or.inl ⟨by rfl, by intro W hSw; have c0 := cell_i hSw.1 0; have c1 := cell_i hSw.1 1; have ci := hSw.2.cell i (by omega); (try dsimp only at ci); rw [HX1.out] at ci; dsimp only at ci; clear hSw; go_simp; try with_reducible rfl⟩) HS1.out ?_
  try simp only [Act.put, List.getElem_toArray, List.getElem_cons_zero, List.getElem_cons_succ, List.setIfInBounds_toArray, List.set_cons_zero, List.set_cons_succ]
  refine anyZ_take (i := 3) (v := _) rfl (by kernel_rfl) (fun _ _ _ h => h) (Or.inl ⟨by rfl, by intro W hSw; have c0 := cell_i hSw.1 0; have c1 := cell_i hSw.1 1; have ci := hSw.2.cell i (by omega); (try dsimp only at ci); rw [HX1.out] at ci; dsimp only at ci; clear hSw; go_simp; try with_reducible rfl⟩) HS1.out ?_
  try simp only [Act.put, List.getElem_toArray, List.getElem_cons_zero, List.getElem_cons_succ, List.setIfInBounds_toArray, List.set_cons_zero, List.set_cons_succ]
  refine anyZ_take (i := 4) (v := _) rfl (by kernel_rfl) (fun _ _ _ h => h) (Or.inl ⟨by rfl, by intro W hSw; have c0 := cell_i hSw.1 0; have c1 := cell_i hSw.1 1; have ci := hSw.2.cell i (by omega); (try dsimp only at ci); rw [HX1.out] at ci; dsimp only at ci; clear hSw; go_simp; try with_reducible rfl⟩) HS1.out ?_
  try simp only [Act.put, List.getElem_toArray, List.getElem_cons_zero, List.getElem_cons_succ, List.setIfInBounds_toArray, List.set_cons_zero, List.set_cons_succ]
  refine anyZ_take (i := 5) (v := _) rfl (by kernel_rfl) (fun _ _ _ h => h) (Or.inl ⟨by rfl, by intro W hSw; have c0 := cell_i hSw.1 0; have c1 := cell_i hSw.1 1; have ci := hSw.2.cell i (by omega); (try dsimp only at ci); rw [HX1.out] at ci; dsimp only at ci; clear hSw; go_simp; try with_reducible rfl⟩) HS1.out ?_
  try simp only [Act.put, List.getElem_toArray, List.getElem_cons_zero, List.getElem_cons_succ, List.setIfInBounds_toArray, List.set_cons_zero, List.set_cons_succ]
  refine anyZ_take (i := 6) (v := _) rfl (by kernel_rfl) (fun _ _ _ h => h) (Or.inl ⟨by rfl, by intro W hSw; have c0 := cell_i hSw.1 0; have c1 := cell_i hSw.1 1; have ci := hSw.2.cell i (by omega); (try dsimp only at ci); rw [HX1.out] at ci; dsimp only at ci; clear hSw; go_simp; try with_reducible rfl⟩) HS1.out ?_
  try simp only [Act.put, List.getElem_toArray, List.getElem_cons_zero, List.getElem_cons_succ, List.setIfInBounds_toArray, List.set_cons_zero, List.set_cons_succ]
  refine anyZ_take (i := 7) (v := _) rfl (by kernel_rfl) (fun _ _ _ h => h) (Or.inl ⟨by rfl, by intro W hSw; have c0 := cell_i hSw.1 0; have c1 := cell_i hSw.1 1; have ci := hSw.2.cell i (by omega); (try dsimp only at ci); rw [HX1.out] at ci; dsimp only at ci; clear hSw; go_simp; try with_reducible rfl⟩) HS1.out ?_
  try simp only [Act.put, List.getElem_toArray, List.getElem_cons_zero, List.getElem_cons_succ, List.setIfInBounds_toArray, List.set_cons_zero, List.set_cons_succ]
  refine anyZ_take (i := 8) (v := _) rfl (by kernel_rfl) (fun _ _ _ h => h) (Or.inl ⟨by rfl, by intro W hSw; have c0 := cell_i hSw.1 0; have c1 := cell_i hSw.1 1; have ci := hSw.2.cell i (by omega); (try dsimp only at ci); rw [HX1.out] at ci; dsimp only at ci; clear hSw; go_simp; try with_reducible rfl⟩) HS1.out ?_
  try simp only [Act.put, List.getElem_toArray, List.getElem_cons_zero, List.getElem_cons_succ, List.setIfInBounds_toArray, List.set_cons_zero, List.set_cons_succ]
  refine anyZ_take (i := 9) (v := _) rfl (by kernel_rfl) (fun _ _ _ h => h) (Or.inl ⟨by rfl, by intro W hSw; have c0 := cell_i hSw.1 0; have c1 := cell_i hSw.1 1; have ci := hSw.2.cell i (by omega); (try dsimp only at ci); rw [HX1.out] at ci; dsimp only at ci; clear hSw; go_simp; try with_reducible rfl⟩) HS1.out ?_
  try simp only [Act.put, List.getElem_toArray, List.getElem_cons_zero, List.getElem_cons_succ, List.setIfInBounds_toArray, List.set_cons_zero, List.set_cons_succ]
  refine anyZ_take (i := 10) (v := _) rfl (by kernel_rfl) (fun _ _ _ h => h) (Or.inl ⟨by rfl, by intro W hSw; have c0 := cell_i hSw.1 0; have c1 := cell_i hSw.1 1; have ci := hSw.2.cell i (by omega); (try dsimp only at ci); rw [HX1.out] at ci; dsimp only at ci; clear hSw; go_simp; try with_reducible rfl⟩) HS1.out ?_
  try simp only [Act.put, List.getElem_toArray, List.getElem_cons_zero, List.getElem_cons_succ, List.setIfInBounds_toArray, List.set_cons_zero, List.set_cons_succ]
  refine anyZ_take (i := 11) (v := _) rfl (by kernel_rfl) (fun _ _ _ h => h) (Or.inl ⟨by rfl, by intro W hSw; have c0 := cell_i hSw.1 0; have c1 := cell_i hSw.1 1; have ci := hSw.2.cell i (by omega); (try dsimp only at ci); rw [HX1.out] at ci; dsimp only at ci; clear hSw; go_simp; try with_reducible rfl⟩) HS1.out ?_
  try simp only [Act.put, List.getElem_toArray, List.getElem_cons_zero, List.getElem_cons_succ, List.setIfInBounds_toArray, List.set_cons_zero, List.set_cons_succ]
  refine anyZ_take (i := 12) (v := _) rfl (by kernel_rfl) (fun _ _ _ h => h) (Or.inl ⟨by rfl, by intro W hSw; have c0 := cell_i hSw.1 0; have c1 := cell_i hSw.1 1; have ci := hSw.2.cell i (by omega); (try dsimp only at ci); rw [HX1.out] at ci; dsimp only at ci; clear hSw; go_simp; try with_reducible rfl⟩) HS1.out ?_
  try simp only [Act.put, List.getElem_toArray, List.getElem_cons_zero, List.getElem_cons_succ, List.setIfInBounds_toArray, List.set_cons_zero, List.set_cons_succ]
  refine anyZ_one (i := 13) (by kernel_rfl) rfl (fun K hK => ?_)
  obtain ⟨wn1, hwn⟩ : ∃ wn, wd1.alloc (.cells #[.int .i64 (j : Int)] 3) = wn := ⟨_, rfl⟩
  have mb := m_box wd1 _ 3 hwn
  have HN1 := Lib.hid (HD1.out.below mb.1)
  have Fn1 := Lib.hid mb.2
  clear mb
  go_simp
  try rw [hwn]
  clear hwn
  refine hK.out _ _ (fun _ => ⟨HN1.out.box, HN1.out.a⟩) ?_
  clear hK K
  try simp only [Act.put, List.getElem_toArray, List.getElem_cons_zero, List.getElem_cons_succ, List.setIfInBounds_toArray, List.set_cons_zero, List.set_cons_succ]
  refine anyZ_one (i := 14) (by kernel_rfl) rfl (fun K hK => ?_)
  have hw := HN1.out.ownr (k := i) (by omega) HX1.out
  dsimp only at hw
  have HO := Lib.hid hw
  clear hw
  rw [if_pos (by rfl)]
  refine mapp_wp (N := w0.heap.size) mInt _ _ rfl ((nn_len _).trans HO.out.2) rfl HO.out.1 wd1.heap.size (j : Int) rfl Fn1.out (by have := HO.out.2; have := HX.out.2.1; omega) HN1.out.bel.size ?_
  intro g1 c1 wh1 ho hgr hat
  have HR1 := Lib.hid (show wn1.grownBy wh1 (ilB (v (i))) ∧ (ilB (v (i)) = some g1 ∨ g1 = wn1.heap.size) from by rw [HX1.out]; exact ⟨hgr, hat⟩)
  have HG1 := Lib.hid (HN1.out.growA (i := i) (l' := l ++ [j]) (n' := m + 1) hi (by rw [nn_app]; exact ho) (by rw [List.length_append, HO.out.2]; rfl) HR1.out.1 HR1.out.2)
  have HK1 := Lib.hid (HN1.out.still (k := i) (by omega) HR1.out.1)
  clear ho hgr hat HO HR1
  try simp only [Act.put]
  refine hK.out _ _ (fun _ => ⟨HK1.out.1, HK1.out.2.1⟩) ?_
  clear hK K
  try simp only [Act.put, List.getElem_toArray, List.getElem_cons_zero, List.getElem_cons_succ, List.setIfInBounds_toArray, List.set_cons_zero, List.set_cons_succ]
  refine anyZ_one (i := 15) (by kernel_rfl) rfl (fun K hK => ?_)
  go_simp
  refine hK.out _ _ (fun _ => ⟨HK1.out.1, HK1.out.2.1⟩) ?_
  clear hK K
  try simp only [Act.put, List.getElem_toArray, List.getElem_cons_zero, List.getElem_cons_succ, List.setIfInBounds_toArray, List.set_cons_zero, List.set_cons_succ]
  refine anyZ_one (i := 16) (by kernel_rfl) rfl (fun K hK => ?_)
  have ck := HK1.out.2.1.cell i (by omega)
  have cf := HK1.out.2.1.free i
  obtain ⟨ws1, hws⟩ : ∃ ws, wh1.setCell ⟨gA, i, none⟩ (.slice (some ⟨g1, 0, none⟩) (m + 1) c1) = ws := ⟨_, rfl⟩
  have HZ1 := Lib.hid (hws ▸ HG1.out)
  go_simp
  try rw [hws]
  clear hws ck cf
  refine hK.out _ _ (fun h => absurd rfl h) ?_
  clear hK K
  try simp only [Act.put, List.getElem_toArray, List.getElem_cons_zero, List.getElem_cons_succ, List.setIfInBounds_toArray, List.set_cons_zero, List.set_cons_succ]
  refine anyZ_done (by kernel_rfl) ?_ _
  obtain ⟨v1, hv1⟩ : ∃ v1, upd v i (⟨some ⟨g1, 0, none⟩, m + 1, c1, l ++ [j]⟩ : Il) = v1 := ⟨_, rfl⟩
  have HV := Lib.hid (show ∀ k, v1 k = upd v i (⟨some ⟨g1, 0, none⟩, m + 1, c1, l ++ [j]⟩ : Il) k from fun k => by rw [hv1])
  rw [hv1] at HZ1
  obtain ⟨y, hy⟩ : ∃ y, v1 (n + j) = y := ⟨_, rfl⟩
  have hyv : v (n + j) = y := by rw [← hy, HV.out, upd_else _ _ (show n + j ≠ i by omega)]
  have HY := Lib.hid hyv
  obtain ⟨B, q, e, l2⟩ := y
  have HX2 := Lib.hid hy
  have hl2 : l2.length ≤ 1000 := by have := HX.out.2.2; rw [hyv] at this; exact this
  clear hv1 hy hyv
  go_wp2_with fail
  refine region_z 16 (fun W => W.heap[p]? = some (.cells #[.slice (some ⟨gA, 0, none⟩) n n, .slice (some ⟨gB, 0, none⟩) n n] 69 (0, 0)) ∧ RC W gB n (fun k => v1 (n + k))) (by kernel_rfl) ?_
  obtain ⟨wd2, hwd⟩ : ∃ wd, ws1.drew = wd := ⟨_, rfl⟩
  have HD2 := Lib.hid (hwd ▸ HZ1.out.drew)
  have HS2 := Lib.hid (And.intro HD2.out.box HD2.out.b)
  rw [hwd]
  clear hwd
  refine anyZ_take (i := 0) (v := _) rfl (by kernel_rfl) (fun _ _ _ h => h) (Or.inl ⟨by rfl, by intro W hSw; have c0 := cell_i hSw.1 0; have c1 := cell_i hSw.1 1; have ci := hSw.2.cell j (by omega); (try dsimp only at ci); rw [HX2.out] at ci; dsimp only at ci; clear hSw; go_simp; try with_reducible rfl⟩) HS2.out ?_
  try simp only [Act.put, List.getElem_toArray, List.getElem_cons_zero, List.getElem_cons_succ, List.setIfInBounds_toArray, List.set_cons_zero, List.set_cons_succ]
  refine anyZ_take (i := 1) (v := _) rfl (by kernel_rfl) (fun _ _ _ h => h) (Or.inl ⟨by rfl, by intro W hSw; have c0 := cell_i hSw.1 0; have c1 := cell_i hSw.1 1; have ci := hSw.2.cell j (by omega); (try dsimp only at ci); rw [HX2.out] at ci; dsimp only at ci; clear hSw; go_simp; try with_reducible rfl⟩) HS2.out ?_
  try simp only [Act.put, List.getElem_toArray, List.getElem_cons_zero, List.getElem_cons_succ, List.setIfInBounds_toArray, List.set_cons_zero, List.set_cons_succ]
  refine anyZ_take (i := 2) (v := _) rfl (by kernel_rfl) (fun _ _ _ h => h) (Or.inl ⟨by rfl, by intro W hSw; have c0 := cell_i hSw.1 0; have c1 := cell_i hSw.1 1; have ci := hSw.2.cell j (by omega); (try dsimp only at ci); rw [HX2.out] at ci; dsimp only at ci; clear hSw; go_simp; try with_reducible rfl⟩) HS2.out ?_
  try simp only [Act.put, List.getElem_toArray, List.getElem_cons_zero, List.getElem_cons_succ, List.setIfInBounds_toArray, List.set_cons_zero, List.set_cons_succ]
  refine anyZ_take (i := 3) (v := _) rfl (by kernel_rfl) (fun _ _ _ h => h) (Or.inl ⟨by rfl, by intro W hSw; have c0 := cell_i hSw.1 0; have c1 := cell_i hSw.1 1; have ci := hSw.2.cell j (by omega); (try dsimp only at ci); rw [HX2.out] at ci; dsimp only at ci; clear hSw; go_simp; try with_reducible rfl⟩) HS2.out ?_
  try simp only [Act.put, List.getElem_toArray, List.getElem_cons_zero, List.getElem_cons_succ, List.setIfInBounds_toArray, List.set_cons_zero, List.set_cons_succ]
  refine anyZ_take (i := 4) (v := _) rfl (by kernel_rfl) (fun _ _ _ h => h) (Or.inl ⟨by rfl, by intro W hSw; have c0 := cell_i hSw.1 0; have c1 := cell_i hSw.1 1; have ci := hSw.2.cell j (by omega); (try dsimp only at ci); rw [HX2.out] at ci; dsimp only at ci; clear hSw; go_simp; try with_reducible rfl⟩) HS2.out ?_
  try simp only [Act.put, List.getElem_toArray, List.getElem_cons_zero, List.getElem_cons_succ, List.setIfInBounds_toArray, List.set_cons_zero, List.set_cons_succ]
  refine anyZ_take (i := 5) (v := _) rfl (by kernel_rfl) (fun _ _ _ h => h) (Or.inl ⟨by rfl, by intro W hSw; have c0 := cell_i hSw.1 0; have c1 := cell_i hSw.1 1; have ci := hSw.2.cell j (by omega); (try dsimp only at ci); rw [HX2.out] at ci; dsimp only at ci; clear hSw; go_simp; try with_reducible rfl⟩) HS2.out ?_
  try simp only [Act.put, List.getElem_toArray, List.getElem_cons_zero, List.getElem_cons_succ, List.setIfInBounds_toArray, List.set_cons_zero, List.set_cons_succ]
  refine anyZ_take (i := 6) (v := _) rfl (by kernel_rfl) (fun _ _ _ h => h) (Or.inl ⟨by rfl, by intro W hSw; have c0 := cell_i hSw.1 0; have c1 := cell_i hSw.1 1; have ci := hSw.2.cell j (by omega); (try dsimp only at ci); rw [HX2.out] at ci; dsimp only at ci; clear hSw; go_simp; try with_reducible rfl⟩) HS2.out ?_
  try simp only [Act.put, List.getElem_toArray, List.getElem_cons_zero, List.getElem_cons_succ, List.setIfInBounds_toArray, List.set_cons_zero, List.set_cons_succ]
  refine anyZ_take (i := 7) (v := _) rfl (by kernel_rfl) (fun _ _ _ h => h) (Or.inl ⟨by rfl, by intro W hSw; have c0 := cell_i hSw.1 0; have c1 := cell_i hSw.1 1; have ci := hSw.2.cell j (by omega); (try dsimp only at ci); rw [HX2.out] at ci; dsimp only at ci; clear hSw; go_simp; try with_reducible rfl⟩) HS2.out ?_
  try simp only [Act.put, List.getElem_toArray, List.getElem_cons_zero, List.getElem_cons_succ, List.setIfInBounds_toArray, List.set_cons_zero, List.set_cons_succ]
  refine anyZ_take (i := 8) (v := _) rfl (by kernel_rfl) (fun _ _ _ h => h) (Or.inl ⟨by rfl, by intro W hSw; have c0 := cell_i hSw.1 0; have c1 := cell_i hSw.1 1; have ci := hSw.2.cell j (by omega); (try dsimp only at ci); rw [HX2.out] at ci; dsimp only at ci; clear hSw; go_simp; try with_reducible rfl⟩) HS2.out ?_
  try simp only [Act.put, List.getElem_toArray, List.getElem_cons_zero, List.getElem_cons_succ, List.setIfInBounds_toArray, List.set_cons_zero, List.set_cons_succ]
  refine anyZ_take (i := 9) (v := _) rfl (by kernel_rfl) (fun _ _ _ h => h) (Or.inl ⟨by rfl, by intro W hSw; have c0 := cell_i hSw.1 0; have c1 := cell_i hSw.1 1; have ci := hSw.2.cell j (by omega); (try dsimp only at ci); rw [HX2.out] at ci; dsimp only at ci; clear hSw; go_simp; try with_reducible rfl⟩) HS2.out ?_
  try simp only [Act.put, List.getElem_toArray, List.getElem_cons_zero, List.getElem_cons_succ, List.setIfInBounds_toArray, List.set_cons_zero, List.set_cons_succ]
  refine anyZ_take (i := 10) (v := _) rfl (by kernel_rfl) (fun _ _ _ h => h) (Or.inl ⟨by rfl, by intro W hSw; have c0 := cell_i hSw.1 0; have c1 := cell_i hSw.1 1; have ci := hSw.2.cell j (by omega); (try dsimp only at ci); rw [HX2.out] at ci; dsimp only at ci; clear hSw; go_simp; try with_reducible rfl⟩) HS2.out ?_
  try simp only [Act.put, List.getElem_toArray, List.getElem_cons_zero, List.getElem_cons_succ, List.setIfInBounds_toArray, List.set_cons_zero, List.set_cons_succ]
  refine anyZ_take (i := 11) (v := _) rfl (by kernel_rfl) (fun _ _ _ h => h) (Or.inl ⟨by rfl, by intro W hSw; have c0 := cell_i hSw.1 0; have c1 := cell_i hSw.1 1; have ci := hSw.2.cell j (by omega); (try dsimp only at ci); rw [HX2.out] at ci; dsimp only at ci; clear hSw; go_simp; try with_reducible rfl⟩) HS2.out ?_
  try simp only [Act.put, List.getElem_toArray, List.getElem_cons_zero, List.getElem_cons_succ, List.setIfInBounds_toArray, List.set_cons_zero, List.set_cons_succ]
  refine anyZ_take (i := 12) (v := _) rfl (by kernel_rfl) (fun _ _ _ h => h) (Or.inl ⟨by rfl, by intro W hSw; have c0 := cell_i hSw.1 0; have c1 := cell_i hSw.1 1; have ci := hSw.2.cell j (by omega); (try dsimp only at ci); rw [HX2.out] at ci; dsimp only at ci; clear hSw; go_simp; try with_reducible rfl⟩) HS2.out ?_
  try simp only [Act.put, List.getElem_toArray, List.getElem_cons_zero, List.getElem_cons_succ, List.setIfInBounds_toArray, List.set_cons_zero, List.set_cons_succ]
  refine anyZ_one (i := 13) (by kernel_rfl) rfl (fun K hK => ?_)
  obtain ⟨wn2, hwn⟩ : ∃ wn, wd2.alloc (.cells #[.int .i64 (i : Int)] 3) = wn := ⟨_, rfl⟩
  have mb := m_box wd2 _ 3 hwn
  have HN2 := Lib.hid (HD2.out.below mb.1)
  have Fn2 := Lib.hid mb.2
  clear mb
  go_simp
  try rw [hwn]
  clear hwn
  refine hK.out _ _ (fun _ => ⟨HN2.out.box, HN2.out.b⟩) ?_
  clear hK K
  try simp only [Act.put, List.getElem_toArray, List.getElem_cons_zero, List.getElem_cons_succ, List.setIfInBounds_toArray, List.set_cons_zero, List.set_cons_succ]
  refine anyZ_one (i := 14) (by kernel_rfl) rfl (fun K hK => ?_)
  have hw := HN2.out.ownr (k := n + j) (by omega) HX2.out
  dsimp only at hw
  have HO := Lib.hid hw
  clear hw
  rw [if_pos (by rfl)]
  refine mapp_wp (N := w0.heap.size) mInt _ _ rfl ((nn_len _).trans HO.out.2) rfl HO.out.1 wd2.heap.size (i : Int) rfl Fn2.out (by have := HO.out.2; have := hl2; omega) HN2.out.bel.size ?_
  intro g2 c2 wh2 ho hgr hat
  have HR2 := Lib.hid (show wn2.grownBy wh2 (ilB (v1 (n + j))) ∧ (ilB (v1 (n + j)) = some g2 ∨ g2 = wn2.heap.size) from by rw [HX2.out]; exact ⟨hgr, hat⟩)
  have HG2 := Lib.hid (HN2.out.growB (i := j) (l' := l2 ++ [i]) (n' := q + 1) hjn (by rw [nn_app]; exact ho) (by rw [List.length_append, HO.out.2]; rfl) HR2.out.1 HR2.out.2)
  have HK2 := Lib.hid (HN2.out.still (k := n + j) (by omega) HR2.out.1)
  clear ho hgr hat HO HR2
  try simp only [Act.put]
  refine hK.out _ _ (fun _ => ⟨HK2.out.1, HK2.out.2.2⟩) ?_
  clear hK K
  try simp only [Act.put, List.getElem_toArray, List.getElem_cons_zero, List.getElem_cons_succ, List.setIfInBounds_toArray, List.set_cons_zero, List.set_cons_succ]
  refine anyZ_one (i := 15) (by kernel_rfl) rfl (fun K hK => ?_)
  go_simp
  refine hK.out _ _ (fun _ => ⟨HK2.out.1, HK2.out.2.2⟩) ?_
  clear hK K
  try simp only [Act.put, List.getElem_toArray, List.getElem_cons_zero, List.getElem_cons_succ, List.setIfInBounds_toArray, List.set_cons_zero, List.set_cons_succ]
  refine anyZ_one (i := 16) (by kernel_rfl) rfl (fun K hK => ?_)
  have ck := HK2.out.2.2.cell j (by omega)
  have cf := HK2.out.2.2.free j
  obtain ⟨ws2, hws⟩ : ∃ ws, wh2.setCell ⟨gB, j, none⟩ (.slice (some ⟨g2, 0, none⟩) (q + 1) c2) = ws := ⟨_, rfl⟩
  have HZ2 := Lib.hid (hws ▸ HG2.out)
  go_simp
  try rw [hws]
  clear hws ck cf
  refine hK.out _ _ (fun h => absurd rfl h) ?_
  clear hK K
  try simp only [Act.put, List.getElem_toArray, List.getElem_cons_zero, List.getElem_cons_succ, List.setIfInBounds_toArray, List.set_cons_zero, List.set_cons_succ]
  refine anyZ_done (by kernel_rfl) ?_ _
  go_wp2_with fail
  go_end0
  refine ⟨rfl, _, HZ2.out, fun k => ?_⟩
  rw [HX.out.1, HY.out]
  by_cases e1 : k = i
  · rw [if_pos e1, upd_else _ _ (show k ≠ n + j by omega), HV.out, e1, upd_same]
  · rw [if_neg e1]
    by_cases e2 : k = n + j
    · rw [if_pos e2, e2, upd_same]
    · rw [if_neg e2, upd_else _ _ e2, HV.out, upd_else _ _ e1]
end Go.Proofs.Ytojfbcfbnadboaa.Gra
