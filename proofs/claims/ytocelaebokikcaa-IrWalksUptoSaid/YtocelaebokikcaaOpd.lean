/- What Operands gathers. -/
import Derived.Test.YtocelaebokikcaaOpdM
import Derived.Test.YtocelaebokikcaaUses
import Derived.Deep.AppendLies
namespace Go.Proofs.Ytocelaebokikcaa
open Go.ChangeShapes Go.WideShapes Go.RowKit
set_option linter.unusedVariables false
set_option maxRecDepth 20000

theorem info44_parts : ∃ i, Try.prog.info? 44 = some i ∧ i.zero = some (.agg #[.int .i64 0, .int .i64 0, .int .i64 0, .int .i64 0]) ∧ i.size = 4 ∧ i.bytes = 32 := by
  obtain ⟨i, hi, hinfo⟩ := Option.map_eq_some_iff.1 info44_own
  exact ⟨i, hi, congrArg Prod.fst hinfo, congrArg (fun x => x.2.1) hinfo, congrArg (fun x => x.2.2) hinfo⟩
/-- So many operands are gathered. -/
structure Gath (C : Nat) (w0 : World) (acc : List Opn) (w : World) : Prop where
  out : ∃ A c, w.heap[C]? = some (.cells #[.slice A acc.length c] 28 (0, 0)) ∧ w.ownsRow (C + 1) 44 4 (.slice A acc.length c) acc.length (acc.flatMap Opn.cs) ∧ Below C w0 w ∧ C < w.heap.size
set_option maxHeartbeats 2000000 in
theorem opd_v (C : Nat) (w0 : World) (acc : List Opn) (hlen : acc.length ≤ 1048576) (g o : Nat) (x : Opn) (w : World) (h : Gath C w0 acc w) (hg : g < C)
    (c0 : w.cell? ⟨g, o, none⟩ = some (.int .i64 x.k)) (c1 : w.cell? ⟨g, o + 1, none⟩ = some (.int .i64 x.c)) (c2 : w.cell? ⟨g, o + 2, none⟩ = some (.int .i64 x.n)) (c3 : w.cell? ⟨g, o + 3, none⟩ = some (.int .i64 x.t)) :
    Calls Try.prog 57 #[.pointer (some ⟨g, o, none⟩), .pointer (some ⟨C, 0, none⟩)] w fun e w' => e = .returned (.tuple #[]) ∧ Gath C w0 (acc ++ [x]) w' := by
  obtain ⟨i0, hi0, hz0, hz1, hz2⟩ := info44_parts
  have I0 := Lib.hid (And.intro hi0 (And.intro hz0 (And.intro hz1 hz2)))
  clear hi0 hz0 hz1 hz2
  obtain ⟨A, c, hC, hown, hB, hCl⟩ := h.out
  obtain ⟨L, hL⟩ : ∃ L, acc.length = L := ⟨_, rfl⟩
  rw [hL] at hC hown hlen
  have H := Lib.hid (And.intro hC (And.intro hown (And.intro hB (And.intro hCl hL))))
  have b0 : w.cell? ⟨C, 0, none⟩ = some (.slice A L c) := cell_in hC 0
  have f0 : w.frozen? ⟨C, 0, none⟩ = false := froz_in hC 0
  clear h hC hown hB hL hCl
  obtain ⟨xk, xc, xn, xt⟩ := x
  dsimp only at c0 c1 c2 c3
  go_enter Try.func57, Try.ntmps57
  go_wp2_with fail
  have hCw : C < w.heap.size := H.out.2.2.2.1
  have hgw : g < w.heap.size := by omega
  go_region_law (refine step_append_lies _ rfl (.tmp 3) (.tmp 7) 28 rfl (C + 1) 44 i0 (.agg #[.int .i64 0, .int .i64 0, .int .i64 0, .int .i64 0]) 4 32 Try.underlying28 I0.out.1 I0.out.2.1 I0.out.2.2.1 I0.out.2.2.2 rfl (by decide) (.slice A L c) L (acc.flatMap Opn.cs) (by simp [Act.eval]) ((H.out.2.1.alloc _).drew) ⟨w.heap.size, 0, none⟩ 1 1 (Opn.cs ⟨xk, xc, xn, xt⟩) (by simp [Act.eval]) rfl (fun j u hj => new_cell w _ 44 _ rfl j u hj) (by intro u hu; unfold Opn.cs at hu; simp at hu; rcases hu with rfl | rfl | rfl | rfl <;> rfl) (by decide) (by unfold maxLen; omega) (by omega) (by simp; omega) _ rfl ?_; intro g' cap' w1 hown hgrow hat hlt2; have hnr : some C ≠ (Value.slice A L c).ownBlock := (fun e => by have := (World.ownsRow.lt H.out.2.1 C e.symm).1; omega); have hk1 := hgrow.block C (by simp; omega) hnr; have hk2 : w1.heap[C]? = some (.cells #[.slice A L c] 28 (0, 0)) := (hk1.trans ((Below.heap_alloc w _ C hCw).trans H.out.1)); have b1 : w1.cell? ⟨C, 0, none⟩ = some (.slice A L c) := cell_in hk2 0; have f1 : w1.frozen? ⟨C, 0, none⟩ = false := froz_in hk2 0; have H2 := Lib.hid (And.intro hown (And.intro hgrow (And.intro hk2 hlt2))); clear hown hgrow hat hlt2 hk1 hk2 hnr)
  all_goals
    go_wp2_with fail
    go_end0
    refine ⟨rfl, ⟨some ⟨g', 0, none⟩, cap', ?_⟩⟩
    obtain ⟨o1, o2, o3, o4⟩ := H2.out
    obtain ⟨p1, p2, p3, p4, p5⟩ := H.out
    have hgC : g' ≠ C := fun e => by
      have := (World.ownsRow.lt o1 g' rfl).1
      omega
    have el : (acc ++ [(⟨xk, xc, xn, xt⟩ : Opn)]).length = L + 1 := by rw [List.length_append, p5]; rfl
    rw [el]
    refine ⟨set_at o3 0 _, ?_, ?_, ?_⟩
    · have e : (acc ++ [(⟨xk, xc, xn, xt⟩ : Opn)]).flatMap Opn.cs = acc.flatMap Opn.cs ++ Opn.cs ⟨xk, xc, xn, xt⟩ := by rw [List.flatMap_append]; simp
      rw [e]
      refine ⟨o1.1, ?_⟩
      rcases o1.2 with h2 | ⟨g2, cap2, cur2, h2, h3, h4, h5⟩
      · exact .inl h2
      · refine .inr ⟨g2, cap2, cur2, h2, h3, ?_, h5⟩
        rw [set_far (by omega)]; exact h4
    · have b1 : Below C w0 w1 := below_row (wr := (w.alloc _).drew) (((p3.alloc (by omega) _)).drew) o2 ((p2.alloc _).drew) (by omega) (by simp; omega)
      exact b1.setCell (p := ⟨C, 0, none⟩) (Nat.le_refl _) _
    · have := o2.size
      simp [World.setCell] at *
      omega
theorem off_zero (v : FunV) : v.off 0 = v.pn := rfl
theorem ops_at {w : World} {A : Option Addr} {n : Nat} {l : List Opn} (h : IsOps w A n l) {k : Nat} (hk : k < n) : ∃ b o x, A = some ⟨b, o, none⟩ ∧ b < w.heap.size ∧ l[k]? = some x ∧ w.cell? ⟨b, o + k * 4, none⟩ = some (.int .i64 x.k) ∧ w.cell? ⟨b, o + k * 4 + 1, none⟩ = some (.int .i64 x.c) ∧ w.cell? ⟨b, o + k * 4 + 2, none⟩ = some (.int .i64 x.n) ∧ w.cell? ⟨b, o + k * 4 + 3, none⟩ = some (.int .i64 x.t) := by
  obtain ⟨b, o, h1, h2, x, h3, h4⟩ := h.at hk
  exact ⟨b, o, x, h1, h2, h3, h4⟩
/-- What Operands hands back: a function over the operands, in a slice of its own. -/
structure OpsP (l : List Opn) (w : World) (e : Ending) (w' : World) : Prop where
  out : ∃ V A c, e = .returned (.func (.func 70) #[] #[.pointer (some ⟨V, 0, none⟩)]) ∧ w.heap.size ≤ V ∧ w'.heap[V]? = some (.cells #[.slice A l.length c] 28 (0, 0)) ∧ IsOps w' A l.length l ∧ Below w.heap.size w w'
theorem ops_row {w : World} {base : Nat} {A : Option Addr} {c n : Nat} {l : List Opn} (h : w.ownsRow base 44 4 (.slice A n c) n (l.flatMap Opn.cs)) (hl : l.length = n) (hn : n ≤ 9223372036854775807) : IsOps w A n l := by
  refine ⟨hl, hn, ?_⟩
  rcases h.2 with ⟨h2, h3⟩ | ⟨g, cap, cur, h2, h3, h4, h5, h6, h7, h8⟩
  · subst h3; exact .inl (List.eq_nil_of_length_eq_zero hl)
  · injection h2 with e1 _ _
    subst e1
    have hc : ∀ k j (hk : k < l.length) (hj : j < 4) u, (Opn.cs l[k])[j]? = some u → w.cell? ⟨g, 0 + k * 4 + j, none⟩ = some u := fun k j hk hj u hu => by
      rw [cell_in h4, ← Array.getElem?_toList]
      have e : (cur.toList.take (n * 4))[0 + k * 4 + j]? = (l.flatMap Opn.cs)[0 + k * 4 + j]? := by rw [h8]
      rw [List.getElem?_take, if_pos (by omega)] at e
      rw [e, Nat.zero_add, flat_at Opn.cs 4 (fun _ => rfl) l k j l[k] (List.getElem?_eq_getElem hk) hj]
      exact hu
    exact .inr ⟨g, 0, rfl, (Array.getElem?_eq_some_iff.1 h4).1, fun k hk => ⟨hc k 0 hk (by omega) _ rfl, hc k 1 hk (by omega) _ rfl, hc k 2 hk (by omega) _ rfl, hc k 3 hk (by omega) _ rfl⟩⟩
theorem fun_str {w : World} {P : Nat} {f : Fun} {v : FunV} (h : IsFun w f v) (hb : w.heap[P]? = some (.cells (funR f v) 31 (0, 0))) (hs : v.pn ≤ 1048576 ∧ v.bn ≤ 1048576 ∧ ∀ b, b < v.bn → (v.R b).il ≤ 1048576 ∧ (v.R b).kn ≤ 1048576 ∧ ∀ k, k < (v.R b).kn → ((v.R b).R k).an ≤ 1048576) : IsStr w P v := by
  refine ⟨cell_in hb 3, cell_in hb 4, fun b hbv => ?_, fun b k hbv hkv => ?_, hs⟩
  · obtain ⟨g, o, h1, _, x, _, _, _, _, c2, c3⟩ := h.blocks.at hbv
    exact ⟨g, o, h1, c2, c3⟩
  · obtain ⟨g, o, h1, _, x, _, _, _, _, _, _, _, c5, _⟩ := (h.blkOf (by rw [h.blocks.1]; exact hbv)).code.at hkv
    exact ⟨g, o, h1, c5⟩
set_option maxHeartbeats 2000000 in
theorem operands_v (f : Fun) (v : FunV) (w : World) (h : IsFun w f v) (hs : v.pn ≤ 1048576 ∧ v.bn ≤ 1048576 ∧ ∀ b, b < v.bn → (v.R b).il ≤ 1048576 ∧ (v.R b).kn ≤ 1048576 ∧ ∀ k, k < (v.R b).kn → ((v.R b).R k).an ≤ 1048576) (hN : (funOps f).length ≤ 1048576) :
    Calls Try.prog 19 #[.agg (funR f v)] w (OpsP (funOps f) w) := by
  have B0 : Below w.heap.size w (w.alloc (.cells (funR f v) 31)) := (Below.refl _ w).alloc (Nat.le_refl _) _
  have D := Lib.hid (And.intro (h.below B0) (And.intro (show (w.alloc (.cells (funR f v) 31)).heap.size = w.heap.size + 1 by simp) (And.intro B0 (And.intro (heap_alloc_new w (.cells (funR f v) 31)) (And.intro hs hN)))))
  clear B0 h hs hN
  obtain ⟨cs, hcs⟩ : ∃ cs, funR f v = cs := ⟨_, rfl⟩
  have HCS := Lib.hid hcs
  rw [hcs] at D ⊢
  clear hcs
  go_enter Try.func19, Try.ntmps19
  go_wp2_with fail
  obtain ⟨wa, hwa⟩ : ∃ wa, w.alloc (.cells cs 31) = wa := ⟨_, rfl⟩
  rw [hwa] at D ⊢
  clear hwa
  obtain ⟨C, hC⟩ : ∃ C, w.heap.size + 1 = C := ⟨_, rfl⟩
  have hCa : wa.heap.size = C := by rw [D.out.2.1]; exact hC
  obtain ⟨P, hP⟩ : ∃ P, w.heap.size = P := ⟨_, rfl⟩
  have HC := Lib.hid (And.intro hCa hP)
  have G0 : Gath C wa ((funOps f).take 0) (wa.alloc (.cells #[.slice none 0 0] 28)) := by
    rw [List.take_zero]
    refine ⟨none, 0, ?_, World.ownsRow_nil _ _ _ _, (Below.refl _ wa).alloc (by rw [hCa]; exact Nat.le_refl _) _, by simp [hCa]⟩
    rw [← hCa]; exact heap_alloc_new wa _
  rw [hC, hP]
  have hPC : P < C := by omega
  clear hC hP hCa
  have hfit := D.out.1.fits
  have keepF : ∀ n w, Gath C wa ((funOps f).take n) w → IsFun w f v ∧ w.heap[P]? = some (.cells (funR f v) 31 (0, 0)) := fun n w hg => by
    obtain ⟨_, _, _, _, hb, _⟩ := hg.out
    have hb' : Below wa.heap.size wa w := by rw [HC.out.1]; exact hb
    refine ⟨D.out.1.below hb', ?_⟩
    rw [HCS.out, ← HC.out.2]
    exact kept_box D.out.2.2.2.1 hb'
  have low : ∀ (w : World) (g : Nat), g < wa.heap.size → g < C := fun w g hg => by rw [← HC.out.1]; exact hg
  have step : ∀ n w g o x, (funOps f)[n]? = some x → Gath C wa ((funOps f).take n) w → g < C → w.cell? ⟨g, o, none⟩ = some (.int .i64 x.k) → w.cell? ⟨g, o + 1, none⟩ = some (.int .i64 x.c) → w.cell? ⟨g, o + 2, none⟩ = some (.int .i64 x.n) → w.cell? ⟨g, o + 3, none⟩ = some (.int .i64 x.t) →
      Calls Try.prog 57 #[.pointer (some ⟨g, o, none⟩), .pointer (some ⟨C, 0, none⟩)] w fun e w' => e = .returned (.tuple #[]) ∧ Gath C wa ((funOps f).take (n + 1)) w' := fun n w g o x hx hg hgC c0 c1 c2 c3 => by
    have := opd_v C wa ((funOps f).take n) (by rw [List.length_take]; have := D.out.2.2.2.2.2; omega) g o x w hg hgC c0 c1 c2 c3
    rw [List.take_add_one, hx]
    exact this
  have lowA : ∀ {A : Option Addr} {n : Nat} {l : List Opn} {k : Nat} {w : World}, IsOps wa A n l → Below C wa w → k < n → ∃ b o x, A = some ⟨b, o, none⟩ ∧ b < C ∧ l[k]? = some x ∧ w.cell? ⟨b, o + k * 4, none⟩ = some (.int .i64 x.k) ∧ w.cell? ⟨b, o + k * 4 + 1, none⟩ = some (.int .i64 x.c) ∧ w.cell? ⟨b, o + k * 4 + 2, none⟩ = some (.int .i64 x.n) ∧ w.cell? ⟨b, o + k * 4 + 3, none⟩ = some (.int .i64 x.t) := fun {A n l k w} hops hb hk => by
    obtain ⟨b, o, x, h1, h2, h3, c0, c1, c2, c3⟩ := ops_at hops hk
    have hbC : b < C := by rw [← HC.out.1]; exact h2
    exact ⟨b, o, x, h1, hbC, h3, (hb.cell (p := ⟨b, _, none⟩) hbC).trans c0, (hb.cell (p := ⟨b, _, none⟩) hbC).trans c1, (hb.cell (p := ⟨b, _, none⟩) hbC).trans c2, (hb.cell (p := ⟨b, _, none⟩) hbC).trans c3⟩
  have bel : ∀ n w, Gath C wa ((funOps f).take n) w → Below C wa w := fun n w hg => by
    obtain ⟨_, _, _, _, hb, _⟩ := hg.out
    exact hb
  have hE := each57_v C P v (fun n w => Gath C wa ((funOps f).take n) w) _ G0 (fun n w hg => fun_str (keepF n w hg).1 (keepF n w hg).2 D.out.2.2.2.2.1)
    (fun k w hk hg => by
      obtain ⟨b, o, x, h1, h2, h3, c0, c1, c2, c3⟩ := lowA D.out.1.params (bel _ w hg) hk
      exact ⟨b, o, h1, step k w b (o + k * 4) x (by rw [hfit.at_params hk]; exact h3) hg h2 c0 c1 c2 c3⟩)
    (fun b k w hb hk hg => by
      obtain ⟨g, o, x, h1, h2, h3, c0, c1, c2, c3⟩ := lowA (D.out.1.blkOf (by rw [hfit.blocks]; exact hb)).ins (bel _ w hg) hk
      exact ⟨g, o, h1, step _ w g (o + k * 4) x (by rw [hfit.at_ins hb hk]; exact h3) hg h2 c0 c1 c2 c3⟩)
    (fun b k g o w hb hk hg hgo => by
      obtain ⟨g', o', h1, h2, x, h3, _, _, d1, d2, d3, d4, _⟩ := (D.out.1.blkOf (by rw [hfit.blocks]; exact hb)).code.at hk
      rw [hgo] at h1
      injection h1 with h1
      injection h1 with e1 e2
      subst e1; subst e2
      have hgC : g < C := by rw [← HC.out.1]; exact h2
      have hx : (f.inst b k) = x := by unfold Fun.inst; rw [List.getD_eq_getElem?_getD, h3]; rfl
      have hb' := bel _ w hg
      exact step _ w g (o + k * 10 + 1) x.dst (by rw [hfit.at_dst hb hk, hx]) hg hgC ((hb'.cell (p := ⟨g, _, none⟩) hgC).trans d1) ((hb'.cell (p := ⟨g, _, none⟩) hgC).trans d2) ((hb'.cell (p := ⟨g, _, none⟩) hgC).trans d3) ((hb'.cell (p := ⟨g, _, none⟩) hgC).trans d4))
    (fun b k j w hb hk hj hg => by
      obtain ⟨g, o, x, h1, h2, h3, c0, c1, c2, c3⟩ := lowA (D.out.1.insOf (by rw [hfit.blocks]; exact hb) (by rw [hfit.code b hb]; exact hk)).args (bel _ w hg) hj
      exact ⟨g, o, h1, step _ w g (o + j * 4) x (by rw [hfit.at_args hb hk hj]; exact h3) hg h2 c0 c1 c2 c3⟩)
  have HE := Lib.hid hE
  have HX := Lib.hid (And.intro hfit.all hPC)
  clear hE step lowA bel keepF low G0 hfit
  refine HE.out.mono ?_
  rintro e w1 ⟨rfl, hg⟩
  rw [HX.out.1, List.take_of_length_le (Nat.le_refl _)] at hg
  obtain ⟨A, c, hC1, hown, hb, hCl⟩ := hg.out
  have b1 : w1.cell? ⟨C, 0, none⟩ = some (.slice A (funOps f).length c) := cell_in hC1 0
  have HG := Lib.hid (And.intro hown (And.intro hb hCl))
  clear HE hg hC1 hown hb hCl
  obtain ⟨l, hl⟩ : ∃ l, funOps f = l := ⟨_, rfl⟩
  have HLL := Lib.hid hl
  rw [hl] at b1 HG
  go_wp2_with fail
  have h58 : Calls Try.prog 58 #[.slice A l.length c] w1 fun e w' => e = .returned (.func (.func 70) #[] #[.pointer (some ⟨w1.heap.size, 0, none⟩)]) ∧ w' = w1.alloc (.cells #[.slice A l.length c] 28) := by
    clear b1
    go_enter Try.func58, Try.ntmps58
    go_wp2_with fail
    go_ret
    exact ⟨rfl, rfl⟩
  refine h58.mono ?_
  rintro e w2 ⟨rfl, rfl⟩
  clear h58
  go_wp2_with fail
  go_ret
  have hlN : l.length ≤ 1048576 := by rw [← HLL.out]; exact D.out.2.2.2.2.2
  rw [HLL.out]
  refine ⟨w1.heap.size, A, c, rfl, ?_, heap_alloc_new w1 _, (ops_row HG.out.1 rfl (by omega)).below ((Below.refl _ w1).alloc (Nat.le_refl _) _), ?_⟩
  · have := HG.out.2.2; have := HX.out.2; have := HC.out.2; omega
  · have := HG.out.2.2
    exact (D.out.2.2.1.trans (HG.out.2.1.mono (by have := HX.out.2; have := HC.out.2; omega))).alloc (by have := HX.out.2; have := HC.out.2; omega) _
end Go.Proofs.Ytocelaebokikcaa
