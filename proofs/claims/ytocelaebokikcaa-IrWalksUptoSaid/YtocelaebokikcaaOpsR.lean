/- The document's Operands. -/
import Derived.Test.YtocelaebokikcaaOpd
import Derived.Laws.AppendOwnNone
import Derived.Laws.OwnMore
import Derived.OwnWalk
import Derived.Deep.Upon
namespace Go.Proofs.Ytocelaebokikcaa
open Go.ChangeShapes Go.WideShapes Go.RowKit
set_option linter.unusedVariables false
set_option maxRecDepth 20000

theorem cs_flat_len (l : List Opn) : (l.flatMap Opn.cs).length = l.length * 4 := by
  induction l with
  | nil => rfl
  | cons a l ih => rw [List.flatMap_cons, List.length_append, ih, List.length_cons]; show 4 + _ = _; omega
theorem cs_flat_one (l : List Opn) : ∀ u ∈ l.flatMap Opn.cs, u.oneCell' = true := by
  intro u hu
  obtain ⟨x, _, hx⟩ := List.mem_flatMap.1 hu
  unfold Opn.cs at hx
  simp at hx
  rcases hx with rfl | rfl | rfl | rfl <;> rfl
theorem ops_news {w : World} {b o n : Nat} {l : List Opn} (h : IsOps w (some ⟨b, o, none⟩) n l) : ∀ j u, (l.flatMap Opn.cs)[j]? = some u → w.cell? ((⟨b, o, none⟩ : Addr).add j) = some u := by
  intro j u hu
  have hj : j < l.length * 4 := by
    rw [← cs_flat_len]; exact (List.getElem?_eq_some_iff.1 hu).1
  obtain ⟨h1, hm, h⟩ := h
  rcases h with h | ⟨b', o', e, hlt, hc⟩
  · subst h; simp at hj
  · injection e with e
    injection e with e1 e2
    subst e1; subst e2
    have hk : j / 4 < l.length := by omega
    obtain ⟨c0, c1, c2, c3⟩ := hc (j / 4) hk
    have hq : (l.flatMap Opn.cs)[0 + j / 4 * 4 + j % 4]? = some u := by rw [show 0 + j / 4 * 4 + j % 4 = j by omega]; exact hu
    rw [Nat.zero_add, flat_at Opn.cs 4 (fun _ => rfl) l (j / 4) (j % 4) l[j / 4] (List.getElem?_eq_getElem hk) (by omega)] at hq
    rw [add_at]
    have hr : j % 4 = 0 ∨ j % 4 = 1 ∨ j % 4 = 2 ∨ j % 4 = 3 := by omega
    rcases hr with e | e | e | e
    · rw [e] at hq; simp [Opn.cs] at hq; rw [show o + j = o + j / 4 * 4 by omega, c0, ← hq]
    · rw [e] at hq; simp [Opn.cs] at hq; rw [show o + j = o + j / 4 * 4 + 1 by omega, c1, ← hq]
    · rw [e] at hq; simp [Opn.cs] at hq; rw [show o + j = o + j / 4 * 4 + 2 by omega, c2, ← hq]
    · rw [e] at hq; simp [Opn.cs] at hq; rw [show o + j = o + j / 4 * 4 + 3 by omega, c3, ← hq]
/-- 'append(own, xs...)', xs nil or not. -/
theorem wpList_ops {w : World} {ops : Array Oper} {rest : List Oper} {o : Oper} {a : Act} {Q : Exit → Act → World → Prop} (hgd : o.guard = none) (s x : Operand)
    (ho : o.op = .call { callee := .builtin .append, args := #[s, x], argTypes := #[28, 28] })
    (base : Nat) (v : Value) (acc : List Opn) (hs : a.eval s = v) (hown : w.ownsRow base 44 4 v acc.length (acc.flatMap Opn.cs))
    (A : Option Addr) (m c : Nat) (l : List Opn) (hx : a.eval x = .slice A m c) (hA : IsOps w A m l) (hlen : acc.length + m ≤ 1048576) (hbase : base ≤ w.heap.size)
    (h : ∀ v' w', w'.ownsRow base 44 4 v' (acc ++ l).length ((acc ++ l).flatMap Opn.cs) → w.grownBy w' v.ownBlock → wpList Try.prog ops Q rest (a.put o.dst v') w') : wpList Try.prog ops Q (o :: rest) a w := by
  obtain ⟨i0, hi0, hz0, hz1, hz2⟩ := info44_parts
  have hl := hA.1
  by_cases hm : m = 0
  · subst hm
    have hl0 : l = [] := List.eq_nil_of_length_eq_zero hl
    subst hl0
    have hform : ∃ A0 n0 c0, v = .slice A0 n0 c0 ∧ n0 ≤ c0 := by
      rcases hown.2 with ⟨e, _⟩ | ⟨g, cap, cur, e, _, _, hle, _⟩
      · exact ⟨_, _, _, e, Nat.le_refl _⟩
      · exact ⟨_, _, _, e, hle⟩
    obtain ⟨A0, n0, c0, rfl, hle⟩ := hform
    have hsrc : Src Try.prog i0.size 28 (.slice A 0 c) 0 [] w := ⟨.inl ⟨44, Try.underlying28⟩, fun w' => by simp [Builtin.lenOf], by cases A <;> simp [Builtin.firstCells, loadCells, loadCellsFrom], by cases A <;> simp [Builtin.firstCells, loadCells, loadCellsFrom], by simp, by simp⟩
    refine wpList_plain hgd fun K hK => ?_
    have hrun := run_append_nothing w 28 28 o.type 44 i0 Try.underlying28 hi0 A0 n0 c0 hle _ hsrc
    unfold Oper.wp
    simp [execOp, ho, resolve, invoke, builtin, hs, hx, hrun, Result.andThen]
    exact hK _ _ (h _ _ (by simpa using hown) ⟨rfl, rfl, rfl, Nat.le_refl _, fun _ _ _ => rfl⟩)
  · obtain ⟨b, off, rfl, _⟩ := hA.at (k := 0) (by omega)
    refine wpList_append_own w hgd s x 28 ho base 44 i0 _ 4 32 Try.underlying28 hi0 hz0 hz1 hz2 rfl (by decide) v acc.length (acc.flatMap Opn.cs) hs hown ⟨b, off, none⟩ m c (l.flatMap Opn.cs) hx (by rw [cs_flat_len, hl]) (ops_news hA) (cs_flat_one l) (by unfold maxLen; omega) (by omega) hbase (fun v' w' h2 h3 _ => h v' w' ?_ h3)
    rw [List.length_append, List.flatMap_append, hl]
    exact h2
structure RefOpsP (f : Fun) (w : World) (e : Ending) (w' : World) : Prop where
  out : ∃ A c, e = .returned (.slice A (funOps f).length c) ∧ IsOps w' A (funOps f).length (funOps f) ∧ Below w.heap.size w w'
theorem own_ops {w : World} {base : Nat} {v : Value} {l : List Opn} (h : w.ownsRow base 44 4 v l.length (l.flatMap Opn.cs)) (hn : l.length ≤ 9223372036854775807) : ∃ A c, v = .slice A l.length c ∧ IsOps w A l.length l := by
  obtain ⟨A, c, rfl⟩ := owns_form h
  exact ⟨A, c, rfl, ops_row h rfl hn⟩
theorem pre_step (l : List Blk) (i : Nat) (y : Blk) (h : l[i]? = some y) : (l.take (i + 1)).flatMap blkOps = (l.take i).flatMap blkOps ++ blkOps y := by
  rw [List.take_add_one, h, List.flatMap_append]; simp
theorem pre_stepI (l : List Ins) (i : Nat) (y : Ins) (h : l[i]? = some y) : (l.take (i + 1)).flatMap insOps = (l.take i).flatMap insOps ++ insOps y := by
  rw [List.take_add_one, h, List.flatMap_append]; simp
theorem flat_take {α : Type} (g : α → List Opn) (l : List α) (i : Nat) : ((l.take i).flatMap g).length ≤ (l.flatMap g).length := by
  have e : l.flatMap g = (l.take i).flatMap g ++ (l.drop i).flatMap g := by rw [← List.flatMap_append, List.take_append_drop]
  rw [e, List.length_append]; omega
set_option maxHeartbeats 4000000 in
theorem refops_v (f : Fun) (v : FunV) (w : World) (h : IsFun w f v) (hN : (funOps f).length ≤ 1048576) : Calls Try.prog 18 #[.agg (funR f v)] w (RefOpsP f w) := by
  have B0 : Below w.heap.size w (w.alloc (.cells (funR f v) 31)) := (Below.refl _ w).alloc (Nat.le_refl _) _
  have D := Lib.hid (And.intro (h.below B0) (And.intro (show (w.alloc (.cells (funR f v) 31)).heap.size = w.heap.size + 1 by simp) (And.intro B0 (And.intro (heap_alloc_new w (.cells (funR f v) 31)) hN))))
  have hbm := h.blocks.2.1
  clear h B0 hN
  obtain ⟨machine, name, regs, params, blocks⟩ := f
  obtain ⟨ra, rn, rc, pa, pn, pc, ba, bn, bc, rr⟩ := v
  unfold funR at D ⊢
  dsimp only at D hbm ⊢
  obtain ⟨wa, hwa⟩ : ∃ wa, w.alloc (.cells #[.bool machine, .string name, .slice ra rn rc, .slice pa pn pc, .slice ba bn bc] 31) = wa := ⟨_, rfl⟩
  rw [hwa] at D
  have BA : Below wa.heap.size wa (wa.alloc (.cells #[] 44)) := (Below.refl _ wa).alloc (Nat.le_refl _) _
  have hbox := Lib.hid (show ∀ W, Below wa.heap.size wa W → W.heap[w.heap.size]? = some (.cells #[.bool machine, .string name, .slice ra rn rc, .slice pa pn pc, .slice ba bn bc] 31 (0, 0)) from fun W hb => kept_box D.out.2.2.2.1 hb)
  have k3 : (wa.alloc (.cells #[] 44)).cell? ⟨w.heap.size, 3, none⟩ = some (.slice pa pn pc) := cell_in (hbox.out _ BA) 3
  have own0 : (wa.alloc (.cells #[] 44)).ownsRow wa.heap.size 44 4 (.slice (some ⟨wa.heap.size, 0, none⟩) 0 0) ([] : List Opn).length (([] : List Opn).flatMap Opn.cs) := World.ownsRow_lit wa #[] 0 (Nat.le_refl _) (by unfold maxLen; omega) rfl
  have hps : IsOps (wa.alloc (.cells #[] 44)) pa pn params := D.out.1.params.below BA
  have hpl : pn = params.length := hps.1.symm
  have hfl : (funOps ⟨machine, name, regs, params, blocks⟩).length = params.length + (blocks.flatMap blkOps).length := by unfold funOps; rw [List.length_append]
  have HO := Lib.hid (And.intro own0 (And.intro hps (And.intro BA (And.intro hpl hfl))))
  clear own0 hps BA hpl hfl
  go_enter Try.func18, Try.ntmps18
  go_wp2_with (at_builtin; refine wpList_ops rfl (.tmp 6) (.tmp 8) rfl wa.heap.size (.slice (some ⟨wa.heap.size, 0, none⟩) 0 0) [] rfl HO.out.1 pa pn pc params rfl HO.out.2.1 (by have := HO.out.2.2.2; have := D.out.2.2.2.2; simp only [List.length_nil]; omega) (by simp) ?_)
  intro v1 w1 hown hgrow
  have H1 := Lib.hid (And.intro hown (below_row HO.out.2.2.1 hgrow HO.out.1 (Nat.le_refl _) (by simp)))
  clear hown hgrow k3 hwa
  have k4 : w1.cell? ⟨w.heap.size, 4, none⟩ = some (.slice ba bn bc) := cell_in (hbox.out _ H1.out.2) 4
  go_wp2_with fail
  clear k4
  go_loopg [3, 4] bn (fun gk u1 u2 wr => ∃ i : Nat, i + gk = bn ∧ u2 = .int .i64 (i : Int) ∧ Hid (wr.ownsRow wa.heap.size 44 4 u1 (params ++ (blocks.take i).flatMap blkOps).length ((params ++ (blocks.take i).flatMap blkOps).flatMap Opn.cs) ∧ Below wa.heap.size wa wr))
  case atStart => exact ⟨0, by omega, rfl, by simpa using H1.out.1, H1.out.2⟩
  case round =>
    obtain ⟨i, hi, rfl, HH⟩ := hrel
    have k4 : wr.cell? ⟨w.heap.size, 4, none⟩ = some (.slice ba bn bc) := cell_in (hbox.out _ HH.out.2) 4
    by_cases hli : i < bn
    · obtain ⟨b, o, rfl, hb, y, hy, hiy, c0, c1, c2, c3⟩ := D.out.1.blocks.at hli
      dsimp only at hy hiy c0 c1 c2 c3
      have i1 : (i : Int) < (bn : Int) := by omega
      have hps := pre_step blocks i y hy
      have hpl := flat_take blkOps blocks (i + 1)
      rw [hps] at hpl
      obtain ⟨label, edge, ins, code⟩ := y
      generalize rr i = r at hiy c2 c3
      obtain ⟨ia, il, ic, ka, kn, kc, R⟩ := r
      dsimp only at c0 c1 c2 c3
      have hkm : kn ≤ 9223372036854775807 := hiy.code.2.1
      have hbl : (blkOps ⟨label, edge, ins, code⟩).length = ins.length + (code.flatMap insOps).length := by unfold blkOps; rw [List.length_append]
      have HX := Lib.hid (And.intro hps (And.intro hpl (And.intro hbl hiy)))
      have HC := Lib.hid (show ∀ W, Below wa.heap.size wa W → W.cell? ⟨b, o + i * 4 + 2, none⟩ = some (.slice ia il ic) ∧ W.cell? ⟨b, o + i * 4 + 3, none⟩ = some (.slice ka kn kc) from fun W h => ⟨(h.cell (p := ⟨b, o + i * 4 + 2, none⟩) hb).trans c2, (h.cell (p := ⟨b, o + i * 4 + 3, none⟩) hb).trans c3⟩)
      obtain ⟨c2r, c3r⟩ := HC.out wr HH.out.2
      have hbnd : (params ++ (blocks.take i).flatMap blkOps).length + il ≤ 1048576 := by
        have h1 := HO.out.2.2.2.2
        have h2 := D.out.2.2.2.2
        have h3 := hiy.ins.1
        dsimp only at h3
        rw [List.length_append] at hpl ⊢
        rw [hbl] at hpl
        omega
      have HBd := Lib.hid hbnd
      clear hps hpl hbl hiy c0 c1 c2 c3 hb hbnd
      go_wp2_with (at_builtin; refine wpList_ops rfl (.tmp 17) (.tmp 23) rfl wa.heap.size _ (params ++ (blocks.take i).flatMap blkOps) rfl HH.out.1 ia il ic ins rfl (HX.out.2.2.2.ins.below HH.out.2) HBd.out HH.out.2.size ?_)
      intro v2 w2 hown hgrow
      have H2 := Lib.hid (And.intro hown (below_row HH.out.2 hgrow HH.out.1 (Nat.le_refl _) HH.out.2.size))
      clear hown hgrow k4 c2r c3r
      obtain ⟨c2r, c3r⟩ := HC.out w2 H2.out.2
      have k4 : w2.cell? ⟨w.heap.size, 4, none⟩ = some (.slice (some ⟨b, o, none⟩) bn bc) := cell_in (hbox.out _ H2.out.2) 4
      go_wp2_with fail
      clear k4 c2r c3r
      go_loopg [3, 5] kn (fun gk u1 u2 wr => ∃ k : Nat, k + gk = kn ∧ u2 = .int .i64 (k : Int) ∧ Hid (wr.ownsRow wa.heap.size 44 4 u1 ((params ++ (blocks.take i).flatMap blkOps ++ ins) ++ (code.take k).flatMap insOps).length (((params ++ (blocks.take i).flatMap blkOps ++ ins) ++ (code.take k).flatMap insOps).flatMap Opn.cs) ∧ Below wa.heap.size wa wr))
      case atStart => exact ⟨0, by omega, rfl, by simpa using H2.out.1, H2.out.2⟩
      case round =>
        obtain ⟨k, hk, rfl, HQ⟩ := hrel
        obtain ⟨c2r, c3r⟩ := HC.out wr HQ.out.2
        have k4 : wr.cell? ⟨w.heap.size, 4, none⟩ = some (.slice (some ⟨b, o, none⟩) bn bc) := cell_in (hbox.out _ HQ.out.2) 4
        by_cases hlk : k < kn
        · obtain ⟨b2, o2, rfl, hb2, z, hz, hiz, d0, d1, d2, d3, d4, d5, d6, d7, d8, d9⟩ := HX.out.2.2.2.code.at hlk
          dsimp only at hz hiz d1 d2 d3 d4 d5
          have i2 : (k : Int) < (kn : Int) := by omega
          have hps := pre_stepI code k z hz
          have hpl := flat_take insOps code (k + 1)
          rw [hps] at hpl
          generalize R k = r at hiz d5 d8 d9
          obtain ⟨op, ⟨dk, dc, dn, dt⟩, args, nm, off, labels, cas⟩ := z
          obtain ⟨aa, an, ac, la, ln, lc, ca, cn, cc⟩ := r
          dsimp only at hiz d1 d2 d3 d4 d5
          have han := hiz.args.1
          dsimp only at han
          have hbnd : ((params ++ (blocks.take i).flatMap blkOps ++ ins) ++ (code.take k).flatMap insOps).length + 1 + an ≤ 1048576 := by
            have h1 := HO.out.2.2.2.2
            have h2 := D.out.2.2.2.2
            have h3 := HX.out.2.1
            have h4 := HX.out.2.2.1
            have h5 : (insOps ⟨op, ⟨dk, dc, dn, dt⟩, args, nm, off, labels, cas⟩).length = args.length + 1 := List.length_cons
            rw [List.length_append, h5] at hpl
            rw [List.length_append] at h3
            simp only [List.length_append] at hpl h3 ⊢
            omega
          have HZ := Lib.hid (And.intro hiz.args (And.intro hps hbnd))
          have HE := Lib.hid (show ∀ W, Below wa.heap.size wa W → W.cell? ⟨b2, o2 + k * 10 + 1, none⟩ = some (.int .i64 dk) ∧ W.cell? ⟨b2, o2 + k * 10 + 2, none⟩ = some (.int .i64 dc) ∧ W.cell? ⟨b2, o2 + k * 10 + 3, none⟩ = some (.int .i64 dn) ∧ W.cell? ⟨b2, o2 + k * 10 + 4, none⟩ = some (.int .i64 dt) ∧ W.cell? ⟨b2, o2 + k * 10 + 5, none⟩ = some (.slice aa an ac) from fun W h => ⟨(h.cell (p := ⟨b2, _, none⟩) hb2).trans d1, (h.cell (p := ⟨b2, _, none⟩) hb2).trans d2, (h.cell (p := ⟨b2, _, none⟩) hb2).trans d3, (h.cell (p := ⟨b2, _, none⟩) hb2).trans d4, (h.cell (p := ⟨b2, _, none⟩) hb2).trans d5⟩)
          clear hz hiz han hbnd hps hpl hb2 d0 d1 d2 d3 d4 d5 d6 d7 d8 d9
          obtain ⟨g1, g2, g3, g4, g5⟩ := HE.out wr HQ.out.2
          have BN : Below wa.heap.size wa (wr.alloc (.cells #[.int .i64 dk, .int .i64 dc, .int .i64 dn, .int .i64 dt] 44)) := HQ.out.2.alloc HQ.out.2.size _
          have own1 : IsOps (wr.alloc (.cells #[.int .i64 dk, .int .i64 dc, .int .i64 dn, .int .i64 dt] 44)) (some ⟨wr.heap.size, 0, none⟩) 1 [⟨dk, dc, dn, dt⟩] := by
            refine ⟨rfl, by omega, .inr ⟨wr.heap.size, 0, rfl, by simp, fun j hj => ?_⟩⟩
            have hj0 : j = 0 := by simpa using hj
            subst hj0
            have hn := heap_alloc_new wr (.cells #[.int .i64 dk, .int .i64 dc, .int .i64 dn, .int .i64 dt] 44)
            exact ⟨cell_in hn 0, cell_in hn 1, cell_in hn 2, cell_in hn 3⟩
          have HN := Lib.hid (And.intro own1 BN)
          clear own1 BN
          go_wp2_with (at_builtin; refine wpList_ops rfl (.tmp 36) (.tmp 47) rfl wa.heap.size _ ((params ++ (blocks.take i).flatMap blkOps ++ ins) ++ (code.take k).flatMap insOps) rfl (HQ.out.1.alloc _) (some ⟨wr.heap.size, 0, none⟩) 1 1 [⟨dk, dc, dn, dt⟩] rfl HN.out.1 (by have := HZ.out.2.2; omega) HN.out.2.size ?_)
          intro v3 w3 hown hgrow
          replace hown : w3.ownsRow wa.heap.size 44 4 v3 ((params ++ (blocks.take i).flatMap blkOps ++ ins) ++ (code.take k).flatMap insOps ++ [(⟨dk, dc, dn, dt⟩ : Opn)]).length (((params ++ (blocks.take i).flatMap blkOps ++ ins) ++ (code.take k).flatMap insOps ++ [(⟨dk, dc, dn, dt⟩ : Opn)]).flatMap Opn.cs) := by simpa using hown
          have H3 := Lib.hid (And.intro hown (below_row HN.out.2 hgrow (HQ.out.1.alloc _) (Nat.le_refl _) HN.out.2.size))
          clear hown hgrow k4 c2r c3r g1 g2 g3 g4 g5
          obtain ⟨c2r, c3r⟩ := HC.out w3 H3.out.2
          have k4 : w3.cell? ⟨w.heap.size, 4, none⟩ = some (.slice (some ⟨b, o, none⟩) bn bc) := cell_in (hbox.out _ H3.out.2) 4
          obtain ⟨g1, g2, g3, g4, g5⟩ := HE.out w3 H3.out.2
          go_wp2_with (at_builtin; refine wpList_ops rfl (.tmp 49) (.tmp 59) rfl wa.heap.size _ ((params ++ (blocks.take i).flatMap blkOps ++ ins) ++ (code.take k).flatMap insOps ++ [(⟨dk, dc, dn, dt⟩ : Opn)]) rfl H3.out.1 aa an ac args rfl (HZ.out.1.below H3.out.2) (by have := HZ.out.2.2; rw [List.length_append]; exact this) H3.out.2.size ?_)
          intro v4 w4 hown hgrow
          replace hown : w4.ownsRow wa.heap.size 44 4 v4 (((params ++ (blocks.take i).flatMap blkOps ++ ins) ++ (code.take k).flatMap insOps ++ [(⟨dk, dc, dn, dt⟩ : Opn)]) ++ args).length ((((params ++ (blocks.take i).flatMap blkOps ++ ins) ++ (code.take k).flatMap insOps ++ [(⟨dk, dc, dn, dt⟩ : Opn)]) ++ args).flatMap Opn.cs) := by simpa using hown
          have H4 := Lib.hid (And.intro hown (below_row H3.out.2 hgrow H3.out.1 (Nat.le_refl _) H3.out.2.size))
          clear hown hgrow k4 c2r c3r g1 g2 g3 g4 g5
          go_wp2_with fail
          go_roundg (kn - k - 1)
          case measure => omega
          case rel =>
            refine ⟨k + 1, by omega, by go_num, ?_, H4.out.2⟩
            rw [HZ.out.2.1]
            have h1 := H4.out.1
            have e : ((params ++ (blocks.take i).flatMap blkOps ++ ins) ++ (code.take k).flatMap insOps ++ [(⟨dk, dc, dn, dt⟩ : Opn)]) ++ args = (params ++ (blocks.take i).flatMap blkOps ++ ins) ++ ((code.take k).flatMap insOps ++ insOps ⟨op, ⟨dk, dc, dn, dt⟩, args, nm, off, labels, cas⟩) := by
              show _ = _ ++ (_ ++ (_ :: args))
              simp
            rw [e] at h1
            exact h1
        · obtain rfl : k = kn := by omega
          have hge : ¬ (k : Int) < (k : Int) := by omega
          go_wp2_with fail
          go_roundg (bn - i - 1)
          case measure => omega
          case rel =>
            refine ⟨i + 1, by omega, by go_num, ?_, HQ.out.2⟩
            have hcl := HX.out.2.2.2.code.1
            dsimp only at hcl
            have h1 := HQ.out.1
            have e : code.take k = code := List.take_of_length_le (by omega)
            rw [e] at h1
            have e2 : (params ++ (blocks.take i).flatMap blkOps ++ ins) ++ code.flatMap insOps = params ++ ((blocks.take i).flatMap blkOps ++ blkOps ⟨label, edge, ins, code⟩) := by
              show _ = _ ++ (_ ++ (ins ++ code.flatMap insOps))
              simp
            rw [e2] at h1
            rw [HX.out.1]
            exact h1
    · obtain rfl : i = bn := by omega
      have hge : ¬ (i : Int) < (i : Int) := by omega
      have hfin : funOps ⟨machine, name, regs, params, blocks⟩ = params ++ (blocks.take i).flatMap blkOps := by
        have hbl := D.out.1.blocks.1
        dsimp only at hbl
        rw [List.take_of_length_le (by omega)]
        rfl
      have h1 := HH.out.1
      rw [← hfin] at h1
      obtain ⟨A, c, hv, hops⟩ := own_ops h1 (by have := D.out.2.2.2.2; omega)
      subst hv
      have HF := Lib.hid (And.intro trivial hops)
      clear hops h1 hfin
      go_wp2_with fail
      go_ret
      exact ⟨A, c, rfl, HF.out.2, D.out.2.2.1.trans (HH.out.2.mono (by rw [D.out.2.1]; omega))⟩
end Go.Proofs.Ytocelaebokikcaa
