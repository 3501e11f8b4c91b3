
/- How long the texts of units are; the statements on units and on their parts. -/
import Derived.Test.YtakfoncdiejhaaaDoorNotUni
import Derived.Test.YtakfoncdiejhaaaDoorNotWorks
import Derived.Test.YtakfoncdiejhaaaDoorNotParts
import Derived.Test.YtakfoncdiejhaaaDoorOpr
namespace Go.Proofs.YtakfoncdiejhaaaDoor
open Go.ChangeShapes Go.WideShapes Go.RowKit
set_option linter.unusedVariables false
set_option maxRecDepth 20000

theorem funT_small (f : Fun) (h : FunF f) (hw : wF f ≤ 1048576) : (funT f).length ≤ 3000000000000 := by
  have a1 := opns_le f.params h.params
  have hwl : wF f = 1 + f.name.size + f.regs.length + f.params.length + (f.blocks.map wB).sum := rfl
  have a2 : (f.blocks.map fun b => (blkT b).length).sum ≤ 2000010 * (f.blocks.map wB).sum := sum_mul _ _ _ _ fun b hb => by
    have g1 := part_sum wB f.blocks b hb
    exact blkT_le b (h.blocks b hb) (by omega)
  have a3 : (regsT f.regs).length ≤ 6 + 30 * f.regs.length := by
    unfold regsT
    split
    · simp
    · have g1 := sum_le (fun r : Rg => (regT r).length) 30 f.regs fun r hr => by
        have g2 := txt_le r.id (h.regs r hr)
        have g3 : (Tg.letter r.cl).length ≤ 1 := by unfold Tg.letter; split <;> (try split) <;> simp
        unfold regT vregT
        simp only [List.length_append, List.length_cons]
        omega
      simp only [List.length_append, List.length_cons, List.length_nil, flat_sum]
      omega
  have a4 : (funT0 f.machine).length ≤ 8 := by unfold funT0; split <;> simp
  unfold funT funT1
  simp only [List.length_append, List.length_cons, List.length_nil, flat_sum, size_list]
  omega
theorem segAt_le (l : List Sg) (k : Nat) (s : Sg) (h : SgF s) : (segAt l k s).length ≤ 100 := by
  have a1 := segT_le s h.2.1 h.2.2.1 h.2.2.2
  have a2 := Deci.txt_len s.v h.1.1 h.1.2
  have a3 : (fstT (fstB l k s) s.v).length ≤ 25 := by
    unfold fstT
    split
    · simp only [List.length_append, List.length_cons, List.length_nil]; omega
    · simp
  have a4 : (lstT (lstB l k s)).length ≤ 2 := by unfold lstT; split <;> simp
  unfold segAt
  simp only [List.length_append]
  omega
theorem segsTo_len (l : List Sg) (h : ∀ s ∈ l, SgF s) (k : Nat) (hk : k ≤ l.length) : (segsTo l k).length ≤ 100 * k := by
  induction k with
  | zero => rw [segsTo_zero]; simp
  | succ k ih =>
    have hx : l[k]? = some l[k] := List.getElem?_eq_getElem (by omega)
    have h1 := segAt_le l k l[k] (h _ (List.mem_of_getElem? hx))
    have h2 := ih (by omega)
    rw [segsTo_step l k l[k] hx, List.length_append]
    omega
theorem alloT_le (slots : Int) (l : List Sg) (h : ∀ s ∈ l, SgF s) (hs : Deci.fit slots) : (alloT slots l).length ≤ 40 + 100 * l.length := by
  have a1 := segsTo_len l h l.length (Nat.le_refl _)
  rw [segsTo_all] at a1
  have a2 := Deci.txt_len slots hs.1 hs.2
  unfold alloT
  simp only [List.length_append, List.length_cons, List.length_nil]
  omega
theorem spoT_len (c : Int) (l : List Int) (h : ∀ n ∈ l, Deci.fit n) : (spoT c l).length ≤ 24 * l.length := by
  unfold spoT
  rw [flat_sum]
  exact sum_le (fun n => (32 :: Tg.nameOf 2 c n).length) 24 l fun n hn => by
    have := name_le 2 c n (h n hn)
    simp only [List.length_cons]
    omega
theorem tgtT_le (r0 r1 : Int) (c0 c1 : List Int) (slots : Int) (f0 : Deci.fit r0) (f1 : Deci.fit r1) (f2 : Deci.fit slots) (h0 : ∀ n ∈ c0, Deci.fit n) (h1 : ∀ n ∈ c1, Deci.fit n) : (tgtT r0 r1 c0 c1 slots).length ≤ 100 + 24 * (c0.length + c1.length) := by
  have a0 := Deci.txt_len r0 f0.1 f0.2
  have a1 := Deci.txt_len r1 f1.1 f1.2
  have a2 := Deci.txt_len slots f2.1 f2.2
  have b0 := spoT_len 0 c0 h0
  have b1 := spoT_len 1 c1 h1
  have b2 : (cloT c0 c1).length ≤ 8 := by unfold cloT; split <;> simp
  unfold tgtT tgtT1
  simp only [List.length_append, List.length_cons, List.length_nil]
  omega
theorem units_v (i : Unt) (r : UntV) (W : World) (hG : Opr.Glob W) (hI : UntG W i r) : Calls Tryd.prog 3 #[.agg (untR i r)] W fun e w' => e = .returned (.bool true) ∧ Below W.heap.size W w' := by
  obtain ⟨⟨r0, r1, c0, c1, slots⟩, ⟨fm, fname, regs, params, blocks⟩, has, ⟨asl, segs⟩⟩ := i
  obtain ⟨⟨a0, n0, p0, a1, n1, p1⟩, ⟨ra, rn, rc, pa, pn, pc, ba, bn, bc, R⟩, ⟨sa, sn, sc⟩⟩ := r
  obtain ⟨h0, h1, hf, ha, fr0, fr1, fsl, fas, g0, g1, gs, ff, wf, l0, l1, ls, cap⟩ := hI
  dsimp only at h0 h1 hf ha fr0 fr1 fsl fas g0 g1 gs ff wf l0 l1 ls cap
  have s0 : n0 ≤ 1048576 := by rw [← h0.1]; exact l0
  have s1 : n1 ≤ 1048576 := by rw [← h1.1]; exact l1
  have s2 : sn ≤ 1048576 := by rw [← ha.1]; exact ls
  have lf := funT_small _ ff.fits wf
  have lt := tgtT_le r0 r1 c0 c1 slots fr0 fr1 fsl g0 g1
  have la := alloT_le asl segs gs fas
  have lu : (untT (tgtT r0 r1 c0 c1 slots) (funT ⟨fm, fname, regs, params, blocks⟩) has (alloT asl segs)).length ≤ big := by
    unfold untT big
    rw [List.length_append, List.length_append]
    split
    · omega
    · simp only [List.length_nil]; omega
  have ltb : (tgtT r0 r1 c0 c1 slots).length ≤ big := by unfold big; omega
  have lab : (alloT asl segs).length ≤ big := by unfold big; omega
  exact units_w r0 r1 slots a0 n0 p0 a1 n1 p1 ⟨fm, fname, regs, params, blocks⟩ ⟨ra, rn, rc, pa, pn, pc, ba, bn, bc, R⟩ has asl sa sn sc fm fname ra rn rc pa pn pc ba bn bc rfl
    (tx (untT (tgtT r0 r1 c0 c1 slots) (funT ⟨fm, fname, regs, params, blocks⟩) has (alloT asl segs))) (tx (tgtT r0 r1 c0 c1 slots)) (tx (alloT asl segs)) W hf
    (fun W' hb => Nt.unit_t r0 r1 c0 c1 slots a0 n0 p0 a1 n1 p1 fm fname regs params blocks ra rn rc pa pn pc ba bn bc R has asl segs sa sn sc _ W' (hG.below hb hG.1) (h0.below hb) (h1.below hb) (hf.below hb) (ha.below hb) fr0 fr1 fsl fas g0 g1 gs ff.fits s0 s1 cap rfl lu)
    (fun W' hb => runit_v r0 r1 c0 c1 slots a0 n0 p0 a1 n1 p1 ⟨fm, fname, regs, params, blocks⟩ ⟨ra, rn, rc, pa, pn, pc, ba, bn, bc, R⟩ has asl segs sa sn sc fm fname ra rn rc pa pn pc ba bn bc rfl _ _ _ _ W' (h0.below hb) (h1.below hb) (hf.below hb) (ha.below hb) fr0 fr1 fsl fas g0 g1 gs ff s0 s1 s2 rfl rfl rfl rfl lu lab)
    (fun W' hb => Nt.target_t r0 r1 c0 c1 slots a0 n0 p0 a1 n1 p1 _ W' (h0.below hb) (h1.below hb) fr0 fr1 fsl g0 g1 s0 s1 rfl ltb)
    (fun W' hb => rtarget_v r0 r1 c0 c1 slots a0 n0 p0 a1 n1 p1 _ W' (h0.below hb) (h1.below hb) fr0 fr1 fsl g0 g1 s0 s1 rfl ltb)
    (fun W' hb => Nt.alloc_t asl segs sa sn sc _ W' (ha.below hb) cap fas gs rfl lab)
    (fun W' hb => ralloc_v asl segs sa sn sc _ W' (ha.below hb) fas gs s2 rfl lab)
    (fun W' hb => Nt.works_v W')
theorem parts_v (i : Unt) (r : UntV) (k : Int) (W : World) (hG : Opr.Glob W) (hI : UntG W i r) : Calls Tryd.prog 4 #[.agg (untR i r), .int .i64 k] W fun e w' => e = .returned (.bool true) ∧ Below W.heap.size W w' := by
  obtain ⟨⟨r0, r1, c0, c1, slots⟩, ⟨fm, fname, regs, params, blocks⟩, has, ⟨asl, segs⟩⟩ := i
  obtain ⟨⟨a0, n0, p0, a1, n1, p1⟩, ⟨ra, rn, rc, pa, pn, pc, ba, bn, bc, R⟩, ⟨sa, sn, sc⟩⟩ := r
  obtain ⟨h0, h1, hf, ha, fr0, fr1, fsl, fas, g0, g1, gs, ff, wf, l0, l1, ls, cap⟩ := hI
  dsimp only at h0 h1 hf ha fr0 fr1 fsl fas g0 g1 gs ff wf l0 l1 ls cap
  have s0 : n0 ≤ 1048576 := by rw [← h0.1]; exact l0
  have s1 : n1 ≤ 1048576 := by rw [← h1.1]; exact l1
  have s2 : sn ≤ 1048576 := by rw [← ha.1]; exact ls
  have lf := funT_small _ ff.fits wf
  have lt := tgtT_le r0 r1 c0 c1 slots fr0 fr1 fsl g0 g1
  have la := alloT_le asl segs gs fas
  have lu : (untT (tgtT r0 r1 c0 c1 slots) (funT ⟨fm, fname, regs, params, blocks⟩) has (alloT asl segs)).length ≤ big := by
    unfold untT big
    rw [List.length_append, List.length_append]
    split
    · omega
    · simp only [List.length_nil]; omega
  have ltb : (tgtT r0 r1 c0 c1 slots).length ≤ big := by unfold big; omega
  have lfb : (funT ⟨fm, fname, regs, params, blocks⟩).length ≤ big := by unfold big; omega
  have lab : (alloT asl segs).length ≤ big := by unfold big; omega
  exact parts_w r0 r1 slots a0 n0 p0 a1 n1 p1 ⟨fm, fname, regs, params, blocks⟩ ⟨ra, rn, rc, pa, pn, pc, ba, bn, bc, R⟩ has asl segs sa sn sc k fm fname ra rn rc pa pn pc ba bn bc rfl
    (tgtT r0 r1 c0 c1 slots) (funT ⟨fm, fname, regs, params, blocks⟩) (alloT asl segs) _ W hf ha rfl rfl lu (by unfold big; omega) lab
    (fun W' hb => Nt.unit_t r0 r1 c0 c1 slots a0 n0 p0 a1 n1 p1 fm fname regs params blocks ra rn rc pa pn pc ba bn bc R has asl segs sa sn sc _ W' (hG.below hb hG.1) (h0.below hb) (h1.below hb) (hf.below hb) (ha.below hb) fr0 fr1 fsl fas g0 g1 gs ff.fits s0 s1 cap rfl lu)
    (fun W' hb => Nt.target_t r0 r1 c0 c1 slots a0 n0 p0 a1 n1 p1 _ W' (h0.below hb) (h1.below hb) fr0 fr1 fsl g0 g1 s0 s1 rfl ltb)
    (fun W' hb => rfunc_v ⟨fm, fname, regs, params, blocks⟩ ⟨ra, rn, rc, pa, pn, pc, ba, bn, bc, R⟩ _ W' (hf.below hb) ff rfl lfb)
    (fun W' hb => Nt.alloc_t asl segs sa sn sc _ W' (ha.below hb) cap fas gs rfl lab)
    (fun s hs W' hb => Nt.seg_t s.v s.f s.t s.k s.c s.n _ W' (gs s hs).2.1 (gs s hs).2.2.1 (gs s hs).2.2.2 rfl (by have := segT_le s (gs s hs).2.1 (gs s hs).2.2.1 (gs s hs).2.2.2; exact Nat.le_trans this (by decide)))
    (fun W' hb => Nt.works_v W')
end Go.Proofs.YtakfoncdiejhaaaDoor
