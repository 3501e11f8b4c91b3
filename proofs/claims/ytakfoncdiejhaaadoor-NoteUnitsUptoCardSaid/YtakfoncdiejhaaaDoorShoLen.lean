
/- How long the texts are: what weighs so much has no longer text. -/
import Derived.Test.YtakfoncdiejhaaaDoorShoOpen
namespace Go.Proofs.YtakfoncdiejhaaaDoor
set_option linter.unusedVariables false
set_option maxRecDepth 20000

theorem sum_le {α : Type} (g : α → Nat) (c : Nat) (l : List α) (h : ∀ a ∈ l, g a ≤ c) : (l.map g).sum ≤ c * l.length := by
  induction l with
  | nil => simp
  | cons a l ih =>
    have h1 := h a (by simp)
    have h2 := ih fun b hb => h b (by simp [hb])
    simp only [List.map_cons, List.sum_cons, List.length_cons, Nat.mul_add, Nat.mul_one]
    omega
theorem sum_mul {α : Type} (g w : α → Nat) (c : Nat) (l : List α) (h : ∀ a ∈ l, g a ≤ c * w a) : (l.map g).sum ≤ c * (l.map w).sum := by
  induction l with
  | nil => simp
  | cons a l ih =>
    have h1 := h a (by simp)
    have h2 := ih fun b hb => h b (by simp [hb])
    simp only [List.map_cons, List.sum_cons, Nat.mul_add]
    omega
theorem part_sum {α : Type} (w : α → Nat) (l : List α) (a : α) (h : a ∈ l) : w a ≤ (l.map w).sum := by
  induction l with
  | nil => cases h
  | cons b l ih =>
    simp only [List.map_cons, List.sum_cons]
    rcases List.mem_cons.1 h with rfl | h
    · omega
    · have := ih h; omega
theorem rowT_sum (l : List (List UInt8)) : (rowT l).length ≤ (l.map fun a => a.length + 2).sum := by
  cases l with
  | nil => simp [rowT]
  | cons a r =>
    unfold rowT
    rw [List.length_append, List.length_flatMap]
    simp only [List.map_cons, List.sum_cons, List.length_cons]
    have : ∀ r : List (List UInt8), (r.map fun b => b.length + 1 + 1) = r.map fun b => b.length + 2 := fun r => rfl
    rw [this]; omega
theorem opnT_le (x : Opn) (h : OpF x) : (opnT x).length ≤ 64 := by
  have h1 := txt_le x.n h.1
  have h2 := txt_le x.t h.2
  have h3 := name_le x.k x.c x.n h.1
  unfold opnT
  split
  · simp
  split
  · simp [vregT]; omega
  split
  · omega
  split
  · simp [vregT]; omega
  · simp
theorem opns_le (l : List Opn) (h : ∀ x ∈ l, OpF x) : (rowT (l.map opnT)).length ≤ 66 * l.length := by
  refine Nat.le_trans (rowT_sum _) ?_
  rw [List.map_map]
  exact sum_le _ 66 l fun x hx => by have := opnT_le x (h x hx); show (opnT x).length + 2 ≤ 66; omega
theorem opT_le (n : Int) : (opT n).length ≤ 7 := by
  unfold opT
  cases h : Opr.isOp n
  · simp
  · simp only [if_true]
    have hn : 1 ≤ n ∧ n ≤ 27 := by unfold Opr.isOp at h; simpa using h
    have key : ∀ k : Fin 28, (Opr.nameOf (k.val : Int)).data.toList.length ≤ 7 := by decide +kernel
    have := key ⟨n.toNat, by omega⟩
    rwa [show ((⟨n.toNat, by omega⟩ : Fin 28).val : Int) = n from by show ((n.toNat : Nat) : Int) = n; omega] at this
def labsW (l : List ByteArray) : Nat := (l.map fun s => s.size + 1).sum
theorem nth_le (l : List ByteArray) (k : Nat) : (nthT l k).length ≤ labsW l := by
  unfold nthT txs
  rw [List.getD_eq_getElem?_getD, List.getElem?_map]
  cases h : l[k]? with
  | none => simp
  | some s =>
    have := part_sum (fun s : ByteArray => s.size + 1) l s (List.mem_of_getElem? h)
    show s.data.toList.length ≤ _
    rw [size_list]
    unfold labsW
    omega
theorem taken_le (args : List Opn) (labels : List ByteArray) (h : ∀ x ∈ args, OpF x) : (takenT args labels).length ≤ 1 + 66 * args.length + 2 * labsW labels := by
  unfold takenT
  split
  · simp
  · rw [List.length_cons]
    have h1 := rowT_sum (args.map opnT ++ txs labels)
    rw [List.map_append, List.sum_append, List.map_map] at h1
    have h2 := sum_le (fun x : Opn => (opnT x).length + 2) 66 args fun x hx => by have := opnT_le x (h x hx); omega
    have h3 : ((txs labels).map fun a => a.length + 2).sum ≤ 2 * labsW labels := by
      unfold txs labsW
      rw [List.map_map]
      exact sum_mul _ _ 2 labels fun s _ => by show s.data.toList.length + 2 ≤ _; rw [size_list]; omega
    have h4 : (List.map ((fun a : List UInt8 => a.length + 2) ∘ opnT) args).sum = (args.map fun x : Opn => (opnT x).length + 2).sum := rfl
    omega
theorem cases_le (cs : List Int) (labels : List ByteArray) (h : ∀ n ∈ cs, Deci.fit n) (hw : labsW labels ≤ 1048576) : (casesT cs labels).length ≤ 3 + 1048610 * (cs.length + 1) := by
  unfold casesT
  simp only [List.length_append, List.length_cons, List.length_nil]
  have h1 := rowT_sum (casesL cs labels ++ [elseT cs labels])
  have h2 := sum_le (fun a : List UInt8 => a.length + 2) 1048610 (casesL cs labels ++ [elseT cs labels]) fun a ha => by
    rcases List.mem_append.1 ha with ha | ha
    · unfold casesL at ha
      obtain ⟨k, hk, rfl⟩ := List.mem_mapIdx.1 ha
      have g1 := txt_le _ (h _ (List.getElem_mem hk))
      have g2 := nth_le labels k
      unfold caseT
      simp only [List.length_append, List.length_cons, List.length_nil]
      omega
    · rw [List.mem_singleton] at ha
      subst ha
      have g2 := nth_le labels cs.length
      unfold elseT
      simp only [List.length_append, List.length_cons, List.length_nil]
      omega
  rw [List.length_append, casesL_len] at h2
  simp only [List.length_cons, List.length_nil] at h2
  omega
theorem insT_le (i : Ins) (h : InsF i) (hw : wI i ≤ 1048576) : (insT i).length ≤ 2000000 * wI i := by
  have a1 := opns_le i.args h.args
  have a2 := taken_le i.args [] h.args
  have a3 := taken_le i.args i.labels h.args
  have a0 : labsW [] = 0 := rfl
  have hwl : wI i = 1 + i.name.size + i.args.length + labsW i.labels + i.cases.length := rfl
  have a4 := cases_le i.cases i.labels h.cases (by omega)
  have a5 := opT_le i.op
  have a6 : (dstT i.dst).length ≤ 67 := by
    unfold dstT
    split
    · simp
    · have := opnT_le i.dst h.dst; simp only [List.length_append, List.length_cons, List.length_nil]; omega
  have a7 : (offT i.args i.off).length ≤ 23 := by
    unfold offT
    split
    · simp
    · have := txt_le i.off h.off; simp only [List.length_append, List.length_cons, List.length_nil]; omega
  have a8 := Quo.put_len i.name.data.toList
  rw [size_list] at a8
  have a9 : (restT i).length ≤ 10 + 4 * i.name.size + 66 * i.args.length + 2 * labsW i.labels + 1048610 * (i.cases.length + 1) + 23 := by
    unfold restT
    split
    · unfold callT; simp only [List.length_append, List.length_cons, List.length_nil]; omega
    split
    · rw [List.length_append]; omega
    split
    · omega
    split
    · rw [List.length_append]; omega
    · omega
  unfold insT
  simp only [List.length_append]
  omega
theorem headT_le (b : Blk) (h : ∀ y ∈ b.ins, OpF y) : (headT b).length ≤ 10 + b.label.size + 66 * b.ins.length := by
  have a1 := opns_le b.ins h
  have a2 : (edgeT b.edge).length ≤ 5 := by unfold edgeT; split <;> simp
  have a3 : (inT b.ins).length ≤ 3 + 66 * b.ins.length := by
    unfold inT
    split
    · simp
    · simp only [List.length_append, List.length_cons, List.length_nil]; omega
  unfold headT
  simp only [List.length_append, List.length_cons, List.length_nil, size_list]
  omega
theorem flat_sum {α : Type} (g : α → List UInt8) (l : List α) : (l.flatMap g).length = (l.map fun a => (g a).length).sum := List.length_flatMap
theorem wI_pos (i : Ins) : 1 ≤ wI i := by unfold wI; omega
theorem blkT_le (b : Blk) (h : BlkF b) (hw : wB b ≤ 1048576) : (blkT b).length ≤ 2000010 * wB b := by
  have a1 := headT_le b h.ins
  have hwl : wB b = 1 + b.label.size + b.ins.length + (b.code.map wI).sum := rfl
  have a2 : (b.code.map fun i => (lineT i).length).sum ≤ 2000004 * (b.code.map wI).sum := sum_mul _ _ _ _ fun i hi => by
    have g1 := part_sum wI b.code i hi
    have g2 := insT_le i (h.code i hi) (by omega)
    have g3 := wI_pos i
    unfold lineT
    simp only [List.length_append, List.length_cons, List.length_nil]
    omega
  unfold blkT
  rw [List.length_append, List.length_cons, flat_sum]
  omega
theorem funT_le (f : Fun) (h : FunF f) (hw : wF f ≤ 1048576) : (funT f).length ≤ big := by
  have a1 := opns_le f.params h.params
  have hwl : wF f = 1 + f.name.size + f.regs.length + f.params.length + (f.blocks.map wB).sum := rfl
  have a2 : (f.blocks.map fun b => (blkT b).length).sum ≤ 2000010 * (f.blocks.map wB).sum := sum_mul _ _ _ _ fun b hb => by
    have g1 := part_sum wB f.blocks b hb
    exact blkT_le b (h.blocks b hb) (by omega)
  have a3 : (regsT f.regs).length ≤ 6 + 30 * f.regs.length := by
    unfold regsT
    split
    · simp
    · have g1 := sum_le (fun r : Rg => (regT r).length) 30 f.regs fun r hr => by
        have g2 := txt_le r.id (h.regs r hr)
        have g3 : (Tg.letter r.cl).length ≤ 1 := by unfold Tg.letter; split <;> (try split) <;> simp
        unfold regT vregT
        simp only [List.length_append, List.length_cons]
        omega
      simp only [List.length_append, List.length_cons, List.length_nil, flat_sum]
      omega
  have a4 : (funT0 f.machine).length ≤ 8 := by unfold funT0; split <;> simp
  unfold funT funT1 big
  simp only [List.length_append, List.length_cons, List.length_nil, flat_sum, size_list]
  omega
theorem insT_big (i : Ins) (h : InsF i) (hw : wI i ≤ 1048576) : (insT i).length ≤ big := by
  have := insT_le i h hw
  unfold big
  omega
theorem opnT_big (x : Opn) (h : OpF x) : (opnT x).length ≤ big := by
  have := opnT_le x h
  unfold big
  omega
end Go.Proofs.YtakfoncdiejhaaaDoor
