/- The statement on what is asked. -/
import Derived.Test.YtocelaebokikcaaCallM
import Derived.Test.YtocelaebokikcaaMapI
import Derived.Test.YtocelaebokikcaaWorks
import Derived.Test.YtocelaebokikcaaLarge
import Derived.Test.YtocelaebokikcaaRefF
import Derived.Deep.RegionHeld3
import Derived.Deep.RegionWith
import Derived.BigQuiet
import Derived.Deep.CutRange
import Derived.Laws.Cover1
namespace Go.Proofs.Ytocelaebokikcaa
open Go.ChangeShapes Go.WideShapes Go.RowKit
set_option linter.unusedVariables false
set_option linter.unusedSimpArgs false
set_option maxRecDepth 20000

/-- What is shown is true. -/
theorem closeRegion {P : Program} {id : Nat} {ops : Array Oper} {b : Bool} {Q : Exit → Act → World → Prop} {a : Act} {w : World} (h : Code.wp P (Code.region id ops b) Q a w) : Code.wp P (Code.region id ops b) Q a w = True := eq_true h
theorem ten_cells {W : World} {P : Nat} {a0 a1 a2 a3 a4 a5 a6 a7 a8 a9 : Value} {t : TypeId} (h : W.heap[P]? = some (.cells #[a0, a1, a2, a3, a4, a5, a6, a7, a8, a9] t (0, 0))) :
    W.cell? ⟨P, 0, none⟩ = some a0 ∧ W.cell? ⟨P, 1, none⟩ = some a1 ∧ W.cell? ⟨P, 2, none⟩ = some a2 ∧ W.cell? ⟨P, 3, none⟩ = some a3 ∧ W.cell? ⟨P, 4, none⟩ = some a4 ∧ W.cell? ⟨P, 5, none⟩ = some a5 ∧ W.cell? ⟨P, 6, none⟩ = some a6 ∧ W.cell? ⟨P, 7, none⟩ = some a7 ∧ W.cell? ⟨P, 8, none⟩ = some a8 ∧ W.cell? ⟨P, 9, none⟩ = some a9 :=
  ⟨cell_in h 0, cell_in h 1, cell_in h 2, cell_in h 3, cell_in h 4, cell_in h 5, cell_in h 6, cell_in h 7, cell_in h 8, cell_in h 9⟩
theorem five_cells {W : World} {P : Nat} {a0 a1 a2 a3 a4 : Value} {t : TypeId} (h : W.heap[P]? = some (.cells #[a0, a1, a2, a3, a4] t (0, 0))) :
    W.cell? ⟨P, 0, none⟩ = some a0 ∧ W.cell? ⟨P, 1, none⟩ = some a1 ∧ W.cell? ⟨P, 2, none⟩ = some a2 ∧ W.cell? ⟨P, 3, none⟩ = some a3 ∧ W.cell? ⟨P, 4, none⟩ = some a4 :=
  ⟨cell_in h 0, cell_in h 1, cell_in h 2, cell_in h 3, cell_in h 4⟩
def hasId (x : Int) (l : List Rg) : Bool := l.any fun r => r.id == x
theorem hasId_step (x : Int) (l : List Rg) (k : Nat) (r : Rg) (hr : l[k]? = some r) : hasId x (l.take (k + 1)) = (hasId x (l.take k) || r.id == x) := by
  unfold hasId
  rw [List.take_add_one, hr, List.any_append]
  simp
theorem hasId_cls (x : Int) (l : List Rg) : (clsOf x l).2 = hasId x l ∧ (hasId x l = true → (clsOf x l).1 = rclsOf x l) ∧ (hasId x l = false → (clsOf x l).1 = 0) := by
  induction l with
  | nil => exact ⟨rfl, (fun h => by cases h), fun _ => rfl⟩
  | cons r l ih =>
    unfold clsOf rclsOf hasId
    rw [List.any_cons]
    by_cases h : r.id = x
    · rw [if_pos h, if_pos h]
      have e : (r.id == x) = true := by simpa using h
      rw [e, Bool.true_or]
      exact ⟨rfl, fun _ => rfl, fun h => by cases h⟩
    · rw [if_neg h, if_neg h]
      have e : (r.id == x) = false := by simpa using h
      rw [e, Bool.false_or]
      exact ih
theorem strs_at2 {w : World} {A : Option Addr} {n : Nat} {l : List ByteArray} (h : IsStrs w A n l) {k : Nat} (hk : k + 1 < n) : ∃ b o s u, A = some ⟨b, o, none⟩ ∧ l[k]? = some s ∧ l[k + 1]? = some u ∧ w.cell? ⟨b, o + k, none⟩ = some (.string s) ∧ w.cell? ⟨b, o + (k + 1), none⟩ = some (.string u) := by
  obtain ⟨h1, hm, h | ⟨b, o, rfl, hlt, hc⟩⟩ := h
  · rw [h] at h1; simp at h1; omega
  · exact ⟨b, o, l[k]'(by omega), l[k + 1]'(by omega), rfl, List.getElem?_eq_getElem (by omega), List.getElem?_eq_getElem (by omega), hc k (by omega), hc (k + 1) (by omega)⟩
/-- An instruction turned, its cells written out. -/
theorem mapL (F : FuncId) (hF : Inpl F) (op dk dc dn dt : Int) (args : List Opn) (nm : ByteArray) (off : Int) (labels : List ByteArray) (cas : List Int) (aa la ca : Option Addr) (an ac ln lc cn cc : Nat) (w : World) (h : IsIns w ⟨op, ⟨dk, dc, dn, dt⟩, args, nm, off, labels, cas⟩ ⟨aa, an, ac, la, ln, lc, ca, cn, cc⟩) (h1 : an ≤ 1048576) (h2 : ln ≤ 1048576) (h3 : cn ≤ 1048576) :
    Calls Try.prog 26 #[.agg #[.int .i64 op, .int .i64 dk, .int .i64 dc, .int .i64 dn, .int .i64 dt, .slice aa an ac, .string nm, .int .i64 off, .slice la ln lc, .slice ca cn cc], .func (.func F) #[] #[]] w fun e w' => ∃ (aa1 la1 ca1 : Option Addr) (an1 ac1 ln1 lc1 cn1 cc1 : Nat), e = .returned (.agg #[.int .i64 op, .int .i64 dk, .int .i64 dc, .int .i64 dt, .int .i64 dn, .slice aa1 an1 ac1, .string nm, .int .i64 off, .slice la1 ln1 lc1, .slice ca1 cn1 cc1]) ∧ IsIns w' ⟨op, ⟨dk, dc, dt, dn⟩, args.map Opn.T, nm, off, labels, cas⟩ ⟨aa1, an1, ac1, la1, ln1, lc1, ca1, cn1, cc1⟩ ∧ Below w.heap.size w w' ∧ an1 ≤ 1048576 ∧ ln1 ≤ 1048576 ∧ cn1 ≤ 1048576 := by
  refine Calls.mono (mapI_v F hF ⟨op, ⟨dk, dc, dn, dt⟩, args, nm, off, labels, cas⟩ ⟨aa, an, ac, la, ln, lc, ca, cn, cc⟩ w h h1 h2 h3) ?_
  rintro e w' ⟨r, rfl, hi, hb, e1, e2, e3⟩
  obtain ⟨aa1, an1, ac1, la1, ln1, lc1, ca1, cn1, cc1⟩ := r
  dsimp only at e1 e2 e3
  have l1 := h.args.1
  have l2 := h.labels.1
  have l3 := h.cases.1
  dsimp only at l1 l2 l3
  exact ⟨aa1, la1, ca1, an1, ac1, ln1, lc1, cn1, cc1, rfl, hi, hb, by omega, by omega, by omega⟩
theorem turn_twice (args : List Opn) : (args.map Opn.T).map Opn.T = args := by
  rw [List.map_map]
  conv => rhs; rw [← List.map_id args]
  exact List.map_congr_left fun x _ => rfl
set_option maxHeartbeats 8000000 in
theorem asks_v (f : Fun) (v : FunV) (x : Int) (lab : ByteArray) (w : World) (h : IsFun w f v) (hB : FunB 1048576 f) (hN : (funOps f).length ≤ 1048576) (hW : ∀ b ∈ f.blocks, ∀ i ∈ b.code, Wf i.args) (hlab : lab.size ≤ 1048576) :
    Calls Try.prog 6 #[.agg (funR f v), .int .i64 x, .string lab] w fun e w' => e = .returned (.bool true) ∧ Below w.heap.size w w' := by
  have B0 : Below w.heap.size w (w.alloc (.cells (funR f v) 31)) := (Below.refl _ w).alloc (Nat.le_refl _) _
  have HI := h.below B0
  have D := Lib.hid (And.intro B0 (And.intro (show (w.alloc (.cells (funR f v) 31)).heap.size = w.heap.size + 1 by simp) (heap_alloc_new w (.cells (funR f v) 31))))
  clear h B0
  obtain ⟨wa, hwa⟩ : ∃ wa, w.alloc (.cells (funR f v) 31) = wa := ⟨_, rfl⟩
  rw [hwa] at D HI
  have hcs := codeSum_fun f
  obtain ⟨cl, hcl⟩ : ∃ c, (clsOf x f.regs).1 = c := ⟨_, rfl⟩
  obtain ⟨ok, hok⟩ : ∃ c, (clsOf x f.regs).2 = c := ⟨_, rfl⟩
  obtain ⟨rcl, hrcl⟩ : ∃ c, rclsOf x f.regs = c := ⟨_, rfl⟩
  obtain ⟨fi, hfi⟩ : ∃ c, findAt lab 0 f.blocks = c := ⟨_, rfl⟩
  obtain ⟨N, hNN⟩ : ∃ c, codeSum f.blocks = c := ⟨_, rfl⟩
  have hNb : N ≤ 1048576 := by rw [← hNN]; omega
  have CL := Lib.hid (show ∀ W, Below wa.heap.size wa W → Calls Try.prog 7 #[.agg (funR f v)] W fun e w' => SomeBool e ∧ Below W.heap.size W w' from fun W hb => large_v f v W (HI.below hb))
  have CA := Lib.hid (show ∀ W, Below wa.heap.size wa W → Calls Try.prog 23 #[.agg (funR f v), .int .i64 x] W fun e w' => e = .returned (.tuple #[.int .i64 cl, .bool ok]) ∧ Below W.heap.size W w' from fun W hb => by have := ask23_v f v x W (HI.below hb); rw [hcl, hok] at this; exact this)
  have CR := Lib.hid (show ∀ W, Below wa.heap.size wa W → Calls Try.prog 24 #[.agg (funR f v), .int .i64 x] W fun e w' => e = .returned (.int .i64 rcl) ∧ Below W.heap.size W w' from fun W hb => by have := ask24_v f v x W (HI.below hb); rw [hrcl] at this; exact this)
  have CC := Lib.hid (show ∀ W, Below wa.heap.size wa W → Calls Try.prog 25 #[.agg (funR f v)] W (CallsP f W) from fun W hb => calls_v f v W (HI.below hb) (by have := blkNames_len f.blocks; omega))
  have CF := Lib.hid (show ∀ W, Below wa.heap.size wa W → Calls Try.prog 36 #[.agg (funR f v), .string lab] W fun e w' => e = .returned (.int .i64 fi) ∧ Below W.heap.size W w' from fun W hb => by have := ask36_v f v lab W (HI.below hb); rw [hfi] at this; exact this)
  have CG := Lib.hid (show ∀ W, Below wa.heap.size wa W → Calls Try.prog 37 #[.agg (funR f v), .string lab] W fun e w' => e = .returned (.int .i64 fi) ∧ Below W.heap.size W w' from fun W hb => by have := ask37_v f v lab W (HI.below hb); rw [hfi] at this; exact this)
  have CN := Lib.hid (show ∀ W, Below wa.heap.size wa W → Calls Try.prog 38 #[.agg (funR f v)] W fun e w' => e = .returned (.int .i64 (N : Int)) ∧ Below W.heap.size W w' from fun W hb => by have := count_v f v W (HI.below hb) (by rw [hNN]; exact hNb); rw [hNN] at this; exact this)
  have hid3 := hasId_cls x f.regs
  rw [hok, hcl, hrcl] at hid3
  have HC := Lib.hid (And.intro HI (And.intro hB (And.intro hW (And.intro hNN hid3))))
  have hbox := Lib.hid (show ∀ W, Below wa.heap.size wa W → W.heap[w.heap.size]? = some (.cells (funR f v) 31 (0, 0)) from fun W hb => kept_box D.out.2.2 hb)
  clear HI hB hN hW hcs hcl hok hrcl hfi hNN hid3
  obtain ⟨machine, name, regs, params, blocks⟩ := f
  obtain ⟨ra, rn, rc, pa, pn, pc, ba, bn, bc, rr⟩ := v
  unfold funR at D CL CA CR CC CF CG CN hbox hwa ⊢
  dsimp only at D CL CA CR CC CF CG CN HC hbox hwa ⊢
  obtain ⟨k0, k1, k2, k3, k4⟩ := five_cells (hbox.out wa (Below.refl _ _))
  have hbm : bn ≤ 1048576 := by have h1 := HC.out.1.blocks.1; have h2 := HC.out.2.1.blocks; dsimp only at h1 h2; omega
  have hrm : rn ≤ 1048576 := by have h1 := HC.out.1.regs.1; have h2 := HC.out.2.1.regs; dsimp only at h1 h2; omega
  go_enter Try.func6, Try.ntmps6
  go_wp2_with fail
  clear hwa
  refine (CL.out _ (Below.refl _ _)).mono ?_
  rintro e w1 ⟨⟨b1, rfl⟩, hb⟩
  have B1 := Lib.hid hb
  clear hb k0 k1 k2 k3 k4
  obtain ⟨k0, k1, k2, k3, k4⟩ := five_cells (hbox.out w1 B1.out)
  have BIG : ∀ W, Below wa.heap.size wa W → Below w.heap.size w W := fun W hb => D.out.1.trans (hb.mono (by rw [D.out.2.1]; omega))
  have HBIG := Lib.hid BIG
  clear BIG
  cases b1
  case true =>
    go_wp2_with fail
    refine (works_v _).mono ?_
    rintro e w2 ⟨rfl, hb⟩
    have B2 := Lib.hid (B1.out.trans (hb.mono B1.out.size))
    clear hb
    go_wp2_with fail
    go_ret
    exact ⟨rfl, HBIG.out _ B2.out⟩
  by_cases hl : (lab.size : Int) > 100
  · go_wp2_with fail
    refine (works_v _).mono ?_
    rintro e w2 ⟨rfl, hb⟩
    have B2 := Lib.hid (B1.out.trans (hb.mono B1.out.size))
    clear hb
    go_wp2_with fail
    go_ret
    exact ⟨rfl, HBIG.out _ B2.out⟩
  go_wp2_with fail
  refine (CA.out _ B1.out).mono ?_
  rintro e w2 ⟨rfl, hb⟩
  have B2 := Lib.hid (B1.out.trans (hb.mono B1.out.size))
  clear hb k0 k1 k2 k3 k4
  obtain ⟨k0, k1, k2, k3, k4⟩ := five_cells (hbox.out w2 B2.out)
  go_wp2_with fail
  refine (CR.out _ B2.out).mono ?_
  rintro e w3 ⟨rfl, hb⟩
  have B3 := Lib.hid (B2.out.trans (hb.mono B2.out.size))
  clear hb k0 k1 k2 k3 k4
  obtain ⟨k0, k1, k2, k3, k4⟩ := five_cells (hbox.out w3 B3.out)
  go_wp2_with fail
  refine (CC.out _ B3.out).mono ?_
  rintro e w5 ⟨A, Ac, l, rfl, hs, hb, hll⟩
  have B5 := Lib.hid (B3.out.trans (hb.mono B3.out.size))
  obtain ⟨L, hL⟩ : ∃ L, l.length = L := ⟨_, rfl⟩
  rw [hL] at hs ⊢
  have hLN : L ≤ N := by
    rw [← hL, ← HC.out.2.2.2.1, ← List.length_map (f := byt), hll]; exact callsOf_len blocks
  have HS := Lib.hid (And.intro hs (And.intro hll hL))
  clear hb k0 k1 k2 k3 k4 hs hll hL B1 B2 B3 hl
  obtain ⟨k0, k1, k2, k3, k4⟩ := five_cells (hbox.out w5 B5.out)
  have KB := Lib.hid (show ∀ W, Below w5.heap.size w5 W → Below wa.heap.size wa W from fun W hb => B5.out.trans (hb.mono B5.out.size))
  have HF5 := Lib.hid (HC.out.1.below B5.out)
  go_wp2_with fail
  clear k0 k1 k2 k3 k4
  go_loopg [10, 12] bn (fun gk u1 u2 wr => ∃ i L0 : Nat, i + gk = bn ∧ u1 = .int .i64 (L0 : Int) ∧ u2 = .int .i64 (i : Int) ∧ L0 ≤ 1048576 ∧ Hid (codeSum (blocks.take i) = L0 ∧ Below w5.heap.size w5 wr))
  case atStart => exact ⟨0, 0, by omega, rfl, rfl, by omega, rfl, Below.refl _ _⟩
  case round =>
    obtain ⟨i, L0, hi, rfl, rfl, hL0, HH⟩ := hrel
    obtain ⟨k0, k1, k2, k3, k4⟩ := five_cells (hbox.out wr (KB.out _ HH.out.2))
    by_cases hli : i < bn
    · obtain ⟨b, o, rfl, hb, y, hy, hiy, c0, c1, c2, c3⟩ := HF5.out.blocks.at hli
      dsimp only at hiy c0 c1 c2 c3
      have i1 : (i : Int) < (bn : Int) := by omega
      have hst := codeSum_step blocks i y hy
      have hle : codeSum (blocks.take (i + 1)) ≤ N := by rw [← HC.out.2.2.2.1]; exact codeSum_take blocks (i + 1)
      have hkn := hiy.code.1
      rw [hst, hkn, HH.out.1] at hle
      have hym : y ∈ blocks := List.mem_of_getElem? hy
      have HX := Lib.hid (And.intro hst (And.intro hkn (And.intro hiy hym)))
      clear hst hy hiy hkn hym c0 c1 c2
      obtain ⟨label, edge, ins, code⟩ := y
      generalize rr i = r at c3 hle HX
      obtain ⟨ia, il, ic, ka, kn, kc, R⟩ := r
      dsimp only at c3 hle HX
      have HC3 := Lib.hid (show ∀ W, Below w5.heap.size w5 W → W.cell? ⟨b, o + i * 4 + 3, none⟩ = some (.slice ka kn kc) from fun W h => (h.cell (p := ⟨b, o + i * 4 + 3, none⟩) hb).trans c3)
      have c3r := HC3.out wr HH.out.2
      clear c3 hb
      go_wp2_with fail
      clear c3r k0 k1 k2 k3 k4
      go_loopg [10, 13] kn (fun gk u1 u2 wr => ∃ k L1 : Nat, k + gk = kn ∧ u1 = .int .i64 (L1 : Int) ∧ u2 = .int .i64 (k : Int) ∧ L1 = L0 + k ∧ Hid (Below w5.heap.size w5 wr))
      case atStart => exact ⟨0, L0, by omega, rfl, rfl, by omega, HH.out.2⟩
      case round =>
        obtain ⟨k, L1, hk, rfl, rfl, hL1, HQ⟩ := hrel
        obtain ⟨k0, k1, k2, k3, k4⟩ := five_cells (hbox.out wr (KB.out _ HQ.out))
        have c3r := HC3.out wr HQ.out
        by_cases hlk : k < kn
        · obtain ⟨b2, o2, rfl, hb2, z, hz, hiz, d0, d1, d2, d3, d4, d5, d6, d7, d8, d9⟩ := HX.out.2.2.1.code.at hlk
          dsimp only at hz hiz d0 d1 d2 d3 d4 d5 d6 d7 d8 d9
          have i2 : (k : Int) < (kn : Int) := by omega
          have hzm : z ∈ code := List.mem_of_getElem? hz
          have hzb := (HC.out.2.1.each _ HX.out.2.2.2).each z hzm
          have hzw := HC.out.2.2.1 _ HX.out.2.2.2 z hzm
          have hnmm : z.op = 19 → z.name ∈ blkNames blocks := fun h => blkNames_mem blocks _ HX.out.2.2.2 z hzm h
          generalize R k = r at hiz d5 d8 d9
          obtain ⟨op, ⟨dk, dc, dn, dt⟩, args, nm, off, labels, cas⟩ := z
          obtain ⟨aa, an, ac, la, ln, lc, ca, cn, cc⟩ := r
          dsimp only at hiz d0 d1 d2 d3 d4 d5 d6 d7 d8 d9 hzb hzw hnmm
          have hza : an ≤ 1048576 := by have := hiz.args.1; have := hzb.args; dsimp only at *; omega
          have hzl : ln ≤ 1048576 := by have := hiz.labels.1; have := hzb.labels; dsimp only at *; omega
          have hzc : cn ≤ 1048576 := by have := hiz.cases.1; have := hzb.cases; dsimp only at *; omega
          have HZ := Lib.hid (And.intro hiz (And.intro hzw hnmm))
          clear hiz hzw hnmm hzb hzm hz
          have d0 := (HQ.out.cell (p := ⟨b2, o2 + k * 10, none⟩) hb2).trans d0
          have d1 := (HQ.out.cell (p := ⟨b2, o2 + k * 10 + 1, none⟩) hb2).trans d1
          have d2 := (HQ.out.cell (p := ⟨b2, o2 + k * 10 + 2, none⟩) hb2).trans d2
          have d3 := (HQ.out.cell (p := ⟨b2, o2 + k * 10 + 3, none⟩) hb2).trans d3
          have d4 := (HQ.out.cell (p := ⟨b2, o2 + k * 10 + 4, none⟩) hb2).trans d4
          have d5 := (HQ.out.cell (p := ⟨b2, o2 + k * 10 + 5, none⟩) hb2).trans d5
          have d6 := (HQ.out.cell (p := ⟨b2, o2 + k * 10 + 6, none⟩) hb2).trans d6
          have d7 := (HQ.out.cell (p := ⟨b2, o2 + k * 10 + 7, none⟩) hb2).trans d7
          have d8 := (HQ.out.cell (p := ⟨b2, o2 + k * 10 + 8, none⟩) hb2).trans d8
          have d9 := (HQ.out.cell (p := ⟨b2, o2 + k * 10 + 9, none⟩) hb2).trans d9
          have hal := heap_alloc_new wr (.cells #[.int .i64 op, .int .i64 dk, .int .i64 dc, .int .i64 dn, .int .i64 dt, .slice aa an ac, .string nm, .int .i64 off, .slice la ln lc, .slice ca cn cc] 51)
          have B6 : Below w5.heap.size w5 (wr.alloc (.cells #[.int .i64 op, .int .i64 dk, .int .i64 dc, .int .i64 dn, .int .i64 dt, .slice aa an ac, .string nm, .int .i64 off, .slice la ln lc, .slice ca cn cc] 51)) := HQ.out.alloc HQ.out.size _
          obtain ⟨w6, hw6⟩ : ∃ w6, wr.alloc (.cells #[.int .i64 op, .int .i64 dk, .int .i64 dc, .int .i64 dn, .int .i64 dt, .slice aa an ac, .string nm, .int .i64 off, .slice la ln lc, .slice ca cn cc] 51) = w6 := ⟨_, rfl⟩
          rw [hw6] at hal B6
          obtain ⟨e0, e1, e2, e3, e4, e5, e6, e7, e8, e9⟩ := ten_cells hal
          have H6 := Lib.hid (And.intro hal B6)
          clear hal B6
          obtain ⟨us, hus⟩ : ∃ us, usesFrom [] args = us := ⟨_, rfl⟩
          obtain ⟨U, hU⟩ : ∃ U, us.length = U := ⟨_, rfl⟩
          have hUl : U ≤ 1048576 := by
            have h1 := uses_len [] args
            have h2 := HZ.out.1.args.1
            rw [hus, hU] at h1
            simp only [List.length_nil] at h1
            dsimp only at h2
            omega
          have CU := Lib.hid (show ∀ W, Below w5.heap.size w5 W → Calls Try.prog 34 #[.agg #[.int .i64 op, .int .i64 dk, .int .i64 dc, .int .i64 dn, .int .i64 dt, .slice aa an ac, .string nm, .int .i64 off, .slice la ln lc, .slice ca cn cc]] W fun e w' => ∃ A c, e = .returned (.slice A U c) ∧ IsInts w' A U us ∧ Below W.heap.size W w' from fun W hb => by
            refine Calls.mono (uses_v ⟨op, ⟨dk, dc, dn, dt⟩, args, nm, off, labels, cas⟩ ⟨aa, an, ac, la, ln, lc, ca, cn, cc⟩ W (HZ.out.1.below hb) hza HZ.out.2.1) ?_
            rintro e w' ⟨A, c, rfl, hr, hb⟩
            dsimp only at hr
            rw [hus, hU] at hr
            dsimp only
            rw [hus, hU]
            exact ⟨A, c, rfl, ints_row hr hU (by omega), hb⟩)
          have CV := Lib.hid (show ∀ W, Below w5.heap.size w5 W → Calls Try.prog 35 #[.agg #[.int .i64 op, .int .i64 dk, .int .i64 dc, .int .i64 dn, .int .i64 dt, .slice aa an ac, .string nm, .int .i64 off, .slice la ln lc, .slice ca cn cc]] W fun e w' => ∃ A c, e = .returned (.slice A U c) ∧ IsInts w' A U us ∧ Below W.heap.size W w' from fun W hb => by
            refine Calls.mono (ruses_v ⟨op, ⟨dk, dc, dn, dt⟩, args, nm, off, labels, cas⟩ ⟨aa, an, ac, la, ln, lc, ca, cn, cc⟩ W (HZ.out.1.below hb) hza) ?_
            rintro e w' ⟨A, c, rfl, hr, hb⟩
            dsimp only at hr
            rw [hus, hU] at hr
            dsimp only
            rw [hus, hU]
            exact ⟨A, c, rfl, ints_row hr hU (by omega), hb⟩)
          have HU := Lib.hid hU
          clear hus hU
          obtain ⟨zv, hzv⟩ : ∃ z, (valOf dk dn dt).1 = z := ⟨_, rfl⟩
          obtain ⟨bv, hbv⟩ : ∃ z, (valOf dk dn dt).2 = z := ⟨_, rfl⟩
          obtain ⟨pv, hpv⟩ : ∃ z, (rvalOf dk dn dt).1 = z := ⟨_, rfl⟩
          have hval : valOf dk dn dt = (zv, bv) := by rw [← hzv, ← hbv]
          have hrval : rvalOf dk dn dt = (pv, bv) := by rw [← hpv, ← hbv, ← (rval_same dk dn dt).1]
          have hzp : (bv = true ∧ pv = zv) ∨ (bv = false ∧ zv = 0) := by
            cases hq : bv
            · refine .inr ⟨rfl, ?_⟩
              rw [hq] at hbv
              rw [← hzv]
              revert hbv
              unfold valOf
              by_cases h1 : dk = 1
              · rw [if_pos h1]; intro h; cases h
              · rw [if_neg h1]
                by_cases h2 : dk = 2 ∨ dk = 3
                · rw [if_pos h2]; intro h; cases h
                · rw [if_neg h2]; intro _; rfl
            · refine .inl ⟨rfl, ?_⟩
              rw [← hpv, ← hzv]
              exact (rval_same dk dn dt).2 (by rw [hbv, hq])
          have CD := Lib.hid (show ∀ W, Calls Try.prog 32 #[.agg #[.int .i64 op, .int .i64 dk, .int .i64 dc, .int .i64 dn, .int .i64 dt, .slice aa an ac, .string nm, .int .i64 off, .slice la ln lc, .slice ca cn cc]] W fun e w' => e = .returned (.tuple #[.int .i64 zv, .bool bv]) ∧ Below W.heap.size W w' from fun W => def_v ⟨op, ⟨dk, dc, dn, dt⟩, args, nm, off, labels, cas⟩ ⟨aa, an, ac, la, ln, lc, ca, cn, cc⟩ zv bv hval W)
          have C29 := Lib.hid (show ∀ W, Calls Try.prog 29 #[.agg #[.int .i64 dk, .int .i64 dc, .int .i64 dn, .int .i64 dt]] W fun e w' => e = .returned (.tuple #[.int .i64 zv, .bool bv]) ∧ Below W.heap.size W w' from fun W => value_v dk dc dn dt zv bv hval W)
          have C30 := Lib.hid (show ∀ W, Calls Try.prog 30 #[.agg #[.int .i64 dk, .int .i64 dc, .int .i64 dn, .int .i64 dt]] W fun e w' => e = .returned (.tuple #[.int .i64 pv, .bool bv]) ∧ Below W.heap.size W w' from fun W => rvalue_v dk dc dn dt pv bv hrval W)
          clear hzv hbv hpv hval hrval
          have HZP := Lib.hid hzp
          clear hzp
          go_wp2_with fail
          refine (mapL 27 inpl27 op dk dc dn dt args nm off labels cas aa la ca an ac ln lc cn cc w6 (HZ.out.1.below H6.out.2) hza hzl hzc).mono ?_
          rintro e w7 ⟨aa1, la1, ca1, an1, ac1, ln1, lc1, cn1, cc1, rfl, hi7, hb7, ha1, hl1, hc1⟩
          clear e0 e1 e2 e3 e4 e5 e6 e7 e8 e9 hw6 d0 d1 d2 d3 d4 d5 d6 d7 d8 d9 k0 k1 k2 k3 k4 c3r
          have hal := heap_alloc_new w7 (.cells #[.int .i64 op, .int .i64 dk, .int .i64 dc, .int .i64 dt, .int .i64 dn, .slice aa1 an1 ac1, .string nm, .int .i64 off, .slice la1 ln1 lc1, .slice ca1 cn1 cc1] 51)
          have B8 : Below w6.heap.size w6 (w7.alloc (.cells #[.int .i64 op, .int .i64 dk, .int .i64 dc, .int .i64 dt, .int .i64 dn, .slice aa1 an1 ac1, .string nm, .int .i64 off, .slice la1 ln1 lc1, .slice ca1 cn1 cc1] 51)) := hb7.alloc hb7.size _
          have hi8 := hi7.below ((Below.refl _ w7).alloc (Nat.le_refl _) (.cells #[.int .i64 op, .int .i64 dk, .int .i64 dc, .int .i64 dt, .int .i64 dn, .slice aa1 an1 ac1, .string nm, .int .i64 off, .slice la1 ln1 lc1, .slice ca1 cn1 cc1] 51))
          obtain ⟨w8, hw8⟩ : ∃ w8, w7.alloc (.cells #[.int .i64 op, .int .i64 dk, .int .i64 dc, .int .i64 dt, .int .i64 dn, .slice aa1 an1 ac1, .string nm, .int .i64 off, .slice la1 ln1 lc1, .slice ca1 cn1 cc1] 51) = w8 := ⟨_, rfl⟩
          rw [hw8] at hal B8 hi8
          obtain ⟨q0, q1, q2, q3, q4, q5, q6, q7, q8, q9⟩ := ten_cells hal
          have H8 := Lib.hid (And.intro hal (And.intro B8 hi8))
          clear hal B8 hi8 hi7 hb7
          go_wp2_with fail
          refine (mapL 28 inpl28 op dk dc dt dn (args.map Opn.T) nm off labels cas aa1 la1 ca1 an1 ac1 ln1 lc1 cn1 cc1 w8 H8.out.2.2 ha1 hl1 hc1).mono ?_
          rintro e w9 ⟨aa2, la2, ca2, an2, ac2, ln2, lc2, cn2, cc2, rfl, hi9, hb9, ha2, hl2, hc2⟩
          rw [turn_twice] at hi9
          clear q0 q1 q2 q3 q4 q5 q6 q7 q8 q9 hw8 ha1 hl1 hc1
          have hal := heap_alloc_new w9 (.cells #[.int .i64 op, .int .i64 dk, .int .i64 dc, .int .i64 dn, .int .i64 dt, .slice aa2 an2 ac2, .string nm, .int .i64 off, .slice la2 ln2 lc2, .slice ca2 cn2 cc2] 51)
          have B10 : Below w8.heap.size w8 (w9.alloc (.cells #[.int .i64 op, .int .i64 dk, .int .i64 dc, .int .i64 dn, .int .i64 dt, .slice aa2 an2 ac2, .string nm, .int .i64 off, .slice la2 ln2 lc2, .slice ca2 cn2 cc2] 51)) := hb9.alloc hb9.size _
          have hi10 := hi9.below ((Below.refl _ w9).alloc (Nat.le_refl _) (.cells #[.int .i64 op, .int .i64 dk, .int .i64 dc, .int .i64 dn, .int .i64 dt, .slice aa2 an2 ac2, .string nm, .int .i64 off, .slice la2 ln2 lc2, .slice ca2 cn2 cc2] 51))
          obtain ⟨w10, hw10⟩ : ∃ w10, w9.alloc (.cells #[.int .i64 op, .int .i64 dk, .int .i64 dc, .int .i64 dn, .int .i64 dt, .slice aa2 an2 ac2, .string nm, .int .i64 off, .slice la2 ln2 lc2, .slice ca2 cn2 cc2] 51) = w10 := ⟨_, rfl⟩
          rw [hw10] at hal B10 hi10
          have H10 := Lib.hid (And.intro hal (And.intro (kept_box H8.out.1 B10) (And.intro hi10 (And.intro (H8.out.2.1.trans (B10.mono H8.out.2.1.size)) (kept_box H6.out.1 (H8.out.2.1.trans (B10.mono H8.out.2.1.size)))))))
          clear hal B10 hi10 hi9 hb9 ha2 hl2 hc2
          obtain ⟨e0, e1, e2, e3, e4, e5, e6, e7, e8, e9⟩ := ten_cells H10.out.2.2.2.2
          go_wp2_with fail
          refine (C29.out w10).mono ?_
          rintro e w11 ⟨rfl, hb⟩
          have B11 := Lib.hid hb
          clear hb e0 e1 e2 e3 e4 e5 e6 e7 e8 e9 hw10
          obtain ⟨e0, e1, e2, e3, e4, e5, e6, e7, e8, e9⟩ := ten_cells (kept_box H10.out.2.2.2.2 B11.out)
          go_wp2_with fail
          refine (C30.out w11).mono ?_
          rintro e w12 ⟨rfl, hb⟩
          have B12 := Lib.hid (B11.out.trans (hb.mono B11.out.size))
          clear hb e0 e1 e2 e3 e4 e5 e6 e7 e8 e9
          obtain ⟨e0, e1, e2, e3, e4, e5, e6, e7, e8, e9⟩ := ten_cells (kept_box H10.out.2.2.2.2 B12.out)
          obtain ⟨q0, q1, q2, q3, q4, q5, q6, q7, q8, q9⟩ := ten_cells (kept_box H10.out.1 B12.out)
          have C31 := Lib.hid (show Calls Try.prog 31 #[.agg #[.int .i64 op, .int .i64 dk, .int .i64 dc, .int .i64 dn, .int .i64 dt, .slice aa an ac, .string nm, .int .i64 off, .slice la ln lc, .slice ca cn cc], .agg #[.int .i64 op, .int .i64 dk, .int .i64 dc, .int .i64 dn, .int .i64 dt, .slice aa2 an2 ac2, .string nm, .int .i64 off, .slice la2 ln2 lc2, .slice ca2 cn2 cc2]] w12 fun e w' => e = .returned (.bool true) ∧ Below w12.heap.size w12 w' from by
            have := eq31_v ⟨op, ⟨dk, dc, dn, dt⟩, args, nm, off, labels, cas⟩ ⟨op, ⟨dk, dc, dn, dt⟩, args, nm, off, labels, cas⟩ ⟨aa, an, ac, la, ln, lc, ca, cn, cc⟩ ⟨aa2, an2, ac2, la2, ln2, lc2, ca2, cn2, cc2⟩ w12 (((HZ.out.1.below H6.out.2).below H10.out.2.2.2.1).below B12.out) (H10.out.2.2.1.below B12.out)
            rw [insEq_refl] at this
            exact this)
          go_upto_region 19 with fail
          go_cut [125] from 54 to 169 (fun s125 wx => s125 = .bool false ∧ Hid (Below w10.heap.size w10 wx))
          case first =>
           go_wp2_with fail
           refine C31.out.mono ?_
           rintro e w13 ⟨rfl, hb⟩
           have B13 := Lib.hid (B12.out.trans (hb.mono B12.out.size))
           clear hb e0 e1 e2 e3 e4 e5 e6 e7 e8 e9 q0 q1 q2 q3 q4 q5 q6 q7 q8 q9 C31 B11 B12
           obtain ⟨e0, e1, e2, e3, e4, e5, e6, e7, e8, e9⟩ := ten_cells (kept_box H10.out.2.2.2.2 B13.out)
           obtain ⟨q0, q1, q2, q3, q4, q5, q6, q7, q8, q9⟩ := ten_cells (kept_box H10.out.2.1 B13.out)
           clear q0 q1 q2 q4 q5 q6 q7 q8 q9
           have hzp := HZP.out
           clear HZP
           rcases hzp with ⟨rfl, rfl⟩ | ⟨rfl, rfl⟩
           · go_wp2_with fail
             go_meet
             exact ⟨rfl, B13.out⟩
           · go_wp2_with fail
             go_meet
             exact ⟨rfl, B13.out⟩
          case rest =>
            obtain ⟨rfl, hcw⟩ := hcut
            clear e0 e1 e2 e3 e4 e5 e6 e7 e8 e9 q0 q1 q2 q3 q4 q5 q6 q7 q8 q9 C31 HZP
            have B13 := Lib.hid hcw.out
            clear hcw
            obtain ⟨e0, e1, e2, e3, e4, e5, e6, e7, e8, e9⟩ := ten_cells (kept_box H10.out.2.2.2.2 B13.out)
            go_wp2_with fail
            refine (CD.out wc).mono ?_
            rintro e w14 ⟨rfl, hb⟩
            have B14 := Lib.hid (H10.out.2.2.2.1.trans ((B13.out.trans (hb.mono B13.out.size)).mono H10.out.2.2.2.1.size))
            clear hb e0 e1 e2 e3 e4 e5 e6 e7 e8 e9
            have H14 := Lib.hid (And.intro (kept_box H6.out.1 B14.out) (H6.out.2.trans (B14.out.mono H6.out.2.size)))
            have S20 := Lib.hid (ten_cells H14.out.1)
            go_wp2_with fail
            go_region_held3 (fun W => W.cell? ⟨wr.heap.size, 0, none⟩ = some (.int .i64 op) ∧ W.cell? ⟨wr.heap.size, 1, none⟩ = some (.int .i64 dk) ∧ W.cell? ⟨wr.heap.size, 2, none⟩ = some (.int .i64 dc) ∧ W.cell? ⟨wr.heap.size, 3, none⟩ = some (.int .i64 dn) ∧ W.cell? ⟨wr.heap.size, 4, none⟩ = some (.int .i64 dt) ∧ W.cell? ⟨wr.heap.size, 5, none⟩ = some (.slice aa an ac) ∧ W.cell? ⟨wr.heap.size, 6, none⟩ = some (.string nm) ∧ W.cell? ⟨wr.heap.size, 7, none⟩ = some (.int .i64 off) ∧ W.cell? ⟨wr.heap.size, 8, none⟩ = some (.slice la ln lc) ∧ W.cell? ⟨wr.heap.size, 9, none⟩ = some (.slice ca cn cc))
              (first | exact Sw23.out | exact Sw22.out | exact Sw21.out | exact S20.out)
              (first
                | (go_at_call 33; have KW := Lib.hid (show Below w21.heap.size w21 w22 from B22.out); (refine (eq33_v Au Av U U cu cv us us w22 (U21.out.below KW.out) U22.out).mono ?_); rintro e w23 ⟨rfl, hb⟩; have Fw23 := Lib.hid (Fw22.out.trans (Below.mono (show Below w22.heap.size w22 w23 from ⟨hb.os, hb.tape, hb.output, hb.size, hb.block⟩) Fw22.out.size)); clear hb; have Sw23 := Lib.hid (ten_cells (kept_box H14.out.1 Fw23.out)); rw [sameL_refl _ intEq_refl])
                | (go_at_call 35; (refine (CV.out w21 (H14.out.2.trans (Fw21.out.mono H14.out.2.size))).mono ?_); rintro e w22 ⟨Av, cv, rfl, hu, hb⟩; have Fw22 := Lib.hid (Fw21.out.trans (Below.mono (show Below w21.heap.size w21 w22 from ⟨hb.os, hb.tape, hb.output, hb.size, hb.block⟩) Fw21.out.size)); have B22 := Lib.hid (show Below w21.heap.size w21 w22 from ⟨hb.os, hb.tape, hb.output, hb.size, hb.block⟩); clear hb; have Sw22 := Lib.hid (ten_cells (kept_box H14.out.1 Fw22.out)); have U22 := Lib.hid hu; clear hu)
                | (go_at_call 34; (refine (CU.out w14.drew (H14.out.2.trans (Below.mono (Below.refl w14.heap.size w14).drew H14.out.2.size))).mono ?_); rintro e w21 ⟨Au, cu, rfl, hu, hb⟩; have Fw21 := Lib.hid ((Below.refl w14.heap.size w14).drew.trans (Below.mono (show Below w14.drew.heap.size w14.drew w21 from ⟨hb.os, hb.tape, hb.output, hb.size, hb.block⟩) (Below.refl w14.heap.size w14).drew.size)); clear hb; have Sw21 := Lib.hid (ten_cells (kept_box H14.out.1 Fw21.out)); have U21 := Lib.hid hu; clear hu))
            have H23 := Lib.hid (And.intro (kept_box H14.out.1 Fw23.out) (H14.out.2.trans (Fw23.out.mono H14.out.2.size)))
            obtain ⟨P, hP⟩ : ∃ P, wr.heap.size = P := ⟨_, rfl⟩
            rw [hP] at H23 ⊢
            clear hP Sw23 Sw22 Sw21 S20 U21 U22 KW B22 Fw21 Fw22 Fw23 CU CV CD C29 C30 H10 H8 B13 B14 H14 H6
            go_wp2_with fail
            go_loopg [23, 24] L (fun gk u1 u2 wq => ∃ (j : Nat) (mt : Bool), j + gk = L ∧ u1 = .bool mt ∧ u2 = .int .i64 (j : Int) ∧ Hid ((∀ q, q < j → l[q]? = some nm → mt = true) ∧ Below w23.heap.size w23 wq))
            case atStart => exact ⟨0, false, by omega, rfl, rfl, (fun q hq => by omega), Below.refl _ _⟩
            case round =>
              obtain ⟨j, mt, hj, rfl, rfl, HM⟩ := hrel
              have e6 : wr.cell? ⟨P, 6, none⟩ = some (.string nm) := (ten_cells (kept_box H23.out.1 HM.out.2)).2.2.2.2.2.2.1
              by_cases hlj : j < L
              · have i3 : (j : Int) < (L : Int) := by omega
                obtain ⟨b3, o3, rfl, hb3, sj, hsj, cj⟩ := ((HS.out.1.below H23.out.2).below HM.out.2).at hlj
                cases mt
                · by_cases he : sj.toList = nm.toList
                  · have he2 : (sj.toList == nm.toList) = true := by simpa using he
                    go_wp2_with fail
                    go_quiet (fail)
                    go_wp2_with fail
                    go_roundg (gk - 1)
                    case measure => omega
                    case rel => exact ⟨j + 1, true, by omega, by go_num, by go_num, (fun _ _ _ => rfl), Below.drewQ HM.out.2 _⟩
                  · have he2 : (sj.toList == nm.toList) = false := by simpa using he
                    have HN := Lib.hid (show ∀ q, q < j + 1 → l[q]? = some nm → false = true from fun q hq hs => by
                      by_cases e : q = j
                      · rw [e, hsj] at hs
                        injection hs with hs
                        exact absurd (by rw [hs]) he
                      · exact HM.out.1 q (by omega) hs)
                    go_wp2_with fail
                    go_quiet (fail)
                    go_wp2_with fail
                    go_roundg (gk - 1)
                    case measure => omega
                    case rel => exact ⟨j + 1, false, by omega, by go_num, by go_num, HN.out, Below.drewQ HM.out.2 _⟩
                · go_wp2_with fail
                  go_quiet (fail)
                  go_wp2_with fail
                  go_roundg (gk - 1)
                  case measure => omega
                  case rel => exact ⟨j + 1, true, by omega, by go_num, by go_num, (fun _ _ _ => rfl), Below.drewQ HM.out.2 _⟩
              · obtain rfl : j = L := by omega
                have hge : ¬ (j : Int) < (j : Int) := by omega
                have e0 : wr.cell? ⟨P, 0, none⟩ = some (.int .i64 op) := (ten_cells (kept_box H23.out.1 HM.out.2)).1
                have HW23 := Lib.hid (H23.out.2.trans (HM.out.2.mono H23.out.2.size))
                by_cases h19 : op = 19
                · have hmt : mt = true := by
                    have h1 := callsOf_mem blocks nm (HZ.out.2.2 h19)
                    rw [← HS.out.2.1] at h1
                    obtain ⟨q, hq, e⟩ := List.mem_iff_getElem.1 h1
                    rw [List.getElem_map] at e
                    have hql : q < l.length := by simpa using hq
                    exact HM.out.1 q (by rw [← HS.out.2.2]; exact hql) (by rw [List.getElem?_eq_getElem hql, byt_inj e])
                  subst hmt
                  go_wp2_with fail
                  go_roundg (kn - k - 1)
                  case measure => omega
                  case rel => exact ⟨k + 1, L0 + (k + 1), by omega, by go_num, by go_num, rfl, HW23.out⟩
                · go_wp2_with fail
                  go_roundg (kn - k - 1)
                  case measure => omega
                  case rel => exact ⟨k + 1, L0 + (k + 1), by omega, by go_num, by go_num, rfl, HW23.out⟩
        · obtain rfl : k = kn := by omega
          have hge : ¬ (k : Int) < (k : Int) := by omega
          go_wp2_with fail
          go_roundg (bn - i - 1)
          case measure => omega
          case rel => exact ⟨i + 1, L0 + k, by omega, by go_num, by go_num, by omega, by rw [HX.out.1, HX.out.2.1, HH.out.1], HQ.out⟩
    · obtain rfl : i = bn := by omega
      have hge : ¬ (i : Int) < (i : Int) := by omega
      have hL0N : L0 = N := by
        rw [← HC.out.2.2.2.1, ← HH.out.1]
        have hbl := HC.out.1.blocks.1
        dsimp only at hbl ⊢
        rw [List.take_of_length_le (by omega)]
      subst hL0N
      go_wp2_with fail
      clear k0 k1 k2 k3 k4
      go_loopg [25] L (fun gk u wq => ∃ m : Nat, m + gk = L ∧ u = .int .i64 ((m : Int) + 1) ∧ Hid (Below w5.heap.size w5 wq))
      case atStart => exact ⟨0, by omega, rfl, HH.out.2⟩
      case round =>
        obtain ⟨m, hm, rfl, HM⟩ := hrel
        by_cases hlm : m + 1 < L
        · have i3 : (m : Int) + 1 < (L : Int) := by omega
          obtain ⟨b3, o3, s, u, rfl, hs, hu, cs, cu⟩ := strs_at2 (HS.out.1.below HM.out) hlm
          have hless : Op.bytesLess s.toList u.toList = true := by
            have h1 := callsOf_rise blocks
            rw [← HS.out.2.1, List.pairwise_map] at h1
            have hm1 : m < l.length := (List.getElem?_eq_some_iff.1 hs).1
            have hm2 : m + 1 < l.length := (List.getElem?_eq_some_iff.1 hu).1
            have h2 := List.pairwise_iff_getElem.1 h1 m (m + 1) hm1 hm2 (by omega)
            rw [(List.getElem?_eq_some_iff.1 hs).2, (List.getElem?_eq_some_iff.1 hu).2] at h2
            exact less_lt s u h2
          clear hs hu
          have j1 : (m : Int) + 1 - 1 = (m : Int) := by omega
          have j2 : IntKind.i64.wrap (m : Int) = (m : Int) := IntWalk.i64_in _ (by omega)
          have j3 : ((m : Int) + 1).toNat = m + 1 := by omega
          have j4 : (m : Int) < (L : Int) := by omega
          have j5 : m < L := by omega
          have j6 : 0 ≤ (m : Int) + 1 := by omega
          have j7 : ((m : Int)).toNat = m := by omega
          go_wp2_with fail
          go_quiet (fail)
          go_wp2_with fail
          go_roundg (gk - 1)
          case measure => omega
          case rel => exact ⟨m + 1, by omega, by go_num, Below.drewQ HM.out _⟩
        · have hge3 : ¬ (m : Int) + 1 < (L : Int) := by omega
          go_wp2_with fail
          go_loopg [26, 27] rn (fun gk u1 u2 wq => ∃ (k : Nat) (b : Bool), k + gk = rn ∧ u1 = .bool b ∧ u2 = .int .i64 (k : Int) ∧ Hid (hasId x (regs.take k) = b ∧ Below w5.heap.size w5 wq))
          case atStart => exact ⟨0, false, by omega, rfl, rfl, rfl, HM.out⟩
          case round =>
            obtain ⟨k, bb, hk, rfl, rfl, HR⟩ := hrel
            obtain ⟨k0, k1, k2, k3, k4⟩ := five_cells (hbox.out wr (KB.out _ HR.out.2))
            by_cases hlk : k < rn
            · have i4 : (k : Int) < (rn : Int) := by omega
              obtain ⟨b4, o4, rfl, hb4, rg, hrg, g0, g1⟩ := (HC.out.1.below (KB.out _ HR.out.2)).regs.at hlk
              have hstp := hasId_step x regs k rg hrg
              rw [HR.out.1] at hstp
              have HST := Lib.hid hstp
              clear hstp hrg
              obtain ⟨ri, rcl2⟩ := rg
              dsimp only at g0 g1 HST
              cases bb
              · by_cases he : ri = x
                · have he2 : (ri == x) = true := by simpa using he
                  go_wp2_with fail
                  go_roundg (gk - 1)
                  case measure => omega
                  case rel => exact ⟨k + 1, true, by omega, by go_num, by go_num, by rw [HST.out, he2]; rfl, HR.out.2⟩
                · have he2 : (ri == x) = false := by simpa using he
                  go_wp2_with fail
                  go_roundg (gk - 1)
                  case measure => omega
                  case rel => exact ⟨k + 1, false, by omega, by go_num, by go_num, by rw [HST.out, he2]; rfl, HR.out.2⟩
              · go_wp2_with fail
                go_roundg (gk - 1)
                case measure => omega
                case rel => exact ⟨k + 1, true, by omega, by go_num, by go_num, by rw [HST.out]; rfl, HR.out.2⟩
            · obtain rfl : k = rn := by omega
              have hge4 : ¬ (k : Int) < (k : Int) := by omega
              have hall : hasId x regs = bb := by
                have h1 := HR.out.1
                have hrl := HC.out.1.regs.1
                dsimp only at hrl
                rw [List.take_of_length_le (by omega)] at h1
                exact h1
              have hid3 := HC.out.2.2.2.2
              rw [hall] at hid3
              obtain ⟨rfl, hct, hcf⟩ := hid3
              have HBw := Lib.hid (KB.out _ HR.out.2)
              have S30 := Lib.hid (five_cells (hbox.out wr HBw.out))
              have hLN2 : (L : Int) ≤ (L0 : Int) := by omega
              clear hall
              cases ok
              · have hc0 : cl = 0 := hcf rfl
                subst hc0
                go_wp2_with fail
                refine wp_region_held_drew (S := fun W => W.cell? ⟨w.heap.size, 0, none⟩ = some (.bool machine) ∧ W.cell? ⟨w.heap.size, 1, none⟩ = some (.string name) ∧ W.cell? ⟨w.heap.size, 2, none⟩ = some (.slice ra k rc) ∧ W.cell? ⟨w.heap.size, 3, none⟩ = some (.slice pa pn pc) ∧ W.cell? ⟨w.heap.size, 4, none⟩ = some (.slice ba i bc)) (by kernel_rfl) ?_ (fun hHeld => ?_)
                · exact S30.out
                refine wpAnyH_take (i := 0) (oi := { dst := some 204, op := Op.move (Operand.tmp 8), type := 4, pos := "law.go:147", after := #[], guard := none }) (v := ?v0a) rfl (by kernel_rfl) (by kernel_rfl) (by kernel_rfl) (fun _ _ _ h => h) (Or.inl ⟨by rfl, ?hy0a⟩) (by assumption) ?rest0a
                case hy0a => (intro w hSw; (try dsimp only at hSw); go_simp; (try (with_reducible rfl)))
                try simp only [Act.put, List.setIfInBounds_toArray, List.set_cons_zero, List.set_cons_succ]
                refine wpAnyH_take (i := 1) (oi := { dst := some 205, op := Op.move (Operand.tmp 26), type := 4, pos := "law.go:147", after := #[], guard := none }) (v := ?v1a) rfl (by kernel_rfl) (by kernel_rfl) (by kernel_rfl) (fun _ _ _ h => h) (Or.inl ⟨by rfl, ?hy1a⟩) (by assumption) ?rest1a
                case hy1a => (intro w hSw; (try dsimp only at hSw); go_simp; (try (with_reducible rfl)))
                try simp only [Act.put, List.setIfInBounds_toArray, List.set_cons_zero, List.set_cons_succ]
                refine wpAnyH_take (i := 2) (oi := { dst := some 206, op := Op.binOp BinOp.eql 4 (Operand.tmp 204) (Operand.tmp 205) 4, type := 4, pos := "law.go:147", after := #[{ on := 0, ground := Ground.data }, { on := 1, ground := Ground.data }], guard := none }) (v := ?v2a) rfl (by kernel_rfl) (by kernel_rfl) (by kernel_rfl) (fun _ _ _ h => h) (Or.inl ⟨by rfl, ?hy2a⟩) (by assumption) ?rest2a
                case hy2a => (intro w hSw; (try dsimp only at hSw); go_simp; (try (with_reducible rfl)))
                try simp only [Act.put, List.setIfInBounds_toArray, List.set_cons_zero, List.set_cons_succ]
                refine wpAnyH_take (i := 3) (oi := { dst := some 207, op := Op.move (Operand.tmp 206), type := 4, pos := "law.go:147", after := #[{ on := 2, ground := Ground.data }], guard := none }) (v := ?v3a) rfl (by kernel_rfl) (by kernel_rfl) (by kernel_rfl) (fun _ _ _ h => h) (Or.inl ⟨by rfl, ?hy3a⟩) (by assumption) ?rest3a
                case hy3a => (intro w hSw; (try dsimp only at hSw); go_simp; (try (with_reducible rfl)))
                try simp only [Act.put, List.setIfInBounds_toArray, List.set_cons_zero, List.set_cons_succ]
                refine wpAnyH_take (i := 4) (oi := { dst := some 208, op := Op.move (Operand.tmp 26), type := 4, pos := "law.go:147", after := #[{ on := 3, ground := Ground.guard }], guard := some (3, true) }) (v := ?v4a) rfl (by kernel_rfl) (by kernel_rfl) (by kernel_rfl) (fun _ _ _ h => h) (Or.inl ⟨by rfl, ?hy4a⟩) (by assumption) ?rest4a
                case hy4a => (intro w hSw; (try dsimp only at hSw); go_simp; (try (with_reducible rfl)))
                try simp only [Act.put, List.setIfInBounds_toArray, List.set_cons_zero, List.set_cons_succ]
                refine wpAnyH_take (i := 5) (oi := { dst := some 209, op := Op.move (Operand.tmp 208), type := 4, pos := "law.go:147", after := #[{ on := 4, ground := Ground.data }, { on := 3, ground := Ground.chain }, { on := 3, ground := Ground.guard }], guard := some (3, true) }) (v := ?v5a) rfl (by kernel_rfl) (by kernel_rfl) (by kernel_rfl) (fun _ _ _ h => h) (Or.inl ⟨by rfl, ?hy5a⟩) (by assumption) ?rest5a
                case hy5a => (intro w hSw; (try dsimp only at hSw); go_simp; (try (with_reducible rfl)))
                try simp only [Act.put, List.setIfInBounds_toArray, List.set_cons_zero, List.set_cons_succ]
                refine wpAnyH_take (i := 6) (oi := { dst := some 210, op := Op.move (Operand.tmp 7), type := 3, pos := "law.go:147", after := #[{ on := 5, ground := Ground.guard }], guard := some (5, true) }) (v := undef) rfl (by kernel_rfl) (by kernel_rfl) (by kernel_rfl) (fun _ _ _ h => h) (Or.inr ⟨by rfl, rfl⟩) (by assumption) ?_
                try simp only [Act.put, List.setIfInBounds_toArray, List.set_cons_zero, List.set_cons_succ]
                refine wpAnyH_take (i := 7) (oi := { dst := some 211, op := Op.move (Operand.tmp 9), type := 3, pos := "law.go:147", after := #[{ on := 5, ground := Ground.guard }], guard := some (5, true) }) (v := undef) rfl (by kernel_rfl) (by kernel_rfl) (by kernel_rfl) (fun _ _ _ h => h) (Or.inr ⟨by rfl, rfl⟩) (by assumption) ?_
                try simp only [Act.put, List.setIfInBounds_toArray, List.set_cons_zero, List.set_cons_succ]
                refine wpAnyH_take (i := 8) (oi := { dst := some 212, op := Op.binOp BinOp.eql 3 (Operand.tmp 210) (Operand.tmp 211) 3, type := 4, pos := "law.go:147", after := #[{ on := 6, ground := Ground.data }, { on := 7, ground := Ground.data }, { on := 5, ground := Ground.guard }], guard := some (5, true) }) (v := undef) rfl (by kernel_rfl) (by kernel_rfl) (by kernel_rfl) (fun _ _ _ h => h) (Or.inr ⟨by rfl, rfl⟩) (by assumption) ?_
                try simp only [Act.put, List.setIfInBounds_toArray, List.set_cons_zero, List.set_cons_succ]
                refine wpAnyH_take (i := 9) (oi := { dst := some 213, op := Op.pick (Operand.tmp 209) (Operand.tmp 212) (Operand.const (Value.bool false)), type := 4, pos := "law.go:147", after := #[{ on := 5, ground := Ground.data }, { on := 8, ground := Ground.data }, { on := 3, ground := Ground.guard }], guard := some (3, true) }) (v := ?v9a) rfl (by kernel_rfl) (by kernel_rfl) (by kernel_rfl) (fun _ _ _ h => h) (Or.inl ⟨by rfl, ?hy9a⟩) (by assumption) ?rest9a
                case hy9a => (intro w hSw; (try dsimp only at hSw); go_simp; (try (with_reducible rfl)))
                try simp only [Act.put, List.setIfInBounds_toArray, List.set_cons_zero, List.set_cons_succ]
                refine wpAnyH_take (i := 10) (oi := { dst := some 214, op := Op.move (Operand.tmp 213), type := 4, pos := "law.go:147", after := #[{ on := 9, ground := Ground.data }, { on := 5, ground := Ground.chain }, { on := 3, ground := Ground.guard }], guard := some (3, true) }) (v := ?v10a) rfl (by kernel_rfl) (by kernel_rfl) (by kernel_rfl) (fun _ _ _ h => h) (Or.inl ⟨by rfl, ?hy10a⟩) (by assumption) ?rest10a
                case hy10a => (intro w hSw; (try dsimp only at hSw); go_simp; (try (with_reducible rfl)))
                try simp only [Act.put, List.setIfInBounds_toArray, List.set_cons_zero, List.set_cons_succ]
                refine wpAnyH_take (i := 11) (oi := { dst := some 215, op := Op.move (Operand.tmp 26), type := 4, pos := "law.go:147", after := #[{ on := 10, ground := Ground.guard }], guard := some (10, false) }) (v := ?v11a) rfl (by kernel_rfl) (by kernel_rfl) (by kernel_rfl) (fun _ _ _ h => h) (Or.inl ⟨by rfl, ?hy11a⟩) (by assumption) ?rest11a
                case hy11a => (intro w hSw; (try dsimp only at hSw); go_simp; (try (with_reducible rfl)))
                try simp only [Act.put, List.setIfInBounds_toArray, List.set_cons_zero, List.set_cons_succ]
                refine wpAnyH_take (i := 12) (oi := { dst := some 216, op := Op.unOp UnOp.not 4 (Operand.tmp 215), type := 4, pos := "law.go:147", after := #[{ on := 11, ground := Ground.data }, { on := 10, ground := Ground.guard }], guard := some (10, false) }) (v := ?v12a) rfl (by kernel_rfl) (by kernel_rfl) (by kernel_rfl) (fun _ _ _ h => h) (Or.inl ⟨by rfl, ?hy12a⟩) (by assumption) ?rest12a
                case hy12a => (intro w hSw; (try dsimp only at hSw); go_simp; (try (with_reducible rfl)))
                try simp only [Act.put, List.setIfInBounds_toArray, List.set_cons_zero, List.set_cons_succ]
                refine wpAnyH_take (i := 13) (oi := { dst := some 217, op := Op.move (Operand.tmp 216), type := 4, pos := "law.go:147", after := #[{ on := 12, ground := Ground.data }, { on := 10, ground := Ground.chain }, { on := 10, ground := Ground.guard }], guard := some (10, false) }) (v := ?v13a) rfl (by kernel_rfl) (by kernel_rfl) (by kernel_rfl) (fun _ _ _ h => h) (Or.inl ⟨by rfl, ?hy13a⟩) (by assumption) ?rest13a
                case hy13a => (intro w hSw; (try dsimp only at hSw); go_simp; (try (with_reducible rfl)))
                try simp only [Act.put, List.setIfInBounds_toArray, List.set_cons_zero, List.set_cons_succ]
                refine wpAnyH_take (i := 14) (oi := { dst := some 218, op := Op.move (Operand.tmp 7), type := 3, pos := "law.go:147", after := #[{ on := 13, ground := Ground.guard }], guard := some (13, true) }) (v := ?v14a) rfl (by kernel_rfl) (by kernel_rfl) (by kernel_rfl) (fun _ _ _ h => h) (Or.inl ⟨by rfl, ?hy14a⟩) (by assumption) ?rest14a
                case hy14a => (intro w hSw; (try dsimp only at hSw); go_simp; (try (with_reducible rfl)))
                try simp only [Act.put, List.setIfInBounds_toArray, List.set_cons_zero, List.set_cons_succ]
                refine wpAnyH_take (i := 15) (oi := { dst := some 219, op := Op.binOp BinOp.eql 3 (Operand.tmp 218) (Operand.const (Value.int IntKind.i64 0)) 3, type := 4, pos := "law.go:147", after := #[{ on := 14, ground := Ground.data }, { on := 13, ground := Ground.guard }], guard := some (13, true) }) (v := ?v15a) rfl (by kernel_rfl) (by kernel_rfl) (by kernel_rfl) (fun _ _ _ h => h) (Or.inl ⟨by rfl, ?hy15a⟩) (by assumption) ?rest15a
                case hy15a => (intro w hSw; (try dsimp only at hSw); go_simp; (try (with_reducible rfl)))
                try simp only [Act.put, List.setIfInBounds_toArray, List.set_cons_zero, List.set_cons_succ]
                refine wpAnyH_take (i := 16) (oi := { dst := some 220, op := Op.pick (Operand.tmp 217) (Operand.tmp 219) (Operand.const (Value.bool false)), type := 4, pos := "law.go:147", after := #[{ on := 13, ground := Ground.data }, { on := 15, ground := Ground.data }, { on := 10, ground := Ground.guard }], guard := some (10, false) }) (v := ?v16a) rfl (by kernel_rfl) (by kernel_rfl) (by kernel_rfl) (fun _ _ _ h => h) (Or.inl ⟨by rfl, ?hy16a⟩) (by assumption) ?rest16a
                case hy16a => (intro w hSw; (try dsimp only at hSw); go_simp; (try (with_reducible rfl)))
                try simp only [Act.put, List.setIfInBounds_toArray, List.set_cons_zero, List.set_cons_succ]
                refine wpAnyH_take (i := 17) (oi := { dst := some 221, op := Op.pick (Operand.tmp 214) (Operand.const (Value.bool true)) (Operand.tmp 220), type := 4, pos := "law.go:147", after := #[{ on := 10, ground := Ground.data }, { on := 16, ground := Ground.data }, { on := 3, ground := Ground.guard }], guard := some (3, true) }) (v := ?v17a) rfl (by kernel_rfl) (by kernel_rfl) (by kernel_rfl) (fun _ _ _ h => h) (Or.inl ⟨by rfl, ?hy17a⟩) (by assumption) ?rest17a
                case hy17a => (intro w hSw; (try dsimp only at hSw); go_simp; (try (with_reducible rfl)))
                try simp only [Act.put, List.setIfInBounds_toArray, List.set_cons_zero, List.set_cons_succ]
                refine wpAnyH_take (i := 18) (oi := { dst := some 222, op := Op.pick (Operand.tmp 207) (Operand.tmp 221) (Operand.const (Value.bool false)), type := 4, pos := "law.go:147", after := #[{ on := 3, ground := Ground.data }, { on := 17, ground := Ground.data }], guard := none }) (v := ?v18a) rfl (by kernel_rfl) (by kernel_rfl) (by kernel_rfl) (fun _ _ _ h => h) (Or.inl ⟨by rfl, ?hy18a⟩) (by assumption) ?rest18a
                case hy18a => (intro w hSw; (try dsimp only at hSw); go_simp; (try (with_reducible rfl)))
                try simp only [Act.put, List.setIfInBounds_toArray, List.set_cons_zero, List.set_cons_succ]
                refine wpAnyH_take (i := 19) (oi := { dst := some 223, op := Op.move (Operand.tmp 222), type := 4, pos := "law.go:147", after := #[{ on := 18, ground := Ground.data }, { on := 13, ground := Ground.chain }], guard := none }) (v := ?v19a) rfl (by kernel_rfl) (by kernel_rfl) (by kernel_rfl) (fun _ _ _ h => h) (Or.inl ⟨by rfl, ?hy19a⟩) (by assumption) ?rest19a
                case hy19a => (intro w hSw; (try dsimp only at hSw); go_simp; (try (with_reducible rfl)))
                try simp only [Act.put, List.setIfInBounds_toArray, List.set_cons_zero, List.set_cons_succ]
                refine wpAnyH_take (i := 20) (oi := { dst := some 224, op := Op.load 31 (Operand.tmp 3), type := 31, pos := "law.go:147", after := #[{ on := 19, ground := Ground.guard }], guard := some (19, true) }) (v := ?v20a) rfl (by kernel_rfl) (by kernel_rfl) (by kernel_rfl) (fun _ _ _ h => h) (Or.inl ⟨by rfl, ?hy20a⟩) (by assumption) ?rest20a
                case hy20a => (intro w hSw; (try dsimp only at hSw); go_simp; (try (with_reducible rfl)))
                try simp only [Act.put, List.setIfInBounds_toArray, List.set_cons_zero, List.set_cons_succ]
                refine wpAnyH_take (i := 21) (oi := { dst := some 225, op := Op.move (Operand.tmp 2), type := 9, pos := "law.go:147", after := #[{ on := 19, ground := Ground.guard }], guard := some (19, true) }) (v := ?v21a) rfl (by kernel_rfl) (by kernel_rfl) (by kernel_rfl) (fun _ _ _ h => h) (Or.inl ⟨by rfl, ?hy21a⟩) (by assumption) ?rest21a
                case hy21a => (intro w hSw; (try dsimp only at hSw); go_simp; (try (with_reducible rfl)))
                try simp only [Act.put, List.setIfInBounds_toArray, List.set_cons_zero, List.set_cons_succ]
                refine wpAnyH_take (i := 23) (oi := { dst := some 227, op := Op.load 31 (Operand.tmp 3), type := 31, pos := "law.go:147", after := #[{ on := 19, ground := Ground.guard }], guard := some (19, true) }) (v := ?v23a) rfl (by kernel_rfl) (by kernel_rfl) (by kernel_rfl) (fun _ _ _ h => h) (Or.inl ⟨by rfl, ?hy23a⟩) (by assumption) ?rest23a
                case hy23a => (intro w hSw; (try dsimp only at hSw); go_simp; (try (with_reducible rfl)))
                try simp only [Act.put, List.setIfInBounds_toArray, List.set_cons_zero, List.set_cons_succ]
                refine wpAnyH_take (i := 24) (oi := { dst := some 228, op := Op.move (Operand.tmp 2), type := 9, pos := "law.go:147", after := #[{ on := 19, ground := Ground.guard }], guard := some (19, true) }) (v := ?v24a) rfl (by kernel_rfl) (by kernel_rfl) (by kernel_rfl) (fun _ _ _ h => h) (Or.inl ⟨by rfl, ?hy24a⟩) (by assumption) ?rest24a
                case hy24a => (intro w hSw; (try dsimp only at hSw); go_simp; (try (with_reducible rfl)))
                try simp only [Act.put, List.setIfInBounds_toArray, List.set_cons_zero, List.set_cons_succ]
                refine wpAnyH_ready (rs := [22]) (by kernel_rfl) (by simp) ?_
                refine AllReadyH.cons (o := { dst := some 226, op := Op.call { callee := Callee.value (Operand.func 36), args := #[Operand.tmp 224, Operand.tmp 225], argTypes := #[31, 9] }, type := 3, pos := "law.go:147", after := #[{ on := 20, ground := Ground.data }, { on := 21, ground := Ground.data }, { on := 19, ground := Ground.chain }, { on := 19, ground := Ground.guard }], guard := some (19, true) }) rfl (fun K hK => ?_) AllReadyH.nil
                go_simp
                (go_at_call 36; (refine (CF.out wr.drew (HBw.out.drew)).mono ?_); rintro e w31 ⟨rfl, hb⟩; have Fw31 := Lib.hid (HBw.out.drew.trans (Below.mono (show Below wr.drew.heap.size wr.drew w31 from ⟨hb.os, hb.tape, hb.output, hb.size, hb.block⟩) HBw.out.drew.size)); clear hb; have Sw31 := Lib.hid (five_cells (hbox.out w31 Fw31.out)))
                first | refine hK.out _ _ ?_ (fun hHeld => ?_) | (go_wp2_with fail; refine hK.out _ _ ?_ (fun hHeld => ?_))
                · exact Sw31.out
                clear hK K
                try simp only [Act.put, List.setIfInBounds_toArray, List.set_cons_zero, List.set_cons_succ]
                refine wpAnyH_ready (rs := [25]) (by kernel_rfl) (by simp) ?_
                refine AllReadyH.cons (o := { dst := some 229, op := Op.call { callee := Callee.value (Operand.func 37), args := #[Operand.tmp 227, Operand.tmp 228], argTypes := #[31, 9] }, type := 3, pos := "law.go:147", after := #[{ on := 23, ground := Ground.data }, { on := 24, ground := Ground.data }, { on := 22, ground := Ground.chain }, { on := 19, ground := Ground.guard }], guard := some (19, true) }) rfl (fun K hK => ?_) AllReadyH.nil
                go_simp
                (go_at_call 37; (refine (CG.out w31 Fw31.out).mono ?_); rintro e w32 ⟨rfl, hb⟩; have Fw32 := Lib.hid (Fw31.out.trans (Below.mono (show Below w31.heap.size w31 w32 from ⟨hb.os, hb.tape, hb.output, hb.size, hb.block⟩) Fw31.out.size)); clear hb; have Sw32 := Lib.hid (five_cells (hbox.out w32 Fw32.out)))
                first | refine hK.out _ _ ?_ (fun hHeld => ?_) | (go_wp2_with fail; refine hK.out _ _ ?_ (fun hHeld => ?_))
                · exact Sw32.out
                clear hK K
                try simp only [Act.put, List.setIfInBounds_toArray, List.set_cons_zero, List.set_cons_succ]
                refine wpAnyH_take (i := 26) (oi := { dst := some 230, op := Op.binOp BinOp.eql 3 (Operand.tmp 226) (Operand.tmp 229) 3, type := 4, pos := "law.go:147", after := #[{ on := 22, ground := Ground.data }, { on := 25, ground := Ground.data }, { on := 19, ground := Ground.guard }], guard := some (19, true) }) (v := ?v26a) rfl (by kernel_rfl) (by kernel_rfl) (by kernel_rfl) (fun _ _ _ h => h) (Or.inl ⟨by rfl, ?hy26a⟩) (by assumption) ?rest26a
                case hy26a => (intro w hSw; (try dsimp only at hSw); go_simp; (try (with_reducible rfl)))
                try simp only [Act.put, List.setIfInBounds_toArray, List.set_cons_zero, List.set_cons_succ]
                refine wpAnyH_take (i := 27) (oi := { dst := some 231, op := Op.pick (Operand.tmp 223) (Operand.tmp 230) (Operand.const (Value.bool false)), type := 4, pos := "law.go:147", after := #[{ on := 19, ground := Ground.data }, { on := 26, ground := Ground.data }], guard := none }) (v := ?v27a) rfl (by kernel_rfl) (by kernel_rfl) (by kernel_rfl) (fun _ _ _ h => h) (Or.inl ⟨by rfl, ?hy27a⟩) (by assumption) ?rest27a
                case hy27a => (intro w hSw; (try dsimp only at hSw); go_simp; (try (with_reducible rfl)))
                try simp only [Act.put, List.setIfInBounds_toArray, List.set_cons_zero, List.set_cons_succ]
                refine wpAnyH_take (i := 28) (oi := { dst := some 232, op := Op.move (Operand.tmp 231), type := 4, pos := "law.go:147", after := #[{ on := 27, ground := Ground.data }, { on := 25, ground := Ground.chain }], guard := none }) (v := ?v28a) rfl (by kernel_rfl) (by kernel_rfl) (by kernel_rfl) (fun _ _ _ h => h) (Or.inl ⟨by rfl, ?hy28a⟩) (by assumption) ?rest28a
                case hy28a => (intro w hSw; (try dsimp only at hSw); go_simp; (try (with_reducible rfl)))
                try simp only [Act.put, List.setIfInBounds_toArray, List.set_cons_zero, List.set_cons_succ]
                refine wpAnyH_take (i := 29) (oi := { dst := some 233, op := Op.load 31 (Operand.tmp 3), type := 31, pos := "law.go:147", after := #[{ on := 28, ground := Ground.guard }], guard := some (28, true) }) (v := ?v29a) rfl (by kernel_rfl) (by kernel_rfl) (by kernel_rfl) (fun _ _ _ h => h) (Or.inl ⟨by rfl, ?hy29a⟩) (by assumption) ?rest29a
                case hy29a => (intro w hSw; (try dsimp only at hSw); go_simp; (try (with_reducible rfl)))
                try simp only [Act.put, List.setIfInBounds_toArray, List.set_cons_zero, List.set_cons_succ]
                refine wpAnyH_take (i := 31) (oi := { dst := some 235, op := Op.move (Operand.tmp 10), type := 3, pos := "law.go:147", after := #[{ on := 28, ground := Ground.guard }], guard := some (28, true) }) (v := ?v31a) rfl (by kernel_rfl) (by kernel_rfl) (by kernel_rfl) (fun _ _ _ h => h) (Or.inl ⟨by rfl, ?hy31a⟩) (by assumption) ?rest31a
                case hy31a => (intro w hSw; (try dsimp only at hSw); go_simp; (try (with_reducible rfl)))
                try simp only [Act.put, List.setIfInBounds_toArray, List.set_cons_zero, List.set_cons_succ]
                refine wpAnyH_ready (rs := [30]) (by kernel_rfl) (by simp) ?_
                refine AllReadyH.cons (o := { dst := some 234, op := Op.call { callee := Callee.value (Operand.func 38), args := #[Operand.tmp 233], argTypes := #[31] }, type := 3, pos := "law.go:147", after := #[{ on := 29, ground := Ground.data }, { on := 28, ground := Ground.chain }, { on := 28, ground := Ground.guard }], guard := some (28, true) }) rfl (fun K hK => ?_) AllReadyH.nil
                go_simp
                (go_at_call 38; (refine (CN.out w32 Fw32.out).mono ?_); rintro e w33 ⟨rfl, hb⟩; have Fw33 := Lib.hid (Fw32.out.trans (Below.mono (show Below w32.heap.size w32 w33 from ⟨hb.os, hb.tape, hb.output, hb.size, hb.block⟩) Fw32.out.size)); clear hb; have Sw33 := Lib.hid (five_cells (hbox.out w33 Fw33.out)))
                first | refine hK.out _ _ ?_ (fun hHeld => ?_) | (go_wp2_with fail; refine hK.out _ _ ?_ (fun hHeld => ?_))
                · exact Sw33.out
                clear hK K
                try simp only [Act.put, List.setIfInBounds_toArray, List.set_cons_zero, List.set_cons_succ]
                refine wpAnyH_take (i := 32) (oi := { dst := some 236, op := Op.binOp BinOp.eql 3 (Operand.tmp 234) (Operand.tmp 235) 3, type := 4, pos := "law.go:147", after := #[{ on := 30, ground := Ground.data }, { on := 31, ground := Ground.data }, { on := 28, ground := Ground.guard }], guard := some (28, true) }) (v := ?v32a) rfl (by kernel_rfl) (by kernel_rfl) (by kernel_rfl) (fun _ _ _ h => h) (Or.inl ⟨by rfl, ?hy32a⟩) (by assumption) ?rest32a
                case hy32a => (intro w hSw; (try dsimp only at hSw); go_simp; (try (with_reducible rfl)))
                try simp only [Act.put, List.setIfInBounds_toArray, List.set_cons_zero, List.set_cons_succ]
                refine wpAnyH_take (i := 33) (oi := { dst := some 237, op := Op.pick (Operand.tmp 232) (Operand.tmp 236) (Operand.const (Value.bool false)), type := 4, pos := "law.go:147", after := #[{ on := 28, ground := Ground.data }, { on := 32, ground := Ground.data }], guard := none }) (v := ?v33a) rfl (by kernel_rfl) (by kernel_rfl) (by kernel_rfl) (fun _ _ _ h => h) (Or.inl ⟨by rfl, ?hy33a⟩) (by assumption) ?rest33a
                case hy33a => (intro w hSw; (try dsimp only at hSw); go_simp; (try (with_reducible rfl)))
                try simp only [Act.put, List.setIfInBounds_toArray, List.set_cons_zero, List.set_cons_succ]
                refine wpAnyH_take (i := 34) (oi := { dst := some 238, op := Op.move (Operand.tmp 237), type := 4, pos := "law.go:147", after := #[{ on := 33, ground := Ground.data }, { on := 30, ground := Ground.chain }], guard := none }) (v := ?v34a) rfl (by kernel_rfl) (by kernel_rfl) (by kernel_rfl) (fun _ _ _ h => h) (Or.inl ⟨by rfl, ?hy34a⟩) (by assumption) ?rest34a
                case hy34a => (intro w hSw; (try dsimp only at hSw); go_simp; (try (with_reducible rfl)))
                try simp only [Act.put, List.setIfInBounds_toArray, List.set_cons_zero, List.set_cons_succ]
                refine wpAnyH_take (i := 35) (oi := { dst := some 239, op := Op.move (Operand.tmp 11), type := 49, pos := "law.go:147", after := #[{ on := 34, ground := Ground.guard }], guard := some (34, true) }) (v := ?v35a) rfl (by kernel_rfl) (by kernel_rfl) (by kernel_rfl) (fun _ _ _ h => h) (Or.inl ⟨by rfl, ?hy35a⟩) (by assumption) ?rest35a
                case hy35a => (intro w hSw; (try dsimp only at hSw); go_simp; (try (with_reducible rfl)))
                try simp only [Act.put, List.setIfInBounds_toArray, List.set_cons_zero, List.set_cons_succ]
                refine wpAnyH_take (i := 36) (oi := { dst := some 240, op := Op.call { callee := Callee.builtin Builtin.len, args := #[Operand.tmp 239], argTypes := #[49] }, type := 3, pos := "law.go:147", after := #[{ on := 35, ground := Ground.data }, { on := 34, ground := Ground.guard }], guard := some (34, true) }) (v := ?v36a) rfl (by kernel_rfl) (by kernel_rfl) (by kernel_rfl) (fun _ _ _ h => h) (Or.inl ⟨by rfl, ?hy36a⟩) (by assumption) ?rest36a
                case hy36a => (intro w hSw; (try dsimp only at hSw); go_simp; (try (with_reducible rfl)))
                try simp only [Act.put, List.setIfInBounds_toArray, List.set_cons_zero, List.set_cons_succ]
                refine wpAnyH_take (i := 37) (oi := { dst := some 241, op := Op.move (Operand.tmp 10), type := 3, pos := "law.go:147", after := #[{ on := 34, ground := Ground.guard }], guard := some (34, true) }) (v := ?v37a) rfl (by kernel_rfl) (by kernel_rfl) (by kernel_rfl) (fun _ _ _ h => h) (Or.inl ⟨by rfl, ?hy37a⟩) (by assumption) ?rest37a
                case hy37a => (intro w hSw; (try dsimp only at hSw); go_simp; (try (with_reducible rfl)))
                try simp only [Act.put, List.setIfInBounds_toArray, List.set_cons_zero, List.set_cons_succ]
                refine wpAnyH_take (i := 38) (oi := { dst := some 242, op := Op.binOp BinOp.leq 3 (Operand.tmp 240) (Operand.tmp 241) 3, type := 4, pos := "law.go:147", after := #[{ on := 36, ground := Ground.data }, { on := 37, ground := Ground.data }, { on := 34, ground := Ground.guard }], guard := some (34, true) }) (v := ?v38a) rfl (by kernel_rfl) (by kernel_rfl) (by kernel_rfl) (fun _ _ _ h => h) (Or.inl ⟨by rfl, ?hy38a⟩) (by assumption) ?rest38a
                case hy38a => (intro w hSw; (try dsimp only at hSw); go_simp; (try (with_reducible rfl)))
                try simp only [Act.put, List.setIfInBounds_toArray, List.set_cons_zero, List.set_cons_succ]
                refine wpAnyH_take (i := 39) (oi := { dst := some 243, op := Op.pick (Operand.tmp 238) (Operand.tmp 242) (Operand.const (Value.bool false)), type := 4, pos := "law.go:147", after := #[{ on := 34, ground := Ground.data }, { on := 38, ground := Ground.data }], guard := none }) (v := ?v39a) rfl (by kernel_rfl) (by kernel_rfl) (by kernel_rfl) (fun _ _ _ h => h) (Or.inl ⟨by rfl, ?hy39a⟩) (by assumption) ?rest39a
                case hy39a => (intro w hSw; (try dsimp only at hSw); go_simp; (try (with_reducible rfl)))
                try simp only [Act.put, List.setIfInBounds_toArray, List.set_cons_zero, List.set_cons_succ]
                refine wpAnyH_take (i := 40) (oi := { dst := some 244, op := Op.move (Operand.tmp 243), type := 4, pos := "law.go:147", after := #[{ on := 39, ground := Ground.data }, { on := 34, ground := Ground.chain }], guard := none }) (v := ?v40a) rfl (by kernel_rfl) (by kernel_rfl) (by kernel_rfl) (fun _ _ _ h => h) (Or.inl ⟨by rfl, ?hy40a⟩) (by assumption) ?rest40a
                case hy40a => (intro w hSw; (try dsimp only at hSw); go_simp; (try (with_reducible rfl)))
                try simp only [Act.put, List.setIfInBounds_toArray, List.set_cons_zero, List.set_cons_succ]
                refine wpAnyH_ready (rs := [41]) (by kernel_rfl) (by simp) ?_
                refine AllReadyH.cons (o := { dst := some 245, op := Op.call { callee := Callee.value (Operand.func 8), args := #[], argTypes := #[] }, type := 4, pos := "law.go:147", after := #[{ on := 40, ground := Ground.chain }, { on := 40, ground := Ground.guard }], guard := some (40, true) }) rfl (fun K hK => ?_) AllReadyH.nil
                go_simp
                (go_at_call 8; (refine (works_v w33).mono ?_); rintro e w34 ⟨rfl, hb⟩; have Fw34 := Lib.hid (Fw33.out.trans (Below.mono (show Below w33.heap.size w33 w34 from ⟨hb.os, hb.tape, hb.output, hb.size, hb.block⟩) Fw33.out.size)); clear hb; have Sw34 := Lib.hid (five_cells (hbox.out w34 Fw34.out)))
                first | refine hK.out _ _ ?_ (fun hHeld => ?_) | (go_wp2_with fail; refine hK.out _ _ ?_ (fun hHeld => ?_))
                · exact Sw34.out
                clear hK K
                try simp only [Act.put, List.setIfInBounds_toArray, List.set_cons_zero, List.set_cons_succ]
                refine wpAnyH_take (i := 42) (oi := { dst := some 246, op := Op.pick (Operand.tmp 244) (Operand.tmp 245) (Operand.const (Value.bool false)), type := 4, pos := "law.go:147", after := #[{ on := 40, ground := Ground.data }, { on := 41, ground := Ground.data }], guard := none }) (v := ?v42a) rfl (by kernel_rfl) (by kernel_rfl) (by kernel_rfl) (fun _ _ _ h => h) (Or.inl ⟨by rfl, ?hy42a⟩) (by assumption) ?rest42a
                case hy42a => (intro w hSw; (try dsimp only at hSw); go_simp; (try (with_reducible rfl)))
                try simp only [Act.put, List.setIfInBounds_toArray, List.set_cons_zero, List.set_cons_succ]
                refine wpAnyH_take (i := 43) (oi := { dst := some 6, op := Op.assign (Operand.tmp 246), type := 4, pos := "law.go:147", after := #[{ on := 42, ground := Ground.data }, { on := 41, ground := Ground.chain }, { on := 0, ground := Ground.phase }, { on := 1, ground := Ground.phase }, { on := 2, ground := Ground.phase }, { on := 3, ground := Ground.phase }, { on := 4, ground := Ground.phase }, { on := 5, ground := Ground.phase }, { on := 6, ground := Ground.phase }, { on := 7, ground := Ground.phase }, { on := 8, ground := Ground.phase }, { on := 9, ground := Ground.phase }, { on := 10, ground := Ground.phase }, { on := 11, ground := Ground.phase }, { on := 12, ground := Ground.phase }, { on := 13, ground := Ground.phase }, { on := 14, ground := Ground.phase }, { on := 15, ground := Ground.phase }, { on := 16, ground := Ground.phase }, { on := 17, ground := Ground.phase }, { on := 18, ground := Ground.phase }, { on := 19, ground := Ground.phase }, { on := 20, ground := Ground.phase }, { on := 21, ground := Ground.phase }, { on := 22, ground := Ground.phase }, { on := 23, ground := Ground.phase }, { on := 24, ground := Ground.phase }, { on := 25, ground := Ground.phase }, { on := 26, ground := Ground.phase }, { on := 27, ground := Ground.phase }, { on := 28, ground := Ground.phase }, { on := 29, ground := Ground.phase }, { on := 30, ground := Ground.phase }, { on := 31, ground := Ground.phase }, { on := 32, ground := Ground.phase }, { on := 33, ground := Ground.phase }, { on := 34, ground := Ground.phase }, { on := 35, ground := Ground.phase }, { on := 36, ground := Ground.phase }, { on := 37, ground := Ground.phase }, { on := 38, ground := Ground.phase }, { on := 39, ground := Ground.phase }, { on := 40, ground := Ground.phase }, { on := 41, ground := Ground.phase }, { on := 42, ground := Ground.phase }], guard := none }) (v := ?v43a) rfl (by kernel_rfl) (by kernel_rfl) (by kernel_rfl) (fun _ _ _ h => h) (Or.inl ⟨by rfl, ?hy43a⟩) (by assumption) ?rest43a
                case hy43a => (intro w hSw; (try dsimp only at hSw); go_simp; (try (with_reducible rfl)))
                try simp only [Act.put, List.setIfInBounds_toArray, List.set_cons_zero, List.set_cons_succ]
                refine wpAnyH_done (by kernel_rfl) ?_ _
                go_wp2_with fail
                go_ret
                exact ⟨rfl, HBIG.out _ Fw34.out⟩
              · have hc0 : cl = rcl := hct rfl
                subst hc0
                go_wp2_with fail
                refine wp_region_held_drew (S := fun W => W.cell? ⟨w.heap.size, 0, none⟩ = some (.bool machine) ∧ W.cell? ⟨w.heap.size, 1, none⟩ = some (.string name) ∧ W.cell? ⟨w.heap.size, 2, none⟩ = some (.slice ra k rc) ∧ W.cell? ⟨w.heap.size, 3, none⟩ = some (.slice pa pn pc) ∧ W.cell? ⟨w.heap.size, 4, none⟩ = some (.slice ba i bc)) (by kernel_rfl) ?_ (fun hHeld => ?_)
                · exact S30.out
                refine wpAnyH_take (i := 0) (oi := { dst := some 204, op := Op.move (Operand.tmp 8), type := 4, pos := "law.go:147", after := #[], guard := none }) (v := ?v0b) rfl (by kernel_rfl) (by kernel_rfl) (by kernel_rfl) (fun _ _ _ h => h) (Or.inl ⟨by rfl, ?hy0b⟩) (by assumption) ?rest0b
                case hy0b => (intro w hSw; (try dsimp only at hSw); go_simp; (try (with_reducible rfl)))
                try simp only [Act.put, List.setIfInBounds_toArray, List.set_cons_zero, List.set_cons_succ]
                refine wpAnyH_take (i := 1) (oi := { dst := some 205, op := Op.move (Operand.tmp 26), type := 4, pos := "law.go:147", after := #[], guard := none }) (v := ?v1b) rfl (by kernel_rfl) (by kernel_rfl) (by kernel_rfl) (fun _ _ _ h => h) (Or.inl ⟨by rfl, ?hy1b⟩) (by assumption) ?rest1b
                case hy1b => (intro w hSw; (try dsimp only at hSw); go_simp; (try (with_reducible rfl)))
                try simp only [Act.put, List.setIfInBounds_toArray, List.set_cons_zero, List.set_cons_succ]
                refine wpAnyH_take (i := 2) (oi := { dst := some 206, op := Op.binOp BinOp.eql 4 (Operand.tmp 204) (Operand.tmp 205) 4, type := 4, pos := "law.go:147", after := #[{ on := 0, ground := Ground.data }, { on := 1, ground := Ground.data }], guard := none }) (v := ?v2b) rfl (by kernel_rfl) (by kernel_rfl) (by kernel_rfl) (fun _ _ _ h => h) (Or.inl ⟨by rfl, ?hy2b⟩) (by assumption) ?rest2b
                case hy2b => (intro w hSw; (try dsimp only at hSw); go_simp; (try (with_reducible rfl)))
                try simp only [Act.put, List.setIfInBounds_toArray, List.set_cons_zero, List.set_cons_succ]
                refine wpAnyH_take (i := 3) (oi := { dst := some 207, op := Op.move (Operand.tmp 206), type := 4, pos := "law.go:147", after := #[{ on := 2, ground := Ground.data }], guard := none }) (v := ?v3b) rfl (by kernel_rfl) (by kernel_rfl) (by kernel_rfl) (fun _ _ _ h => h) (Or.inl ⟨by rfl, ?hy3b⟩) (by assumption) ?rest3b
                case hy3b => (intro w hSw; (try dsimp only at hSw); go_simp; (try (with_reducible rfl)))
                try simp only [Act.put, List.setIfInBounds_toArray, List.set_cons_zero, List.set_cons_succ]
                refine wpAnyH_take (i := 4) (oi := { dst := some 208, op := Op.move (Operand.tmp 26), type := 4, pos := "law.go:147", after := #[{ on := 3, ground := Ground.guard }], guard := some (3, true) }) (v := ?v4b) rfl (by kernel_rfl) (by kernel_rfl) (by kernel_rfl) (fun _ _ _ h => h) (Or.inl ⟨by rfl, ?hy4b⟩) (by assumption) ?rest4b
                case hy4b => (intro w hSw; (try dsimp only at hSw); go_simp; (try (with_reducible rfl)))
                try simp only [Act.put, List.setIfInBounds_toArray, List.set_cons_zero, List.set_cons_succ]
                refine wpAnyH_take (i := 5) (oi := { dst := some 209, op := Op.move (Operand.tmp 208), type := 4, pos := "law.go:147", after := #[{ on := 4, ground := Ground.data }, { on := 3, ground := Ground.chain }, { on := 3, ground := Ground.guard }], guard := some (3, true) }) (v := ?v5b) rfl (by kernel_rfl) (by kernel_rfl) (by kernel_rfl) (fun _ _ _ h => h) (Or.inl ⟨by rfl, ?hy5b⟩) (by assumption) ?rest5b
                case hy5b => (intro w hSw; (try dsimp only at hSw); go_simp; (try (with_reducible rfl)))
                try simp only [Act.put, List.setIfInBounds_toArray, List.set_cons_zero, List.set_cons_succ]
                refine wpAnyH_take (i := 6) (oi := { dst := some 210, op := Op.move (Operand.tmp 7), type := 3, pos := "law.go:147", after := #[{ on := 5, ground := Ground.guard }], guard := some (5, true) }) (v := ?v6b) rfl (by kernel_rfl) (by kernel_rfl) (by kernel_rfl) (fun _ _ _ h => h) (Or.inl ⟨by rfl, ?hy6b⟩) (by assumption) ?rest6b
                case hy6b => (intro w hSw; (try dsimp only at hSw); go_simp; (try (with_reducible rfl)))
                try simp only [Act.put, List.setIfInBounds_toArray, List.set_cons_zero, List.set_cons_succ]
                refine wpAnyH_take (i := 7) (oi := { dst := some 211, op := Op.move (Operand.tmp 9), type := 3, pos := "law.go:147", after := #[{ on := 5, ground := Ground.guard }], guard := some (5, true) }) (v := ?v7b) rfl (by kernel_rfl) (by kernel_rfl) (by kernel_rfl) (fun _ _ _ h => h) (Or.inl ⟨by rfl, ?hy7b⟩) (by assumption) ?rest7b
                case hy7b => (intro w hSw; (try dsimp only at hSw); go_simp; (try (with_reducible rfl)))
                try simp only [Act.put, List.setIfInBounds_toArray, List.set_cons_zero, List.set_cons_succ]
                refine wpAnyH_take (i := 8) (oi := { dst := some 212, op := Op.binOp BinOp.eql 3 (Operand.tmp 210) (Operand.tmp 211) 3, type := 4, pos := "law.go:147", after := #[{ on := 6, ground := Ground.data }, { on := 7, ground := Ground.data }, { on := 5, ground := Ground.guard }], guard := some (5, true) }) (v := ?v8b) rfl (by kernel_rfl) (by kernel_rfl) (by kernel_rfl) (fun _ _ _ h => h) (Or.inl ⟨by rfl, ?hy8b⟩) (by assumption) ?rest8b
                case hy8b => (intro w hSw; (try dsimp only at hSw); go_simp; (try (with_reducible rfl)))
                try simp only [Act.put, List.setIfInBounds_toArray, List.set_cons_zero, List.set_cons_succ]
                refine wpAnyH_take (i := 9) (oi := { dst := some 213, op := Op.pick (Operand.tmp 209) (Operand.tmp 212) (Operand.const (Value.bool false)), type := 4, pos := "law.go:147", after := #[{ on := 5, ground := Ground.data }, { on := 8, ground := Ground.data }, { on := 3, ground := Ground.guard }], guard := some (3, true) }) (v := ?v9b) rfl (by kernel_rfl) (by kernel_rfl) (by kernel_rfl) (fun _ _ _ h => h) (Or.inl ⟨by rfl, ?hy9b⟩) (by assumption) ?rest9b
                case hy9b => (intro w hSw; (try dsimp only at hSw); go_simp; (try (with_reducible rfl)))
                try simp only [Act.put, List.setIfInBounds_toArray, List.set_cons_zero, List.set_cons_succ]
                refine wpAnyH_take (i := 10) (oi := { dst := some 214, op := Op.move (Operand.tmp 213), type := 4, pos := "law.go:147", after := #[{ on := 9, ground := Ground.data }, { on := 5, ground := Ground.chain }, { on := 3, ground := Ground.guard }], guard := some (3, true) }) (v := ?v10b) rfl (by kernel_rfl) (by kernel_rfl) (by kernel_rfl) (fun _ _ _ h => h) (Or.inl ⟨by rfl, ?hy10b⟩) (by assumption) ?rest10b
                case hy10b => (intro w hSw; (try dsimp only at hSw); go_simp; (try (with_reducible rfl)))
                try simp only [Act.put, List.setIfInBounds_toArray, List.set_cons_zero, List.set_cons_succ]
                refine wpAnyH_take (i := 11) (oi := { dst := some 215, op := Op.move (Operand.tmp 26), type := 4, pos := "law.go:147", after := #[{ on := 10, ground := Ground.guard }], guard := some (10, false) }) (v := undef) rfl (by kernel_rfl) (by kernel_rfl) (by kernel_rfl) (fun _ _ _ h => h) (Or.inr ⟨by rfl, rfl⟩) (by assumption) ?_
                try simp only [Act.put, List.setIfInBounds_toArray, List.set_cons_zero, List.set_cons_succ]
                refine wpAnyH_take (i := 12) (oi := { dst := some 216, op := Op.unOp UnOp.not 4 (Operand.tmp 215), type := 4, pos := "law.go:147", after := #[{ on := 11, ground := Ground.data }, { on := 10, ground := Ground.guard }], guard := some (10, false) }) (v := undef) rfl (by kernel_rfl) (by kernel_rfl) (by kernel_rfl) (fun _ _ _ h => h) (Or.inr ⟨by rfl, rfl⟩) (by assumption) ?_
                try simp only [Act.put, List.setIfInBounds_toArray, List.set_cons_zero, List.set_cons_succ]
                refine wpAnyH_take (i := 13) (oi := { dst := some 217, op := Op.move (Operand.tmp 216), type := 4, pos := "law.go:147", after := #[{ on := 12, ground := Ground.data }, { on := 10, ground := Ground.chain }, { on := 10, ground := Ground.guard }], guard := some (10, false) }) (v := undef) rfl (by kernel_rfl) (by kernel_rfl) (by kernel_rfl) (fun _ _ _ h => h) (Or.inr ⟨by rfl, rfl⟩) (by assumption) ?_
                try simp only [Act.put, List.setIfInBounds_toArray, List.set_cons_zero, List.set_cons_succ]
                refine wpAnyH_take (i := 14) (oi := { dst := some 218, op := Op.move (Operand.tmp 7), type := 3, pos := "law.go:147", after := #[{ on := 13, ground := Ground.guard }], guard := some (13, true) }) (v := undef) rfl (by kernel_rfl) (by kernel_rfl) (by kernel_rfl) (fun _ _ _ h => h) (Or.inr ⟨by rfl, rfl⟩) (by assumption) ?_
                try simp only [Act.put, List.setIfInBounds_toArray, List.set_cons_zero, List.set_cons_succ]
                refine wpAnyH_take (i := 15) (oi := { dst := some 219, op := Op.binOp BinOp.eql 3 (Operand.tmp 218) (Operand.const (Value.int IntKind.i64 0)) 3, type := 4, pos := "law.go:147", after := #[{ on := 14, ground := Ground.data }, { on := 13, ground := Ground.guard }], guard := some (13, true) }) (v := undef) rfl (by kernel_rfl) (by kernel_rfl) (by kernel_rfl) (fun _ _ _ h => h) (Or.inr ⟨by rfl, rfl⟩) (by assumption) ?_
                try simp only [Act.put, List.setIfInBounds_toArray, List.set_cons_zero, List.set_cons_succ]
                refine wpAnyH_take (i := 16) (oi := { dst := some 220, op := Op.pick (Operand.tmp 217) (Operand.tmp 219) (Operand.const (Value.bool false)), type := 4, pos := "law.go:147", after := #[{ on := 13, ground := Ground.data }, { on := 15, ground := Ground.data }, { on := 10, ground := Ground.guard }], guard := some (10, false) }) (v := undef) rfl (by kernel_rfl) (by kernel_rfl) (by kernel_rfl) (fun _ _ _ h => h) (Or.inr ⟨by rfl, rfl⟩) (by assumption) ?_
                try simp only [Act.put, List.setIfInBounds_toArray, List.set_cons_zero, List.set_cons_succ]
                refine wpAnyH_take (i := 17) (oi := { dst := some 221, op := Op.pick (Operand.tmp 214) (Operand.const (Value.bool true)) (Operand.tmp 220), type := 4, pos := "law.go:147", after := #[{ on := 10, ground := Ground.data }, { on := 16, ground := Ground.data }, { on := 3, ground := Ground.guard }], guard := some (3, true) }) (v := ?v17b) rfl (by kernel_rfl) (by kernel_rfl) (by kernel_rfl) (fun _ _ _ h => h) (Or.inl ⟨by rfl, ?hy17b⟩) (by assumption) ?rest17b
                case hy17b => (intro w hSw; (try dsimp only at hSw); go_simp; (try (with_reducible rfl)))
                try simp only [Act.put, List.setIfInBounds_toArray, List.set_cons_zero, List.set_cons_succ]
                refine wpAnyH_take (i := 18) (oi := { dst := some 222, op := Op.pick (Operand.tmp 207) (Operand.tmp 221) (Operand.const (Value.bool false)), type := 4, pos := "law.go:147", after := #[{ on := 3, ground := Ground.data }, { on := 17, ground := Ground.data }], guard := none }) (v := ?v18b) rfl (by kernel_rfl) (by kernel_rfl) (by kernel_rfl) (fun _ _ _ h => h) (Or.inl ⟨by rfl, ?hy18b⟩) (by assumption) ?rest18b
                case hy18b => (intro w hSw; (try dsimp only at hSw); go_simp; (try (with_reducible rfl)))
                try simp only [Act.put, List.setIfInBounds_toArray, List.set_cons_zero, List.set_cons_succ]
                refine wpAnyH_take (i := 19) (oi := { dst := some 223, op := Op.move (Operand.tmp 222), type := 4, pos := "law.go:147", after := #[{ on := 18, ground := Ground.data }, { on := 13, ground := Ground.chain }], guard := none }) (v := ?v19b) rfl (by kernel_rfl) (by kernel_rfl) (by kernel_rfl) (fun _ _ _ h => h) (Or.inl ⟨by rfl, ?hy19b⟩) (by assumption) ?rest19b
                case hy19b => (intro w hSw; (try dsimp only at hSw); go_simp; (try (with_reducible rfl)))
                try simp only [Act.put, List.setIfInBounds_toArray, List.set_cons_zero, List.set_cons_succ]
                refine wpAnyH_take (i := 20) (oi := { dst := some 224, op := Op.load 31 (Operand.tmp 3), type := 31, pos := "law.go:147", after := #[{ on := 19, ground := Ground.guard }], guard := some (19, true) }) (v := ?v20b) rfl (by kernel_rfl) (by kernel_rfl) (by kernel_rfl) (fun _ _ _ h => h) (Or.inl ⟨by rfl, ?hy20b⟩) (by assumption) ?rest20b
                case hy20b => (intro w hSw; (try dsimp only at hSw); go_simp; (try (with_reducible rfl)))
                try simp only [Act.put, List.setIfInBounds_toArray, List.set_cons_zero, List.set_cons_succ]
                refine wpAnyH_take (i := 21) (oi := { dst := some 225, op := Op.move (Operand.tmp 2), type := 9, pos := "law.go:147", after := #[{ on := 19, ground := Ground.guard }], guard := some (19, true) }) (v := ?v21b) rfl (by kernel_rfl) (by kernel_rfl) (by kernel_rfl) (fun _ _ _ h => h) (Or.inl ⟨by rfl, ?hy21b⟩) (by assumption) ?rest21b
                case hy21b => (intro w hSw; (try dsimp only at hSw); go_simp; (try (with_reducible rfl)))
                try simp only [Act.put, List.setIfInBounds_toArray, List.set_cons_zero, List.set_cons_succ]
                refine wpAnyH_take (i := 23) (oi := { dst := some 227, op := Op.load 31 (Operand.tmp 3), type := 31, pos := "law.go:147", after := #[{ on := 19, ground := Ground.guard }], guard := some (19, true) }) (v := ?v23b) rfl (by kernel_rfl) (by kernel_rfl) (by kernel_rfl) (fun _ _ _ h => h) (Or.inl ⟨by rfl, ?hy23b⟩) (by assumption) ?rest23b
                case hy23b => (intro w hSw; (try dsimp only at hSw); go_simp; (try (with_reducible rfl)))
                try simp only [Act.put, List.setIfInBounds_toArray, List.set_cons_zero, List.set_cons_succ]
                refine wpAnyH_take (i := 24) (oi := { dst := some 228, op := Op.move (Operand.tmp 2), type := 9, pos := "law.go:147", after := #[{ on := 19, ground := Ground.guard }], guard := some (19, true) }) (v := ?v24b) rfl (by kernel_rfl) (by kernel_rfl) (by kernel_rfl) (fun _ _ _ h => h) (Or.inl ⟨by rfl, ?hy24b⟩) (by assumption) ?rest24b
                case hy24b => (intro w hSw; (try dsimp only at hSw); go_simp; (try (with_reducible rfl)))
                try simp only [Act.put, List.setIfInBounds_toArray, List.set_cons_zero, List.set_cons_succ]
                refine wpAnyH_ready (rs := [22]) (by kernel_rfl) (by simp) ?_
                refine AllReadyH.cons (o := { dst := some 226, op := Op.call { callee := Callee.value (Operand.func 36), args := #[Operand.tmp 224, Operand.tmp 225], argTypes := #[31, 9] }, type := 3, pos := "law.go:147", after := #[{ on := 20, ground := Ground.data }, { on := 21, ground := Ground.data }, { on := 19, ground := Ground.chain }, { on := 19, ground := Ground.guard }], guard := some (19, true) }) rfl (fun K hK => ?_) AllReadyH.nil
                go_simp
                (go_at_call 36; (refine (CF.out wr.drew (HBw.out.drew)).mono ?_); rintro e w31 ⟨rfl, hb⟩; have Fw31 := Lib.hid (HBw.out.drew.trans (Below.mono (show Below wr.drew.heap.size wr.drew w31 from ⟨hb.os, hb.tape, hb.output, hb.size, hb.block⟩) HBw.out.drew.size)); clear hb; have Sw31 := Lib.hid (five_cells (hbox.out w31 Fw31.out)))
                first | refine hK.out _ _ ?_ (fun hHeld => ?_) | (go_wp2_with fail; refine hK.out _ _ ?_ (fun hHeld => ?_))
                · exact Sw31.out
                clear hK K
                try simp only [Act.put, List.setIfInBounds_toArray, List.set_cons_zero, List.set_cons_succ]
                refine wpAnyH_ready (rs := [25]) (by kernel_rfl) (by simp) ?_
                refine AllReadyH.cons (o := { dst := some 229, op := Op.call { callee := Callee.value (Operand.func 37), args := #[Operand.tmp 227, Operand.tmp 228], argTypes := #[31, 9] }, type := 3, pos := "law.go:147", after := #[{ on := 23, ground := Ground.data }, { on := 24, ground := Ground.data }, { on := 22, ground := Ground.chain }, { on := 19, ground := Ground.guard }], guard := some (19, true) }) rfl (fun K hK => ?_) AllReadyH.nil
                go_simp
                (go_at_call 37; (refine (CG.out w31 Fw31.out).mono ?_); rintro e w32 ⟨rfl, hb⟩; have Fw32 := Lib.hid (Fw31.out.trans (Below.mono (show Below w31.heap.size w31 w32 from ⟨hb.os, hb.tape, hb.output, hb.size, hb.block⟩) Fw31.out.size)); clear hb; have Sw32 := Lib.hid (five_cells (hbox.out w32 Fw32.out)))
                first | refine hK.out _ _ ?_ (fun hHeld => ?_) | (go_wp2_with fail; refine hK.out _ _ ?_ (fun hHeld => ?_))
                · exact Sw32.out
                clear hK K
                try simp only [Act.put, List.setIfInBounds_toArray, List.set_cons_zero, List.set_cons_succ]
                refine wpAnyH_take (i := 26) (oi := { dst := some 230, op := Op.binOp BinOp.eql 3 (Operand.tmp 226) (Operand.tmp 229) 3, type := 4, pos := "law.go:147", after := #[{ on := 22, ground := Ground.data }, { on := 25, ground := Ground.data }, { on := 19, ground := Ground.guard }], guard := some (19, true) }) (v := ?v26b) rfl (by kernel_rfl) (by kernel_rfl) (by kernel_rfl) (fun _ _ _ h => h) (Or.inl ⟨by rfl, ?hy26b⟩) (by assumption) ?rest26b
                case hy26b => (intro w hSw; (try dsimp only at hSw); go_simp; (try (with_reducible rfl)))
                try simp only [Act.put, List.setIfInBounds_toArray, List.set_cons_zero, List.set_cons_succ]
                refine wpAnyH_take (i := 27) (oi := { dst := some 231, op := Op.pick (Operand.tmp 223) (Operand.tmp 230) (Operand.const (Value.bool false)), type := 4, pos := "law.go:147", after := #[{ on := 19, ground := Ground.data }, { on := 26, ground := Ground.data }], guard := none }) (v := ?v27b) rfl (by kernel_rfl) (by kernel_rfl) (by kernel_rfl) (fun _ _ _ h => h) (Or.inl ⟨by rfl, ?hy27b⟩) (by assumption) ?rest27b
                case hy27b => (intro w hSw; (try dsimp only at hSw); go_simp; (try (with_reducible rfl)))
                try simp only [Act.put, List.setIfInBounds_toArray, List.set_cons_zero, List.set_cons_succ]
                refine wpAnyH_take (i := 28) (oi := { dst := some 232, op := Op.move (Operand.tmp 231), type := 4, pos := "law.go:147", after := #[{ on := 27, ground := Ground.data }, { on := 25, ground := Ground.chain }], guard := none }) (v := ?v28b) rfl (by kernel_rfl) (by kernel_rfl) (by kernel_rfl) (fun _ _ _ h => h) (Or.inl ⟨by rfl, ?hy28b⟩) (by assumption) ?rest28b
                case hy28b => (intro w hSw; (try dsimp only at hSw); go_simp; (try (with_reducible rfl)))
                try simp only [Act.put, List.setIfInBounds_toArray, List.set_cons_zero, List.set_cons_succ]
                refine wpAnyH_take (i := 29) (oi := { dst := some 233, op := Op.load 31 (Operand.tmp 3), type := 31, pos := "law.go:147", after := #[{ on := 28, ground := Ground.guard }], guard := some (28, true) }) (v := ?v29b) rfl (by kernel_rfl) (by kernel_rfl) (by kernel_rfl) (fun _ _ _ h => h) (Or.inl ⟨by rfl, ?hy29b⟩) (by assumption) ?rest29b
                case hy29b => (intro w hSw; (try dsimp only at hSw); go_simp; (try (with_reducible rfl)))
                try simp only [Act.put, List.setIfInBounds_toArray, List.set_cons_zero, List.set_cons_succ]
                refine wpAnyH_take (i := 31) (oi := { dst := some 235, op := Op.move (Operand.tmp 10), type := 3, pos := "law.go:147", after := #[{ on := 28, ground := Ground.guard }], guard := some (28, true) }) (v := ?v31b) rfl (by kernel_rfl) (by kernel_rfl) (by kernel_rfl) (fun _ _ _ h => h) (Or.inl ⟨by rfl, ?hy31b⟩) (by assumption) ?rest31b
                case hy31b => (intro w hSw; (try dsimp only at hSw); go_simp; (try (with_reducible rfl)))
                try simp only [Act.put, List.setIfInBounds_toArray, List.set_cons_zero, List.set_cons_succ]
                refine wpAnyH_ready (rs := [30]) (by kernel_rfl) (by simp) ?_
                refine AllReadyH.cons (o := { dst := some 234, op := Op.call { callee := Callee.value (Operand.func 38), args := #[Operand.tmp 233], argTypes := #[31] }, type := 3, pos := "law.go:147", after := #[{ on := 29, ground := Ground.data }, { on := 28, ground := Ground.chain }, { on := 28, ground := Ground.guard }], guard := some (28, true) }) rfl (fun K hK => ?_) AllReadyH.nil
                go_simp
                (go_at_call 38; (refine (CN.out w32 Fw32.out).mono ?_); rintro e w33 ⟨rfl, hb⟩; have Fw33 := Lib.hid (Fw32.out.trans (Below.mono (show Below w32.heap.size w32 w33 from ⟨hb.os, hb.tape, hb.output, hb.size, hb.block⟩) Fw32.out.size)); clear hb; have Sw33 := Lib.hid (five_cells (hbox.out w33 Fw33.out)))
                first | refine hK.out _ _ ?_ (fun hHeld => ?_) | (go_wp2_with fail; refine hK.out _ _ ?_ (fun hHeld => ?_))
                · exact Sw33.out
                clear hK K
                try simp only [Act.put, List.setIfInBounds_toArray, List.set_cons_zero, List.set_cons_succ]
                refine wpAnyH_take (i := 32) (oi := { dst := some 236, op := Op.binOp BinOp.eql 3 (Operand.tmp 234) (Operand.tmp 235) 3, type := 4, pos := "law.go:147", after := #[{ on := 30, ground := Ground.data }, { on := 31, ground := Ground.data }, { on := 28, ground := Ground.guard }], guard := some (28, true) }) (v := ?v32b) rfl (by kernel_rfl) (by kernel_rfl) (by kernel_rfl) (fun _ _ _ h => h) (Or.inl ⟨by rfl, ?hy32b⟩) (by assumption) ?rest32b
                case hy32b => (intro w hSw; (try dsimp only at hSw); go_simp; (try (with_reducible rfl)))
                try simp only [Act.put, List.setIfInBounds_toArray, List.set_cons_zero, List.set_cons_succ]
                refine wpAnyH_take (i := 33) (oi := { dst := some 237, op := Op.pick (Operand.tmp 232) (Operand.tmp 236) (Operand.const (Value.bool false)), type := 4, pos := "law.go:147", after := #[{ on := 28, ground := Ground.data }, { on := 32, ground := Ground.data }], guard := none }) (v := ?v33b) rfl (by kernel_rfl) (by kernel_rfl) (by kernel_rfl) (fun _ _ _ h => h) (Or.inl ⟨by rfl, ?hy33b⟩) (by assumption) ?rest33b
                case hy33b => (intro w hSw; (try dsimp only at hSw); go_simp; (try (with_reducible rfl)))
                try simp only [Act.put, List.setIfInBounds_toArray, List.set_cons_zero, List.set_cons_succ]
                refine wpAnyH_take (i := 34) (oi := { dst := some 238, op := Op.move (Operand.tmp 237), type := 4, pos := "law.go:147", after := #[{ on := 33, ground := Ground.data }, { on := 30, ground := Ground.chain }], guard := none }) (v := ?v34b) rfl (by kernel_rfl) (by kernel_rfl) (by kernel_rfl) (fun _ _ _ h => h) (Or.inl ⟨by rfl, ?hy34b⟩) (by assumption) ?rest34b
                case hy34b => (intro w hSw; (try dsimp only at hSw); go_simp; (try (with_reducible rfl)))
                try simp only [Act.put, List.setIfInBounds_toArray, List.set_cons_zero, List.set_cons_succ]
                refine wpAnyH_take (i := 35) (oi := { dst := some 239, op := Op.move (Operand.tmp 11), type := 49, pos := "law.go:147", after := #[{ on := 34, ground := Ground.guard }], guard := some (34, true) }) (v := ?v35b) rfl (by kernel_rfl) (by kernel_rfl) (by kernel_rfl) (fun _ _ _ h => h) (Or.inl ⟨by rfl, ?hy35b⟩) (by assumption) ?rest35b
                case hy35b => (intro w hSw; (try dsimp only at hSw); go_simp; (try (with_reducible rfl)))
                try simp only [Act.put, List.setIfInBounds_toArray, List.set_cons_zero, List.set_cons_succ]
                refine wpAnyH_take (i := 36) (oi := { dst := some 240, op := Op.call { callee := Callee.builtin Builtin.len, args := #[Operand.tmp 239], argTypes := #[49] }, type := 3, pos := "law.go:147", after := #[{ on := 35, ground := Ground.data }, { on := 34, ground := Ground.guard }], guard := some (34, true) }) (v := ?v36b) rfl (by kernel_rfl) (by kernel_rfl) (by kernel_rfl) (fun _ _ _ h => h) (Or.inl ⟨by rfl, ?hy36b⟩) (by assumption) ?rest36b
                case hy36b => (intro w hSw; (try dsimp only at hSw); go_simp; (try (with_reducible rfl)))
                try simp only [Act.put, List.setIfInBounds_toArray, List.set_cons_zero, List.set_cons_succ]
                refine wpAnyH_take (i := 37) (oi := { dst := some 241, op := Op.move (Operand.tmp 10), type := 3, pos := "law.go:147", after := #[{ on := 34, ground := Ground.guard }], guard := some (34, true) }) (v := ?v37b) rfl (by kernel_rfl) (by kernel_rfl) (by kernel_rfl) (fun _ _ _ h => h) (Or.inl ⟨by rfl, ?hy37b⟩) (by assumption) ?rest37b
                case hy37b => (intro w hSw; (try dsimp only at hSw); go_simp; (try (with_reducible rfl)))
                try simp only [Act.put, List.setIfInBounds_toArray, List.set_cons_zero, List.set_cons_succ]
                refine wpAnyH_take (i := 38) (oi := { dst := some 242, op := Op.binOp BinOp.leq 3 (Operand.tmp 240) (Operand.tmp 241) 3, type := 4, pos := "law.go:147", after := #[{ on := 36, ground := Ground.data }, { on := 37, ground := Ground.data }, { on := 34, ground := Ground.guard }], guard := some (34, true) }) (v := ?v38b) rfl (by kernel_rfl) (by kernel_rfl) (by kernel_rfl) (fun _ _ _ h => h) (Or.inl ⟨by rfl, ?hy38b⟩) (by assumption) ?rest38b
                case hy38b => (intro w hSw; (try dsimp only at hSw); go_simp; (try (with_reducible rfl)))
                try simp only [Act.put, List.setIfInBounds_toArray, List.set_cons_zero, List.set_cons_succ]
                refine wpAnyH_take (i := 39) (oi := { dst := some 243, op := Op.pick (Operand.tmp 238) (Operand.tmp 242) (Operand.const (Value.bool false)), type := 4, pos := "law.go:147", after := #[{ on := 34, ground := Ground.data }, { on := 38, ground := Ground.data }], guard := none }) (v := ?v39b) rfl (by kernel_rfl) (by kernel_rfl) (by kernel_rfl) (fun _ _ _ h => h) (Or.inl ⟨by rfl, ?hy39b⟩) (by assumption) ?rest39b
                case hy39b => (intro w hSw; (try dsimp only at hSw); go_simp; (try (with_reducible rfl)))
                try simp only [Act.put, List.setIfInBounds_toArray, List.set_cons_zero, List.set_cons_succ]
                refine wpAnyH_take (i := 40) (oi := { dst := some 244, op := Op.move (Operand.tmp 243), type := 4, pos := "law.go:147", after := #[{ on := 39, ground := Ground.data }, { on := 34, ground := Ground.chain }], guard := none }) (v := ?v40b) rfl (by kernel_rfl) (by kernel_rfl) (by kernel_rfl) (fun _ _ _ h => h) (Or.inl ⟨by rfl, ?hy40b⟩) (by assumption) ?rest40b
                case hy40b => (intro w hSw; (try dsimp only at hSw); go_simp; (try (with_reducible rfl)))
                try simp only [Act.put, List.setIfInBounds_toArray, List.set_cons_zero, List.set_cons_succ]
                refine wpAnyH_ready (rs := [41]) (by kernel_rfl) (by simp) ?_
                refine AllReadyH.cons (o := { dst := some 245, op := Op.call { callee := Callee.value (Operand.func 8), args := #[], argTypes := #[] }, type := 4, pos := "law.go:147", after := #[{ on := 40, ground := Ground.chain }, { on := 40, ground := Ground.guard }], guard := some (40, true) }) rfl (fun K hK => ?_) AllReadyH.nil
                go_simp
                (go_at_call 8; (refine (works_v w33).mono ?_); rintro e w34 ⟨rfl, hb⟩; have Fw34 := Lib.hid (Fw33.out.trans (Below.mono (show Below w33.heap.size w33 w34 from ⟨hb.os, hb.tape, hb.output, hb.size, hb.block⟩) Fw33.out.size)); clear hb; have Sw34 := Lib.hid (five_cells (hbox.out w34 Fw34.out)))
                first | refine hK.out _ _ ?_ (fun hHeld => ?_) | (go_wp2_with fail; refine hK.out _ _ ?_ (fun hHeld => ?_))
                · exact Sw34.out
                clear hK K
                try simp only [Act.put, List.setIfInBounds_toArray, List.set_cons_zero, List.set_cons_succ]
                refine wpAnyH_take (i := 42) (oi := { dst := some 246, op := Op.pick (Operand.tmp 244) (Operand.tmp 245) (Operand.const (Value.bool false)), type := 4, pos := "law.go:147", after := #[{ on := 40, ground := Ground.data }, { on := 41, ground := Ground.data }], guard := none }) (v := ?v42b) rfl (by kernel_rfl) (by kernel_rfl) (by kernel_rfl) (fun _ _ _ h => h) (Or.inl ⟨by rfl, ?hy42b⟩) (by assumption) ?rest42b
                case hy42b => (intro w hSw; (try dsimp only at hSw); go_simp; (try (with_reducible rfl)))
                try simp only [Act.put, List.setIfInBounds_toArray, List.set_cons_zero, List.set_cons_succ]
                refine wpAnyH_take (i := 43) (oi := { dst := some 6, op := Op.assign (Operand.tmp 246), type := 4, pos := "law.go:147", after := #[{ on := 42, ground := Ground.data }, { on := 41, ground := Ground.chain }, { on := 0, ground := Ground.phase }, { on := 1, ground := Ground.phase }, { on := 2, ground := Ground.phase }, { on := 3, ground := Ground.phase }, { on := 4, ground := Ground.phase }, { on := 5, ground := Ground.phase }, { on := 6, ground := Ground.phase }, { on := 7, ground := Ground.phase }, { on := 8, ground := Ground.phase }, { on := 9, ground := Ground.phase }, { on := 10, ground := Ground.phase }, { on := 11, ground := Ground.phase }, { on := 12, ground := Ground.phase }, { on := 13, ground := Ground.phase }, { on := 14, ground := Ground.phase }, { on := 15, ground := Ground.phase }, { on := 16, ground := Ground.phase }, { on := 17, ground := Ground.phase }, { on := 18, ground := Ground.phase }, { on := 19, ground := Ground.phase }, { on := 20, ground := Ground.phase }, { on := 21, ground := Ground.phase }, { on := 22, ground := Ground.phase }, { on := 23, ground := Ground.phase }, { on := 24, ground := Ground.phase }, { on := 25, ground := Ground.phase }, { on := 26, ground := Ground.phase }, { on := 27, ground := Ground.phase }, { on := 28, ground := Ground.phase }, { on := 29, ground := Ground.phase }, { on := 30, ground := Ground.phase }, { on := 31, ground := Ground.phase }, { on := 32, ground := Ground.phase }, { on := 33, ground := Ground.phase }, { on := 34, ground := Ground.phase }, { on := 35, ground := Ground.phase }, { on := 36, ground := Ground.phase }, { on := 37, ground := Ground.phase }, { on := 38, ground := Ground.phase }, { on := 39, ground := Ground.phase }, { on := 40, ground := Ground.phase }, { on := 41, ground := Ground.phase }, { on := 42, ground := Ground.phase }], guard := none }) (v := ?v43b) rfl (by kernel_rfl) (by kernel_rfl) (by kernel_rfl) (fun _ _ _ h => h) (Or.inl ⟨by rfl, ?hy43b⟩) (by assumption) ?rest43b
                case hy43b => (intro w hSw; (try dsimp only at hSw); go_simp; (try (with_reducible rfl)))
                try simp only [Act.put, List.setIfInBounds_toArray, List.set_cons_zero, List.set_cons_succ]
                refine wpAnyH_done (by kernel_rfl) ?_ _
                go_wp2_with fail
                go_ret
                exact ⟨rfl, HBIG.out _ Fw34.out⟩

end Go.Proofs.Ytocelaebokikcaa
