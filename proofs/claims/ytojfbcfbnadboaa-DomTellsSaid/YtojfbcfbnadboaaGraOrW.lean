
/- The order of the blocks that are reached: the program's walk. -/
import Derived.Test.YtojfbcfbnadboaaGraOrE
import Derived.Deep.QuietTactic
import Derived.BigQuiet
import Derived.StillTailTactics
import Derived.Deep.CutRange
namespace Go.Proofs.Ytojfbcfbnadboaa.Gra
open Go.ChangeShapes Go.WideShapes Go.RowKit
set_option linter.unusedVariables false
set_option maxRecDepth 20000
set_option maxHeartbeats 4000000

theorem Ov.start {w w2 w3 w4 w5 : World} {p g : Nat} {sn : List Bool} (hs : Bit.SetAt w.heap.size w2 p g sn) (hg : w.grownBy w2 none)
    (h3 : Below w2.heap.size w2 w3 ∧ w3.heap[w2.heap.size]? = some (.cells #[.pointer none] 44 (0, 0))) (hw4 : w3.setCell ⟨w2.heap.size, 0, none⟩ (.pointer (some ⟨p, 0, none⟩)) = w4) (hw5 : w4.alloc (.cells #[.slice none 0 0] 81) = w5) :
    Ov w w5 w2.heap.size w4.heap.size p g sn none 0 0 [] none 0 0 [] := by
  have s2 := hg.size
  have s3 := h3.1.size
  have s3' := (Array.getElem?_eq_some_iff.1 h3.2).1
  have s4 : w4.heap.size = w3.heap.size := by rw [← hw4]; simp [World.setCell]
  have p1 := hs.lo
  have p2 := hs.log
  have p3 := hs.ne
  have p4 := hs.lt
  have p5 := hs.row.lt
  have n5 := m_box w4 _ 81 hw5
  have b12 : Below w.heap.size w w2 := ⟨hg.os, hg.tape, hg.output, hg.size, fun k hk => hg.block k hk (by simp)⟩
  have b34 : Below w2.heap.size w3 w4 := by rw [← hw4]; exact (Below.refl _ _).setCell (p := ⟨w2.heap.size, 0, none⟩) (Nat.le_refl _) _
  have b24 : Below w2.heap.size w2 w4 := h3.1.trans b34
  have b25 : Below w2.heap.size w2 w5 := b24.trans (n5.1.mono (by omega))
  have e4 : w4.heap[w2.heap.size]? = some (.cells #[.pointer (some ⟨p, 0, none⟩)] 44 (0, 0)) := by rw [← hw4]; simp [World.setCell, Array.getElem?_modify, h3.2]
  refine ⟨b12.trans (b25.mono s2), (n5.1.block _ (by omega)).trans e4, n5.2, ?_, OwnL.nil, rfl, OwnL.nil, rfl, by omega, by omega, ?_, fun b hb => (by cases hb), fun b hb => (by cases hb), Apt.nil _ _ _⟩
  · exact hs.grow ⟨b25.os, b25.tape, b25.output, b25.size, fun k hk _ => b25.block k hk⟩
  · simp; omega
/-- What holds at each round. -/
structure OI (s : Gr) (R : List Nat) (n : Nat) (sn : List Bool) (ws : List (Nat × Nat)) (out : List Nat) : Prop where
  fin : Fin_ s ws.reverse sn out R
  len : sn.length = n
  many : out.length + ws.length ≤ cnt sn
  all : ∀ x ∈ ws, x.1 < n ∧ x.2 ≤ (nx s x.1).length
def ms (s : Gr) (n : Nat) (sn : List Bool) (ws : List (Nat × Nat)) : Nat := uw s sn n + ww s ws.reverse
theorem ww_cons (s : Gr) (x : Nat × Nat) (l : List (Nat × Nat)) : ww s (x :: l) = ((nx s x.1).length - x.2 + 1) + ww s l := by unfold ww; rw [List.map_cons, List.sum_cons]
section
variable {s : Gr} {R : List Nat} {n : Nat} {sn : List Bool} {r : List (Nat × Nat)} {b k j : Nat} {out : List Nat}
theorem OI.leave (h : OI s R n sn (r ++ [(b, k)]) out) (hk : k = (nx s b).length) : OI s R n sn r (out ++ [b]) ∧ ms s n sn r + 1 ≤ ms s n sn (r ++ [(b, k)]) := by
  have h1 := h.fin
  rw [List.reverse_append] at h1
  have h2 : Fin_ s ((b, k) :: r.reverse) sn out R := h1
  have h3 := h.many
  rw [List.length_append] at h3
  refine ⟨⟨h2.pop (by omega), h.len, by rw [List.length_append]; simp at h3 ⊢; omega, fun x hx => h.all x (by simp [hx])⟩, ?_⟩
  unfold ms
  rw [List.reverse_append]
  show _ ≤ uw s sn n + ww s ((b, k) :: r.reverse)
  rw [ww_cons]
  omega
theorem OI.skip (h : OI s R n sn (r ++ [(b, k)]) out) (hk : (nx s b)[k]? = some j) (hj : at_ sn j = true) : OI s R n sn (r ++ [(b, k + 1)]) out ∧ ms s n sn (r ++ [(b, k + 1)]) + 1 ≤ ms s n sn (r ++ [(b, k)]) := by
  have h1 := h.fin
  rw [List.reverse_append] at h1
  have h2 : Fin_ s ((b, k) :: r.reverse) sn out R := h1
  have hlt := (List.getElem?_eq_some_iff.1 hk).1
  refine ⟨⟨by rw [List.reverse_append]; exact h2.skip hk hj, h.len, by simpa using h.many, fun x hx => ?_⟩, ?_⟩
  · rcases List.mem_append.1 hx with hx | hx
    · exact h.all x (by simp [hx])
    · rw [List.mem_singleton] at hx
      subst hx
      exact ⟨(h.all (b, k) (by simp)).1, hlt⟩
  · unfold ms
    rw [List.reverse_append, List.reverse_append]
    show uw s sn n + ww s ((b, k + 1) :: r.reverse) + 1 ≤ uw s sn n + ww s ((b, k) :: r.reverse)
    rw [ww_cons, ww_cons]
    dsimp only
    omega
theorem OI.push (h : OI s R n sn (r ++ [(b, k)]) out) (hk : (nx s b)[k]? = some j) (hj : at_ sn j = false) (hjn : j < n) : OI s R n (sn.set j true) (r ++ [(b, k + 1)] ++ [(j, 0)]) out ∧ ms s n (sn.set j true) (r ++ [(b, k + 1)] ++ [(j, 0)]) + 1 ≤ ms s n sn (r ++ [(b, k)]) := by
  have h1 := h.fin
  rw [List.reverse_append] at h1
  have h2 : Fin_ s ((b, k) :: r.reverse) sn out R := h1
  have hlt := (List.getElem?_eq_some_iff.1 hk).1
  have hc := set_cnt (sn := sn) (j := j) (by rw [h.len]; exact hjn) hj
  refine ⟨⟨by rw [List.reverse_append, List.reverse_append]; exact h2.push hk hj, by rw [List.length_set]; exact h.len, ?_, fun x hx => ?_⟩, ?_⟩
  · have := h.many
    simp at this ⊢
    omega
  · rcases List.mem_append.1 hx with hx | hx
    · rcases List.mem_append.1 hx with hx | hx
      · exact h.all x (by simp [hx])
      · rw [List.mem_singleton] at hx
        subst hx
        exact ⟨(h.all (b, k) (by simp)).1, hlt⟩
    · rw [List.mem_singleton] at hx
      subst hx
      exact ⟨hjn, Nat.zero_le _⟩
  · have hu := uw_set (s := s) (sn := sn) (j := j) (by rw [h.len]; exact hjn) hj n
    rw [if_pos hjn] at hu
    unfold ms
    rw [List.reverse_append, List.reverse_append, List.reverse_append]
    show uw s (sn.set j true) n + ww s ((j, 0) :: (b, k + 1) :: r.reverse) + 1 ≤ uw s sn n + ww s ((b, k) :: r.reverse)
    rw [ww_cons, ww_cons, ww_cons]
    dsimp only
    omega
end
theorem plast {l : List (Nat × Nat)} {m : Nat} (h : l.length = m + 1) : ∃ r b k, l = r ++ [(b, k)] ∧ r.length = m := by
  have hne : l ≠ [] := by intro e; rw [e] at h; simp at h
  exact ⟨l.dropLast, (l.getLast hne).1, (l.getLast hne).2, (List.dropLast_concat_getLast hne).symm, by rw [List.length_dropLast, h]; rfl⟩
theorem prs_last {N g c m b k : Nat} {w : World} {T : TypeId} {r : List (Nat × Nat)} (h : OwnL T 2 prC N w (some ⟨g, 0, none⟩) c (r ++ [(b, k)])) (hr : r.length = m) : w.cell? ⟨g, m * 2, none⟩ = some (.int .i64 (b : Int)) ∧ w.cell? ⟨g, m * 2 + 1, none⟩ = some (.int .i64 (k : Int)) ∧ w.frozen? ⟨g, m * 2 + 1, none⟩ = false := by
  subst hr
  have hl : (r ++ [(b, k)]).length = r.length + 1 := by simp
  have e : ∀ j, j < 2 → ((r ++ [(b, k)]).flatMap prC)[r.length * 2 + j]? = (prC (b, k))[j]? := fun j hj => by
    have h1 := flat_at pr_len (r ++ [(b, k)]) r.length j (by rw [hl]; omega) hj
    rw [h1]
    simp
  refine ⟨?_, ?_, World.ownsRow.frozenAt h _⟩
  · rw [World.ownsRow.cellAt h (r.length * 2) (by rw [hl]; omega)]
    exact e 0 (by decide)
  · rw [World.ownsRow.cellAt h (r.length * 2 + 1) (by rw [hl]; omega)]
    exact e 1 (by decide)
theorem gorder_v (P : Nat) (q : GV) (s t : Gr) (R : List Nat) (w : World) (h : IsG w P q s t) (hs : Ok s) (hn : q.n ≤ 300) (hR : IsLeft s R) :
    Calls Try.prog 21 #[.pointer (some ⟨P, 0, none⟩)] w fun e w' => (∃ B m d, e = .returned (.slice B m d) ∧ R.length = m ∧ OwnL 3 1 intC w.heap.size w' B d (nn R.reverse) ∧ m ≤ q.n) ∧ Below w.heap.size w w' := by
  have H := Lib.hid (And.intro h (And.intro hs (And.intro hn hR)))
  have HNw := Lib.hid (Bit.new_v (q.n : Int) q.n (by omega) (by omega) w)
  clear h hs hR
  go_enter Try.func21, Try.ntmps21
  go_wp2_with fail
  refine (glen_v P q s t w H.out.1).mono ?_
  rintro e w1 ⟨rfl, rfl⟩
  go_wp2_with fail
  refine HNw.out.mono ?_
  rintro e w2 ⟨p, g, rfl, hset, hgr⟩
  obtain ⟨w3, hw3⟩ : ∃ w3, w2.alloc (.cells #[.pointer none] 44) = w3 := ⟨_, rfl⟩
  have n3 := m_box w2 _ 44 hw3
  obtain ⟨w4, hw4⟩ : ∃ w4, w3.setCell ⟨w2.heap.size, 0, none⟩ (.pointer (some ⟨p, 0, none⟩)) = w4 := ⟨_, rfl⟩
  obtain ⟨w5, hw5⟩ : ∃ w5, w4.alloc (.cells #[.slice none 0 0] 81) = w5 := ⟨_, rfl⟩
  have e0 := cell_i n3.2 0
  have e1 := froz_i n3.2 0
  have HA := Lib.hid (Ov.start hset hgr n3 hw4 hw5)
  clear hset hgr n3
  go_wp2_with fail
  try rw [hw4]
  try rw [hw5]
  clear hw4 hw5 e0 e1
  have HE := Lib.hid (ento_v w w2.heap.size w4.heap.size p g (List.replicate q.n false) none 0 0 [] none 0 0 [] w5 0 HA.out (by omega))
  refine HE.out.mono ?_
  rintro e w6 ⟨rfl, sn, A, m, c, ws, ha, hcase⟩
  have hst : OI s R q.n sn ws [] ∧ ms s q.n sn ws ≤ uw s (List.replicate q.n false) q.n := by
    rcases hcase with ⟨h1, h2, h3⟩ | ⟨h2, h3, h4, h5⟩
    · have h0 : q.n = 0 := by
        rcases h1 with h1 | h1
        · rw [List.length_replicate] at h1; omega
        · rw [at_rep] at h1; cases h1
      have hs0 : s = [] := List.eq_nil_of_length_eq_zero (by rw [H.out.1.su.1]; exact h0)
      have hr0 : R = [] := by
        rcases H.out.2.2.2 with ⟨_, h5⟩ | ⟨h5, _⟩
        · exact h5
        · rw [hs0] at h5; simp at h5
      subst h2 h3
      rw [h0, hs0, hr0]
      exact ⟨⟨.done, rfl, by simp, by simp⟩, by simp [ms, uw, ww]⟩
    · rw [List.length_replicate] at h2
      have hf := fin_start H.out.2.2.2 (by rw [H.out.1.su.1]; exact h2)
      rw [H.out.1.su.1] at hf
      have hc := set_cnt (sn := List.replicate q.n false) (j := 0) (by simpa using h2) (at_rep _ _)
      have hu := uw_set (s := s) (sn := List.replicate q.n false) (j := 0) (by simpa using h2) (at_rep _ _) q.n
      rw [if_pos h2] at hu
      subst h4 h5
      refine ⟨⟨hf, by simp, by simp; omega, by simp; exact h2⟩, ?_⟩
      unfold ms
      show _ + ww s [(0, 0)] ≤ _
      rw [ww_cons]
      simp [ww]
      omega
  obtain ⟨G0, hG0⟩ : ∃ G0, uw s (List.replicate q.n false) q.n = G0 := ⟨_, rfl⟩
  rw [hG0] at hst
  obtain ⟨hst, hms⟩ := hst
  have HS := Lib.hid (And.intro ha hst)
  clear ha hcase hst HE HA hG0
  go_wp2_with fail
  go_loopg [6] G0 (fun gk s6 wr => ∃ (sn : List Bool) (A : Option Addr) (m c : Nat) (ws : List (Nat × Nat)) (B : Option Addr) (e d : Nat) (out : List Nat), ms s q.n sn ws ≤ gk ∧ s6 = .slice B e d ∧ Hid (Ov w wr w2.heap.size w4.heap.size p g sn A m c ws B e d out ∧ OI s R q.n sn ws out))
  case atStart => exact ⟨sn, A, m, c, ws, none, 0, 0, [], hms, rfl, HS⟩
  case round =>
    clear hms HS
    obtain ⟨sn, A, m, c, ws, B, e, d, out, hgk, rfl, HK⟩ := hrel
    have c0 := cell_i HK.out.1.xv 0
    have c0' := cell_i HK.out.1.xe 0
    cases m with
    | zero =>
      have hw0 : ws = [] := List.eq_nil_of_length_eq_zero HK.out.1.len
      subst hw0
      have hout : out = R := HK.out.2.fin.end_
      subst hout
      have he : e ≤ q.n := by
        have h1 := HK.out.2.many
        have h2 := cnt_le sn
        have h3 := HK.out.2.len
        have h4 := HK.out.1.ll
        simp at h1
        omega
      have HR := Lib.hid (reverse_v w.heap.size B e d out wr HK.out.1.left HK.out.1.ll (by omega))
      have HLe := Lib.hid he
      have hz : ¬ ((0 : Nat) : Int) > 0 := by omega
      clear hgk he
      go_wp2_with fail
      refine HR.out.mono ?_
      rintro en w7 ⟨rfl, ho, hg⟩
      have H7 := Lib.hid (And.intro ho (show Below w.heap.size w w7 from (grown_mv (M := fun k => Value.ownBlock (.slice B e d) = some k) hg (fun k q => q)).below HK.out.1.bel HK.out.1.bel.size (fun k hk => (HK.out.1.leftlt hk).1)))
      clear ho hg
      go_wp2_with fail
      go_ret
      exact ⟨⟨B, e, d, rfl, HK.out.1.ll, H7.out.1, HLe.out⟩, H7.out.2⟩
    | succ m =>
      obtain ⟨r, b, k, rfl, hr⟩ := plast HK.out.1.len
      obtain ⟨gA, rfl, hmc, hcx⟩ := OwnL.some_ (m := m) HK.out.1.row HK.out.1.len
      obtain ⟨u0, u1, u2⟩ := prs_last HK.out.1.row hr
      obtain ⟨hbn, hkl⟩ := HK.out.2.all (b, k) (by simp)
      dsimp only at hbn hkl
      have cg : wr.heap[P]? = _ := kept_box H.out.1.box HK.out.1.bel
      have g1 := cell_i cg 0
      obtain ⟨qb, qo, hqA, -, C, L, cd, d0, d1⟩ := (H.out.1.su.below HK.out.1.bel).at hbn
      rw [hqA] at g1
      have hL : (nx s b).length = L := by rw [← nn_len]; exact d1.1
      have hLm : L ≤ 9223372036854775807 := d1.2.1
      have HI := Lib.hid (And.intro d1 (And.intro hL hr))
      have hmq : m + 1 ≤ 300 := by
        have h1 := HK.out.2.many
        have h2 := cnt_le sn
        have h3 := HK.out.2.len
        have h4 := HK.out.1.len
        omega
      have t1 : ((m + 1 : Nat) : Int) > 0 := by omega
      have t2 : IntKind.i64.wrap (((m + 1 : Nat) : Int) - 1) = (m : Int) := by rw [IntKind.wrap_i64]; omega
      have t2' : ((m + 1 : Nat) : Int) - 1 = (m : Int) := by omega
      have t3 : (m : Int) < ((m + 1 : Nat) : Int) := by omega
      have t4 : (m : Int) ≤ (c : Int) := by unfold maxLen at hcx; omega
      have t5 : (b : Int) < (q.n : Int) := by omega
      clear cg d1 hr
      go_wp2_with fail
      go_quiet (fail)
      obtain ⟨wq, hwq⟩ : ∃ wq, wr.drewN nq = wq := ⟨_, rfl⟩
      have HKq := Lib.hid (hwq ▸ HK.out.1.below (drewSB (Below.refl _ wr) nq) : Ov w wq w2.heap.size w4.heap.size p g sn (some ⟨gA, 0, none⟩) (m + 1) c (r ++ [(b, k)]) B e d out)
      rw [hwq]
      clear hwq c0 c0' u0 u1 u2 g1 d0
      have c0 := cell_i HKq.out.xv 0
      have cf := froz_i HKq.out.xv 0
      obtain ⟨u0, u1, u2⟩ := prs_last HKq.out.row HI.out.2.2
      have cg : wq.heap[P]? = _ := kept_box H.out.1.box HKq.out.bel
      have g1 := cell_i cg 0
      obtain ⟨qb', qo', hqA', -, C', L', cd', d0, d1⟩ := (H.out.1.su.below HKq.out.bel).at hbn
      rw [hqA] at hqA'
      injection hqA' with hqA'
      injection hqA' with hq1 hq2
      subst hq1 hq2
      have hL' : L' = L := by rw [← hL, ← nn_len]; exact d1.1.symm
      subst hL'
      rw [hqA] at g1
      have HI2 := Lib.hid d1
      clear cg d1
      by_cases hkL : k = L'
      · have t6 : ((k : Int) == (L' : Int)) = true := by rw [beq_iff_eq]; omega
        have HLe := Lib.hid (HK.out.2.leave (by rw [hL]; exact hkL))
        have hout : e ≤ 2000000 := by
          have h1 := HK.out.2.many
          have h2 := cnt_le sn
          have h3 := HK.out.2.len
          have h4 := HK.out.1.ll
          omega
        obtain ⟨wn, hwn⟩ : ∃ wn, wq.alloc (.cells #[.int .i64 (b : Int)] 3) = wn := ⟨_, rfl⟩
        have mb := m_box wq _ 3 hwn
        have HP := Lib.hid (HKq.out.below mb.1)
        have Fn := Lib.hid mb.2
        have hsz : w.heap.size ≤ wn.heap.size := HP.out.bel.size
        have hmsr := HLe.out.2
        clear mb hkL
        go_wp2_with (at_builtin; refine mapp1 (N := w.heap.size) mInt rfl _ _ rfl ((nn_len _).trans HP.out.ll) rfl HP.out.left wq.heap.size (b : Int) rfl Fn.out hout hsz ?_)
        intro g' c' wh ho hgr hat hlt2
        have HF := Lib.hid (HP.out.leave ho hgr hat)
        clear ho hgr hat hlt2 c0 cf u0 u1 u2 g1 d0
        have c0 := cell_i HF.out.xv 0
        have cf := froz_i HF.out.xv 0
        obtain ⟨wz, hwz⟩ : ∃ wz, wh.setCell ⟨w4.heap.size, 0, none⟩ (.slice (some ⟨gA, 0, none⟩) m c) = wz := ⟨_, rfl⟩
        have HZ := Lib.hid (hwz ▸ HF.out.turn (M := fun _ => False) (A' := some ⟨gA, 0, none⟩) (c' := c) (Mv.refl _ wh) (fun _ h => h.elim) (OwnL.pop pr_len HF.out.row) HI.out.2.2 (fun b hb => ⟨HF.out.ap b hb, HF.out.aa b hb⟩))
        go_wp2_with fail
        try rw [hwz]
        clear hwz c0 cf
        go_roundg (gk - 1)
        case measure => omega
        case rel => exact ⟨sn, _, m, c, r, _, e + 1, c', out ++ [b], by omega, rfl, Lib.hid ⟨HZ.out, HLe.out.1⟩⟩
      · have t6 : ((k : Int) == (L' : Int)) = false := by rw [beq_eq_false_iff_ne]; omega
        have hkl2 : k < L' := by omega
        have t7 : (k : Int) < (L' : Int) := by omega
        have t8 : IntKind.i64.wrap ((k : Int) + 1) = ((k + 1 : Nat) : Int) := by rw [IntKind.wrap_i64]; omega
        obtain ⟨j, hj⟩ : ∃ j, (nx s b)[k]? = some j := ⟨_, List.getElem?_eq_getElem (by omega)⟩
        have hjn : j < q.n := by
          have h1 := H.out.2.1 b j (List.mem_of_getElem? hj)
          rw [H.out.1.su.1] at h1
          exact h1
        obtain ⟨wz, hwz⟩ : ∃ wz, (wq.setCell ⟨gA, m * 2 + 1, none⟩ (.int .i64 ((k : Int) + 1))).drew = wz := ⟨_, rfl⟩
        have HZ := Lib.hid (show Ov w wz w2.heap.size w4.heap.size p g sn (some ⟨gA, 0, none⟩) (m + 1) c (r ++ [(b, k + 1)]) B e d out from by
          have h1 := HKq.out.bump (k' := k + 1)
          rw [HI.out.2.2] at h1
          rw [← hwz]
          exact h1.below ((Below.refl _ _).drew))
        have HJ := Lib.hid (And.intro hj hjn)
        clear hj hjn
        go_wp2_with fail
        go_still_tail 7, (by kernel_rfl)
        go_upto_region 13 with fail
        try rw [hwz]
        clear hwz c0 cf u0 u1 u2 g1 d0
        have cg : wz.heap[P]? = _ := kept_box H.out.1.box HZ.out.bel
        have g1 := cell_i cg 0
        obtain ⟨qb', qo', hqA', -, C2, L2, cd2, d0, d1⟩ := (H.out.1.su.below HZ.out.bel).at hbn
        rw [hqA] at hqA'
        injection hqA' with hqA'
        injection hqA' with hq1 hq2
        subst hq1 hq2
        have hL2 : L2 = L' := by rw [← hL, ← nn_len]; exact d1.1.symm
        subst hL2
        rw [hqA] at g1
        obtain ⟨vb, vo, rfl, -, y, hy, v0⟩ := d1.at hkl2
        have hyj : y = (j : Int) := by
          unfold nn at hy
          rw [List.getElem?_map, HJ.out.1] at hy
          injection hy with hy
          exact hy.symm
        subst hyj
        have HE := Lib.hid (ento_v w w2.heap.size w4.heap.size p g sn (some ⟨gA, 0, none⟩) (m + 1) c (r ++ [(b, k + 1)]) B e d out wz j HZ.out (by omega))
        clear cg d1 hy hkL
        go_wp2_with fail
        refine HE.out.mono ?_
        rintro en w7 ⟨rfl, sn', A', m', c', ws', ha, hcase⟩
        have HV := Lib.hid ha
        have hN : OI s R q.n sn' ws' out ∧ ms s q.n sn' ws' + 1 ≤ ms s q.n sn (r ++ [(b, k)]) := by
          rcases hcase with ⟨h1, h2, h3⟩ | ⟨h2, h3, h4, h5⟩
          · subst h2 h3
            refine HK.out.2.skip HJ.out.1 ?_
            rcases h1 with h1 | h1
            · have := HK.out.2.len
              have := HJ.out.2
              omega
            · exact h1
          · subst h4 h5
            exact HK.out.2.push HJ.out.1 h3 HJ.out.2
        obtain ⟨hN1, hN2⟩ := hN
        have HN := Lib.hid hN1
        clear ha hcase hN1
        go_wp2_with fail
        go_roundg (gk - 1)
        case measure => omega
        case rel => exact ⟨sn', A', m', c', ws', B, e, d, out, by omega, rfl, Lib.hid ⟨HV.out, HN.out⟩⟩
end Go.Proofs.Ytojfbcfbnadboaa.Gra
