
/- GraphTells: the walk. -/
import Derived.Test.YtojfbcfbnadboaaGraWk19
import Derived.Test.YtojfbcfbnadboaaGraLrg
import Derived.Test.YtojfbcfbnadboaaGraTlM
import Derived.Test.YtojfbcfbnadboaaGraRefT
import Derived.Test.YtojfbcfbnadboaaGraRefU
import Derived.Test.YtojfbcfbnadboaaGraRefO
import Derived.Test.YtojfbcfbnadboaaMakZ
import Derived.Test.YtojfbcfbnadboaaGraEq
namespace Go.Proofs.Ytojfbcfbnadboaa.Gra
open Go.ChangeShapes Go.WideShapes Go.RowKit Par
set_option linter.unusedVariables false
set_option maxRecDepth 20000
set_option maxHeartbeats 8000000

/-- What is at hand once all was asked: the graph, the document's lists, all pairs. -/
structure Tl (w0 W : World) (p : Nat) (q : GV) (s : Gr) (A : Option Addr) (n : Nat) (E : Option Addr) (m : Nat) : Prop where
  bel : Below w0.heap.size w0 W
  g : IsG W p q s (prs s)
  d : IsGr W A n s
  e : ∀ k, k < m → ∃ b o, E = some ⟨b, o, none⟩ ∧ b < W.heap.size ∧ ∃ x, (edgK s n)[k]? = some x ∧ W.cell? ⟨b, o + k * 2, none⟩ = some (.int .i64 (x.1 : Int)) ∧ W.cell? ⟨b, o + k * 2 + 1, none⟩ = some (.int .i64 (x.2 : Int))
theorem Tl.below {w0 W W' : World} {p : Nat} {q : GV} {s : Gr} {A : Option Addr} {n : Nat} {E : Option Addr} {m : Nat} (h : Tl w0 W p q s A n E m) (hb : Below W.heap.size W W') : Tl w0 W' p q s A n E m :=
  ⟨h.bel.trans (hb.mono h.bel.size), h.g.below hb, h.d.below hb, fun k hk => by
    obtain ⟨b, o, e1, e2, x, e3, e4, e5⟩ := h.e k hk
    exact ⟨b, o, e1, Nat.lt_of_lt_of_le e2 hb.size, x, e3, (hb.cell (p := ⟨b, o + k * 2, none⟩) e2).trans e4, (hb.cell (p := ⟨b, o + k * 2 + 1, none⟩) e2).trans e5⟩⟩
theorem own_prs {N n m c : Nat} {T : TypeId} {W : World} {E : Option Addr} {l : List (Nat × Nat)} (h : OwnL T 2 prC N W E c l) (hl : l.length = m) : ∀ k, k < m → ∃ b o, E = some ⟨b, o, none⟩ ∧ b < W.heap.size ∧ ∃ x, l[k]? = some x ∧ W.cell? ⟨b, o + k * 2, none⟩ = some (.int .i64 (x.1 : Int)) ∧ W.cell? ⟨b, o + k * 2 + 1, none⟩ = some (.int .i64 (x.2 : Int)) := by
  intro k hk
  obtain ⟨_, h2 | ⟨g, e1, _, e2, h4⟩⟩ := OwnL.form h pr_len
  · subst h2; simp at hl; omega
  · refine ⟨g, 0, e1, e2, l[k]'(by omega), List.getElem?_eq_getElem (by omega), ?_, ?_⟩
    · have := h4 k 0 (by omega) (by decide)
      rw [Nat.zero_add]
      exact this
    · have := h4 k 1 (by omega) (by decide)
      rw [Nat.zero_add]
      exact this
/-- What the statement's check ends with. -/
def EndB (w0 : World) (e : Ending) (w' : World) : Prop := e = .returned (.bool true) ∧ Below w0.heap.size w0 w'
theorem tells_v (f : Fun) (v : FunV) (i : Int) (w : World) (hI : IsFun w f v) :
    Calls Try.prog 3 #[.agg (funR f v), .int .i64 i] w (EndB w) := by
  obtain ⟨w1, hw1⟩ : ∃ w1, w.alloc (.cells (funR f v) 26) = w1 := ⟨_, rfl⟩
  have nb := m_box w _ 26 hw1
  have HI := Lib.hid (And.intro (hI.below nb.1) nb)
  have HL := Lib.hid (large_v f v w1 HI.out.1)
  obtain ⟨bs, hbs⟩ : ∃ bs, f.blocks = bs := ⟨_, rfl⟩
  rw [hbs] at HL
  have HB := Lib.hid hbs
  have hfun := HI.out.2.2
  unfold funR at hfun HL
  obtain ⟨⟨x0, x1, x2, x3, x4⟩, -⟩ := mbox5 hfun
  unfold funR at hw1 ⊢
  clear nb hI hfun hbs
  go_enter Try.func3, Try.ntmps3
  go_wp2_with fail
  try rw [hw1]
  clear hw1
  refine HL.out.mono ?_
  rintro e w2 ⟨⟨bl, rfl, hbl⟩, hb2⟩
  have H2 := Lib.hid (And.intro hb2 hbl)
  clear hb2 hbl
  have hbx := kept_box HI.out.2.2 H2.out.1
  unfold funR at hbx
  obtain ⟨⟨y0, y1, y2, y3, y4⟩, -⟩ := mbox5 hbx
  clear x0 x1 x2 x3 x4 hbx
  cases bl with
  | true =>
    go_wp2_with fail
    refine (works19_v w2).mono ?_
    rintro e w3 ⟨rfl, hb3⟩
    have H3 := Lib.hid hb3
    clear hb3
    go_wp2_with fail
    go_ret
    exact ⟨rfl, HI.out.2.1.trans ((H2.out.1.trans (H3.out.mono H2.out.1.size)).mono HI.out.2.1.size)⟩
  | false =>
    have hn80 : bs.length ≤ 80 := H2.out.2 rfl
    have HN := Lib.hid (newg_v f v w2 (HI.out.1.below H2.out.1) (by rw [HB.out]; omega))
    unfold funR at HN
    rw [HB.out] at HN
    have HN80 := Lib.hid hn80
    clear hn80
    go_wp2_with fail
    refine HN.out.mono ?_
    rintro e w3 ⟨⟨p, rfl, q, hq, hg, -⟩, hb3⟩
    have H3 := Lib.hid (And.intro hg (And.intro hq hb3))
    have hbx := kept_box HI.out.2.2 (H2.out.1.trans (hb3.mono H2.out.1.size))
    unfold funR at hbx
    obtain ⟨⟨x0, x1, x2, x3, x4⟩, -⟩ := mbox5 hbx
    have HSu := Lib.hid (rsucc_v f v w3 ((HI.out.1.below H2.out.1).below hb3) (by rw [HB.out]; have := HN80.out; omega))
    unfold funR at HSu
    rw [HB.out] at HSu
    clear hg hq hb3 hbx y0 y1 y2 y3 y4
    go_wp2_with fail
    refine HSu.out.mono ?_
    rintro e w4 ⟨⟨A, n, c, rfl, hgr⟩, hb4⟩
    clear x0 x1 x2 x3 x4
    obtain ⟨s, hs⟩ : ∃ s, sucs bs = s := ⟨_, rfl⟩
    rw [hs] at hgr H3
    have hsn : s.length = n := hgr.1
    have hqn : q.n = n := by rw [H3.out.2.1, ← hsn, ← hs, sucs_len]
    have hn80 : n ≤ 80 := by rw [← hsn, ← hs, sucs_len]; exact HN80.out
    have H4 := Lib.hid (show IsG w4 p q s (prs s) ∧ IsGr w4 A n s ∧ Below w.heap.size w w4 from ⟨H3.out.1.below hb4, hgr, HI.out.2.1.trans ((H2.out.1.trans ((H3.out.2.2.trans (hb4.mono H3.out.2.2.size)).mono H2.out.1.size)).mono HI.out.2.1.size)⟩)
    have HF := Lib.hid (show Ok s ∧ (∀ k, (nx s k).length ≤ n ∧ (nx s k).Nodup) ∧ s.length = n ∧ q.n = n ∧ n ≤ 80 from ⟨by rw [← hs]; exact sucs_ok bs, fun k => by rw [← hs]; have := sucs_few bs k; rw [← hsn, ← hs, sucs_len]; exact this, hsn, hqn, hn80⟩)
    clear hgr hsn hb4 hs HSu HN H3
    go_wp2_with fail
    refine (glen_v p q s (prs s) w4 H4.out.1).mono ?_
    rintro e w5 ⟨rfl, rfl⟩
    rw [hqn]
    have hnn : ((n : Int) != (n : Int)) = false := by simp
    go_wp2_with fail
    have HE := Lib.hid (edges_v p q s (prs s) w4 H4.out.1 (by omega) (fun k => by have := (HF.out.2.1 k).1; omega))
    refine HE.out.mono ?_
    rintro e w5 ⟨⟨E, m, ec, rfl, hel, heo⟩, hb5⟩
    rw [HF.out.2.2.1] at hel heo
    have HT := Lib.hid (show Tl w w5 p q s A n E m from ⟨H4.out.2.2.trans (hb5.mono H4.out.2.2.size), H4.out.1.below hb5, H4.out.2.1.below hb5, own_prs (n := n) heo hel⟩)
    have HEl := Lib.hid (show (edgK s n).length = m ∧ m ≤ 24000 from ⟨hel, by
      have h1 := edgK_len (s := s) (b := 80) (fun k => by have := (HF.out.2.1 k).1; omega) n
      have h2 : n * 80 ≤ 80 * 80 := Nat.mul_le_mul_right 80 hn80
      omega⟩)
    have hm1 : m ≤ 24000 := HEl.out.2
    clear heo hel hb5 HE HL
    go_wp2_with fail
    go_loopg [7, 9] n (fun gk s7 s9 wr => ∃ (k z : Nat), k + gk = n ∧ s7 = .int .i64 (z : Int) ∧ s9 = .int .i64 (k : Int) ∧ Hid ((edgK s k).length = z ∧ Tl w wr p q s A n E m))
    case atStart => exact ⟨0, 0, by omega, rfl, rfl, Lib.hid ⟨rfl, HT.out⟩⟩
    case round =>
      obtain ⟨k, z, hk, rfl, rfl, HK⟩ := hrel
      by_cases hkn : k < n
      · have t1 : (k : Int) < (n : Int) := by omega
        have HTr := Lib.hid HK.out.2
        obtain ⟨rb, ro, hA, hlt, C, L, cd, c0, d1⟩ := HK.out.2.d.at hkn
        subst hA
        have HRow := Lib.hid (And.intro hlt (And.intro c0 d1))
        have HRn := Lib.hid (show rowI s (k : Int) = nx s k ∧ rowI (prs s) (k : Int) = preds s k from by
          have hl := HF.out.2.2.1
          refine ⟨by unfold rowI; rw [if_pos ⟨by omega, by omega⟩]; simp, ?_⟩
          unfold rowI
          rw [if_pos ⟨by omega, by rw [prs_len]; omega⟩]
          show nx (prs s) k = _
          rw [prs_at s (by omega)])
        clear hlt d1
        go_upto_region 12 with fail
        clear c0
        go_cut [55] from 31 to 83 (fun s55 wc => s55 = .bool false ∧ Hid (Below wr.heap.size wr wc))
        case first =>
          refine region_z 1000 (fun W => W.cell? ⟨rb, ro + k, none⟩ = some (.slice C L cd)) (by kernel_rfl) ?_
          obtain ⟨wd, hwd⟩ : ∃ wd, wr.drew = wd := ⟨_, rfl⟩
          have HTd := Lib.hid (hwd ▸ HTr.out.below ((Below.refl _ wr).drew) : Tl w wd p q s (some ⟨rb, ro, none⟩) n E m)
          have Bd := Lib.hid (hwd ▸ (Below.refl _ wr).drew : Below wr.heap.size wr wd)
          have Sd := Lib.hid ((Bd.out.cell (p := ⟨rb, ro + k, none⟩) HRow.out.1).trans HRow.out.2.1)
          have Id := Lib.hid (HRow.out.2.2.below Bd.out)
          rw [hwd]
          clear hwd
          refine anyS_take (i := 0) (v := _) rfl (by kernel_rfl) (fun _ _ _ h => h) (Or.inl ⟨by rfl, by intro W hSw; have c0 := hSw; go_simp; try with_reducible rfl⟩) Sd.out ?_
          try simp only [Act.put, List.getElem_toArray, List.getElem_cons_zero, List.getElem_cons_succ, List.setIfInBounds_toArray, List.set_cons_zero, List.set_cons_succ]
          refine anyS_take (i := 1) (v := _) rfl (by kernel_rfl) (fun _ _ _ h => h) (Or.inl ⟨by rfl, by intro W hSw; have c0 := hSw; go_simp; try with_reducible rfl⟩) Sd.out ?_
          try simp only [Act.put, List.getElem_toArray, List.getElem_cons_zero, List.getElem_cons_succ, List.setIfInBounds_toArray, List.set_cons_zero, List.set_cons_succ]
          refine anyS_take (i := 3) (v := _) rfl (by kernel_rfl) (fun _ _ _ h => h) (Or.inl ⟨by rfl, by intro W hSw; have c0 := hSw; go_simp; try with_reducible rfl⟩) Sd.out ?_
          try simp only [Act.put, List.getElem_toArray, List.getElem_cons_zero, List.getElem_cons_succ, List.setIfInBounds_toArray, List.set_cons_zero, List.set_cons_succ]
          refine anyS_take (i := 4) (v := _) rfl (by kernel_rfl) (fun _ _ _ h => h) (Or.inl ⟨by rfl, by intro W hSw; have c0 := hSw; go_simp; try with_reducible rfl⟩) Sd.out ?_
          try simp only [Act.put, List.getElem_toArray, List.getElem_cons_zero, List.getElem_cons_succ, List.setIfInBounds_toArray, List.set_cons_zero, List.set_cons_succ]
          refine anyS_take (i := 5) (v := _) rfl (by kernel_rfl) (fun _ _ _ h => h) (Or.inl ⟨by rfl, by intro W hSw; have c0 := hSw; go_simp; try with_reducible rfl⟩) Sd.out ?_
          try simp only [Act.put, List.getElem_toArray, List.getElem_cons_zero, List.getElem_cons_succ, List.setIfInBounds_toArray, List.set_cons_zero, List.set_cons_succ]
          refine anyS_take (i := 6) (v := _) rfl (by kernel_rfl) (fun _ _ _ h => h) (Or.inl ⟨by rfl, by intro W hSw; have c0 := hSw; go_simp; try with_reducible rfl⟩) Sd.out ?_
          try simp only [Act.put, List.getElem_toArray, List.getElem_cons_zero, List.getElem_cons_succ, List.setIfInBounds_toArray, List.set_cons_zero, List.set_cons_succ]
          refine anyZ_one (i := 2) (by kernel_rfl) rfl (fun K hK => ?_)
          go_simp
          refine Calls.mono (gsucc_v p q s (prs s) (k : Int) wd HTd.out.g (fun k => by have := (HF.out.2.1 k).1; omega)) ?_
          rintro e u1 ⟨⟨B1, m1, d1, rfl, hm1, ho1⟩, hb⟩
          have I1 := Lib.hid (show IsInts u1 B1 m1 (nn (nx s k)) by
            have h1 := ho1.ints
            rw [nn_len, hm1, HRn.out.1] at h1
            exact h1)
          have T1 := Lib.hid (HTd.out.below hb)
          have B1' := Lib.hid (Bd.out.trans (hb.mono Bd.out.size))
          have S1 := Lib.hid ((hb.cell (p := ⟨rb, ro + k, none⟩) (Nat.lt_of_lt_of_le HRow.out.1 Bd.out.size)).trans Sd.out)
          have J1 := Lib.hid (Id.out.below hb)
          clear hm1 ho1 hb
          go_wp2_with fail
          refine hK.out _ _ (fun _ => S1.out) ?_
          clear hK K
          try simp only [Act.put, List.getElem_toArray, List.getElem_cons_zero, List.getElem_cons_succ, List.setIfInBounds_toArray, List.set_cons_zero, List.set_cons_succ]
          refine anyZ_one (i := 7) (by kernel_rfl) rfl (fun K hK => ?_)
          go_simp
          refine Calls.mono (rints_v B1 C m1 L d1 cd (nx s k) (nx s k) u1 I1.out J1.out) ?_
          rintro e u2 ⟨rfl, hb⟩
          rw [decide_eq_true rfl]
          have T2 := Lib.hid (T1.out.below hb)
          have B2' := Lib.hid (B1'.out.trans (hb.mono B1'.out.size))
          have S2 := Lib.hid ((hb.cell (p := ⟨rb, ro + k, none⟩) (Nat.lt_of_lt_of_le HRow.out.1 B1'.out.size)).trans S1.out)
          clear hb
          go_wp2_with fail
          refine hK.out _ _ (fun _ => S2.out) ?_
          clear hK K
          try simp only [Act.put, List.getElem_toArray, List.getElem_cons_zero, List.getElem_cons_succ, List.setIfInBounds_toArray, List.set_cons_zero, List.set_cons_succ]
          refine anyZ_one (i := 8) (by kernel_rfl) rfl (fun K hK => ?_)
          go_simp
          refine hK.out _ _ (fun _ => S2.out) ?_
          clear hK K
          try simp only [Act.put, List.getElem_toArray, List.getElem_cons_zero, List.getElem_cons_succ, List.setIfInBounds_toArray, List.set_cons_zero, List.set_cons_succ]
          refine anyZ_one (i := 9) (by kernel_rfl) rfl (fun K hK => ?_)
          go_simp
          refine hK.out _ _ (fun _ => S2.out) ?_
          clear hK K
          try simp only [Act.put, List.getElem_toArray, List.getElem_cons_zero, List.getElem_cons_succ, List.setIfInBounds_toArray, List.set_cons_zero, List.set_cons_succ]
          refine anyS_take (i := 10) (v := _) rfl (by kernel_rfl) (fun _ _ _ h => h) (Or.inl ⟨by rfl, by intro W hSw; have c0 := hSw; go_simp; try with_reducible rfl⟩) S2.out ?_
          try simp only [Act.put, List.getElem_toArray, List.getElem_cons_zero, List.getElem_cons_succ, List.setIfInBounds_toArray, List.set_cons_zero, List.set_cons_succ]
          refine anyS_take (i := 11) (v := _) rfl (by kernel_rfl) (fun _ _ _ h => h) (Or.inl ⟨by rfl, by intro W hSw; have c0 := hSw; go_simp; try with_reducible rfl⟩) S2.out ?_
          try simp only [Act.put, List.getElem_toArray, List.getElem_cons_zero, List.getElem_cons_succ, List.setIfInBounds_toArray, List.set_cons_zero, List.set_cons_succ]
          refine anyS_take (i := 13) (v := _) rfl (by kernel_rfl) (fun _ _ _ h => h) (Or.inl ⟨by rfl, by intro W hSw; have c0 := hSw; go_simp; try with_reducible rfl⟩) S2.out ?_
          try simp only [Act.put, List.getElem_toArray, List.getElem_cons_zero, List.getElem_cons_succ, List.setIfInBounds_toArray, List.set_cons_zero, List.set_cons_succ]
          refine anyS_take (i := 14) (v := _) rfl (by kernel_rfl) (fun _ _ _ h => h) (Or.inl ⟨by rfl, by intro W hSw; have c0 := hSw; go_simp; try with_reducible rfl⟩) S2.out ?_
          try simp only [Act.put, List.getElem_toArray, List.getElem_cons_zero, List.getElem_cons_succ, List.setIfInBounds_toArray, List.set_cons_zero, List.set_cons_succ]
          refine anyZ_one (i := 12) (by kernel_rfl) rfl (fun K hK => ?_)
          go_simp
          refine Calls.mono (gpred_v p q s (prs s) (k : Int) u2 T2.out.g (fun k => by have := prs_few s k; have := HF.out.2.2.1; omega)) ?_
          rintro e v1 ⟨⟨B3, m3, d3, rfl, hm3, ho3⟩, hb⟩
          have I3 := Lib.hid (show IsInts v1 B3 m3 (nn (preds s k)) by
            have h1 := ho3.ints
            rw [nn_len, hm3, HRn.out.2] at h1
            exact h1)
          have Tv1 := Lib.hid (T2.out.below hb)
          have Bv1 := Lib.hid (B2'.out.trans (hb.mono B2'.out.size))
          have Sv1 := Lib.hid ((hb.cell (p := ⟨rb, ro + k, none⟩) (Nat.lt_of_lt_of_le HRow.out.1 B2'.out.size)).trans S2.out)
          clear hm3 ho3 hb
          go_wp2_with fail
          refine hK.out _ _ (fun _ => Sv1.out) ?_
          clear hK K
          try simp only [Act.put, List.getElem_toArray, List.getElem_cons_zero, List.getElem_cons_succ, List.setIfInBounds_toArray, List.set_cons_zero, List.set_cons_succ]
          refine anyZ_one (i := 15) (by kernel_rfl) rfl (fun K hK => ?_)
          go_simp
          refine Calls.mono (rpred_v (some ⟨rb, ro, none⟩) n c s k v1 Tv1.out.d (by omega)) ?_
          rintro e v2 ⟨⟨B4, m4, d4, rfl, hi4⟩, hb⟩
          have I4 := Lib.hid hi4
          have Tv2 := Lib.hid (Tv1.out.below hb)
          have Bv2 := Lib.hid (Bv1.out.trans (hb.mono Bv1.out.size))
          have Sv2 := Lib.hid ((hb.cell (p := ⟨rb, ro + k, none⟩) (Nat.lt_of_lt_of_le HRow.out.1 Bv1.out.size)).trans Sv1.out)
          have I3b := Lib.hid (I3.out.below hb)
          clear hi4 hb
          go_wp2_with fail
          refine hK.out _ _ (fun _ => Sv2.out) ?_
          clear hK K
          try simp only [Act.put, List.getElem_toArray, List.getElem_cons_zero, List.getElem_cons_succ, List.setIfInBounds_toArray, List.set_cons_zero, List.set_cons_succ]
          refine anyZ_one (i := 16) (by kernel_rfl) rfl (fun K hK => ?_)
          go_simp
          refine Calls.mono (rints_v B3 B4 m3 m4 d3 d4 (preds s k) (preds s k) v2 I3b.out I4.out) ?_
          rintro e v3 ⟨rfl, hb⟩
          rw [decide_eq_true rfl]
          have Bv3 := Lib.hid (Bv2.out.trans (hb.mono Bv2.out.size))
          have Sv3 := Lib.hid ((hb.cell (p := ⟨rb, ro + k, none⟩) (Nat.lt_of_lt_of_le HRow.out.1 Bv2.out.size)).trans Sv2.out)
          clear hb
          go_wp2_with fail
          refine hK.out _ _ (fun _ => Sv3.out) ?_
          clear hK K
          try simp only [Act.put, List.getElem_toArray, List.getElem_cons_zero, List.getElem_cons_succ, List.setIfInBounds_toArray, List.set_cons_zero, List.set_cons_succ]
          refine anyZ_one (i := 17) (by kernel_rfl) rfl (fun K hK => ?_)
          go_simp
          refine hK.out _ _ (fun _ => Sv3.out) ?_
          clear hK K
          try simp only [Act.put, List.getElem_toArray, List.getElem_cons_zero, List.getElem_cons_succ, List.setIfInBounds_toArray, List.set_cons_zero, List.set_cons_succ]
          refine anyZ_one (i := 18) (by kernel_rfl) rfl (fun K hK => ?_)
          go_simp
          refine hK.out _ _ (fun _ => Sv3.out) ?_
          clear hK K
          try simp only [Act.put, List.getElem_toArray, List.getElem_cons_zero, List.getElem_cons_succ, List.setIfInBounds_toArray, List.set_cons_zero, List.set_cons_succ]
          refine anyZ_done (by kernel_rfl) ?_ _
          go_wp2_with fail
          go_meet
          case rel => exact ⟨rfl, Bv3⟩
        obtain ⟨rfl, HC⟩ := hcut
        have HTc := Lib.hid (HK.out.2.below HC.out)
        go_wp2_with fail
        go_loopg [7, 10] n (fun gk' s7 s10 wr => ∃ (j y : Nat), j + gk' = n ∧ s7 = .int .i64 (y : Int) ∧ s10 = .int .i64 (j : Int) ∧ Hid (z + (low (nx s k) j).length = y ∧ Tl w wr p q s (some ⟨rb, ro, none⟩) n E m))
        case atStart => exact ⟨0, z, by omega, rfl, rfl, Lib.hid ⟨rfl, HTc.out⟩⟩
        case round =>
          obtain ⟨j, y, hj, rfl, rfl, HJ⟩ := hrel
          by_cases hjn : j < n
          · have t2 : (j : Int) < (n : Int) := by omega
            obtain ⟨rb', ro', hA', -, C, L, cd, c0, d1⟩ := HJ.out.2.d.at hkn
            injection hA' with hA'
            injection hA' with hA1 hA2
            subst hA1 hA2
            by_cases hin : j ∈ nx s k
            · have HC1 := Lib.hid (show Calls Try.prog 17 #[.slice C L cd, .int .i64 (j : Int)] wr fun e w' => e = .returned (.bool true) ∧ wr = w' from (decide_eq_true ((nn_mem _ j).2 hin)) ▸ rin_v C L cd (nn (nx s k)) (j : Int) wr d1)
              have hat := edg_at hkn (HF.out.2.1 k).2 (fun x hx => by have := HF.out.1 k x hx; have := HF.out.2.2.1; omega) hin
              rw [HK.out.1, HJ.out.1] at hat
              have hym : y < m := by
                have := (List.getElem?_eq_some_iff.1 hat).1
                rw [HEl.out.1] at this
                exact this
              obtain ⟨eb, eo, rfl, -, x, hx, e1, e2⟩ := HJ.out.2.e y hym
              rw [hat] at hx
              injection hx with hx
              subst hx
              have t3 : ¬ (y : Int) ≥ (m : Int) := by omega
              have t4 : (y : Int) < (m : Int) := by omega
              have HY := Lib.hid (show z + (low (nx s k) (j + 1)).length = y + 1 from by
                rw [low_succ_in hin, List.length_append]
                have := HJ.out.1
                simp
                omega)
              dsimp only at e1 e2
              have t5 : ((k : Int) == (k : Int)) = true := by simp
              have t6 : ((j : Int) == (j : Int)) = true := by simp
              have e9 := eq2 (k : Int) (j : Int) wr
              clear d1 hin hat
              go_wp2_with fail
              refine HC1.out.mono ?_
              rintro e w7 ⟨rfl, rfl⟩
              go_wp2_with fail
              go_roundg (n - j - 1)
              case measure => omega
              case rel => exact ⟨j + 1, y + 1, by omega, by go_num, by go_num, Lib.hid ⟨HY.out, HJ.out.2⟩⟩
            · have HC1 := Lib.hid (show Calls Try.prog 17 #[.slice C L cd, .int .i64 (j : Int)] wr fun e w' => e = .returned (.bool false) ∧ wr = w' from (decide_eq_false (fun h => hin ((nn_mem _ j).1 h))) ▸ rin_v C L cd (nn (nx s k)) (j : Int) wr d1)
              have HY := Lib.hid (show z + (low (nx s k) (j + 1)).length = y from by rw [low_succ_out hin]; exact HJ.out.1)
              clear d1 hin
              go_wp2_with fail
              refine HC1.out.mono ?_
              rintro e w7 ⟨rfl, rfl⟩
              go_wp2_with fail
              go_roundg (n - j - 1)
              case measure => omega
              case rel => exact ⟨j + 1, y, by omega, rfl, by go_num, Lib.hid ⟨HY.out, HJ.out.2⟩⟩
          · obtain rfl : j = n := by omega
            have t2 : ¬ (j : Int) < (j : Int) := by omega
            have HY := Lib.hid (show (edgK s (k + 1)).length = y from by
              rw [edg_next (n := j) (HF.out.2.1 k).2 (fun x hx => by have := HF.out.1 k x hx; have := HF.out.2.2.1; omega), HK.out.1]
              exact HJ.out.1)
            go_wp2_with fail
            go_roundg (j - k - 1)
            case measure => omega
            case rel => exact ⟨k + 1, y, by omega, rfl, by go_num, Lib.hid ⟨HY.out, HJ.out.2⟩⟩
      · obtain rfl : k = n := by omega
        have t1 : ¬ (k : Int) < (k : Int) := by omega
        have hzm : z = m := by rw [← HK.out.1]; exact HEl.out.1
        subst hzm
        have HT6 := Lib.hid HK.out.2
        obtain ⟨R, hR⟩ := isLeft_ex HF.out.1
        have HRl := Lib.hid hR
        have HRe := Lib.hid (rreach_v A k c s 0 (-1) wr HT6.out.d HF.out.1 (by omega))
        have HRc := Lib.hid (show ∀ x, at_ (reach s 0 (-1)) x = true ↔ x ∈ R from fun x => by
          have h1 := reach_iff HF.out.1 0 (-1) x
          have e : (fun k : Nat => (k : Int) = -1) = fun _ => False := funext fun k => by simp
          rw [e] at h1
          rw [hR.mem HF.out.1 x]
          exact h1)
        clear hR
        go_wp2_with fail
        refine HRe.out.mono ?_
        rintro e w6 ⟨⟨g, rfl, hbo⟩, hb6⟩
        have H6 := Lib.hid (And.intro (HT6.out.below hb6) hbo)
        clear hbo hb6
        go_wp2_with fail
        go_loopg [12] k (fun gk s12 wr7 => ∃ (x : Nat), x + gk = k ∧ s12 = .int .i64 (x : Int) ∧ Hid (Tl w wr7 p q s A k E z ∧ Bo wr.heap.size wr7 g (reach s 0 (-1))))
        case atStart => exact ⟨0, by omega, rfl, H6⟩
        case round =>
          obtain ⟨x, hx, rfl, HX⟩ := hrel
          by_cases hxk : x < k
          · have t2 : (x : Int) < (k : Int) := by omega
            obtain ⟨bb, hbb⟩ : ∃ bb, at_ (reach s 0 (-1)) x = bb := ⟨_, rfl⟩
            have hcell := HX.out.2.cell x (by rw [reach_len, HF.out.2.2.1]; exact hxk)
            rw [hbb] at hcell
            have HCe := Lib.hid hcell
            have HBb := Lib.hid hbb
            clear hcell hbb
            go_upto_region 25 with fail
            go_cut [100] from 86 to 100 (fun s100 wc => s100 = .bool false ∧ Hid (Below wr.heap.size wr wc))
            case first =>
              refine region_z 1000 (fun W => W.cell? ⟨g, x, none⟩ = some (.bool bb)) (by kernel_rfl) ?_
              obtain ⟨wd, hwd⟩ : ∃ wd, wr.drew = wd := ⟨_, rfl⟩
              have Bd := Lib.hid (hwd ▸ (Below.refl _ wr).drew : Below wr.heap.size wr wd)
              have Td := Lib.hid (HX.out.1.below Bd.out)
              have Sd := Lib.hid ((Bd.out.cell (p := ⟨g, x, none⟩) HX.out.2.lt).trans HCe.out)
              rw [hwd]
              clear hwd
              refine anyS_take (i := 0) (v := _) rfl (by kernel_rfl) (fun _ _ _ h => h) (Or.inl ⟨by rfl, by intro W hSw; have c0 := hSw; go_simp; try with_reducible rfl⟩) Sd.out ?_
              try simp only [Act.put, List.getElem_toArray, List.getElem_cons_zero, List.getElem_cons_succ, List.setIfInBounds_toArray, List.set_cons_zero, List.set_cons_succ]
              refine anyS_take (i := 2) (v := _) rfl (by kernel_rfl) (fun _ _ _ h => h) (Or.inl ⟨by rfl, by intro W hSw; have c0 := hSw; go_simp; try with_reducible rfl⟩) Sd.out ?_
              try simp only [Act.put, List.getElem_toArray, List.getElem_cons_zero, List.getElem_cons_succ, List.setIfInBounds_toArray, List.set_cons_zero, List.set_cons_succ]
              refine anyS_take (i := 4) (v := _) rfl (by kernel_rfl) (fun _ _ _ h => h) (Or.inl ⟨by rfl, by intro W hSw; have c0 := hSw; go_simp; try with_reducible rfl⟩) Sd.out ?_
              try simp only [Act.put, List.getElem_toArray, List.getElem_cons_zero, List.getElem_cons_succ, List.setIfInBounds_toArray, List.set_cons_zero, List.set_cons_succ]
              refine anyS_take (i := 5) (v := _) rfl (by kernel_rfl) (fun _ _ _ h => h) (Or.inl ⟨by rfl, by intro W hSw; have c0 := hSw; go_simp; try with_reducible rfl⟩) Sd.out ?_
              try simp only [Act.put, List.getElem_toArray, List.getElem_cons_zero, List.getElem_cons_succ, List.setIfInBounds_toArray, List.set_cons_zero, List.set_cons_succ]
              refine anyS_take (i := 6) (v := _) rfl (by kernel_rfl) (fun _ _ _ h => h) (Or.inl ⟨by rfl, by intro W hSw; have c0 := hSw; go_simp; try with_reducible rfl⟩) Sd.out ?_
              try simp only [Act.put, List.getElem_toArray, List.getElem_cons_zero, List.getElem_cons_succ, List.setIfInBounds_toArray, List.set_cons_zero, List.set_cons_succ]
              refine anyS_take (i := 7) (v := _) rfl (by kernel_rfl) (fun _ _ _ h => h) (Or.inl ⟨by rfl, by intro W hSw; have c0 := hSw; go_simp; try with_reducible rfl⟩) Sd.out ?_
              try simp only [Act.put, List.getElem_toArray, List.getElem_cons_zero, List.getElem_cons_succ, List.setIfInBounds_toArray, List.set_cons_zero, List.set_cons_succ]
              refine anyZ_one (i := 1) (by kernel_rfl) rfl (fun K hK => ?_)
              go_simp
              refine Calls.mono (reached_v p q s (prs s) R wd Td.out.g HF.out.1 (by have := HF.out.2.2.2.1; omega) HRl.out) ?_
              rintro e u1 ⟨⟨ps, rfl, gs, sn, hset, hsl, hsk⟩, hb⟩
              have B1 := Lib.hid (Bd.out.trans (hb.mono Bd.out.size))
              have S1 := Lib.hid ((hb.cell (p := ⟨g, x, none⟩) (Nat.lt_of_lt_of_le HX.out.2.lt Bd.out.size)).trans Sd.out)
              have hh : Bit.hasI sn (x : Int) = bb := by
                have h1 := hsk x
                have h2 := HRc.out x
                have h3 : at_ sn x = at_ (reach s 0 (-1)) x := by
                  have : ∀ b c : Bool, (b = true ↔ c = true) → b = c := by decide
                  exact this _ _ (h1.trans h2.symm)
                show (decide (0 ≤ (x : Int)) && at_ sn ((x : Int)).toNat) = bb
                rw [decide_eq_true (by omega), Bool.true_and]
                show at_ sn x = bb
                rw [h3, HBb.out]
              have HC1 := Lib.hid (hh ▸ Bit.has_v (x : Int) _ ps gs sn u1 hset)
              clear hset hsl hsk hb hh
              go_wp2_with fail
              refine hK.out _ _ (fun _ => S1.out) ?_
              clear hK K
              try simp only [Act.put, List.getElem_toArray, List.getElem_cons_zero, List.getElem_cons_succ, List.setIfInBounds_toArray, List.set_cons_zero, List.set_cons_succ]
              refine anyZ_one (i := 3) (by kernel_rfl) rfl (fun K hK => ?_)
              go_simp
              refine Calls.mono HC1.out ?_
              rintro e u2 ⟨rfl, nd, rfl⟩
              have B2 := Lib.hid (drewSB B1.out nd)
              go_wp2_with fail
              refine hK.out _ _ (fun _ => S1.out) ?_
              clear hK K
              try simp only [Act.put, List.getElem_toArray, List.getElem_cons_zero, List.getElem_cons_succ, List.setIfInBounds_toArray, List.set_cons_zero, List.set_cons_succ]
              have hbq : (bb != bb) = false := by simp
              refine anyZ_one (i := 8) (by kernel_rfl) rfl (fun K hK => ?_)
              go_simp
              refine hK.out _ _ (fun _ => S1.out) ?_
              clear hK K
              try simp only [Act.put, List.getElem_toArray, List.getElem_cons_zero, List.getElem_cons_succ, List.setIfInBounds_toArray, List.set_cons_zero, List.set_cons_succ]
              refine anyZ_done (by kernel_rfl) ?_ _
              go_wp2_with fail
              go_meet
              case rel => exact ⟨rfl, B2⟩
            obtain ⟨rfl, HC⟩ := hcut
            have HXc := Lib.hid (And.intro (HX.out.1.below HC.out) (HX.out.2.below HC.out))
            go_wp2_with fail
            go_roundg (k - x - 1)
            case measure => omega
            case rel => exact ⟨x + 1, by omega, by go_num, HXc⟩
          · obtain rfl : x = k := by omega
            have t2 : ¬ (x : Int) < (x : Int) := by omega
            have HT7 := Lib.hid HX.out.1
            have hzz : ((z : Int) == (z : Int)) = true := by simp
            by_cases hin : 0 ≤ i ∧ i < (x : Int)
            · have u1 : ¬ i < 0 := by omega
              have u2 : ¬ i ≥ (x : Int) := by omega
              have HO := Lib.hid (gorder_v p q s (prs s) R wr HT7.out.g HF.out.1 (by have := HF.out.2.2.2.1; omega) HRl.out)
              clear hin
              go_wp2_with fail
              refine HO.out.mono ?_
              rintro e w8 ⟨⟨B, m1, d, rfl, hl, ho, -⟩, hb⟩
              have H8 := Lib.hid (And.intro (HT7.out.below hb) (show IsInts w8 B m1 (nn R.reverse) by
                have h1 := ho.ints
                rw [nn_len, List.length_reverse, hl] at h1
                exact h1))
              have HD := Lib.hid (rorder_v A x c s R w8 (HT7.out.below hb).d HF.out.1 (by omega) HRl.out)
              clear hl ho hb
              go_wp2_with fail
              refine HD.out.mono ?_
              rintro e w9 ⟨⟨B2, m2, d2, rfl, hi2⟩, hb⟩
              have H9 := Lib.hid (And.intro (H8.out.1.below hb) (And.intro (H8.out.2.below hb) hi2))
              clear hi2 hb
              go_wp2_with fail
              refine (rints_v B B2 m1 m2 d d2 R.reverse R.reverse w9 H9.out.2.1 H9.out.2.2).mono ?_
              rintro e wA ⟨rfl, hb⟩
              rw [decide_eq_true rfl]
              have HA := Lib.hid (H9.out.1.below hb)
              clear hb
              go_wp2_with fail
              refine (works19_v wA).mono ?_
              rintro e wB ⟨rfl, hb⟩
              have HBb := Lib.hid (HA.out.below hb)
              clear hb
              go_wp2_with fail
              go_ret
              exact ⟨rfl, HBb.out.bel⟩
            · have hrow : rowI s i = [] ∧ rowI (prs s) i = [] := by
                have hl := HF.out.2.2.1
                constructor
                · unfold rowI; rw [if_neg (by omega)]
                · unfold rowI; rw [if_neg (by rw [prs_len]; omega)]
              have HRw := Lib.hid hrow
              have HS := Lib.hid (gsucc_v p q s (prs s) i wr HT7.out.g (fun k => by have := (HF.out.2.1 k).1; omega))
              clear hrow
              have fin : ∀ w8, Tl w w8 p q s A x E z → Calls Try.prog 15 #[.pointer (some ⟨p, 0, none⟩), .int .i64 i] w8 fun e w' => (∃ B d, e = .returned (.slice B 0 d)) ∧ Below w8.heap.size w8 w' := fun w8 h8 => by
                refine (gpred_v p q s (prs s) i w8 h8.g (fun k => by have := prs_few s k; have := HF.out.2.2.1; omega)).mono ?_
                rintro e w' ⟨⟨B, m3, d, rfl, hm3, _⟩, hb⟩
                rw [HRw.out.2] at hm3
                have hm3 : m3 = 0 := hm3.symm
                subst hm3
                exact ⟨⟨B, d, rfl⟩, hb⟩
              have HFin := Lib.hid fin
              clear fin
              by_cases hneg : i < 0
              · clear hin
                go_wp2_with fail
                refine HS.out.mono ?_
                rintro e w8 ⟨⟨B, m1, d, rfl, hm1, ho⟩, hb⟩
                rw [HRw.out.1] at hm1
                have hm1 : m1 = 0 := hm1.symm
                subst hm1
                have H8 := Lib.hid (HT7.out.below hb)
                clear ho hb
                go_wp2_with fail
                refine (HFin.out w8 H8.out).mono ?_
                rintro e w9 ⟨⟨B3, d3, rfl⟩, hb⟩
                have H9 := Lib.hid (H8.out.below hb)
                clear hb
                go_wp2_with fail
                refine (works19_v w9).mono ?_
                rintro e wA ⟨rfl, hb⟩
                have HA := Lib.hid (H9.out.below hb)
                clear hb
                go_wp2_with fail
                go_ret
                exact ⟨rfl, HA.out.bel⟩
              · have hge : i ≥ (x : Int) := by omega
                clear hin
                go_wp2_with fail
                refine HS.out.mono ?_
                rintro e w8 ⟨⟨B, m1, d, rfl, hm1, ho⟩, hb⟩
                rw [HRw.out.1] at hm1
                have hm1 : m1 = 0 := hm1.symm
                subst hm1
                have H8 := Lib.hid (HT7.out.below hb)
                clear ho hb
                go_wp2_with fail
                refine (HFin.out w8 H8.out).mono ?_
                rintro e w9 ⟨⟨B3, d3, rfl⟩, hb⟩
                have H9 := Lib.hid (H8.out.below hb)
                clear hb
                go_wp2_with fail
                refine (works19_v w9).mono ?_
                rintro e wA ⟨rfl, hb⟩
                have HA := Lib.hid (H9.out.below hb)
                clear hb
                go_wp2_with fail
                go_ret
                exact ⟨rfl, HA.out.bel⟩
end Go.Proofs.Ytojfbcfbnadboaa.Gra
