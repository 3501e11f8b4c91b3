
/- From which blocks one is reached: the program's walk. -/
import Derived.Test.YtojfbcfbnadboaaGraAwE
namespace Go.Proofs.Ytojfbcfbnadboaa.Gra
open Go.ChangeShapes Go.WideShapes Go.RowKit
set_option linter.unusedVariables false
set_option maxRecDepth 20000
set_option maxHeartbeats 4000000

theorem OwnL.some_ {α : Type} {T : TypeId} {sz : Nat} {cs : α → List Value} {N : Nat} {w : World} {A : Option Addr} {c m : Nat} {l : List α} (h : OwnL T sz cs N w A c l) (hl : l.length = m + 1) : ∃ g, A = some ⟨g, 0, none⟩ ∧ m + 1 ≤ c ∧ c ≤ maxLen := by
  obtain ⟨_, ⟨_, h2⟩ | ⟨g, cap, cur, e, h3, h4, h5, h6, _⟩⟩ := h
  · omega
  · injection e with e1 e2 e3
    subst e1 e3
    exact ⟨g, rfl, by omega, h6⟩
theorem list_last {l : List Nat} {m : Nat} (h : l.length = m + 1) : ∃ r x, l = r ++ [x] ∧ r.length = m := by
  refine ⟨l.dropLast, l.getLast (by intro e; rw [e] at h; simp at h), (List.dropLast_concat_getLast _).symm, by rw [List.length_dropLast, h]; rfl⟩
theorem ints_last {w : World} {g m : Nat} {r : List Nat} {x : Nat} (h : IsInts w (some ⟨g, 0, none⟩) (m + 1) (nn (r ++ [x]))) (hr : r.length = m) : w.cell? ⟨g, m, none⟩ = some (.int .i64 (x : Int)) := by
  obtain ⟨b, o, e, _, y, hy, hc⟩ := h.at (k := m) (by omega)
  injection e with e
  injection e with e1 e2
  subst e1 e2
  rw [Nat.zero_add] at hc
  rw [hc]
  rw [nn_app, List.getElem?_append_right (by rw [nn_len]; omega), nn_len, hr] at hy
  simp at hy
  rw [hy]
/-- Nothing was entered yet. -/
theorem Av.start {w w1 w2 w3 w4 w5 : World} {p g : Nat} {wo : Int} {sn : List Bool} (h1 : Below w.heap.size w w1 ∧ w1.heap[w.heap.size]? = some (.cells #[.int .i64 wo] 3 (0, 0))) (hs : Bit.SetAt w1.heap.size w2 p g sn) (hg : w1.grownBy w2 none)
    (h3 : Below w2.heap.size w2 w3 ∧ w3.heap[w2.heap.size]? = some (.cells #[.pointer none] 44 (0, 0))) (hw4 : w3.setCell ⟨w2.heap.size, 0, none⟩ (.pointer (some ⟨p, 0, none⟩)) = w4) (hw5 : w4.alloc (.cells #[.slice none 0 0] 37) = w5) :
    Av w w5 w.heap.size w2.heap.size w4.heap.size p g wo sn none 0 0 [] := by
  have s1 := h1.1.size
  have s1' := (Array.getElem?_eq_some_iff.1 h1.2).1
  have s2 := hg.size
  have s3 := h3.1.size
  have s3' := (Array.getElem?_eq_some_iff.1 h3.2).1
  have s4 : w4.heap.size = w3.heap.size := by rw [← hw4]; simp [World.setCell]
  have p1 := hs.lo
  have p2 := hs.log
  have p3 := hs.ne
  have p4 := hs.lt
  have p5 := hs.row.lt
  have n5 := m_box w4 _ 37 hw5
  have b12 : Below w1.heap.size w1 w2 := ⟨hg.os, hg.tape, hg.output, hg.size, fun k hk => hg.block k hk (by simp)⟩
  have b34 : Below w2.heap.size w3 w4 := by rw [← hw4]; exact (Below.refl _ _).setCell (p := ⟨w2.heap.size, 0, none⟩) (Nat.le_refl _) _
  have b24 : Below w2.heap.size w2 w4 := h3.1.trans b34
  have b25 : Below w2.heap.size w2 w5 := b24.trans (n5.1.mono (by omega))
  have b15 : Below w1.heap.size w1 w5 := b12.trans (b25.mono s2)
  have e4 : w4.heap[w2.heap.size]? = some (.cells #[.pointer (some ⟨p, 0, none⟩)] 44 (0, 0)) := by rw [← hw4]; simp [World.setCell, Array.getElem?_modify, h3.2]
  refine ⟨h1.1.trans (b15.mono s1), (b15.block _ s1').trans h1.2, (n5.1.block _ (by omega)).trans e4, n5.2, ?_, OwnL.nil, rfl, by omega, by omega, by omega, ?_, fun b hb => by cases hb⟩
  · exact (hs.mono s1).grow ⟨b25.os, b25.tape, b25.output, b25.size, fun k hk _ => b25.block k hk⟩
  · simp; omega
theorem nx_lt2 {s t : Gr} {n x z : Nat} (hst : ∀ x z, z ∈ nx t x ↔ x ∈ nx s z) (h : x ∈ nx s z) (hs : s.length = n) (ht : t.length = n) : x < s.length := by
  have := nx_lt ((hst x z).2 h)
  omega
theorem list_neg {sn : List Bool} {n k : Nat} (h : sn = List.replicate n false) : at_ sn k = false := by rw [h]; exact at_rep n k
theorem IsInts.below2 {w0 W : World} {A : Option Addr} {n : Nat} {l : List Int} (h : IsInts w0 A n l) (hb : Below w0.heap.size w0 W) : IsInts W A n l := h.below hb
/-- What is asked of a set that Away hands back. -/
def AwIs (s : Gr) (n : Nat) (tt wo : Int) (sn : List Bool) : Prop := sn.length = n ∧ ∀ k, at_ sn k = true ↔ ∃ T : Nat, tt = (T : Int) ∧ Rch s (fun k => (k : Int) = wo) k T
theorem away_v (P : Nat) (q : GV) (s t : Gr) (tt wo : Int) (w : World) (h : IsG w P q s t) (hst : ∀ x z, z ∈ nx t x ↔ x ∈ nx s z) (hn : q.n ≤ 300) :
    Calls Try.prog 23 #[.pointer (some ⟨P, 0, none⟩), .int .i64 tt, .int .i64 wo] w fun e w' => (∃ p, e = .returned (.pointer (some ⟨p, 0, none⟩)) ∧ ∃ g sn, Bit.SetAt w.heap.size w' p g sn ∧ AwIs s q.n tt wo sn) ∧ Below w.heap.size w w' := by
  have H := Lib.hid (And.intro h (And.intro hst hn))
  obtain ⟨w1, hw1⟩ : ∃ w1, w.alloc (.cells #[.int .i64 wo] 3) = w1 := ⟨_, rfl⟩
  have n1 := m_box w _ 3 hw1
  have HG1 := Lib.hid (And.intro (h.below n1.1) n1)
  clear h hst n1
  go_enter Try.func23, Try.ntmps23
  go_wp2_with fail
  try rw [hw1]
  clear hw1
  refine (glen_v P q s t w1 HG1.out.1).mono ?_
  rintro e w2 ⟨rfl, rfl⟩
  have HNw := Lib.hid (Bit.new_v (q.n : Int) q.n (by omega) (by omega) w1)
  go_wp2_with fail
  refine HNw.out.mono ?_
  rintro e w2 ⟨p, g, rfl, hset, hgr⟩
  obtain ⟨w3, hw3⟩ : ∃ w3, w2.alloc (.cells #[.pointer none] 44) = w3 := ⟨_, rfl⟩
  have n3 := m_box w2 _ 44 hw3
  obtain ⟨w4, hw4⟩ : ∃ w4, w3.setCell ⟨w2.heap.size, 0, none⟩ (.pointer (some ⟨p, 0, none⟩)) = w4 := ⟨_, rfl⟩
  obtain ⟨w5, hw5⟩ : ∃ w5, w4.alloc (.cells #[.slice none 0 0] 37) = w5 := ⟨_, rfl⟩
  have e0 := cell_i n3.2 0
  have e1 := froz_i n3.2 0
  have HA := Lib.hid (Av.start HG1.out.2 hset hgr n3 hw4 hw5)
  clear hset hgr n3
  go_wp2_with fail
  try rw [hw4]
  try rw [hw5]
  clear hw4 hw5 e0 e1
  have HE := Lib.hid (enter_v w w.heap.size w2.heap.size w4.heap.size p g wo (List.replicate q.n false) none 0 0 [] w5 tt HA.out (by omega))
  refine HE.out.mono ?_
  rintro e w6 ⟨rfl, sn, A, m, c, ws, ha, hcase⟩
  have HV := Lib.hid ha
  have hst0 : (∃ T : Nat, tt = (T : Int) ∧ AI s t wo T sn ws ∧ ws.length ≤ cnt sn) ∨ (ws = [] ∧ sn = List.replicate q.n false ∧ ∀ T : Nat, tt = (T : Int) → ¬ T < q.n ∨ tt = wo) := by
    rcases hcase with ⟨h1, h2, h3⟩ | ⟨h1, k, h2, h3, h4, h5, h6⟩
    · refine .inr ⟨h3, h2, fun T hT => ?_⟩
      rcases h1 with h1 | h1 | h1
      · exact .inr h1
      · rw [List.length_replicate] at h1; exact .inl (by omega)
      · rw [at_rep] at h1; cases h1
    · rw [List.length_replicate, ← H.out.1.su.1] at h3
      refine .inl ⟨k, h2, ?_, ?_⟩
      · rw [h5, h6, ← H.out.1.su.1]; exact AI.start h3 (by omega)
      · rw [h5, h6]
        have := set_cnt (sn := List.replicate q.n false) (j := k) (by rw [List.length_replicate, ← H.out.1.su.1]; exact h3) (at_rep _ _)
        simp at this ⊢
        omega
  have HS := Lib.hid hst0
  clear ha hcase hst0 HE HA
  have hcn := cnt_le sn
  go_wp2_with fail
  have HSt := Lib.hid (And.intro HV.out HS.out)
  have hg0 : 2 * (q.n - cnt sn) + ws.length ≤ 2 * q.n + 1 := by
    rcases HS.out with ⟨T, h1, h2, h3⟩ | ⟨h1, h2, h3⟩
    · have := h2.len; rw [H.out.1.su.1] at this; omega
    · rw [h1]; simp; omega
  clear HV HS hcn
  go_loopg [] (2 * q.n + 1) (fun gk wr => ∃ (sn : List Bool) (A : Option Addr) (m c : Nat) (ws : List Nat), 2 * (q.n - cnt sn) + ws.length ≤ gk ∧ Hid (Av w wr w.heap.size w2.heap.size w4.heap.size p g wo sn A m c ws ∧ ((∃ T : Nat, tt = (T : Int) ∧ AI s t wo T sn ws ∧ ws.length ≤ cnt sn) ∨ (ws = [] ∧ sn = List.replicate q.n false ∧ ∀ T : Nat, tt = (T : Int) → ¬ T < q.n ∨ tt = wo))))
  case atStart => exact ⟨sn, A, m, c, ws, hg0, HSt⟩
  case round =>
    clear hg0 HSt
    obtain ⟨sn, A, m, c, ws, hgk, HK⟩ := hrel
    have c0 := cell_i HK.out.1.xv 0
    have ce := cell_i HK.out.1.xe 0
    have cg : wr.heap[P]? = _ := kept_box H.out.1.box HK.out.1.bel
    have g1 := cell_i cg 1
    clear cg
    cases m with
    | zero =>
      have hw0 : ws = [] := List.eq_nil_of_length_eq_zero HK.out.1.len
      subst hw0
      have HEnd := Lib.hid (show AwIs s q.n tt wo sn by
        rcases HK.out.2 with ⟨T, h1, h2, h3⟩ | ⟨h1, h2, h3⟩
        · refine ⟨by rw [h2.len]; exact H.out.1.su.1, fun k => ?_⟩
          rw [h2.all (fun x z h => (H.out.2.1 x z).2 h) k]
          refine ⟨fun h => ⟨T, h1, h⟩, ?_⟩
          rintro ⟨T', h4, h5⟩
          have : T' = T := by omega
          subst this
          exact h5
        · refine ⟨by rw [h2]; simp, fun k => ?_⟩
          rw [list_neg h2]
          refine ⟨fun h => (by cases h), ?_⟩
          rintro ⟨T, h4, h5⟩
          have h6 := h5.no
          have h7 : T < s.length := by
            cases h5 with
            | refl h _ => exact h
            | step _ h _ => exact nx_lt2 H.out.2.1 h H.out.1.su.1 H.out.1.pr.1
          rw [H.out.1.su.1] at h7
          rcases h3 T h4 with h8 | h8
          · omega
          · exact (h6 (by omega)).elim)
      have hz : ¬ ((0 : Nat) : Int) > 0 := by omega
      clear hgk
      go_wp2_with fail
      go_ret
      exact ⟨⟨p, rfl, g, sn, HK.out.1.set, HEnd.out⟩, HK.out.1.bel⟩
    | succ m =>
      obtain ⟨r, b, rfl, hr⟩ := list_last HK.out.1.len
      obtain ⟨gA, rfl, hmc, hcx⟩ := OwnL.some_ (m := m) HK.out.1.row (by rw [nn_len]; exact HK.out.1.len)
      have htop : wr.cell? ⟨gA, m, none⟩ = some (.int .i64 (b : Int)) := by
        have h1 := HK.out.1.row.ints
        rw [nn_len, HK.out.1.len] at h1
        exact ints_last h1 hr
      obtain ⟨T, hT, hAI, hcn⟩ : ∃ T : Nat, tt = (T : Int) ∧ AI s t wo T sn (r ++ [b]) ∧ (r ++ [b]).length ≤ cnt sn := by
        rcases HK.out.2 with h | ⟨h1, _⟩
        · exact h
        · simp at h1
      have hbn : b < q.n := by
        have h1 := hAI.wait b (by simp)
        have h2 := hAI.len
        rw [H.out.1.su.1] at h2
        by_cases h3 : b < q.n
        · exact h3
        · unfold at_ at h1
          rw [List.getD_eq_getElem?_getD, List.getElem?_eq_none (by omega)] at h1
          cases h1
      have hsl : sn.length = q.n := by rw [hAI.len]; exact H.out.1.su.1
      have hm2 : m + 1 ≤ q.n := by
        have := HK.out.1.len
        have := cnt_le sn
        omega
      have hmc2 : cnt sn ≤ q.n := by have := cnt_le sn; omega
      have HAI := Lib.hid (And.intro hAI.pop (And.intro hT hcn))
      have HHr := Lib.hid hr
      have t1 : ((m + 1 : Nat) : Int) > 0 := by omega
      have t2 : IntKind.i64.wrap (((m + 1 : Nat) : Int) - 1) = (m : Int) := by rw [IntKind.wrap_i64]; omega
      have t2' : ((m + 1 : Nat) : Int) - 1 = (m : Int) := by omega
      have t3 : (m : Int) < ((m + 1 : Nat) : Int) := by omega
      have t4 : (m : Int) ≤ (c : Int) := by unfold maxLen at hcx; omega
      have t5 : (b : Int) < (q.n : Int) := by omega
      have cf := froz_i HK.out.1.xv 0
      obtain ⟨wp, hwp⟩ : ∃ wp, wr.setCell ⟨w4.heap.size, 0, none⟩ (.slice (some ⟨gA, 0, none⟩) m c) = wp := ⟨_, rfl⟩
      have HP := Lib.hid (show Av w wp w.heap.size w2.heap.size w4.heap.size p g wo sn (some ⟨gA, 0, none⟩) m c r from by
        have h1 := HK.out.1.row
        rw [nn_app] at h1
        have h2 := HK.out.1.turn (M := fun _ => False) (Mv.refl _ wr) (fun _ h => h.elim) (OwnL.pop (fun _ => rfl) h1) hr (fun b hb => HK.out.1.ap b hb)
        rw [hwp] at h2
        exact h2)
      have cg2 : wp.heap[P]? = _ := kept_box H.out.1.box HP.out.bel
      have g1' := cell_i cg2 1
      obtain ⟨qb, qo, hqB, -, B, L, d, d0, d1⟩ := (H.out.1.pr.below HP.out.bel).at hbn
      have HR := Lib.hid (show IsInts w B L (nn (nx t b)) by
        obtain ⟨qb', qo', hqB', hqlt, B', L', d', d0', d1'⟩ := H.out.1.pr.at hbn
        have e : some (Value.slice B L d) = some (Value.slice B' L' d') := by
          rw [hqB] at hqB'
          injection hqB' with e
          injection e with e1 e2
          subst e1 e2
          rw [← d0, ← d0']
          exact HP.out.bel.cell (p := ⟨qb, qo + b, none⟩) hqlt
        injection e with e
        injection e with e1 e2 e3
        subst e1 e2 e3
        exact d1')
      have hLn : (nx t b).length = L := by rw [← nn_len]; exact d1.1
      have hLm : L ≤ 9223372036854775807 := d1.2.1
      have HLn := Lib.hid hLn
      rw [hqB] at g1'
      clear hr hAI hcn hT d1 cg2 hLn
      go_wp2_with fail
      try rw [hwp]
      obtain ⟨G, hG⟩ : ∃ G, gk = G := ⟨_, rfl⟩
      rw [hG] at hgk
      clear hwp c0 ce g1 g1' htop cf d0
      have HC := Lib.hid (And.intro hm2 hmc2)
      have hgk2 : 2 * (q.n - cnt sn) + r.length + 1 ≤ G := by rw [List.length_append] at hgk; simp at hgk; omega
      have hr2 : r.length + 1 ≤ cnt sn := by have := HAI.out.2.2; rw [List.length_append] at this; simpa using this
      have HI0 := Lib.hid (show AJ s t wo T b 0 sn r ∧ r.length ≤ cnt sn ∧ 2 * (q.n - cnt sn) + r.length + 1 ≤ G from ⟨HAI.out.1, by omega, hgk2⟩)
      clear hgk hgk2 hr2 hm2 hmc2 hsl
      go_loopg [42] L (fun gk' s42 wr => ∃ (j : Nat) (sn : List Bool) (A : Option Addr) (m c : Nat) (ws : List Nat), j + gk' = L ∧ s42 = .int .i64 (j : Int) ∧ Hid (Av w wr w.heap.size w2.heap.size w4.heap.size p g wo sn A m c ws ∧ AJ s t wo T b j sn ws ∧ ws.length ≤ cnt sn ∧ 2 * (q.n - cnt sn) + ws.length + 1 ≤ G))
      case atStart => exact ⟨0, sn, _, m, c, r, by omega, rfl, Lib.hid ⟨HP.out, HI0.out⟩⟩
      case round =>
        obtain ⟨j, sn, A, m, c, ws, hj, rfl, HJ⟩ := hrel
        have hsl : sn.length = q.n := by rw [HJ.out.2.1.len]; exact H.out.1.su.1
        by_cases hjl : j < L
        · have t6 : (j : Int) < (L : Int) := by omega
          obtain ⟨vb, vo, rfl, -, y, hy, v0⟩ := (HR.out.below HJ.out.1.bel).at hjl
          obtain ⟨yy, hyy, rfl⟩ : ∃ yy, (nx t b)[j]? = some yy ∧ y = (yy : Int) := by
            unfold nn at hy
            rw [List.getElem?_map] at hy
            obtain ⟨yy, h1, h2⟩ := Option.map_eq_some_iff.1 hy
            exact ⟨yy, h1, h2.symm⟩
          have hyl : yy < s.length := nx_lt ((H.out.2.1 b yy).1 (List.mem_of_getElem? hyy))
          have hmw : m ≤ 1000 := by
            have h1 := HJ.out.1.len
            have h2 := HJ.out.2.2.1
            have h3 := cnt_le sn
            have h4 := H.out.2.2
            omega
          have HE := Lib.hid (enter_v w w.heap.size w2.heap.size w4.heap.size p g wo sn A m c ws wr (yy : Int) HJ.out.1 hmw)
          have HY := Lib.hid (And.intro hyy (And.intro hyl hsl))
          clear hy hyy hyl hsl hmw
          go_wp2_with fail
          refine HE.out.mono ?_
          rintro e w7 ⟨rfl, sn', A', m', c', ws', ha, hcase⟩
          have HV := Lib.hid ha
          have HN := Lib.hid (show AJ s t wo T b (j + 1) sn' ws' ∧ ws'.length ≤ cnt sn' ∧ 2 * (q.n - cnt sn') + ws'.length + 1 ≤ G by
            rcases hcase with ⟨h1, h2, h3⟩ | ⟨h1, k, h2, h3, h4, h5, h6⟩
            · subst h2 h3
              refine ⟨HJ.out.2.1.skip HY.out.1 ?_, HJ.out.2.2⟩
              rcases h1 with h1 | h1 | h1
              · exact .inl h1
              · have := HY.out.2
                rw [H.out.1.su.1] at this
                omega
              · exact .inr h1
            · have hk : k = yy := by omega
              subst hk
              subst h5 h6
              have h7 := set_cnt h3 h4
              have h8 := cnt_le (sn.set k true)
              rw [List.length_set] at h8
              have h9 := HY.out.2.2
              refine ⟨HJ.out.2.1.push (fun x z h => (H.out.2.1 x z).1 h) HY.out.1 HY.out.2.1 h1, ?_, ?_⟩
              · rw [List.length_append]
                have := HJ.out.2.2.1
                simp
                omega
              · rw [List.length_append]
                have := HJ.out.2.2.2
                simp
                omega)
          clear ha hcase
          go_wp2_with fail
          go_roundg (L - j - 1)
          case measure => omega
          case rel => exact ⟨j + 1, sn', A', m', c', ws', by omega, by go_num, Lib.hid ⟨HV.out, HN.out⟩⟩
        · obtain rfl : j = L := by omega
          have t6 : ¬ (j : Int) < (j : Int) := by omega
          have HF := Lib.hid (show AI s t wo T sn ws from HJ.out.2.1.end_ (Nat.le_of_eq HLn.out))
          have hlt := HJ.out.2.2.2
          go_wp2_with fail
          go_roundg (G - 1)
          case measure => omega
          case rel => exact ⟨sn, A, m, c, ws, by omega, Lib.hid ⟨HJ.out.1, .inl ⟨T, HAI.out.2.1, HF.out, HJ.out.2.2.1⟩⟩⟩
end Go.Proofs.Ytojfbcfbnadboaa.Gra
