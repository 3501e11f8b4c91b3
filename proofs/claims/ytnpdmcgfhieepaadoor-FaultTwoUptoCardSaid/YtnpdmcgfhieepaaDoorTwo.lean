/- FaultTwo: two errors are told as one text just if they are of one code, at one place, within the same, where no part has a colon. -/
import Derived.Test.YtnpdmcgfhieepaaDoorTwoA
namespace Go.Proofs.YtnpdmcgfhieepaaDoor
open Go.RowKit Go.Extern.Stop Go.Stop Go.Extern
set_option linter.unusedVariables false

/-- What stands behind the two appends: all texts in a slice of its own, and the two arrays as they came. -/
structure Stand (w : World) (x0 y0 x1 y1 : Int) (C : Option Addr) (c : Nat) (L : List ByteArray) (w2 : World) : Prop where
  own : Owns w.heap.size w2 C c L
  below : Below w.heap.size w w2
  one : w2.heap[w.heap.size]? = some (.cells #[.int .i64 x0, .int .i64 y0] 36 (0, 0))
  two : w2.heap[w.heap.size + 1]? = some (.cells #[.int .i64 x1, .int .i64 y1] 36 (0, 0))
theorem Stand.next {w : World} {x0 y0 x1 y1 : Int} {C : Option Addr} {c : Nat} {L : List ByteArray} {w2 w3 : World} (h : Stand w x0 y0 x1 y1 C c L w2) (hb : Below w2.heap.size w2 w3) : Stand w x0 y0 x1 y1 C c L w3 :=
  ⟨h.own.below hb, h.below.trans (hb.mono h.below.size), Keeps.below hb _ _ 36 (by decide) (by decide) h.one, Keeps.below hb _ _ 36 (by decide) (by decide) h.two⟩
theorem grow_keep {w w' : World} {v : Value} {n : Nat} {xs : List Value} {base k : Nat} {cs : Array Value} (ho : w.ownsRow base 9 1 v n xs) (hg : w.grownBy w' v.ownBlock) (hk : w.heap[k]? = some (.cells cs 36 (0, 0))) : w'.heap[k]? = some (.cells cs 36 (0, 0)) := by
  rw [hg.block k (row_lt hk) (fun e => Lib.ownBlock_ne ho hk (by decide) e.symm)]; exact hk
theorem byte_at (s : ByteArray) (k : Nat) (h : k < s.size) : s.data.toList[k]? = some s[k] := by
  rw [List.getElem?_eq_getElem (by rw [size_list]; exact h)]; rfl
theorem plain_of {s : ByteArray} (h : ∀ t, t < s.size → s.data.toList[t]? ≠ some 58) : Plain s := by
  intro c hc e
  subst e
  obtain ⟨t, ht, he⟩ := List.mem_iff_getElem.1 hc
  exact h t (by rw [size_list] at ht; exact ht) (by rw [List.getElem?_eq_getElem ht, he])
theorem u8_58 (b : UInt8) : b = 58 ↔ b.toNat = 58 := ⟨fun h => by rw [h]; rfl, fun h => UInt8.toNat_inj.1 h⟩
set_option maxRecDepth 100000 in
set_option maxHeartbeats 2000000 in
theorem two_v (x0 y0 x1 y1 : Int) (hx0 : ¬ x0 = 0) (hx1 : ¬ x1 = 0) (A B : Option Addr) (capA capB N M : Nat) (ss rr : List ByteArray) (R S : ByteArray) (z : Bool) (hN : ss.length = N) (hM : rr.length = M) (hlN : N ≤ 12) (hlM : M ≤ 12)
    (hsN : (heads ss).length ≤ 100000000) (hsM : (heads rr).length ≤ 100000000) (f0 : Deci.fit x0) (g0 : Deci.fit y0) (f1 : Deci.fit x1) (g1 : Deci.fit y1)
    (hR : full x0 y0 ss = R.data.toList) (hS : full x1 y1 rr = S.data.toList) (hz : (R.toList == S.toList) = z)
    (hzt : x0 = x1 → y0 = y1 → ss = rr → z = true) (hzf : (∀ s ∈ ss, Plain s) → (∀ s ∈ rr, Plain s) → z = true → x0 = x1 ∧ y0 = y1 ∧ ss = rr)
    (w : World) (hA : Strs w A ss) (hB : Strs w B rr) (cA : A = none → capA = 0) (cB : B = none → capB = 0) (hg : Glob w) :
    Calls Tryd.prog 5 #[.agg #[.int .i64 x0, .int .i64 y0], .agg #[.int .i64 x1, .int .i64 y1], .slice A N capA, .slice B M capB] w fun e w' => e = .returned (.bool true) ∧ Below w.heap.size w w' := by
  obtain ⟨i0, hi0, hz0, hz1, hz2⟩ := info_parts info9
  have I0 := Lib.hid (And.intro hi0 (And.intro hz0 (And.intro hz1 hz2)))
  clear hi0 hz0 hz1 hz2
  have q0 := int_beq hx0
  have q1 := int_beq hx1
  have hN1 : N ≤ 1000 := by omega
  have hM1 : M ≤ 1000 := by omega
  have d1 : decide (12 < N) = false := by rw [decide_eq_false_iff_not]; omega
  have d2 : decide (12 < M) = false := by rw [decide_eq_false_iff_not]; omega
  have d1' : decide ((12 : Int) < (N : Int)) = false := by rw [decide_eq_false_iff_not]; omega
  have d2' : decide ((12 : Int) < (M : Int)) = false := by rw [decide_eq_false_iff_not]; omega
  have HL := Lib.hid (And.intro hN hM)
  have HA := Lib.hid (And.intro hA cA)
  have HB := Lib.hid (And.intro hB cB)
  have HG := Lib.hid hg
  have HX := Lib.hid (And.intro hx0 hx1)
  have HS := Lib.hid (And.intro hsN hsM)
  have HF := Lib.hid (And.intro f0 (And.intro g0 (And.intro f1 g1)))
  have HR := Lib.hid (And.intro hR hS)
  have HZ := Lib.hid (And.intro hz (And.intro hzt hzf))
  have nA := Lib.hid (strs_nil hA cA)
  have nB := Lib.hid (strs_nil hB cB)
  clear hN hM hA hB cA cB hg hx0 hx1 hsN hsM f0 g0 f1 g1 hR hS hz hzt hzf
  have own0 : (((w.alloc (.cells #[.int .i64 x0, .int .i64 y0] 36)).alloc (.cells #[.int .i64 x1, .int .i64 y1] 36)).alloc (.cells #[] 9)).ownsRow w.heap.size 9 1 (.slice (some ⟨w.heap.size + 1 + 1, 0, none⟩) 0 0) 0 [] := by
    have h := World.ownsRow_made (base := w.heap.size) (e := 9) (size := 1) ((w.alloc (.cells #[.int .i64 x0, .int .i64 y0] 36)).alloc (.cells #[.int .i64 x1, .int .i64 y1] 36)) #[] 0 (by simp; omega) (by decide) rfl
    simpa using h
  have hb0 : Below w.heap.size w (((w.alloc (.cells #[.int .i64 x0, .int .i64 y0] 36)).alloc (.cells #[.int .i64 x1, .int .i64 y1] 36)).alloc (.cells #[] 9)) := (((Below.refl _ w).alloc (Nat.le_refl _) _).alloc (by simp) _).alloc (by simp; omega) _
  have hl1 : (texts ss).length = N * 1 := by rw [Nat.mul_one, ← HL.out.1]; simp [texts]
  have hl2 : (texts rr).length = M * 1 := by rw [Nat.mul_one, ← HL.out.2]; simp [texts]
  have n1 := nA.out
  have n2 := nB.out
  rw [HL.out.1] at n1
  rw [HL.out.2] at n2
  have W0 := Lib.hid (And.intro own0 (And.intro hb0 (And.intro hl1 (And.intro hl2 (And.intro n1 (And.intro n2 (strs_news (HA.out.1.below hb0))))))))
  clear own0 hb0 hl1 hl2 n1 n2
  go_enter Tryd.func5, Tryd.ntmps5
  go_wp2_with (at_builtin; refine wpList_append_any rfl _ _ 23 rfl w.heap.size 9 i0 (.string ⟨#[]⟩) 1 16 Tryd.underlying23 I0.out.1 I0.out.2.1 I0.out.2.2.1 I0.out.2.2.2 rfl (by decide) _ 0 [] rfl W0.out.1 A N capA (texts ss) rfl W0.out.2.2.2.2.1 W0.out.2.2.1 W0.out.2.2.2.2.2.2 (one_texts _) (by unfold maxLen; omega) (by omega) (Nat.le_trans (Nat.le_refl _) W0.out.2.1.size) ?_)
  intro v1 w1 ho1 hg1
  have own0 := W0.out.1
  have hb0 := W0.out.2.1
  have hb1 : Below w.heap.size w w1 := hb0.grown hg1 hb0.size (fun k hk => (own0.lt k hk).1)
  have o1 : w1.heap[w.heap.size]? = some (.cells #[.int .i64 x0, .int .i64 y0] 36 (0, 0)) :=
    grow_keep own0 hg1 (by rw [Below.heap_alloc _ _ _ (by simp; omega), Below.heap_alloc _ _ _ (by simp)]; exact heap_alloc_new w _)
  have t1 : w1.heap[w.heap.size + 1]? = some (.cells #[.int .i64 x1, .int .i64 y1] 36 (0, 0)) :=
    grow_keep own0 hg1 (by rw [Below.heap_alloc _ _ _ (by simp)]; exact heap_alloc2_new w _ _)
  have ho1' : w1.ownsRow w.heap.size 9 1 v1 N (texts ss) := by simpa using ho1
  obtain ⟨C1, c1, rfl⟩ := own_form_any ho1'
  have H1 := Lib.hid (And.intro ho1' (And.intro hb1 (And.intro o1 t1)))
  clear ho1 hg1 own0 hb0 hb1 o1 t1 ho1'
  go_wp2_with (at_builtin; refine wpList_append_any rfl _ _ 23 rfl w.heap.size 9 i0 (.string ⟨#[]⟩) 1 16 Tryd.underlying23 I0.out.1 I0.out.2.1 I0.out.2.2.1 I0.out.2.2.2 rfl (by decide) _ N (texts ss) rfl H1.out.1 B M capB (texts rr) rfl W0.out.2.2.2.2.2.1 W0.out.2.2.2.1 (strs_news (HB.out.1.below H1.out.2.1)) (one_texts _) (by unfold maxLen; omega) (by omega) H1.out.2.1.size ?_)
  intro v2 w2 ho2 hg2
  obtain ⟨K, hK⟩ : ∃ K, N + M = K := ⟨_, rfl⟩
  have hKl : K ≤ 24 := by omega
  have hcat : texts ss ++ texts rr = texts (ss ++ rr) := by unfold texts; rw [List.map_append]
  rw [hcat, hK] at ho2
  obtain ⟨C, c, rfl⟩ := own_form_any ho2
  have hlen : (ss ++ rr).length = K := by rw [List.length_append, HL.out.1, HL.out.2, hK]
  have hst : Stand w x0 y0 x1 y1 C c (ss ++ rr) w2 :=
    ⟨by unfold Owns; rw [hlen]; exact ho2, H1.out.2.1.grown hg2 H1.out.2.1.size (fun k hk => (H1.out.1.lt k hk).1), grow_keep H1.out.1 hg2 H1.out.2.2.1, grow_keep H1.out.1 hg2 H1.out.2.2.2⟩
  obtain ⟨L, hL⟩ : ∃ L, ss ++ rr = L := ⟨_, rfl⟩
  rw [hL] at hst hlen
  have H2 := Lib.hid (And.intro hst (And.intro hlen hL))
  have HK := Lib.hid hK
  clear ho2 hg2 hst hlen hL hcat H1 hK nA nB
  have hsz : ∀ s ∈ L, s.size ≤ 100000000 := by
    intro s hs
    rw [← H2.out.2.2] at hs
    rcases List.mem_append.1 hs with h | h
    · obtain ⟨j, hj, he⟩ := List.mem_iff_getElem.1 h
      rw [← he]; exact Nat.le_trans (heads_size hj) HS.out.1
    · obtain ⟨j, hj, he⟩ := List.mem_iff_getElem.1 h
      rw [← he]; exact Nat.le_trans (heads_size hj) HS.out.2
  have HSZ := Lib.hid hsz
  clear hsz
  go_wp2_with fail
  go_loopg [10] K (fun gk v wr => ∃ i : Nat, i + gk = K ∧ v = .int .i64 (i : Int) ∧ w2 = wr ∧ Hid (∀ j, j < i → ∀ s, L[j]? = some s → Plain s))
  case atStart => exact ⟨0, by omega, rfl, rfl, fun j hj => absurd hj (by omega)⟩
  case round =>
    obtain ⟨i, hi, rfl, rfl, HP⟩ := hrel
    by_cases hgk : gk = 0
    · subst hgk
      obtain rfl : i = K := by omega
      clear hi
      have hpl : ∀ s ∈ L, Plain s := fun s hs => by
        obtain ⟨j, hj, he⟩ := List.mem_iff_getElem.1 hs
        exact HP.out j (by rw [H2.out.2.1] at hj; exact hj) s (by rw [List.getElem?_eq_getElem hj, he])
      have hp1 : ∀ s ∈ ss, Plain s := fun s hs => hpl s (by rw [← H2.out.2.2]; exact List.mem_append_left _ hs)
      have hp2 : ∀ s ∈ rr, Plain s := fun s hs => hpl s (by rw [← H2.out.2.2]; exact List.mem_append_right _ hs)
      have HZF := Lib.hid (HZ.out.2.2 hp1 hp2)
      clear hpl hp1 hp2
      have c00 : w2.cell? ⟨w.heap.size, 0, none⟩ = some (.int .i64 x0) := by rw [Lib.cell_of_heap H2.out.1.one]; rfl
      have c01 : w2.cell? ⟨w.heap.size, 1, none⟩ = some (.int .i64 y0) := by rw [Lib.cell_of_heap H2.out.1.one]; rfl
      have c10 : w2.cell? ⟨w.heap.size + 1, 0, none⟩ = some (.int .i64 x1) := by rw [Lib.cell_of_heap H2.out.1.two]; rfl
      have c11 : w2.cell? ⟨w.heap.size + 1, 1, none⟩ = some (.int .i64 y1) := by rw [Lib.cell_of_heap H2.out.1.two]; rfl
      by_cases hE : x0 = x1 ∧ y0 = y1
      · have heq : ∀ w : World, (binOp .eql 36 (.agg #[.int .i64 x0, .int .i64 y0]) (.agg #[.int .i64 x1, .int .i64 y1])).run Tryd.prog w = .ok (.bool true) w := fun w => by rw [eql36]; simp [hE.1, hE.2]
        have HE := Lib.hid hE
        clear hE
        by_cases hNM : N = M
        · subst hNM
          go_wp2_with fail
          clear c00 c01 c10 c11 heq
          go_loopg [12, 13] (N + 1) (fun gk sv iv wr => ∃ (sb : Bool) (i : Nat), sv = .bool sb ∧ iv = .int .i64 (i : Int) ∧ i ≤ N ∧ Hid (Below w2.heap.size w2 wr ∧ (sb = true → gk + i = N + 1 ∧ ss.take i = rr.take i) ∧ (sb = false → gk = 0 ∧ ss ≠ rr)))
          case atStart => exact ⟨true, 0, rfl, rfl, by omega, Below.refl _ _, fun _ => ⟨by omega, rfl⟩, fun h => by cases h⟩
          case round =>
            obtain ⟨sb, i, rfl, rfl, hi, HH⟩ := hrel
            have BS := Lib.hid (H2.out.1.next HH.out.1)
            cases sb with
            | false =>
              have hz : (R.toList == S.toList) = false := by
                rw [HZ.out.1]
                cases hzz : z with
                | false => rfl
                | true => exact absurd (HZF.out hzz).2.2 (HH.out.2.2 rfl).2
              have k00 : wr.cell? ⟨w.heap.size, 0, none⟩ = some (.int .i64 x0) := by rw [Lib.cell_of_heap BS.out.one]; rfl
              have k01 : wr.cell? ⟨w.heap.size, 1, none⟩ = some (.int .i64 y0) := by rw [Lib.cell_of_heap BS.out.one]; rfl
              have k10 : wr.cell? ⟨w.heap.size + 1, 0, none⟩ = some (.int .i64 x1) := by rw [Lib.cell_of_heap BS.out.two]; rfl
              have k11 : wr.cell? ⟨w.heap.size + 1, 1, none⟩ = some (.int .i64 y1) := by rw [Lib.cell_of_heap BS.out.two]; rfl
              go_wp2_with fail
              go_quiet (first | (go_at_call_of 7 (Value.int .i64 x0); exact made_d x0 y0 HX.out.1 A capA N ss HL.out.1 hN1 w wr _ HA.out.1 BS.out.below) | (go_at_call_of 7 (Value.int .i64 x1); exact made_d x1 y1 HX.out.2 B capB N rr HL.out.2 hM1 w wr _ HB.out.1 BS.out.below))
              go_wp2_with fail
              refine (text_v x0 y0 ss R (by rw [HL.out.1]; omega) HS.out.1 HF.out.1 HF.out.2.1 HR.out.1 _ (HG.out.next (BS.out.below.trans (below_drewN _ _ _)))).mono ?_
              rintro e w4 ⟨rfl, hb⟩
              have B4 := Lib.hid ((BS.out.below.trans (below_drewN _ _ _)).trans (hb.mono BS.out.below.size))
              clear hb
              go_wp2_with fail
              refine (text_v x1 y1 rr S (by rw [HL.out.2]; omega) HS.out.2 HF.out.2.2.1 HF.out.2.2.2 HR.out.2 _ (HG.out.next B4.out)).mono ?_
              rintro e w5 ⟨rfl, hb⟩
              have B5 := Lib.hid (B4.out.trans (hb.mono B4.out.size))
              clear hb
              go_wp2_with fail
              refine (works_v _ (HG.out.next B5.out)).mono ?_
              rintro e w6 ⟨rfl, hb⟩
              have B6 := Lib.hid (B5.out.trans (hb.mono B5.out.size))
              clear hb
              go_wp2_with fail
              go_ret
              exact ⟨rfl, B6.out⟩
            | true =>
              have hgi := (HH.out.2.1 rfl).1
              by_cases hN : i = N
              · subst hN
                have hz : (R.toList == S.toList) = true := by
                  rw [HZ.out.1]
                  have h := (HH.out.2.1 rfl).2
                  rw [List.take_of_length_le (by rw [HL.out.1]; exact Nat.le_refl _), List.take_of_length_le (by rw [HL.out.2]; exact Nat.le_refl _)] at h
                  exact HZ.out.2.1 HE.out.1 HE.out.2 h
                clear hgi
                have k00 : wr.cell? ⟨w.heap.size, 0, none⟩ = some (.int .i64 x0) := by rw [Lib.cell_of_heap BS.out.one]; rfl
                have k01 : wr.cell? ⟨w.heap.size, 1, none⟩ = some (.int .i64 y0) := by rw [Lib.cell_of_heap BS.out.one]; rfl
                have k10 : wr.cell? ⟨w.heap.size + 1, 0, none⟩ = some (.int .i64 x1) := by rw [Lib.cell_of_heap BS.out.two]; rfl
                have k11 : wr.cell? ⟨w.heap.size + 1, 1, none⟩ = some (.int .i64 y1) := by rw [Lib.cell_of_heap BS.out.two]; rfl
                go_wp2_with fail
                go_quiet (first | (go_at_call_of 7 (Value.int .i64 x0); exact made_d x0 y0 HX.out.1 A capA i ss HL.out.1 hN1 w wr _ HA.out.1 BS.out.below) | (go_at_call_of 7 (Value.int .i64 x1); exact made_d x1 y1 HX.out.2 B capB i rr HL.out.2 hM1 w wr _ HB.out.1 BS.out.below))
                go_wp2_with fail
                refine (text_v x0 y0 ss R (by rw [HL.out.1]; omega) HS.out.1 HF.out.1 HF.out.2.1 HR.out.1 _ (HG.out.next (BS.out.below.trans (below_drewN _ _ _)))).mono ?_
                rintro e w4 ⟨rfl, hb⟩
                have B4 := Lib.hid ((BS.out.below.trans (below_drewN _ _ _)).trans (hb.mono BS.out.below.size))
                clear hb
                go_wp2_with fail
                refine (text_v x1 y1 rr S (by rw [HL.out.2]; omega) HS.out.2 HF.out.2.2.1 HF.out.2.2.2 HR.out.2 _ (HG.out.next B4.out)).mono ?_
                rintro e w5 ⟨rfl, hb⟩
                have B5 := Lib.hid (B4.out.trans (hb.mono B4.out.size))
                clear hb
                go_wp2_with fail
                refine (works_v _ (HG.out.next B5.out)).mono ?_
                rintro e w6 ⟨rfl, hb⟩
                have B6 := Lib.hid (B5.out.trans (hb.mono B5.out.size))
                clear hb
                go_wp2_with fail
                go_ret
                exact ⟨rfl, B6.out⟩
              · have h1 : i < ss.length := by rw [HL.out.1]; omega
                have h2 : i < rr.length := by rw [HL.out.2]; omega
                obtain ⟨b1, o1, p, hA, hp, hc1⟩ := (HA.out.1.below BS.out.below).at i h1
                obtain ⟨b2, o2, r, hB, hr, hc2⟩ := (HB.out.1.below BS.out.below).at i h2
                obtain ⟨y, hy⟩ : ∃ y, (p.toList == r.toList) = y := ⟨_, rfl⟩
                have hnx : (y = true → ss.take (i + 1) = rr.take (i + 1)) ∧ (y = false → ss ≠ rr) := by
                  refine ⟨fun h => ?_, fun h e => ?_⟩
                  · rw [List.take_succ_eq_append_getElem h1, List.take_succ_eq_append_getElem h2, (HH.out.2.1 rfl).2, hp, hr]
                    have : p = r := by
                      rw [h, beq_iff_eq, Lib.toList_data, Lib.toList_data] at hy
                      exact bytes_eq hy
                    rw [this]
                  · have : p = r := by rw [← hp, ← hr]; simp only [e]
                    rw [this] at hy
                    simp [h] at hy
                have HX2 := Lib.hid hnx
                have HGI := Lib.hid hgi
                have hiN : i < N := by omega
                have hiN' : (i : Int) < (N : Int) := by omega
                clear hp hr hnx h1 h2 hgi hN
                subst hA hB
                go_wp2_with fail
                go_quiet (fail)
                go_wp2_with fail
                go_roundg (if y then N - i else 0)
                case measure => have := HGI.out; split <;> omega
                case rel =>
                  refine ⟨y, i + 1, rfl, by go_num, by omega, HH.out.1.trans (below_drewN _ _ _), fun h => ⟨by rw [h]; simp; omega, HX2.out.1 h⟩, fun h => ⟨by rw [h]; rfl, HX2.out.2 h⟩⟩
        · have hnm : ((N : Int) == (M : Int)) = false := by rw [beq_eq_false_iff_ne]; omega
          have hz : (R.toList == S.toList) = false := by
            rw [HZ.out.1]
            cases hzz : z with
            | false => rfl
            | true =>
              have h := congrArg List.length (HZF.out hzz).2.2
              rw [HL.out.1, HL.out.2] at h
              exact absurd h hNM
          clear hNM
          go_wp2_with fail
          refine wp_loop_rounds 1 ?_
          rw [rounds_succ]
          have BS := Lib.hid H2.out.1
          generalize w2 = wr at *
          have k00 : wr.cell? ⟨w.heap.size, 0, none⟩ = some (.int .i64 x0) := by rw [Lib.cell_of_heap BS.out.one]; rfl
          have k01 : wr.cell? ⟨w.heap.size, 1, none⟩ = some (.int .i64 y0) := by rw [Lib.cell_of_heap BS.out.one]; rfl
          have k10 : wr.cell? ⟨w.heap.size + 1, 0, none⟩ = some (.int .i64 x1) := by rw [Lib.cell_of_heap BS.out.two]; rfl
          have k11 : wr.cell? ⟨w.heap.size + 1, 1, none⟩ = some (.int .i64 y1) := by rw [Lib.cell_of_heap BS.out.two]; rfl
          go_wp2_with fail
          go_quiet (first | (go_at_call_of 7 (Value.int .i64 x0); exact made_d x0 y0 HX.out.1 A capA N ss HL.out.1 hN1 w wr _ HA.out.1 BS.out.below) | (go_at_call_of 7 (Value.int .i64 x1); exact made_d x1 y1 HX.out.2 B capB M rr HL.out.2 hM1 w wr _ HB.out.1 BS.out.below))
          go_wp2_with fail
          refine (text_v x0 y0 ss R (by rw [HL.out.1]; omega) HS.out.1 HF.out.1 HF.out.2.1 HR.out.1 _ (HG.out.next (BS.out.below.trans (below_drewN _ _ _)))).mono ?_
          rintro e w4 ⟨rfl, hb⟩
          have B4 := Lib.hid ((BS.out.below.trans (below_drewN _ _ _)).trans (hb.mono BS.out.below.size))
          clear hb
          go_wp2_with fail
          refine (text_v x1 y1 rr S (by rw [HL.out.2]; omega) HS.out.2 HF.out.2.2.1 HF.out.2.2.2 HR.out.2 _ (HG.out.next B4.out)).mono ?_
          rintro e w5 ⟨rfl, hb⟩
          have B5 := Lib.hid (B4.out.trans (hb.mono B4.out.size))
          clear hb
          go_wp2_with fail
          refine (works_v _ (HG.out.next B5.out)).mono ?_
          rintro e w6 ⟨rfl, hb⟩
          have B6 := Lib.hid (B5.out.trans (hb.mono B5.out.size))
          clear hb
          go_wp2_with fail
          go_ret
          exact ⟨rfl, B6.out⟩
      · have heq : ∀ w : World, (binOp .eql 36 (.agg #[.int .i64 x0, .int .i64 y0]) (.agg #[.int .i64 x1, .int .i64 y1])).run Tryd.prog w = .ok (.bool false) w := fun w => by
          rw [eql36]
          have : (x0 == x1 && y0 == y1) = false := by
            rw [Bool.and_eq_false_iff, beq_eq_false_iff_ne, beq_eq_false_iff_ne]
            by_cases h : x0 = x1
            · exact .inr (fun k => hE ⟨h, k⟩)
            · exact .inl h
          rw [this]
        have hz : (R.toList == S.toList) = false := by
          rw [HZ.out.1]
          cases hzz : z with
          | false => rfl
          | true => exact absurd ⟨(HZF.out hzz).1, (HZF.out hzz).2.1⟩ hE
        clear hE
        go_wp2_with fail
        refine wp_loop_rounds 1 ?_
        rw [rounds_succ]
        have BS := Lib.hid H2.out.1
        generalize w2 = wr at *
        have k00 : wr.cell? ⟨w.heap.size, 0, none⟩ = some (.int .i64 x0) := by rw [Lib.cell_of_heap BS.out.one]; rfl
        have k01 : wr.cell? ⟨w.heap.size, 1, none⟩ = some (.int .i64 y0) := by rw [Lib.cell_of_heap BS.out.one]; rfl
        have k10 : wr.cell? ⟨w.heap.size + 1, 0, none⟩ = some (.int .i64 x1) := by rw [Lib.cell_of_heap BS.out.two]; rfl
        have k11 : wr.cell? ⟨w.heap.size + 1, 1, none⟩ = some (.int .i64 y1) := by rw [Lib.cell_of_heap BS.out.two]; rfl
        go_wp2_with fail
        go_quiet (first | (go_at_call_of 7 (Value.int .i64 x0); exact made_d x0 y0 HX.out.1 A capA N ss HL.out.1 hN1 w wr _ HA.out.1 BS.out.below) | (go_at_call_of 7 (Value.int .i64 x1); exact made_d x1 y1 HX.out.2 B capB M rr HL.out.2 hM1 w wr _ HB.out.1 BS.out.below))
        go_wp2_with fail
        refine (text_v x0 y0 ss R (by rw [HL.out.1]; omega) HS.out.1 HF.out.1 HF.out.2.1 HR.out.1 _ (HG.out.next (BS.out.below.trans (below_drewN _ _ _)))).mono ?_
        rintro e w4 ⟨rfl, hb⟩
        have B4 := Lib.hid ((BS.out.below.trans (below_drewN _ _ _)).trans (hb.mono BS.out.below.size))
        clear hb
        go_wp2_with fail
        refine (text_v x1 y1 rr S (by rw [HL.out.2]; omega) HS.out.2 HF.out.2.2.1 HF.out.2.2.2 HR.out.2 _ (HG.out.next B4.out)).mono ?_
        rintro e w5 ⟨rfl, hb⟩
        have B5 := Lib.hid (B4.out.trans (hb.mono B4.out.size))
        clear hb
        go_wp2_with fail
        refine (works_v _ (HG.out.next B5.out)).mono ?_
        rintro e w6 ⟨rfl, hb⟩
        have B6 := Lib.hid (B5.out.trans (hb.mono B5.out.size))
        clear hb
        go_wp2_with fail
        go_ret
        exact ⟨rfl, B6.out⟩
    · obtain ⟨q, rfl⟩ : ∃ q, gk = q + 1 := ⟨gk - 1, by omega⟩
      have hq : i < L.length := by rw [H2.out.2.1]; omega
      obtain ⟨g, hC, hcell⟩ := H2.out.1.own.at i hq
      obtain ⟨s, hs⟩ : ∃ s, L[i] = s := ⟨_, rfl⟩
      rw [hs] at hcell
      have hss : s.size ≤ 100000000 := HSZ.out s (by rw [← hs]; exact List.getElem_mem hq)
      have hls : L[i]? = some s := by rw [List.getElem?_eq_getElem hq, hs]
      have HLS := Lib.hid hls
      have hqN : i < K := by omega
      have hqN' : (i : Int) < (K : Int) := by omega
      have HI := Lib.hid hi
      clear hs hls hq hi hgk
      subst hC
      go_wp2_with fail
      go_loopg [11] s.size (fun gk v wr => ∃ k : Nat, k + gk = s.size ∧ v = .int .i64 (k : Int) ∧ w2 = wr ∧ Hid (∀ t, t < k → s.data.toList[t]? ≠ some 58))
      case atStart => exact ⟨0, by omega, rfl, rfl, fun j hj => absurd hj (by omega)⟩
      case round =>
        obtain ⟨k, hk, rfl, rfl, HT⟩ := hrel
        by_cases hgk : gk = 0
        · subst hgk
          obtain rfl : k = s.size := by omega
          have HPL : Hid (Plain s) := plain_of HT.out
          clear hk
          go_wp2_with fail
          go_roundg q
          case measure => omega
          case rel =>
            refine ⟨i + 1, by have := HI.out; omega, by go_num, rfl, fun j hj t ht => ?_⟩
            rcases Nat.lt_or_ge j i with h | h
            · exact HP.out j h t ht
            · obtain rfl : j = i := by omega
              rw [HLS.out] at ht
              injection ht with ht
              rw [← ht]; exact HPL.out
        · obtain ⟨r, rfl⟩ : ∃ r, gk = r + 1 := ⟨gk - 1, by omega⟩
          have hks : k < s.size := by omega
          have hks' : (k : Int) < (s.size : Int) := by omega
          by_cases hb : s[k] = 58
          · have hb' : ((s[k].toNat : Int) == 58) = true := by rw [hb]; rfl
            clear hb hk hgk
            go_wp2_with fail
            refine (works_v _ (HG.out.next H2.out.1.below)).mono ?_
            rintro e w3 ⟨rfl, hb3⟩
            have B3 := Lib.hid (H2.out.1.below.trans (hb3.mono H2.out.1.below.size))
            clear hb3
            go_wp2_with fail
            go_ret
            exact ⟨rfl, B3.out⟩
          · have hb' : ((s[k].toNat : Int) == 58) = false := by
              rw [beq_eq_false_iff_ne]
              intro e
              exact hb ((u8_58 _).2 (by omega))
            have HBB := Lib.hid hb
            have HKK := Lib.hid hk
            clear hb hk hgk
            go_wp2_with fail
            go_roundg r
            case measure => omega
            case rel =>
              refine ⟨k + 1, by have := HKK.out; omega, by go_num, rfl, fun t ht => ?_⟩
              rcases Nat.lt_or_ge t k with h | h
              · exact HT.out t h
              · obtain rfl : t = k := by omega
                rw [byte_at s t hks]
                intro e
                injection e with e
                exact HBB.out e
end Go.Proofs.YtnpdmcgfhieepaaDoor
