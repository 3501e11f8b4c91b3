
/- Where two places meet, and where all hang at last: the program's walks. -/
import Derived.Test.YtojfbcfbnadboaaDomMem
import Derived.Test.YtojfbcfbnadboaaDomNr
namespace Go.Proofs.Ytojfbcfbnadboaa.Gra
open Go.ChangeShapes Go.WideShapes Go.RowKit Par
set_option linter.unusedVariables false
set_option maxRecDepth 20000
set_option maxHeartbeats 4000000

/-- What hangs where, as the program keeps it. -/
def ovI (ov : Nat → Nat) (k : Nat) : Int := if k = 0 then -1 else ((ov k : Nat) : Int)
theorem ovI_pos {ov : Nat → Nat} {k : Nat} (h : 0 < k) : ovI ov k = ((ov k : Nat) : Int) := if_neg (by omega)
theorem ovI_put {ov : Nat → Nat} {t c : Nat} (h : 0 < t) : upd (ovI ov) t ((c : Nat) : Int) = ovI (put ov t c) := by
  funext k
  unfold upd ovI put
  by_cases e : k = t
  · subst e
    rw [if_pos rfl, if_neg (by omega), if_pos rfl]
  · rw [if_neg e, if_neg e]
theorem common_v (g m c : Nat) (ov : Nat → Nat) (w : World) (hI : Ir w g m (ovI ov)) (hf : Fall ov m) (hm : m ≤ 1000) (a b : Nat) (ha : a < m) (hb : b < m) (hc : Cm ov a b c) :
    Calls Try.prog 68 #[.slice (some ⟨g, 0, none⟩) m m, .int .i64 (a : Int), .int .i64 (b : Int)] w fun e w' => e = .returned (.int .i64 (c : Int)) ∧ w = w' := by
  have H := Lib.hid (And.intro hI hf)
  have H0 := Lib.hid (And.intro ha (And.intro hb hc))
  clear hI hf ha hb hc
  go_enter Try.func68, Try.ntmps68
  go_wp2_with fail
  go_loopg [1, 2] (a + b) (fun gk s1 s2 wr => ∃ x y : Nat, x + y ≤ gk ∧ s1 = .int .i64 (x : Int) ∧ s2 = .int .i64 (y : Int) ∧ w = wr ∧ Hid (x < m ∧ y < m ∧ Cm ov x y c))
  case atStart => exact ⟨a, b, by omega, rfl, rfl, rfl, H0⟩
  case round =>
    obtain ⟨x, y, hgk, rfl, rfl, rfl, HK⟩ := hrel
    obtain ⟨hx, hy, hk⟩ := HK.out
    rcases Nat.lt_trichotomy x y with h1 | h1 | h1
    · have hk2 : Cm ov (ov y) x c := by
        cases hk with
        | eq => omega
        | lt _ k => exact k
        | gt _ _ => omega
      have hlt := H.out.2 y (by omega) hy
      have hc := H.out.1.cell y hy
      rw [ovI_pos (by omega)] at hc
      have HN := Lib.hid (show ov y < m ∧ x < m ∧ Cm ov (ov y) x c from ⟨by omega, hx, hk2⟩)
      have t0 : ((x : Int) != (y : Int)) = true := by simp; omega
      have t1 : (x : Int) < (y : Int) := by omega
      have t2 : (y : Int) < (m : Int) := by omega
      clear hk hk2
      go_wp2_with fail
      go_roundg (ov y + x)
      case measure => omega
      case rel => exact ⟨ov y, x, by omega, rfl, rfl, rfl, HN⟩
    · subst h1
      have he : x = c := by
        cases hk with
        | eq => rfl
        | lt h _ => omega
        | gt h _ => omega
      subst he
      have t0 : ((x : Int) != (x : Int)) = false := by simp
      clear hk
      go_wp2_with fail
      go_ret
      exact ⟨rfl, rfl⟩
    · have hk2 : Cm ov (ov x) y c := by
        cases hk with
        | eq => omega
        | lt _ _ => omega
        | gt _ k => exact k
      have hlt := H.out.2 x (by omega) hx
      have hc := H.out.1.cell x hx
      rw [ovI_pos (by omega)] at hc
      have HN := Lib.hid (show ov x < m ∧ y < m ∧ Cm ov (ov x) y c from ⟨by omega, hy, hk2⟩)
      have t0 : ((x : Int) != (y : Int)) = true := by simp; omega
      have t1 : ¬ (x : Int) < (y : Int) := by omega
      have t2 : (x : Int) < (m : Int) := by omega
      clear hk hk2
      go_wp2_with fail
      go_roundg (ov x + y)
      case measure => omega
      case rel => exact ⟨ov x, y, by omega, rfl, rfl, rfl, HN⟩
theorem IsGr.row {w : World} {A : Option Addr} {n : Nat} {s : Gr} (h : IsGr w A n s) {k : Nat} (hk : k < n) : ∃ b o B m c, A = some ⟨b, o, none⟩ ∧ IsInts w B m (nn (nx s k)) ∧ ∀ W, Below w.heap.size w W → W.cell? ⟨b, o + k, none⟩ = some (.slice B m c) := by
  obtain ⟨b, o, hA, hlt, B, m, c, h1, h2⟩ := h.at hk
  exact ⟨b, o, B, m, c, hA, h2, fun W hb => (hb.cell (p := ⟨b, o + k, none⟩) hlt).trans h1⟩
theorem nn_at {l : List Nat} {j : Nat} {y : Int} (h : (nn l)[j]? = some y) : ∃ x, l[j]? = some x ∧ y = (x : Int) := by
  unfold nn at h
  rw [List.getElem?_map] at h
  obtain ⟨x, h1, h2⟩ := Option.map_eq_some_iff.1 h
  exact ⟨x, h1, h2.symm⟩
theorem sm_less {ov : Nat → Nat} {t c m : Nat} (ht : t < m) (hc : c ≤ ov t) : sm m (put ov t c) ≤ sm m ov ∧ (c ≠ ov t → sm m (put ov t c) < sm m ov) := by
  have h := sm_put (ov := ov) (t := t) (c := c) m
  rw [if_pos ht, if_pos ht] at h
  exact ⟨by omega, fun e => by omega⟩
/-- Nothing is lifted any more, as far as was looked. -/
def Chk (T : Gr) (ov : Nat → Nat) (t : Nat) : Prop := ∀ x o, 0 < x → x < t → x ∈ nx T o → An ov (ov x) o
theorem nearest_v (T : Gr) (m c : Nat) (A : Option Addr) (w : World) (hI : IsGr w A m (prs T)) (hT : T.length = m) (hs : Ok T) (hm : m ≤ 300) (ha : ∀ t, 0 < t → t < m → ∃ i, i < t ∧ t ∈ nx T i) :
    Calls Try.prog 55 #[.slice A m c] w fun e w' => (∃ g, e = .returned (.slice (some ⟨g, 0, none⟩) m m) ∧ ∃ ov, Ir w' g m (ovI ov) ∧ DI T m ov ∧ Chk T ov m ∧ w.heap.size ≤ g) ∧ Below w.heap.size w w' := by
  obtain ⟨i0, hi0, hz0, hz1, hz2⟩ := info_parts intInfo
  have I0 := Lib.hid (And.intro hi0 (And.intro hz0 (And.intro hz1 hz2)))
  have H := Lib.hid (And.intro hI (And.intro hT (And.intro hs ha)))
  have HD0 := Lib.hid (DI.start hT hs ha)
  clear hI hT hs ha hi0 hz0 hz1 hz2
  go_enter Try.func55, Try.ntmps55
  go_wp2_with (at_make; refine wpList_make_full _ rfl _ _ 37 rfl w.heap.size 3 i0 (.int .i64 0) 1 Try.underlying37 I0.out.1 I0.out.2.1 I0.out.2.2.1 _ _ _ _ m rfl rfl rfl rfl (by rw [I0.out.2.2.2]; omega) (by unfold maxLen; omega) (Nat.le_refl _) ?_)
  intro w2 hown hgrow
  have HB := Lib.hid (And.intro (ir_made hown) ((Below.refl _ w).grown hgrow (Nat.le_refl _) (by intro k hk; cases hk)))
  clear hown hgrow
  go_wp2_with fail
  go_loopg [15] m (fun gk s15 wr => ∃ t : Nat, t + gk = m ∧ s15 = .int .i64 (t : Int) ∧ Hid (Ir wr w.heap.size m (fun k => if k < t then ovI (ov0 T) k else 0) ∧ Below w.heap.size w wr))
  case atStart => exact ⟨0, by omega, rfl, Lib.hid ⟨HB.out.1.congr (fun k hk => by rw [if_neg (by omega)]), HB.out.2⟩⟩
  case round =>
    obtain ⟨t, ht, rfl, HK⟩ := hrel
    by_cases htm : t < m
    · have t1 : (t : Int) < (m : Int) := by omega
      have hc := HK.out.1.cell t htm
      have hfz := HK.out.1.free t
      obtain ⟨w3, hw3⟩ : ∃ w3, wr.setCell ⟨w.heap.size, t, none⟩ (.int .i64 (-1)) = w3 := ⟨_, rfl⟩
      have H3 := Lib.hid (show Ir w3 w.heap.size m (upd (fun k => if k < t then ovI (ov0 T) k else 0) t (-1)) ∧ Below w.heap.size w w3 from hw3 ▸ ⟨HK.out.1.put htm (-1), HK.out.2.setCell (p := ⟨w.heap.size, t, none⟩) (Nat.le_refl _) _⟩)
      by_cases h0 : t = 0
      · have t2 : ¬ (t : Int) > 0 := by omega
        have HN := Lib.hid (show Ir w3 w.heap.size m (fun k => if k < t + 1 then ovI (ov0 T) k else 0) from H3.out.1.congr fun k hk => by
          unfold upd
          by_cases e : k = t
          · rw [if_pos e, if_pos (by omega)]; unfold ovI; rw [if_pos (by omega)]
          · rw [if_neg e]
            show (if k < t then ovI (ov0 T) k else 0) = _
            by_cases e2 : k < t
            · rw [if_pos e2, if_pos (by omega)]
            · rw [if_neg e2, if_neg (by omega)])
        clear h0
        go_wp2_with fail
        try rw [hw3]
        clear hw3 hc hfz
        go_roundg (m - t - 1)
        case measure => omega
        case rel => exact ⟨t + 1, by omega, by go_num, Lib.hid ⟨HN.out, H3.out.2⟩⟩
      · have t2 : (t : Int) > 0 := by omega
        obtain ⟨i, hi, hin⟩ := H.out.2.2.2 t (by omega) htm
        obtain ⟨l, hl, _, _⟩ := prs_head H.out.2.1 htm hin
        obtain ⟨rb, ro, hA, -, C, L, cd, d0, d1⟩ := (H.out.1.below H3.out.2).at htm
        subst hA
        rw [hl] at d1
        have hL0 : 0 < L := by have := d1.1; rw [nn_len] at this; simp at this; omega
        obtain ⟨vb, vo, rfl, -, y, hy, v0⟩ := d1.at hL0
        have hyy : y = ((ov0 T t : Nat) : Int) := by
          unfold nn at hy
          simp at hy
          exact hy.symm
        subst hyy
        have t3 : (0 : Int) < (L : Int) := by omega
        have hc3 := H3.out.1.cell t htm
        have hf3 := H3.out.1.free t
        obtain ⟨w4, hw4⟩ : ∃ w4, w3.setCell ⟨w.heap.size, t, none⟩ (.int .i64 ((ov0 T t : Nat) : Int)) = w4 := ⟨_, rfl⟩
        have HN := Lib.hid (show Ir w4 w.heap.size m (fun k => if k < t + 1 then ovI (ov0 T) k else 0) ∧ Below w.heap.size w w4 from hw4 ▸ ⟨(H3.out.1.put htm _).congr fun k hk => by
          unfold upd
          by_cases e : k = t
          · rw [if_pos e, if_pos (by omega), e, ovI_pos (by omega)]
          · rw [if_neg e, if_neg e]
            show (if k < t then ovI (ov0 T) k else 0) = _
            by_cases e2 : k < t
            · rw [if_pos e2, if_pos (by omega)]
            · rw [if_neg e2, if_neg (by omega)], H3.out.2.setCell (p := ⟨w.heap.size, t, none⟩) (Nat.le_refl _) _⟩)
        clear h0 hl d1 hy hin hi
        go_upto_region 6 with fail
        try rw [hw3]
        clear hw3 hc hfz
        rw [Nat.add_zero] at v0
        go_wp2_with fail
        try rw [hw4]
        clear hw4 hc3 hf3 d0 v0
        go_roundg (m - t - 1)
        case measure => omega
        case rel => exact ⟨t + 1, by omega, by go_num, HN⟩
    · obtain rfl : t = m := by omega
      have t1 : ¬ (t : Int) < (t : Int) := by omega
      have HIr := Lib.hid (show Ir wr w.heap.size t (ovI (ov0 T)) ∧ Below w.heap.size w wr from ⟨HK.out.1.congr fun k hk => if_pos hk, HK.out.2⟩)
      obtain ⟨G, hG⟩ : ∃ G, sm t (ov0 T) = G := ⟨_, rfl⟩
      go_wp2_with fail
      go_loopg [5] (G + 1) (fun gk s5 wr => ∃ (ov : Nat → Nat) (lf : Bool), s5 = .bool lf ∧ Hid (Ir wr w.heap.size t (ovI ov) ∧ Below w.heap.size w wr ∧ DI T t ov) ∧ ((lf = true ∧ sm t ov + 1 ≤ gk) ∨ (lf = false ∧ Chk T ov t)))
      case atStart => exact ⟨ov0 T, true, rfl, Lib.hid ⟨HIr.out.1, HIr.out.2, HD0.out⟩, .inl ⟨rfl, by omega⟩⟩
      case round =>
        clear hG
        obtain ⟨ov, lf, rfl, HO, hcase⟩ := hrel
        rcases hcase with ⟨rfl, hsm⟩ | ⟨rfl, hchk⟩
        · obtain ⟨S0, hS0⟩ : ∃ S0, sm t ov = S0 := ⟨_, rfl⟩
          rw [hS0] at hsm
          have HS0 := Lib.hid hS0
          obtain ⟨G2, hG2⟩ : ∃ G2, gk = G2 := ⟨_, rfl⟩
          rw [hG2] at hsm
          clear hS0
          go_wp2_with fail
          go_loopg [5, 6] t (fun gk' s5 s6 wr => ∃ (ov : Nat → Nat) (lf : Bool) (x : Nat), t ≤ x + gk' ∧ 0 < x ∧ (x ≤ t ∨ x = 1) ∧ s5 = .bool lf ∧ s6 = .int .i64 (x : Int) ∧ Hid (Ir wr w.heap.size t (ovI ov) ∧ Below w.heap.size w wr ∧ DI T t ov ∧ (lf = false → sm t ov = S0 ∧ Chk T ov x) ∧ (lf = true → sm t ov < S0)))
          case atStart => exact ⟨ov, false, 1, by omega, by omega, .inr rfl, rfl, rfl, Lib.hid ⟨HO.out.1, HO.out.2.1, HO.out.2.2, fun _ => ⟨HS0.out, fun x o h1 h2 => by omega⟩, fun h => by cases h⟩⟩
          case round =>
            obtain ⟨ov, lf, x, hx, hx0, hxt, rfl, rfl, HX⟩ := hrel
            by_cases hxt2 : x < t
            · have u1 : (x : Int) < (t : Int) := by omega
              obtain ⟨rb, ro, C, L, cd, hA, d1, dW⟩ := IsGr.row H.out.1 hxt2
              have d0 := dW wr HX.out.2.1
              have HD := Lib.hid (And.intro d1 dW)
              obtain ⟨ls, hls⟩ : ∃ ls, nx (prs T) x = ls := ⟨_, rfl⟩
              rw [hls] at HD
              have HLs := Lib.hid hls
              have hLn : ls.length = L := by rw [← hls, ← nn_len]; exact d1.1
              have hLm : L ≤ 9223372036854775807 := d1.2.1
              have HA := Lib.hid hA
              subst hA
              clear d1 dW hls
              go_wp2_with fail
              clear d0
              go_loopg [5, 45] L (fun gk3 s5 s45 wr => ∃ (ov : Nat → Nat) (lf : Bool) (j : Nat), j + gk3 = L ∧ s5 = .bool lf ∧ s45 = .int .i64 (j : Int) ∧ Hid (Ir wr w.heap.size t (ovI ov) ∧ Below w.heap.size w wr ∧ DI T t ov ∧ (lf = false → (sm t ov = S0 ∧ Chk T ov x) ∧ ∀ o ∈ ls.take j, An ov (ov x) o) ∧ (lf = true → sm t ov < S0)))
              case atStart => exact ⟨ov, lf, 0, by omega, rfl, rfl, Lib.hid ⟨HX.out.1, HX.out.2.1, HX.out.2.2.1, fun h => ⟨HX.out.2.2.2.1 h, fun o ho => by simp at ho⟩, HX.out.2.2.2.2⟩⟩
              case round =>
                obtain ⟨ov, lf, j, hj, rfl, rfl, HJ⟩ := hrel
                by_cases hjL : j < L
                · have u2 : (j : Int) < (L : Int) := by omega
                  obtain ⟨vb, vo, rfl, -, y, hy, v0⟩ := (HD.out.1.below HJ.out.2.1).at hjL
                  obtain ⟨o, ho, rfl⟩ := nn_at hy
                  have hoT : x ∈ nx T o := by
                    have h1 : o ∈ nx (prs T) x := by rw [HLs.out]; exact List.mem_of_getElem? ho
                    exact (prs_mem H.out.2.2.1).1 h1
                  have hot : o < t := by have := nx_lt hoT; rw [H.out.2.1] at this; exact this
                  have hlt := HJ.out.2.2.1.fall x hx0 hxt2
                  obtain ⟨cc, hc⟩ := cm_ex HJ.out.2.2.1.fall (ov x + o) (ov x) o (Nat.le_refl _) (by omega) hot
                  have hiff := hc.iff HJ.out.2.2.1.fall (by omega) hot
                  have hca := (hiff cc).1 .refl
                  have hcl := hca.1.le HJ.out.2.2.1.fall (by omega)
                  have HC := Lib.hid (common_v w.heap.size t cc ov wr HJ.out.1 HJ.out.2.2.1.fall (by omega) (ov x) o (by omega) hot hc)
                  have hcx := HJ.out.1.cell x hxt2
                  rw [ovI_pos hx0] at hcx
                  have hfx := HJ.out.1.free x
                  have HP := Lib.hid (show DI T t (put ov x cc) ∧ (cc = ov x → An ov (ov x) o) ∧ sm t (put ov x cc) ≤ sm t ov ∧ (cc ≠ ov x → sm t (put ov x cc) < sm t ov) from ⟨HJ.out.2.2.1.lift H.out.2.1 hx0 hxt2 hoT hot hc, fun e => e ▸ hca.2, sm_less hxt2 hcl⟩)
                  obtain ⟨w3, hw3⟩ : ∃ w3, wr.setCell ⟨w.heap.size, x, none⟩ (.int .i64 ((cc : Nat) : Int)) = w3 := ⟨_, rfl⟩
                  have HW := Lib.hid (show Ir w3 w.heap.size t (ovI (put ov x cc)) ∧ Below w.heap.size w w3 from hw3 ▸ ⟨by rw [← ovI_put hx0]; exact HJ.out.1.put hxt2 _, HJ.out.2.1.setCell (p := ⟨w.heap.size, x, none⟩) (Nat.le_refl _) _⟩)
                  have HO2 := Lib.hid ho
                  clear hy ho hoT hot hc hiff hca
                  cases lf with
                  | true =>
                    have HT := Lib.hid (HJ.out.2.2.2.2 rfl)
                    go_wp2_with fail
                    refine HC.out.mono ?_
                    rintro e w9 ⟨rfl, rfl⟩
                    go_wp2_with fail
                    try rw [hw3]
                    clear hw3 hcx hfx v0
                    go_roundg (L - j - 1)
                    case measure => omega
                    case rel => exact ⟨put ov x cc, true, j + 1, by omega, rfl, by go_num, Lib.hid ⟨HW.out.1, HW.out.2, HP.out.1, fun h => (by cases h), fun _ => Nat.lt_of_le_of_lt HP.out.2.2.1 HT.out⟩⟩
                  | false =>
                    have HFa := Lib.hid (HJ.out.2.2.2.1 rfl)
                    by_cases hce : cc = ov x
                    · have u3 : ((cc : Int) != ((ov x : Nat) : Int)) = false := by simp; omega
                      have HE := Lib.hid hce
                      clear hce
                      go_wp2_with fail
                      refine HC.out.mono ?_
                      rintro e w9 ⟨rfl, rfl⟩
                      go_wp2_with fail
                      try rw [hw3]
                      clear hw3 hcx hfx v0
                      go_roundg (L - j - 1)
                      case measure => omega
                      case rel =>
                        have he : put ov x cc = ov := by rw [HE.out]; exact put_self
                        rw [he] at HW HP
                        exact ⟨ov, false, j + 1, by omega, rfl, by go_num, Lib.hid ⟨HW.out.1, HW.out.2, HP.out.1, fun _ => ⟨HFa.out.1, fun q hq => by
                          rw [List.take_add_one, HO2.out] at hq
                          rcases List.mem_append.1 hq with hq | hq
                          · exact HFa.out.2 q hq
                          · rw [Option.toList_some, List.mem_singleton] at hq
                            subst hq
                            exact HP.out.2.1 HE.out⟩, fun h => (by cases h)⟩⟩
                    · have u3 : ((cc : Int) != ((ov x : Nat) : Int)) = true := by simp; omega
                      have HE := Lib.hid hce
                      clear hce
                      go_wp2_with fail
                      refine HC.out.mono ?_
                      rintro e w9 ⟨rfl, rfl⟩
                      go_wp2_with fail
                      try rw [hw3]
                      clear hw3 hcx hfx v0
                      go_roundg (L - j - 1)
                      case measure => omega
                      case rel => exact ⟨put ov x cc, true, j + 1, by omega, rfl, by go_num, Lib.hid ⟨HW.out.1, HW.out.2, HP.out.1, fun h => (by cases h), fun _ => Nat.lt_of_lt_of_eq (HP.out.2.2.2 HE.out) HFa.out.1.1⟩⟩
                · obtain rfl : j = L := by omega
                  have u2 : ¬ (j : Int) < (j : Int) := by omega
                  have HN := Lib.hid (show lf = false → sm t ov = S0 ∧ Chk T ov (x + 1) from fun h => by
                    obtain ⟨⟨h1, h2⟩, h3⟩ := HJ.out.2.2.2.1 h
                    refine ⟨h1, fun z o hz0 hz hzo => ?_⟩
                    by_cases e : z = x
                    · subst e
                      refine h3 o ?_
                      rw [List.take_of_length_le (Nat.le_of_eq hLn), ← HLs.out]
                      exact (prs_mem H.out.2.2.1).2 hzo
                    · exact h2 z o hz0 (by omega) hzo)
                  go_wp2_with fail
                  go_roundg (t - x - 1)
                  case measure => omega
                  case rel => exact ⟨ov, lf, x + 1, by omega, by omega, by omega, rfl, by go_num, Lib.hid ⟨HJ.out.1, HJ.out.2.1, HJ.out.2.2.1, HN.out, HJ.out.2.2.2.2⟩⟩
            · have u1 : ¬ (x : Int) < (t : Int) := by omega
              have hxge : t ≤ x := by omega
              go_wp2_with fail
              go_roundg (G2 - 1)
              case measure => omega
              case rel =>
                refine ⟨ov, lf, rfl, Lib.hid ⟨HX.out.1, HX.out.2.1, HX.out.2.2.1⟩, ?_⟩
                cases lf with
                | true => exact .inl ⟨rfl, by have := HX.out.2.2.2.2 rfl; omega⟩
                | false => exact .inr ⟨rfl, fun z o h0 h1 h2 => (HX.out.2.2.2.1 rfl).2 z o h0 (by omega) h2⟩
        · have HC := Lib.hid hchk
          clear hchk
          go_wp2_with fail
          go_ret
          exact ⟨⟨w.heap.size, rfl, ov, HO.out.1, HO.out.2.2, HC.out, Nat.le_refl _⟩, HO.out.2.1⟩
end Go.Proofs.Ytojfbcfbnadboaa.Gra
