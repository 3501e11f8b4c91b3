
/- The document's answer to what is reached, walked. -/
import Derived.Test.YtojfbcfbnadboaaGraIn
import Derived.Deep.CutRange
import Derived.Laws.OwnMore
namespace Go.Proofs.Ytojfbcfbnadboaa.Gra
open Go.ChangeShapes Go.WideShapes Go.RowKit
set_option linter.unusedVariables false
set_option maxRecDepth 20000
set_option maxHeartbeats 4000000

/-- Bools in a block of the call's own. -/
structure Bo (N : Nat) (w : World) (g : Nat) (bs : List Bool) : Prop where
  lo : N ≤ g
  lt : g < w.heap.size
  cell : ∀ k, k < bs.length → w.cell? ⟨g, k, none⟩ = some (.bool (at_ bs k))
  free : ∀ k, w.frozen? ⟨g, k, none⟩ = false
theorem Bo.below {N : Nat} {w w' : World} {g : Nat} {bs : List Bool} (h : Bo N w g bs) (hb : Below w.heap.size w w') : Bo N w' g bs :=
  ⟨h.lo, Nat.lt_of_lt_of_le h.lt hb.size, fun k hk => (hb.cell (p := ⟨g, k, none⟩) h.lt).trans (h.cell k hk), fun k => (hb.frozen (p := ⟨g, k, none⟩) h.lt).trans (h.free k)⟩
theorem Bo.put {N : Nat} {w : World} {g : Nat} {bs : List Bool} (h : Bo N w g bs) {k : Nat} (hk : k < bs.length) : Bo N (w.setCell ⟨g, k, none⟩ (.bool true)) g (bs.set k true) := by
  refine ⟨h.lo, by simpa [World.setCell] using h.lt, fun j hj => ?_, fun j => by rw [World.frozen?_setCell]; exact h.free j⟩
  rw [List.length_set] at hj
  rw [at_set bs k j hk]
  by_cases e : k = j
  · subst e
    rw [World.cell?_setCell_same (h := h.cell k hk)]
    simp
  · rw [World.cell?_setCell_other (h := by intro q; injection q with _ q; exact e q), h.cell j hj]
    simp [e]
theorem bo_made {N : Nat} {w : World} {g n : Nat} (h : w.ownsRow N 4 1 (.slice (some ⟨g, 0, none⟩) n n) n (madeCells #[Value.bool false] n).toList) : Bo N w g (List.replicate n false) := by
  have h1 := h.lt g rfl
  refine ⟨h1.1, h1.2, fun k hk => ?_, fun k => h.frozenAt k⟩
  rw [List.length_replicate] at hk
  rw [h.cellAt k (by omega), at_rep, toList_madeCells_one, List.getElem?_replicate, if_pos (by omega)]
theorem fold_snoc {α : Type} (f : List Bool → α → List Bool) {l : List α} {k : Nat} {x : α} (h : l[k]? = some x) (sn : List Bool) : (l.take (k + 1)).foldl f sn = f ((l.take k).foldl f sn) x := by
  rw [List.take_add_one, h, List.foldl_append]
  rfl
theorem rnds_snoc (s : Gr) (wo : Int) : ∀ (n : Nat) (sn : List Bool), rnds s wo (n + 1) sn = rnd s wo (rnds s wo n sn)
  | 0, sn => rfl
  | n + 1, sn => by
    show rnds s wo (n + 1) (rnd s wo sn) = _
    rw [rnds_snoc s wo n]
    rfl
theorem boInfo : (Try.prog.info? 4).map (fun i => (i.zero, i.size, i.bytes)) = some (some (.bool false), 1, 1) := by kernel_rfl
theorem rreach_v (A : Option Addr) (n c : Nat) (s : Gr) (a wo : Int) (w : World) (h : IsGr w A n s) (hs : Ok s) (hn : n ≤ 1000000) :
    Calls Try.prog 18 #[.slice A n c, .int .i64 a, .int .i64 wo] w fun e w' => (∃ g, e = .returned (.slice (some ⟨g, 0, none⟩) n n) ∧ Bo w.heap.size w' g (reach s a wo)) ∧ Below w.heap.size w w' := by
  have H := Lib.hid (And.intro h hs)
  obtain ⟨i0, hi0, hz0, hz1, hz2⟩ := info_parts boInfo
  have I0 := Lib.hid (And.intro hi0 (And.intro hz0 (And.intro hz1 hz2)))
  clear h hs hi0 hz0 hz1 hz2
  go_enter Try.func18, Try.ntmps18
  go_wp2_with (at_make; refine wpList_make_full _ rfl _ _ 42 rfl w.heap.size 4 i0 (.bool false) 1 Try.underlying42 I0.out.1 I0.out.2.1 I0.out.2.2.1 _ _ _ _ n rfl rfl rfl rfl (by rw [I0.out.2.2.2]; omega) (by unfold maxLen; omega) (Nat.le_refl _) ?_)
  intro w1 hown hgrow
  have HB := Lib.hid (And.intro (bo_made hown) ((Below.refl _ w).grown hgrow (Nat.le_refl _) (by intro k hk; cases hk)))
  clear hown hgrow
  by_cases hout : a < 0 ∨ a ≥ (n : Int) ∨ a = wo
  · have HR := Lib.hid (show reach s a wo = List.replicate n false by unfold reach; rw [H.out.1.1]; simp; omega)
    have hd : ∃ q : Bool, q = true := ⟨true, rfl⟩
    by_cases h1 : a < 0
    · clear hd
      go_wp2_with fail
      go_ret
      exact ⟨⟨w.heap.size, rfl, by rw [HR.out]; exact HB.out.1⟩, HB.out.2⟩
    · by_cases h2 : a ≥ (n : Int)
      · clear hd
        go_wp2_with fail
        go_ret
        exact ⟨⟨w.heap.size, rfl, by rw [HR.out]; exact HB.out.1⟩, HB.out.2⟩
      · obtain rfl : a = wo := by omega
        clear hd
        go_wp2_with fail
        go_ret
        exact ⟨⟨w.heap.size, rfl, by rw [HR.out]; exact HB.out.1⟩, HB.out.2⟩
  · have h1 : ¬ a < 0 := by omega
    have h2 : ¬ a ≥ (n : Int) := by omega
    have h3 : (a == wo) = false := by rw [beq_eq_false_iff_ne]; omega
    obtain ⟨k0, rfl⟩ : ∃ k0 : Nat, a = (k0 : Int) := ⟨a.toNat, by omega⟩
    have h4 : (k0 : Int) < (n : Int) := by omega
    have h5 : k0 < n := by omega
    have HR := Lib.hid (show reach s (k0 : Int) wo = rnds s wo n ((List.replicate n false).set k0 true) by unfold reach; rw [H.out.1.1]; rw [if_neg (by omega)]; simp)
    obtain ⟨sn0, hsn⟩ : ∃ sn0, (List.replicate n false).set k0 true = sn0 := ⟨_, rfl⟩
    have hl0 : sn0.length = n := by rw [← hsn]; simp
    obtain ⟨g, hg⟩ : ∃ g, w.heap.size = g := ⟨_, rfl⟩
    have HP := Lib.hid (And.intro (hsn ▸ HB.out.1.put (k := k0) (by simpa using h5)) (And.intro (HB.out.2.setCell (p := ⟨w.heap.size, k0, none⟩) (Nat.le_refl _) (.bool true)) hl0))
    have e0 := HB.out.1.cell k0 (by simpa using h5)
    have e1 := HB.out.1.free k0
    rw [hsn] at HR
    clear hsn hout hg hl0
    go_wp2_with fail
    clear e0 e1
    go_loopg [8] n (fun gk q8 wr => ∃ k : Nat, k + gk = n ∧ q8 = .int .i64 (k : Int) ∧ Hid (Below w.heap.size w wr ∧ Bo w.heap.size wr w.heap.size (rnds s wo k sn0)))
    case atStart => exact ⟨0, by omega, rfl, Lib.hid ⟨HP.out.2.1, HP.out.1⟩⟩
    case round =>
      obtain ⟨k, hk, rfl, HK⟩ := hrel
      by_cases hkn : k < n
      · have t1 : (k : Int) < (n : Int) := by omega
        obtain ⟨sn, hsn⟩ : ∃ sn, rnds s wo k sn0 = sn := ⟨_, rfl⟩
        have HS := Lib.hid (And.intro hsn (show sn.length = n by rw [← hsn, ← (rnds_le s wo k sn0).1]; exact HP.out.2.2))
        rw [hsn] at HK
        clear hsn
        go_wp2_with fail
        go_loopg [9] n (fun gk q9 wr => ∃ i : Nat, i + gk = n ∧ q9 = .int .i64 (i : Int) ∧ Hid (Below w.heap.size w wr ∧ Bo w.heap.size wr w.heap.size ((List.range i).foldl (rel1 s wo) sn)))
        case atStart => exact ⟨0, by omega, rfl, Lib.hid ⟨HK.out.1, HK.out.2⟩⟩
        case round =>
          obtain ⟨i, hi, rfl, HI⟩ := hrel
          by_cases hin : i < n
          · have t2 : (i : Int) < (n : Int) := by omega
            obtain ⟨sm, hsm⟩ : ∃ sm, (List.range i).foldl (rel1 s wo) sn = sm := ⟨_, rfl⟩
            have HM := Lib.hid (And.intro hsm (show sm.length = n by rw [← hsm, ← (fold_le _ (rel1_le s wo) _ _).1]; exact HS.out.2))
            rw [hsm] at HI
            clear hsm
            go_wp2_with fail
            obtain ⟨ll, hll⟩ : ∃ ll, nx s i = ll := ⟨_, rfl⟩
            have HLl := Lib.hid hll
            clear hll
            go_loopg [10] ll.length (fun gk q10 wr => ∃ j : Nat, j + gk = ll.length ∧ q10 = .int .i64 (j : Int) ∧ Hid (Below w.heap.size w wr ∧ Bo w.heap.size wr w.heap.size ((ll.take j).foldl (mark wo) sm) ∧ (j ≠ 0 → at_ sm i = true)))
            case atStart => exact ⟨0, by omega, rfl, Lib.hid ⟨HI.out.1, HI.out.2, fun h => by omega⟩⟩
            case round =>
              obtain ⟨j, hj, rfl, HJ⟩ := hrel
              have hle : Le sm ((ll.take j).foldl (mark wo) sm) := fold_le _ (mark_le wo) _ _
              obtain ⟨cu, hcu⟩ : ∃ cu, (ll.take j).foldl (mark wo) sm = cu := ⟨_, rfl⟩
              rw [hcu] at hle HJ
              have HC := Lib.hid (And.intro hcu hle)
              have HL2 := Lib.hid (show cu.length = n by rw [← hle.1]; exact HM.out.2)
              obtain ⟨rb, ro, rfl, -, C, p, q, c0, c1⟩ := (H.out.1.below HJ.out.1).at hin
              rw [HLl.out] at c1
              have HIn := Lib.hid c1
              have hpl : ll.length = p := by rw [← nn_len]; exact c1.1
              have hpm : p ≤ 9223372036854775807 := c1.2.1
              have s0 := HJ.out.2.1.cell i (by rw [HL2.out]; exact hin)
              clear hcu hle c1
              cases hb : at_ cu i
              · rw [hb] at s0
                have HE := Lib.hid (show rel1 s wo sm i = cu by
                  unfold rel1
                  by_cases hj0 : j = 0
                  · subst hj0
                    have e : sm = cu := HC.out.1
                    rw [e, hb]
                    rfl
                  · have h1 := HC.out.2.2 i (HJ.out.2.2 hj0)
                    rw [hb] at h1
                    cases h1)
                clear hb
                go_wp2_with fail
                go_roundg (n - i - 1)
                case measure => omega
                case rel => exact ⟨i + 1, by omega, by go_num, Lib.hid ⟨HJ.out.1, by rw [List.range_succ, List.foldl_append, HM.out.1]; show Bo _ _ _ (rel1 s wo sm i); rw [HE.out]; exact HJ.out.2.1⟩⟩
              · rw [hb] at s0
                have hsm : at_ sm i = true := by
                  by_cases hj0 : j = 0
                  · subst hj0
                    have e : sm = cu := HC.out.1
                    rw [e]; exact hb
                  · exact HJ.out.2.2 hj0
                have HSm := Lib.hid hsm
                clear hb hsm
                by_cases hjl : j < ll.length
                · have t3 : (j : Int) < (p : Int) := by omega
                  obtain ⟨vb, vo, rfl, -, y, hy, v0⟩ := HIn.out.at (k := j) (by omega)
                  obtain ⟨yy, hyy, rfl⟩ : ∃ yy, ll[j]? = some yy ∧ y = (yy : Int) := by
                    unfold nn at hy
                    rw [List.getElem?_map] at hy
                    obtain ⟨yy, h1, h2⟩ := Option.map_eq_some_iff.1 hy
                    exact ⟨yy, h1, h2.symm⟩
                  have hyn : yy < n := by
                    have h1 := H.out.2 i yy (by rw [HLl.out]; exact List.mem_of_getElem? hyy)
                    rw [H.out.1.1] at h1
                    exact h1
                  have HF := Lib.hid (fold_snoc (mark wo) hyy sm)
                  have t4 : (yy : Int) < (n : Int) := by omega
                  clear hy hyy
                  cases hq : ((yy : Int) == wo)
                  · have hne := beq_eq_false_iff_ne.1 hq
                    have y0 := HJ.out.2.1.cell yy (by rw [HL2.out]; exact hyn)
                    have y1 := HJ.out.2.1.free yy
                    have HP2 := Lib.hid (And.intro (HJ.out.1.setCell (p := ⟨w.heap.size, yy, none⟩) (Nat.le_refl _) (.bool true)) (HJ.out.2.1.put (k := yy) (by rw [HL2.out]; exact hyn)))
                    have HMk := Lib.hid (show mark wo cu yy = cu.set yy true by unfold mark; rw [if_neg hne])
                    clear hne
                    go_wp2_with fail
                    go_roundg (ll.length - j - 1)
                    case measure => omega
                    case rel => exact ⟨j + 1, by omega, by go_num, Lib.hid ⟨HP2.out.1, by rw [HF.out, HC.out.1, HMk.out]; exact HP2.out.2, fun _ => HSm.out⟩⟩
                  · have HMk := Lib.hid (show mark wo cu yy = cu by unfold mark; rw [if_pos (eq_of_beq hq)])
                    go_wp2_with fail
                    go_roundg (ll.length - j - 1)
                    case measure => omega
                    case rel => exact ⟨j + 1, by omega, by go_num, Lib.hid ⟨HJ.out.1, by rw [HF.out, HC.out.1, HMk.out]; exact HJ.out.2.1, fun _ => HSm.out⟩⟩
                · obtain rfl : j = ll.length := by omega
                  have t3 : ¬ ((ll.length : Nat) : Int) < (p : Int) := by omega
                  have HE := Lib.hid (show rel1 s wo sm i = cu by
                    unfold rel1
                    rw [if_pos HSm.out, HLl.out, ← HC.out.1, List.take_length])
                  go_wp2_with fail
                  go_roundg (n - i - 1)
                  case measure => omega
                  case rel => exact ⟨i + 1, by omega, by go_num, Lib.hid ⟨HJ.out.1, by rw [List.range_succ, List.foldl_append, HM.out.1]; show Bo _ _ _ (rel1 s wo sm i); rw [HE.out]; exact HJ.out.2.1⟩⟩
          · obtain rfl : i = n := by omega
            have t2 : ¬ (i : Int) < (i : Int) := by omega
            go_wp2_with fail
            go_roundg (i - k - 1)
            case measure => omega
            case rel => exact ⟨k + 1, by omega, by go_num, Lib.hid ⟨HI.out.1, by rw [rnds_snoc, HS.out.1]; unfold rnd; rw [H.out.1.1]; exact HI.out.2⟩⟩
      · obtain rfl : k = n := by omega
        have t1 : ¬ (k : Int) < (k : Int) := by omega
        go_wp2_with fail
        go_ret
        exact ⟨⟨w.heap.size, rfl, by rw [HR.out]; exact HK.out.2⟩, HK.out.1⟩
end Go.Proofs.Ytojfbcfbnadboaa.Gra
