/- Up the tree, one after the other (plain). -/
import Derived.Test.YtojfbcfbnadboaaDomA
import Derived.Test.YtojfbcfbnadboaaDomNew
import Derived.Deep.CutRange
import Derived.Test.YtojfbcfbnadboaaGraReached
import Derived.Deep.Upon
import Derived.Deep.QuietTactic
import Derived.BigQuiet
import Derived.StillTailTactics
namespace Go.Proofs.Ytojfbcfbnadboaa.Gra
set_option linter.unusedVariables false

/-- The answers of any number. -/
def idT (s : Gr) (i : Int) : Int := if 0 ≤ i ∧ i < (s.length : Int) then idB s i.toNat else -1
def dpT (s : Gr) (i : Int) : Nat := if 0 ≤ i ∧ i < (s.length : Int) then cntB s i.toNat else 0
def isT (s : Gr) (a b : Int) : Bool := decide (0 ≤ a ∧ a < (s.length : Int) ∧ 0 ≤ b ∧ b < (s.length : Int)) && isB s a.toNat b.toNat
def upN (s : Gr) (i : Int) : Nat → Int
  | 0 => i
  | k + 1 => idT s (upN s i k)
section
variable {s : Gr} {O : List Nat} {ov : Nat → Nat}
theorem idT_nat {b : Nat} (h : b < s.length) : idT s (b : Int) = idB s b := by
  unfold idT
  rw [if_pos ⟨by omega, by omega⟩]
  simp
theorem dpT_nat {b : Nat} (h : b < s.length) : dpT s (b : Int) = cntB s b := by
  unfold dpT
  rw [if_pos ⟨by omega, by omega⟩]
  simp
theorem isT_nat {a b : Nat} (ha : a < s.length) (hb : b < s.length) : isT s (a : Int) (b : Int) = isB s a b := by
  unfold isT
  rw [decide_eq_true (by omega), Bool.true_and]
  simp
/-- What has a depth is one of the order. -/
theorem DO.got (h : DO s O ov) {i : Int} (hd : 0 < dpT s i) : ∃ b : Nat, i = (b : Int) ∧ b ∈ O ∧ b < s.length ∧ dpT s i = cntB s b := by
  unfold dpT at hd ⊢
  by_cases e : 0 ≤ i ∧ i < (s.length : Int)
  · rw [if_pos e] at hd ⊢
    refine ⟨i.toNat, by omega, ?_, by omega, rfl⟩
    by_cases hb : i.toNat ∈ O
    · exact hb
    · have := h.cnt_no hb
      omega
  · rw [if_neg e] at hd
    omega
theorem DO.pos_of (h : DO s O ov) {b : Nat} (hb : b ∈ O) : 0 < cntB s b := by
  obtain ⟨l, hl⟩ := ch_ex h.fall _ (pl_lt hb)
  rw [h.cnt hb hl]
  exact (hl.nodup h.fall (pl_lt hb)).2.1
theorem DO.one (h : DO s O ov) {b : Nat} (hb : b ∈ O) (h0 : pl O b = 0) : b = 0 ∧ cntB s b = 1 := by
  have h1 := at_pl hb
  rw [h0, h.o.first h.pos] at h1
  injection h1 with h1
  refine ⟨h1.symm, ?_⟩
  rw [h.cnt hb (by rw [h0]; exact .zero)]
  rfl
/-- One step up. -/
theorem DO.step (h : DO s O ov) {b : Nat} (hb : b ∈ O) (hp : 0 < pl O b) : ∃ c : Nat, idB s b = (c : Int) ∧ c ∈ O ∧ pl O c = ov (pl O b) ∧ cntB s b = cntB s c + 1 ∧ An ov (pl O c) (pl O b) := by
  have hbl := pl_lt hb
  have hlt := h.fall _ hp hbl
  have hat : O[ov (pl O b)]? = some (O.getD (ov (pl O b)) 0) := by rw [List.getD_eq_getElem?_getD, List.getElem?_eq_getElem (by omega)]; rfl
  have hc := List.mem_of_getElem? hat
  have hpc := pl_at h.o.nd hat
  refine ⟨O.getD (ov (pl O b)) 0, ?_, hc, hpc, ?_, by rw [hpc]; exact .up hp .refl⟩
  · rw [h.idom]
    unfold idO
    rw [if_pos ⟨hb, hp⟩]
  · obtain ⟨l, hl⟩ := ch_ex h.fall (ov (pl O b)) (by omega)
    rw [h.cnt hb (.up hp hl), h.cnt hc (by rw [hpc]; exact hl), List.length_cons]
theorem DO.isAn (h : DO s O ov) {a b : Nat} (ha : a ∈ O) (hb : b ∈ O) : isB s a b = true ↔ An ov (pl O a) (pl O b) := by
  rw [isB_iff h.ok, h.dom]
  exact ⟨fun k => k.2.2, fun k => ⟨ha, hb, k⟩⟩
theorem DO.pl_inj (h : DO s O ov) {a b : Nat} (ha : a ∈ O) (hb : b ∈ O) (e : pl O a = pl O b) : a = b := by
  have h1 := at_pl ha
  rw [e, at_pl hb] at h1
  injection h1 with h1
  exact h1.symm
theorem beq_of {x y : Bool} (h : x = true ↔ y = true) : x = y := by
  cases x <;> cases y <;> simp_all
/-- b is deeper: whether a is above it its Idom tells. -/
theorem DO.is_up (h : DO s O ov) {a : Nat} (ha : a ∈ O) {i : Int} (hd : cntB s a < dpT s i) : ∃ b c : Nat, i = (b : Int) ∧ b < s.length ∧ idB s b = (c : Int) ∧ c < s.length ∧ dpT s i = dpT s (c : Int) + 1 ∧ isT s (a : Int) i = isT s (a : Int) (c : Int) := by
  have hpa := h.pos_of ha
  obtain ⟨b, rfl, hb, hbl, hd2⟩ := h.got (i := i) (by omega)
  have hp : 0 < pl O b := by
    refine Nat.pos_of_ne_zero fun h0 => ?_
    have := (h.one hb h0).2
    omega
  obtain ⟨c, h1, hc, h3, h4, h5⟩ := h.step hb hp
  refine ⟨b, c, rfl, hbl, h1, h.lt hc, by rw [hd2, dpT_nat (h.lt hc)]; exact h4, ?_⟩
  rw [isT_nat (h.lt ha) hbl, isT_nat (h.lt ha) (h.lt hc)]
  refine beq_of ?_
  rw [h.isAn ha hb, h.isAn ha hc]
  refine ⟨fun k => ?_, fun k => k.trans h5⟩
  rcases k.cases_ with e | ⟨_, k⟩
  · have := h.pl_inj ha hb e
    subst this
    omega
  · rw [h3]; exact k
/-- It is as deep at most: they are the same, or a isn't above it. -/
theorem DO.is_end (h : DO s O ov) {a : Nat} (ha : a ∈ O) {i : Int} (hd : dpT s i ≤ cntB s a) : isT s (a : Int) i = ((a : Int) == i) := by
  have hpa := h.pos_of ha
  refine beq_of ?_
  rw [beq_iff_eq]
  constructor
  · intro k
    unfold isT at k
    rw [Bool.and_eq_true, decide_eq_true_eq] at k
    obtain ⟨b, rfl⟩ : ∃ b : Nat, i = (b : Int) := ⟨i.toNat, by omega⟩
    have hbl : b < s.length := by omega
    have k2 : isB s a b = true := by have := k.2; simpa using this
    have k3 := (h.dom a b).1 ((isB_iff h.ok).1 k2)
    rw [dpT_nat hbl] at hd
    obtain ⟨l, hl⟩ := ch_ex h.fall _ (pl_lt k3.2.1)
    obtain ⟨k', hk'⟩ := ch_ex h.fall _ (pl_lt ha)
    have h1 := hl.less hk' k3.2.2
    rw [h.cnt k3.2.1 hl, h.cnt ha hk'] at hd
    have := h.pl_inj ha k3.2.1 (h1.2 (by omega))
    rw [this]
  · rintro rfl
    rw [isT_nat (h.lt ha) (h.lt ha), h.isAn ha ha]
    exact .refl
/-- Up from one. -/
theorem DO.ups (h : DO s O ov) {i : Int} : ∀ k, k < dpT s i → ∃ x : Nat, upN s i k = (x : Int) ∧ x ∈ O ∧ x < s.length ∧ cntB s x + k = dpT s i ∧ isT s (x : Int) i = true
  | 0, hk => by
    obtain ⟨b, rfl, hb, hbl, hd⟩ := h.got (i := i) (by omega)
    refine ⟨b, rfl, hb, hbl, by omega, ?_⟩
    rw [isT_nat hbl hbl, h.isAn hb hb]
    exact .refl
  | k + 1, hk => by
    obtain ⟨x, h1, hx, hxl, h3, h4⟩ := h.ups (i := i) k (by omega)
    obtain ⟨b, rfl, hb, hbl, hd⟩ := h.got (i := i) (by omega)
    have hp : 0 < pl O x := by
      refine Nat.pos_of_ne_zero fun h0 => ?_
      have := (h.one hx h0).2
      omega
    obtain ⟨c, k1, hc, k3, k4, k5⟩ := h.step hx hp
    refine ⟨c, ?_, hc, h.lt hc, by omega, ?_⟩
    · show idT s (upN s (b : Int) k) = _
      rw [h1, idT_nat hxl, k1]
    · rw [isT_nat hxl hbl, h.isAn hx hb] at h4
      rw [isT_nat (h.lt hc) hbl, h.isAn hc hb]
      exact k5.trans h4
theorem DO.ups_last (h : DO s O ov) {i : Int} {k : Nat} (hk : k + 1 = dpT s i) : upN s i k = 0 := by
  obtain ⟨x, h1, hx, hxl, h3, h4⟩ := h.ups (i := i) k (by omega)
  by_cases h0 : pl O x = 0
  · rw [h1, (h.one hx h0).1]
    rfl
  · obtain ⟨c, k1, hc, k3, k4, k5⟩ := h.step hx (by omega)
    have := h.pos_of hc
    omega
end
theorem dpT_none {s : Gr} (h : s.length = 0) (i : Int) : dpT s i = 0 := by unfold dpT; rw [if_neg (by omega)]
/-- What is reached has a depth. -/
theorem DO.dp_reach {s : Gr} {O : List Nat} {ov : Nat → Nat} (h : DO s O ov) (i : Nat) (hi : i < s.length) : 0 < dpT s (i : Int) ↔ at_ (reach s 0 (-1)) i = true := by
  have h1 : at_ (reach s 0 (-1)) i = true ↔ _ := reach_iff h.ok 0 (-1) i
  have e : (fun k : Nat => (k : Int) = -1) = fun _ => False := funext fun k => by simp
  rw [e] at h1
  rw [h1, ← h.o.mem, dpT_nat hi]
  refine ⟨fun h2 => ?_, h.pos_of⟩
  by_cases hb : i ∈ O
  · exact hb
  · have := h.cnt_no hb
    omega
end Go.Proofs.Ytojfbcfbnadboaa.Gra
/- The tree's small answers, walked. -/
namespace Go.Proofs.Ytojfbcfbnadboaa.Gra
open Go.ChangeShapes Go.WideShapes Go.RowKit
set_option linter.unusedVariables false
set_option maxRecDepth 20000
set_option maxHeartbeats 2000000

section
variable (p gI gD gK n : Nat) (s : Gr)
theorem tmany_v (w : World) (h : IsT w p gI gD gK n s) : Calls Try.prog 58 #[.pointer (some ⟨p, 0, none⟩)] w fun e w' => e = .returned (.int .i64 (n : Int)) ∧ w = w' := by
  obtain ⟨⟨c0, c1, c2⟩, -⟩ := mbox3 h.box
  clear h
  go_enter Try.func58, Try.ntmps58
  go_wp2_with fail
  go_ret
  exact ⟨rfl, rfl⟩
theorem thas_v (i : Int) (w : World) (h : IsT w p gI gD gK n s) : Calls Try.prog 57 #[.pointer (some ⟨p, 0, none⟩), .int .i64 i] w fun e w' => e = .returned (.bool (hasI n i)) ∧ w = w' := by
  have H := Lib.hid h
  obtain ⟨b, hb⟩ : ∃ b, hasI n i = b := ⟨_, rfl⟩
  rw [hb]
  have HB := Lib.hid hb
  clear h hb
  go_enter Try.func57, Try.ntmps57
  by_cases h0 : 0 ≤ i
  · by_cases h1 : i < (n : Int)
    · have hb : b = true := by rw [← HB.out]; unfold hasI; simp; omega
      subst hb
      go_wp2_with fail
      refine (tmany_v p gI gD gK n s w H.out).mono ?_
      rintro e w1 ⟨rfl, rfl⟩
      go_wp2_with fail
      go_ret
      exact ⟨rfl, rfl⟩
    · have hb : b = false := by rw [← HB.out]; unfold hasI; simp; omega
      subst hb
      go_wp2_with fail
      refine (tmany_v p gI gD gK n s w H.out).mono ?_
      rintro e w1 ⟨rfl, rfl⟩
      go_wp2_with fail
      go_ret
      exact ⟨by show Ending.returned (.bool (decide (i < (n : Int)))) = _; rw [decide_eq_false (by omega)], rfl⟩
  · have hb : b = false := by rw [← HB.out]; unfold hasI; simp; omega
    subst hb
    go_wp2_with fail
    go_ret
    exact ⟨rfl, rfl⟩
theorem tidom_v (i : Int) (w : World) (h : IsT w p gI gD gK n s) : Calls Try.prog 26 #[.pointer (some ⟨p, 0, none⟩), .int .i64 i] w fun e w' => e = .returned (.int .i64 (idT s i)) ∧ w = w' := by
  obtain ⟨⟨c0, c1, c2⟩, -⟩ := mbox3 h.box
  have H := Lib.hid h
  obtain ⟨b, hb⟩ : ∃ b, hasI n i = b := ⟨_, rfl⟩
  have HH := Lib.hid (hb ▸ thas_v p gI gD gK n s i w h)
  obtain ⟨x, hx⟩ : ∃ x, idT s i = x := ⟨_, rfl⟩
  rw [hx]
  cases b with
  | false =>
    rw [hasI, decide_eq_false_iff_not] at hb
    have hx : x = -1 := by rw [← hx]; unfold idT; rw [h.len, if_neg hb]
    subst hx
    clear h hb
    go_enter Try.func26, Try.ntmps26
    go_wp2_with fail
    refine HH.out.mono ?_
    rintro e w1 ⟨rfl, rfl⟩
    go_wp2_with fail
    go_ret
    exact ⟨rfl, rfl⟩
  | true =>
    rw [hasI, decide_eq_true_eq] at hb
    obtain ⟨k, rfl⟩ : ∃ k : Nat, i = (k : Int) := ⟨i.toNat, by omega⟩
    have t1 : (k : Int) < (n : Int) := by omega
    have d0 := h.ii.cell k (by omega)
    rw [← idT_nat (by rw [h.len]; omega), hx] at d0
    clear h hb hx
    go_enter Try.func26, Try.ntmps26
    go_wp2_with fail
    refine HH.out.mono ?_
    rintro e w1 ⟨rfl, rfl⟩
    go_wp2_with fail
    go_ret
    exact ⟨rfl, rfl⟩
theorem tdep_v (i : Int) (w : World) (h : IsT w p gI gD gK n s) : Calls Try.prog 28 #[.pointer (some ⟨p, 0, none⟩), .int .i64 i] w fun e w' => e = .returned (.int .i64 (dpT s i : Int)) ∧ w = w' := by
  obtain ⟨⟨c0, c1, c2⟩, -⟩ := mbox3 h.box
  have H := Lib.hid h
  obtain ⟨b, hb⟩ : ∃ b, hasI n i = b := ⟨_, rfl⟩
  have HH := Lib.hid (hb ▸ thas_v p gI gD gK n s i w h)
  obtain ⟨x, hx⟩ : ∃ x, dpT s i = x := ⟨_, rfl⟩
  rw [hx]
  cases b with
  | false =>
    rw [hasI, decide_eq_false_iff_not] at hb
    have hx : x = 0 := by rw [← hx]; unfold dpT; rw [h.len, if_neg hb]
    subst hx
    clear h hb
    go_enter Try.func28, Try.ntmps28
    go_wp2_with fail
    refine HH.out.mono ?_
    rintro e w1 ⟨rfl, rfl⟩
    go_wp2_with fail
    go_ret
    exact ⟨rfl, rfl⟩
  | true =>
    rw [hasI, decide_eq_true_eq] at hb
    obtain ⟨k, rfl⟩ : ∃ k : Nat, i = (k : Int) := ⟨i.toNat, by omega⟩
    have t1 : (k : Int) < (n : Int) := by omega
    have d0 := h.id.cell k (by omega)
    rw [← dpT_nat (by rw [h.len]; omega), hx] at d0
    clear h hb hx
    go_enter Try.func28, Try.ntmps28
    go_wp2_with fail
    refine HH.out.mono ?_
    rintro e w1 ⟨rfl, rfl⟩
    go_wp2_with fail
    go_ret
    exact ⟨rfl, rfl⟩
theorem tkids_v (i : Int) (w : World) (h : IsT w p gI gD gK n s) : Calls Try.prog 31 #[.pointer (some ⟨p, 0, none⟩), .int .i64 i] w fun e w' => (∃ B m d, e = .returned (.slice B m d) ∧ (rowI (kd s) i).length = m ∧ OwnL 3 1 intC w.heap.size w' B d (nn (rowI (kd s) i))) ∧ Below w.heap.size w w' := by
  obtain ⟨⟨c0, c1, c2⟩, -⟩ := mbox3 h.box
  have H := Lib.hid h
  obtain ⟨b, hb⟩ : ∃ b, hasI n i = b := ⟨_, rfl⟩
  have HH := Lib.hid (hb ▸ thas_v p gI gD gK n s i w h)
  have hkl : (kd s).length = n := by unfold kd; rw [List.length_map, List.length_range]; exact h.len
  have HB := Lib.hid (And.intro hb hkl)
  clear h hb hkl
  cases b with
  | false =>
    have HE := Lib.hid (show rowI (kd s) i = [] by
      unfold rowI
      have h1 := HB.out.1
      rw [hasI, decide_eq_false_iff_not] at h1
      rw [if_neg (by rw [HB.out.2]; exact h1)])
    go_enter Try.func31, Try.ntmps31
    go_wp2_with fail
    refine HH.out.mono ?_
    rintro e w1 ⟨rfl, rfl⟩
    go_wp2_with fail
    go_ret
    exact ⟨⟨none, 0, 0, rfl, by rw [HE.out]; rfl, by rw [HE.out]; exact OwnL.nil⟩, Below.refl _ _⟩
  | true =>
    have h1 := HB.out.1
    rw [hasI, decide_eq_true_eq] at h1
    obtain ⟨k, rfl⟩ : ∃ k : Nat, i = (k : Int) := ⟨i.toNat, by omega⟩
    have hk : k < n := by omega
    have t1 : (k : Int) < (n : Int) := by omega
    have HE := Lib.hid (show rowI (kd s) (k : Int) = nx (kd s) k by
      unfold rowI
      rw [if_pos (by rw [HB.out.2]; exact h1)]
      simp)
    obtain ⟨b, o, hA, -, C, m, d, d0, d1⟩ := H.out.rk.at hk
    injection hA with hA
    injection hA with hA1 hA2
    subst hA1 hA2
    rw [Nat.zero_add] at d0
    have hlm : (nx (kd s) k).length = m := by rw [← nn_len]; exact d1.1
    have HC := Lib.hid (clone_v C m d _ w d1 (by
      rw [← hlm, kd_at (by rw [H.out.len]; exact hk)]
      unfold kidsB
      have h2 := List.length_filter_le (fun z => decide (idB s z = (k : Int))) (List.range s.length)
      rw [List.length_range] at h2
      have := H.out.len
      have := H.out.few
      omega))
    have HM := Lib.hid hlm
    clear h1 d1 hlm
    go_enter Try.func31, Try.ntmps31
    go_wp2_with fail
    refine HH.out.mono ?_
    rintro e w1 ⟨rfl, rfl⟩
    go_wp2_with fail
    refine HC.out.mono ?_
    rintro e w1 ⟨⟨B, d', rfl, ho⟩, hb⟩
    have HO := Lib.hid (And.intro ho hb)
    clear ho hb
    go_wp2_with fail
    go_ret
    exact ⟨⟨B, m, d', rfl, by rw [HE.out]; exact HM.out, by rw [HE.out]; exact HO.out.1⟩, HO.out.2⟩
theorem tis_v (a b : Int) (w : World) (h : IsT w p gI gD gK n s) (hd : 0 < n → ∃ O ov, DO s O ov) : Calls Try.prog 32 #[.pointer (some ⟨p, 0, none⟩), .int .i64 a, .int .i64 b] w fun e w' => e = .returned (.bool (isT s a b)) ∧ w = w' := by
  obtain ⟨⟨c0, c1, c2⟩, -⟩ := mbox3 h.box
  have H := Lib.hid (And.intro h hd)
  have hn := h.few
  obtain ⟨x, hx⟩ : ∃ x, isT s a b = x := ⟨_, rfl⟩
  rw [hx]
  obtain ⟨da, hda⟩ : ∃ d, dpT s a = d := ⟨_, rfl⟩
  have HA := Lib.hid (hda ▸ tdep_v p gI gD gK n s a w h)
  have HX := Lib.hid (And.intro hx hda)
  clear h hd hx hda
  by_cases h0 : da = 0
  · subst h0
    have hx : x = false := by
      rw [← HX.out.1]
      cases hq : isT s a b with
      | false => rfl
      | true =>
        exfalso
        unfold isT at hq
        rw [Bool.and_eq_true, decide_eq_true_eq] at hq
        obtain ⟨O, ov, hdo⟩ := H.out.2 (by have := H.out.1.len; omega)
        have h1 := (hdo.dom _ _).1 ((isB_iff hdo.ok).1 hq.2)
        have h2 := hdo.pos_of h1.1
        have h3 := HX.out.2
        unfold dpT at h3
        rw [if_pos (by omega)] at h3
        omega
    subst hx
    go_enter Try.func32, Try.ntmps32
    go_wp2_with fail
    refine HA.out.mono ?_
    rintro e w1 ⟨rfl, rfl⟩
    go_wp2_with fail
    go_ret
    exact ⟨rfl, rfl⟩
  · have hn0 : 0 < n := by
      refine Nat.pos_of_ne_zero fun e => h0 ?_
      rw [← HX.out.2]
      exact dpT_none (by rw [H.out.1.len]; exact e) _
    obtain ⟨O, ov, hdo⟩ := H.out.2 hn0
    obtain ⟨k, rfl, hk, hkl, hkc⟩ := hdo.got (i := a) (by rw [HX.out.2]; omega)
    have HD := Lib.hid (And.intro hdo (And.intro hk (show cntB s k = da by rw [← hkc]; exact HX.out.2)))
    have hne : ((da : Int) == 0) = false := by rw [beq_eq_false_iff_ne]; omega
    clear hdo hk hkl hkc h0
    go_enter Try.func32, Try.ntmps32
    go_wp2_with fail
    refine HA.out.mono ?_
    rintro e w1 ⟨rfl, rfl⟩
    go_wp2_with fail
    go_loopg [2] (dpT s b) (fun gk q wr => ∃ y : Int, q = .int .i64 y ∧ w = wr ∧ gk = dpT s y ∧ Hid (isT s (k : Int) y = x))
    case atStart => exact ⟨b, rfl, rfl, rfl, Lib.hid HX.out.1⟩
    case round =>
      obtain ⟨y, rfl, rfl, rfl, HY⟩ := hrel
      obtain ⟨dy, hdy⟩ : ∃ d, dpT s y = d := ⟨_, rfl⟩
      have HA2 := Lib.hid (hdy ▸ tdep_v p gI gD gK n s y w H.out.1)
      have HDy := Lib.hid hdy
      by_cases hlt : da < dy
      · obtain ⟨b', c', rfl, hb', hi, hc', hdp, his⟩ := HD.out.1.is_up HD.out.2.1 (i := y) (by rw [HD.out.2.2, hdy]; exact hlt)
        have t1 : (dy : Int) > (da : Int) := by omega
        have t2 : (b' : Int) < (n : Int) := by rw [← H.out.1.len]; omega
        have d0 := H.out.1.ii.cell b' (by omega)
        rw [hi] at d0
        have HI := Lib.hid (And.intro hdp (his ▸ HY.out))
        clear hb' hi hc' hdp his hlt hdy HY
        go_wp2_with fail
        refine HA2.out.mono ?_
        rintro e w1 ⟨rfl, rfl⟩
        go_wp2_with fail
        go_roundg (dpT s (c' : Int))
        case measure => have h1 := HI.out.1; have h2 := HDy.out; omega
        case rel => exact ⟨_, rfl, rfl, rfl, Lib.hid HI.out.2⟩
      · have hx : x = ((k : Int) == y) := by rw [← HY.out]; exact HD.out.1.is_end HD.out.2.1 (by rw [HD.out.2.2, hdy]; omega)
        subst hx
        have t1 : ¬ (dy : Int) > (da : Int) := by omega
        clear hdy hlt
        go_wp2_with fail
        refine HA2.out.mono ?_
        rintro e w1 ⟨rfl, rfl⟩
        go_wp2_with fail
        go_ret
        exact ⟨rfl, rfl⟩
end
end Go.Proofs.Ytojfbcfbnadboaa.Gra
/- All that dominate a block: the program's Over. -/
namespace Go.Proofs.Ytojfbcfbnadboaa.Gra
open Go.ChangeShapes Go.WideShapes Go.RowKit
set_option linter.unusedVariables false
set_option maxRecDepth 20000
set_option maxHeartbeats 2000000

theorem dpT_le (s : Gr) (i : Int) : dpT s i ≤ s.length := by
  unfold dpT cntB
  split
  · have h1 := List.length_filter_le (fun a => isB s a i.toNat) (List.range s.length)
    rw [List.length_range] at h1
    exact h1
  · exact Nat.zero_le _
/-- A world that grew at the end of a list of the call's own. -/
theorem below_own {N n c : Nat} {A : Option Addr} {w W W' : World} {l : List Int} (hb : Below N w W) (ho : OwnL 3 1 intC N W A c l) (hl : l.length = n) (hg : W.grownBy W' (Value.ownBlock (.slice A n c))) (hN : N ≤ w.heap.size) (hNW : w.heap.size ≤ W.heap.size) : Below N w W' := by
  refine ⟨hg.os.trans hb.os, hg.tape.trans hb.tape, hg.output.trans hb.output, Nat.le_trans hb.size hg.size, fun k hk => (hg.block k (by omega) (fun e => ?_)).trans (hb.block k hk)⟩
  have h1 := (ho.lo k (by rw [hl]; exact e.symm)).1
  omega
theorem tover_v (p gI gD gK n : Nat) (s : Gr) (i : Int) (w : World) (h : IsT w p gI gD gK n s) (hd : 0 < n → ∃ O ov, DO s O ov) :
    Calls Try.prog 34 #[.pointer (some ⟨p, 0, none⟩), .int .i64 i] w fun e w' => (∃ B m d, e = .returned (.slice B m d) ∧ dpT s i = m ∧ OwnL 3 1 intC w.heap.size w' B d ((List.range m).map (upN s i))) ∧ Below w.heap.size w w' := by
  have hdn := dpT_le s i
  rw [h.len] at hdn
  have hn := h.few
  obtain ⟨D, hD⟩ : ∃ D, dpT s i = D := ⟨_, rfl⟩
  rw [hD] at hdn
  have H := Lib.hid (And.intro h (And.intro (fun k (hk : k < D) => show ∃ x : Nat, upN s i k = (x : Int) ∧ x < n from by
    have hn0 : 0 < n := by omega
    obtain ⟨O, ov, hdo⟩ := hd hn0
    obtain ⟨x, h1, -, h3, -⟩ := hdo.ups (i := i) k (by omega)
    exact ⟨x, h1, by have := h.len; omega⟩) hD))
  have HA := Lib.hid (hD ▸ tdep_v p gI gD gK n s i w h)
  clear h hd hD
  go_enter Try.func34, Try.ntmps34
  go_wp2_with fail
  refine HA.out.mono ?_
  rintro e w1 ⟨rfl, rfl⟩
  go_wp2_with fail
  go_loopg [1, 5, 9] D (fun gk s1 s5 s9 wr => ∃ (k c : Nat) (A : Option Addr), k + gk = D ∧ s1 = .int .i64 (upN s i k) ∧ s5 = .slice A k c ∧ s9 = .int .i64 (k : Int) ∧ Hid (Below w.heap.size w wr ∧ OwnL 3 1 intC w.heap.size wr A c ((List.range k).map (upN s i))))
  case atStart => exact ⟨0, 0, none, by omega, rfl, rfl, rfl, Lib.hid ⟨Below.refl _ w, OwnL.nil⟩⟩
  case round =>
    obtain ⟨k, c, A, hk, rfl, rfl, rfl, HK⟩ := hrel
    by_cases hlt : k < D
    · have t1 : (k : Int) < (D : Int) := by omega
      obtain ⟨x, hx, hxn⟩ := H.out.2.1 k hlt
      have HX := Lib.hid hx
      rw [hx]
      obtain ⟨wn, hwn⟩ : ∃ wn, wr.alloc (.cells #[.int .i64 (x : Int)] 3) = wn := ⟨_, rfl⟩
      have mb := m_box wr _ 3 hwn
      have HP := Lib.hid (show Below w.heap.size w wn ∧ OwnL 3 1 intC w.heap.size wn A c ((List.range k).map (upN s i)) from ⟨HK.out.1.trans (mb.1.mono HK.out.1.size), HK.out.2.below mb.1⟩)
      have Fn := Lib.hid mb.2
      have hsz : w.heap.size ≤ wn.heap.size := HP.out.1.size
      clear mb hx
      go_wp2_with (at_builtin; refine mapp1 (N := w.heap.size) mInt rfl _ _ rfl (by rw [List.length_map, List.length_range]) rfl HP.out.2 wr.heap.size (x : Int) rfl Fn.out (by omega) hsz ?_)
      intro g' c' wh ho hgr hat hlt2
      have hb := below_own HP.out.1 HP.out.2 (by rw [List.length_map, List.length_range]) hgr (Nat.le_refl _) hsz
      have hT := H.out.1.below hb
      obtain ⟨⟨c0, c1, c2⟩, -⟩ := mbox3 hT.box
      have d0 := hT.ii.cell x hxn
      have t2 : (x : Int) < (n : Int) := by omega
      obtain ⟨y, hy⟩ : ∃ y, idB s x = y := ⟨_, rfl⟩
      rw [hy] at d0
      have HH := Lib.hid (show Below w.heap.size w wh ∧ OwnL 3 1 intC w.heap.size wh (some ⟨g', 0, none⟩) c' ((List.range (k + 1)).map (upN s i)) ∧ upN s i (k + 1) = y from ⟨hb, by
        rw [List.range_succ, List.map_append]
        show OwnL 3 1 intC _ _ _ _ (_ ++ [upN s i k])
        rw [HX.out]
        exact ho, by
        show idT s (upN s i k) = y
        rw [HX.out, idT_nat (by rw [hT.len]; exact hxn)]
        exact hy⟩)
      clear ho hgr hat hlt2 hb hT hy
      go_wp2_with fail
      go_roundg (D - k - 1)
      case measure => omega
      case rel => exact ⟨k + 1, c', _, by omega, by rw [HH.out.2.2], rfl, by go_num, Lib.hid ⟨HH.out.1, HH.out.2.1⟩⟩
    · obtain rfl : k = D := by omega
      have t1 : ¬ (k : Int) < (k : Int) := by omega
      go_wp2_with fail
      go_ret
      exact ⟨⟨A, k, c, rfl, H.out.2.2, HK.out.2⟩, HK.out.1⟩
end Go.Proofs.Ytojfbcfbnadboaa.Gra
/- All that one dominates: what holds while they are gathered (plain). -/
namespace Go.Proofs.Ytojfbcfbnadboaa.Gra
open Go.ChangeShapes Go.WideShapes Go.RowKit
set_option linter.unusedVariables false
set_option maxRecDepth 20000
set_option maxHeartbeats 2000000

theorem kid_mem {s : Gr} {x y : Nat} (hx : x < s.length) : y ∈ nx (kd s) x ↔ y < s.length ∧ idB s y = (x : Int) := by
  rw [kd_at hx]
  unfold kidsB
  rw [List.mem_filter, List.mem_range, decide_eq_true_eq]
theorem kids_few (s : Gr) (x : Nat) : (nx (kd s) x).length ≤ s.length := by
  by_cases hx : x < s.length
  · rw [kd_at hx]
    unfold kidsB
    have h2 := List.length_filter_le (fun z => decide (idB s z = (x : Int))) (List.range s.length)
    rw [List.length_range] at h2
    exact h2
  · unfold nx kd
    rw [List.getD_eq_getElem?_getD, List.getElem?_eq_none (by rw [List.length_map, List.length_range]; omega)]
    exact Nat.zero_le _
section
variable {s : Gr} {O : List Nat} {ov : Nat → Nat}
theorem DO.kid (h : DO s O ov) {x y : Nat} (hx : x < s.length) (hy : y ∈ nx (kd s) x) : x ∈ O ∧ y ∈ O ∧ y < s.length ∧ An ov (pl O x) (pl O y) := by
  obtain ⟨h1, h2⟩ := (kid_mem hx).1 hy
  have h3 := h.idom y
  rw [h2] at h3
  unfold idO at h3
  by_cases e : y ∈ O ∧ 0 < pl O y
  · obtain ⟨c, k1, k2, k3, k4, k5⟩ := h.step e.1 e.2
    have : c = x := by omega
    subst this
    exact ⟨k2, e.1, h1, k5⟩
  · rw [if_neg e] at h3
    omega
structure GI (s : Gr) (a : Nat) (sn : List Bool) (ws : List Nat) : Prop where
  len : sn.length = s.length
  wait : ∀ x ∈ ws, x < s.length ∧ isB s a x = true
  is : ∀ x, at_ sn x = true → isB s a x = true
  cl : ∀ x y, at_ sn x = true → y ∈ nx (kd s) x → at_ sn y = true ∨ y ∈ ws
  root : at_ sn a = true ∨ a ∈ ws
theorem GI.start (h : DO s O ov) {a : Nat} (ha : a ∈ O) : GI s a (List.replicate s.length false) [a] :=
  ⟨by simp, fun x hx => by rw [List.mem_singleton] at hx; subst hx; exact ⟨h.lt ha, (h.isAn ha ha).2 .refl⟩, fun x hx => (by rw [at_rep] at hx; cases hx), fun x y hx => (by rw [at_rep] at hx; cases hx), .inr (by simp)⟩
theorem GI.old {a b : Nat} {sn : List Bool} {r : List Nat} (h : GI s a sn (r ++ [b])) (hb : at_ sn b = true) : GI s a sn r :=
  ⟨h.len, fun x hx => h.wait x (by simp [hx]), h.is, fun x y hx hy => by
    rcases h.cl x y hx hy with h1 | h1
    · exact .inl h1
    · rcases List.mem_append.1 h1 with h1 | h1
      · exact .inr h1
      · rw [List.mem_singleton] at h1; subst h1; exact .inl hb, by
    rcases h.root with h1 | h1
    · exact .inl h1
    · rcases List.mem_append.1 h1 with h1 | h1
      · exact .inr h1
      · rw [List.mem_singleton] at h1; subst h1; exact .inl hb⟩
theorem GI.new (hd : DO s O ov) {a b : Nat} {sn : List Bool} {r : List Nat} (ha : a ∈ O) (h : GI s a sn (r ++ [b])) : GI s a (sn.set b true) (r ++ nx (kd s) b) := by
  have hb := h.wait b (by simp)
  have hbl : b < sn.length := by rw [h.len]; exact hb.1
  refine ⟨by rw [List.length_set]; exact h.len, fun x hx => ?_, fun x hx => ?_, fun x y hx hy => ?_, ?_⟩
  · rcases List.mem_append.1 hx with hx | hx
    · exact h.wait x (by simp [hx])
    · obtain ⟨k1, k2, k3, k4⟩ := hd.kid hb.1 hx
      exact ⟨k3, (hd.isAn ha k2).2 (((hd.isAn ha k1).1 hb.2).trans k4)⟩
  · rw [at_set sn b x hbl, Bool.or_eq_true, decide_eq_true_eq] at hx
    rcases hx with rfl | hx
    · exact hb.2
    · exact h.is x hx
  · rw [at_set sn b x hbl, Bool.or_eq_true, decide_eq_true_eq] at hx
    rw [at_set sn b y hbl, Bool.or_eq_true, decide_eq_true_eq]
    rcases hx with rfl | hx
    · exact .inr (by simp [hy])
    · rcases h.cl x y hx hy with h1 | h1
      · exact .inl (.inr h1)
      · rcases List.mem_append.1 h1 with h1 | h1
        · exact .inr (by simp [h1])
        · rw [List.mem_singleton] at h1; exact .inl (.inl h1.symm)
  · rw [at_set sn b a hbl, Bool.or_eq_true, decide_eq_true_eq]
    rcases h.root with h1 | h1
    · exact .inl (.inr h1)
    · rcases List.mem_append.1 h1 with h1 | h1
      · exact .inr (by simp [h1])
      · rw [List.mem_singleton] at h1; exact .inl (.inl h1.symm)
theorem GI.closed (hd : DO s O ov) {a : Nat} {sn : List Bool} (ha : a ∈ O) (h : GI s a sn []) : ∀ n x, pl O x ≤ n → x ∈ O → An ov (pl O a) (pl O x) → at_ sn x = true
  | n, x, hn, hx, k => by
    rcases k.cases_ with e | ⟨h0, k⟩
    · have := hd.pl_inj ha hx e
      subst this
      rcases h.root with h1 | h1
      · exact h1
      · cases h1
    · obtain ⟨c, k1, k2, k3, k4, k5⟩ := hd.step hx h0
      have hlt := hd.fall _ h0 (pl_lt hx)
      cases n with
      | zero => omega
      | succ n =>
        have h2 := GI.closed hd ha h n c (by omega) k2 (by rw [k3]; exact k)
        rcases h.cl c x h2 ((kid_mem (hd.lt k2)).2 ⟨hd.lt hx, k1⟩) with h3 | h3
        · exact h3
        · cases h3
theorem GI.end_ (hd : DO s O ov) {a : Nat} {sn : List Bool} (ha : a ∈ O) (h : GI s a sn []) (x : Nat) : at_ sn x = true ↔ isB s a x = true := by
  refine ⟨h.is x, fun hx => ?_⟩
  have h1 := (hd.dom a x).1 ((isB_iff hd.ok).1 hx)
  exact h.closed hd ha _ x (Nat.le_refl _) h1.2.1 h1.2.2
end
theorem uw_le {s : Gr} {sn : List Bool} {K : Nat} (hK : ∀ x, (nx s x).length ≤ K) : ∀ n, uw s sn n ≤ n * (K + 2)
  | 0 => by unfold uw; simp
  | n + 1 => by
    have ih := uw_le (sn := sn) hK n
    unfold uw at ih ⊢
    rw [List.range_succ, List.map_append, List.sum_append, Nat.succ_mul]
    have h1 := hK n
    have h2 : (if at_ sn n = true then 0 else (nx s n).length + 2) ≤ K + 2 := by split <;> omega
    simp only [List.map_cons, List.map_nil, List.sum_cons, List.sum_nil]
    omega
/-- Nothing behind it. -/
theorem OwnL.cap {α : Type} {T : TypeId} {sz : Nat} {cs : α → List Value} {N : Nat} {w : World} {A : Option Addr} {c m : Nat} {l : List α} (h : OwnL T sz cs N w A c l) (hl : l.length = m) : m ≤ c := by
  obtain ⟨_, ⟨h1, h2⟩ | ⟨g, cap, cur, e, h3, h4, h5, h6, _⟩⟩ := h
  · omega
  · injection e with e1 e2 e3
    subst e1 e3
    omega
theorem append_zero {W : World} {ops : Array Oper} {rest : List Oper} {o : Oper} {a : Act} {Q : Exit → Act → World → Prop} (hgd : o.guard = none) (s x : Operand)
    (ho : o.op = .call { callee := .builtin .append, args := #[s, x], argTypes := #[37, 37] })
    {A B : Option Addr} {c m d : Nat} (hs : a.eval s = .slice A m c) (hx : a.eval x = .slice B 0 d) (hmc : m ≤ c)
    (h : wpList Try.prog ops Q rest (a.put o.dst (.slice A m c)) W) : wpList Try.prog ops Q (o :: rest) a W := by
  obtain ⟨i, hi, hz, hz1, hz2⟩ := info_parts intInfo
  refine wpList_plain hgd fun K hK => ?_
  have hsrc : Src Try.prog i.size 37 (.slice B 0 d) 0 [] W := by
    cases B with
    | none => exact Src.ofNil W Try.underlying37 d
    | some ad => exact Src.ofSlice W Try.underlying37 ad 0 d [] (by simp) (fun j u hu => by simp at hu) (fun _ h => by cases h)
  have hrun := run_append_nothing (P := Try.prog) W 37 37 o.type 3 i Try.underlying37 hi A m c hmc (.slice B 0 d) hsrc
  unfold Oper.wp
  simp [execOp, ho, resolve, invoke, builtin, hs, hx, hrun, Result.andThen]
  exact hK _ _ h
/-- What lies in memory while they are gathered. -/
structure Ga (w0 W : World) (p g : Nat) (sn : List Bool) (A : Option Addr) (m c : Nat) (ws : List Nat) : Prop where
  bel : Below w0.heap.size w0 W
  set : Bit.SetAt w0.heap.size W p g sn
  row : OwnL 3 1 intC w0.heap.size W A c (nn ws)
  len : ws.length = m
  ap : ∀ b, Value.ownBlock (.slice A m c) = some b → b ≠ p ∧ b ≠ g
section
variable {w0 W W' : World} {p g : Nat} {sn sn' : List Bool} {A : Option Addr} {m c : Nat} {ws : List Nat}
theorem gset_mv {M : Nat → Prop} {B : Nat} (h : Bit.SetAt B W p g sn) (hv : Mv M W W') (hp : ¬ M p) (hg : ¬ M g) : Bit.SetAt B W' p g sn := by
  have h1 := h.lt
  have h2 := h.row.lt
  have kp := hv.agree.2 p h1 hp
  have kg := hv.agree.2 g h2 hg
  exact ⟨h.lo, h.log, h.ne, h.small, Nat.lt_of_lt_of_le h1 hv.size, (World.cell?_of_block (a := ⟨p, 0, none⟩) kp).trans h.bound, (World.cell?_of_block (a := ⟨p, 1, none⟩) kp).trans h.slice, Nat.lt_of_lt_of_le h2 hv.size, fun k hk => (World.cell?_of_block (a := ⟨g, k, none⟩) kg).trans (h.row.cell k hk), fun k => (World.frozen?_of_block (a := ⟨g, k, none⟩) kg).trans (h.row.free k)⟩
theorem Ga.below (h : Ga w0 W p g sn A m c ws) (hb : Below W.heap.size W W') : Ga w0 W' p g sn A m c ws :=
  ⟨h.bel.trans (hb.mono h.bel.size), gset_mv h.set (M := fun _ => False) (Mv.of hb) (fun h => h) (fun h => h), h.row.below hb, h.len, h.ap⟩
theorem Ga.added (h : Ga w0 W p g sn A m c ws) (hs : Bit.SetAt w0.heap.size W' p g sn') (hg : W.grownBy W' (some g)) : Ga w0 W' p g sn' A m c ws := by
  have hv : Mv (fun k => k = g) W W' := grown_mv hg (fun k e => by injection e with e; exact e.symm)
  exact ⟨hv.below h.bel h.bel.size (fun k e => by subst e; exact h.set.log), hs, mown_mv h.row hv (fun k hk e => (h.ap k (by rw [← h.len, ← nn_len ws]; exact hk)).2 e), h.len, h.ap⟩
theorem Ga.pop {r : List Nat} {b k : Nat} (h : Ga w0 W p g sn A (k + 1) c (r ++ [b])) (hr : r.length = k) : Ga w0 W p g sn A k c r := by
  have h1 := h.row
  rw [nn_app] at h1
  exact ⟨h.bel, h.set, OwnL.pop (fun _ => rfl) h1, hr, fun b hb => h.ap b (by cases A <;> exact hb)⟩
theorem Ga.more {A' : Option Addr} {m' c' : Nat} {ws' : List Nat} (h : Ga w0 W p g sn A m c ws) (ho : OwnL 3 1 intC w0.heap.size W' A' c' (nn ws')) (hl : ws'.length = m') (hg : W.grownBy W' (Value.ownBlock (.slice A m c))) (hat : ∀ b, Value.ownBlock (.slice A' m' c') = some b → Value.ownBlock (.slice A m c) = some b ∨ b = W.heap.size) : Ga w0 W' p g sn A' m' c' ws' := by
  have hv : Mv (fun k => Value.ownBlock (.slice A m c) = some k) W W' := grown_mv hg (fun k e => e)
  have h1 := h.set.lt
  have h2 := h.set.row.lt
  exact ⟨hv.below h.bel h.bel.size (fun k hk => (h.row.lo k (by rw [nn_len, h.len]; exact hk)).1), gset_mv h.set hv (fun e => (h.ap p e).1 rfl) (fun e => (h.ap g e).2 rfl), ho, hl, fun b hb => by
    rcases hat b hb with e | e
    · exact h.ap b e
    · omega⟩
end
end Go.Proofs.Ytojfbcfbnadboaa.Gra
/- All that one dominates: the program's gather, and Below. -/
namespace Go.Proofs.Ytojfbcfbnadboaa.Gra
open Go.ChangeShapes Go.WideShapes Go.RowKit
set_option linter.unusedVariables false
set_option maxRecDepth 20000
set_option maxHeartbeats 4000000

theorem gather_v (w0 : World) (pT gI gD gK n : Nat) (s : Gr) (O : List Nat) (ov : Nat → Nat) (a p g : Nat) (w : World) (hT : IsT w0 pT gI gD gK n s) (hdo : DO s O ov) (ha : a ∈ O) (hb : Below w0.heap.size w0 w) (hset : Bit.SetAt w0.heap.size w p g (List.replicate n false)) :
    Calls Try.prog 59 #[.pointer (some ⟨p, 0, none⟩), .int .i64 (a : Int), .func (.func 31) #[.pointer (some ⟨pT, 0, none⟩)] #[]] w fun e w' => e = .returned (.tuple #[]) ∧ Below w0.heap.size w0 w' ∧ ∃ sn, Bit.SetAt w0.heap.size w' p g sn ∧ sn.length = n ∧ ∀ x, at_ sn x = true ↔ isB s a x = true := by
  have hlen := hT.len
  have hn := hT.few
  have hu0 : uw (kd s) (List.replicate n false) n + 1 ≤ 100000 := by
    have h1 := uw_le (s := kd s) (sn := List.replicate n false) (K := 300) (fun x => Nat.le_trans (kids_few s x) (by omega)) n
    have h2 : n * (300 + 2) ≤ 300 * (300 + 2) := Nat.mul_le_mul_right _ hn
    omega
  have H := Lib.hid (And.intro hT (And.intro hdo ha))
  obtain ⟨wn, hwn⟩ : ∃ wn, w.alloc (.cells #[.int .i64 (a : Int)] 3) = wn := ⟨_, rfl⟩
  have mb := m_box w _ 3 hwn
  have HS := Lib.hid (show Ga w0 wn p g (List.replicate n false) (some ⟨w.heap.size, 0, none⟩) 1 1 [a] ∧ GI s a (List.replicate n false) [a] from by
    refine ⟨⟨hb.trans (mb.1.mono hb.size), gset_mv hset (M := fun _ => False) (Mv.of mb.1) (fun h => h) (fun h => h), mfirst mInt (N := w0.heap.size) (l := nn [a]) mb.2 hb.size rfl (by decide), rfl, fun b hb => ?_⟩, ?_⟩
    · have h1 := hset.lt
      have h2 := hset.row.lt
      have : w.heap.size = b := by injection hb
      omega
    · rw [← hlen]
      exact GI.start hdo ha)
  clear hT hdo ha hb hset mb
  go_enter Try.func59, Try.ntmps59
  go_wp2_with fail
  try rw [hwn]
  clear hwn
  go_loopg [6, 7] 100000 (fun gk s6 s7 wr => ∃ (sn : List Bool) (A : Option Addr) (m c : Nat) (ws : List Nat), s6 = .slice A m c ∧ uw (kd s) sn n + ws.length ≤ gk ∧ gk ≤ 100000 ∧ Hid (Ga w0 wr p g sn A m c ws ∧ GI s a sn ws))
  case atStart => exact ⟨_, _, 1, 1, [a], rfl, hu0, Nat.le_refl _, HS⟩
  case round =>
    clear hu0 HS
    obtain ⟨sn, A, m, c, ws, rfl, hgk, hgl, HK⟩ := hrel
    cases m with
    | zero =>
      have hw0 : ws = [] := List.eq_nil_of_length_eq_zero HK.out.1.len
      subst hw0
      have HEnd := Lib.hid (And.intro (HK.out.2.len.trans hlen) (fun x => beq_of (HK.out.2.end_ H.out.2.1 H.out.2.2 x)))
      have hz : ¬ ((0 : Nat) : Int) > 0 := by omega
      clear hgk
      go_wp2_with fail
      (try simp only [Exit.inBlock, Exit.then]); (first | refine bodyPost_ret (results_none rfl _ _ _) rfl ?_ | go_end0)
      exact ⟨rfl, HK.out.1.bel, sn, HK.out.1.set, HEnd.out.1, fun x => by rw [HEnd.out.2 x]⟩
    | succ m =>
      obtain ⟨r, b, rfl, hr⟩ := list_last HK.out.1.len
      obtain ⟨gA, rfl, hmc, hcx⟩ := OwnL.some_ (m := m) HK.out.1.row (by rw [nn_len]; exact HK.out.1.len)
      have htop : wr.cell? ⟨gA, m, none⟩ = some (.int .i64 (b : Int)) := by
        have h1 := HK.out.1.row.ints
        rw [nn_len, HK.out.1.len] at h1
        exact ints_last h1 hr
      have hbs : b < s.length := (HK.out.2.wait b (by simp)).1
      have HP := Lib.hid (HK.out.1.pop hr)
      have HB := Lib.hid (And.intro hbs (show b < sn.length by rw [HK.out.2.len]; exact hbs))
      have HG := Lib.hid HK.out.2
      have hgk2 : uw (kd s) sn n + r.length + 1 ≤ gk := by rw [List.length_append] at hgk; simp at hgk; omega
      have hmb : m ≤ 100000 := by omega
      have t1 : ((m + 1 : Nat) : Int) > 0 := by omega
      have t2 : IntKind.i64.wrap (((m + 1 : Nat) : Int) - 1) = (m : Int) := by rw [IntKind.wrap_i64]; omega
      have t2' : ((m + 1 : Nat) : Int) - 1 = (m : Int) := by omega
      have t3 : (m : Int) < ((m + 1 : Nat) : Int) := by omega
      have t4 : (m : Int) ≤ (c : Int) := by unfold maxLen at hcx; omega
      have HAd := Bit.add_v (b : Int) w0.heap.size p g sn wr HP.out.set
      unfold Bit.PutP at HAd
      clear hgk HK hbs
      cases hq : at_ sn b with
      | true =>
        obtain ⟨e1, e2⟩ := Bit.wth_same (bs := sn) (i := b) (b := true) hq
        rw [e1, e2] at HAd
        have HA := Lib.hid HAd
        have HN := Lib.hid (HG.out.old hq)
        clear HAd e1 e2 hq hr
        go_wp2_with fail
        refine HA.out.mono ?_
        rintro e w1 ⟨rfl, hs1, hg1⟩
        have H1 := Lib.hid (HP.out.added hs1 hg1)
        clear hs1 hg1
        go_wp2_with fail
        obtain ⟨G, hG⟩ : ∃ G, gk = G := ⟨_, rfl⟩
        rw [hG] at hgk2 hgl
        go_roundg (gk - 1)
        case measure => omega
        case rel => exact ⟨sn, _, m, c, r, rfl, by omega, by omega, Lib.hid ⟨H1.out, HN.out⟩⟩
      | false =>
        obtain ⟨e1, e2⟩ := Bit.wth_new (bs := sn) (i := b) (b := true) HB.out.2 hq
        rw [e1, e2] at HAd
        have HA := Lib.hid HAd
        have HN := Lib.hid (HG.out.new H.out.2.1 H.out.2.2)
        have hus := uw_set (s := kd s) HB.out.2 hq n
        rw [if_pos (by have := HB.out.1; omega)] at hus
        clear HAd e1 e2 hq hr
        go_wp2_with fail
        refine HA.out.mono ?_
        rintro e w1 ⟨rfl, hs1, hg1⟩
        have H1 := Lib.hid (HP.out.added hs1 hg1)
        have HKd := Lib.hid (tkids_v pT gI gD gK n s (b : Int) w1 (H.out.1.below H1.out.bel))
        clear hs1 hg1
        go_wp2_with fail
        refine HKd.out.mono ?_
        rintro e w2 ⟨⟨B, mk, d, rfl, hm, ho⟩, hb2⟩
        have hrow : rowI (kd s) (b : Int) = nx (kd s) b := by
          unfold rowI
          rw [if_pos (by have h1 : (kd s).length = s.length := by unfold kd; rw [List.length_map, List.length_range]
                         have := HB.out.1
                         omega)]
          simp
        rw [hrow] at hm ho
        have H2 := Lib.hid (H1.out.below hb2)
        have hmk : mk ≤ 300 := by have := kids_few s b; omega
        have hml : r.length = m := H2.out.len
        clear hb2 hrow HKd HA
        cases mk with
        | zero =>
          have hnil : nx (kd s) b = [] := List.eq_nil_of_length_eq_zero hm
          rw [hnil] at HN hus
          rw [List.append_nil] at HN
          have hmc2 : m ≤ c := OwnL.cap H2.out.row ((nn_len r).trans hml)
          clear ho hm hnil
          go_wp2_with (at_builtin; refine append_zero rfl _ _ rfl rfl rfl hmc2 ?_)
          obtain ⟨G, hG⟩ : ∃ G, gk = G := ⟨_, rfl⟩
          rw [hG] at hgk2 hgl
          go_roundg (gk - 1)
          case measure => omega
          case rel => exact ⟨_, _, m, c, r, rfl, by simp at hus; omega, by omega, Lib.hid ⟨H2.out, HN.out⟩⟩
        | succ k =>
          obtain ⟨gB, rfl, -, -⟩ := OwnL.some_ (m := k) ho (by rw [nn_len]; exact hm)
          have hcells : ∀ j u, ((nn (nx (kd s) b)).flatMap intC)[j]? = some u → w2.cell? ((⟨gB, 0, none⟩ : Addr).add j) = some u := fun j u hu => by
            have h1 := World.ownsRow.cellAt ho j (by
              have h2 := (List.getElem?_eq_some_iff.1 hu).1
              rw [flat_len (cs := intC) (sz := 1) (fun _ => rfl)] at h2
              exact h2)
            rw [add_at]
            rw [Nat.zero_add]
            rw [h1]
            exact hu
          have HC := Lib.hid hcells
          clear hcells
          go_wp2_with (at_builtin; refine mapp (N := w0.heap.size) mInt rfl _ _ rfl ((nn_len r).trans hml) rfl H2.out.row ⟨gB, 0, none⟩ (k + 1) d (nn (nx (kd s) b)) rfl (by rw [nn_len]; exact hm) (by omega) HC.out (by omega) H2.out.bel.size ?_)
          intro g' c' wh ho' hgr hat hlt2
          have HV := Lib.hid (H2.out.more (ws' := r ++ nx (kd s) b) (m' := m + (k + 1)) (A' := some ⟨g', 0, none⟩) (c' := c') (by unfold nn at ho' ⊢; rw [List.map_append]; exact ho') (by rw [List.length_append]; omega) hgr (fun b hb => by
            have e : g' = b := by injection hb
            subst e
            exact hat))
          clear ho' hgr hat hlt2 ho
          go_wp2_with fail
          obtain ⟨G, hG⟩ : ∃ G, gk = G := ⟨_, rfl⟩
          rw [hG] at hgk2 hgl
          go_roundg (gk - 1)
          case measure => omega
          case rel => exact ⟨_, _, m + (k + 1), c', _, rfl, by rw [List.length_append]; omega, by omega, Lib.hid ⟨HV.out, HN.out⟩⟩
end Go.Proofs.Ytojfbcfbnadboaa.Gra
/- The set of all that one dominates: the program's Below. -/
namespace Go.Proofs.Ytojfbcfbnadboaa.Gra
open Go.ChangeShapes Go.WideShapes Go.RowKit
set_option linter.unusedVariables false
set_option maxRecDepth 20000
set_option maxHeartbeats 2000000

theorem isT_none {s : Gr} {n : Nat} {i j : Int} (hl : s.length = n) (hd : 0 < n → ∃ O ov, DO s O ov) (h0 : dpT s i = 0) : isT s i j = false := by
  cases hq : isT s i j with
  | false => rfl
  | true =>
    exfalso
    unfold isT at hq
    rw [Bool.and_eq_true, decide_eq_true_eq] at hq
    obtain ⟨O, ov, hdo⟩ := hd (by omega)
    have h1 := (hdo.dom _ _).1 ((isB_iff hdo.ok).1 hq.2)
    have h2 := hdo.pos_of h1.1
    unfold dpT at h0
    rw [if_pos (by omega)] at h0
    omega
theorem tbelow_v (p gI gD gK n : Nat) (s : Gr) (i : Int) (w : World) (h : IsT w p gI gD gK n s) (hd : 0 < n → ∃ O ov, DO s O ov) :
    Calls Try.prog 30 #[.pointer (some ⟨p, 0, none⟩), .int .i64 i] w fun e w' => (∃ ps, e = .returned (.pointer (some ⟨ps, 0, none⟩)) ∧ ∃ g sn, Bit.SetAt w.heap.size w' ps g sn ∧ sn.length = n ∧ ∀ x : Nat, at_ sn x = isT s i (x : Int)) ∧ Below w.heap.size w w' := by
  have hn := h.few
  have hlen := h.len
  obtain ⟨D, hD⟩ : ∃ D, dpT s i = D := ⟨_, rfl⟩
  have H := Lib.hid (And.intro h (And.intro hd hD))
  have HN := Lib.hid (Bit.new_v (n : Int) n (by omega) (by omega) w)
  have HM := Lib.hid (tmany_v p gI gD gK n s w h)
  clear h hd hD
  go_enter Try.func30, Try.ntmps30
  go_wp2_with fail
  refine HM.out.mono ?_
  rintro e w1 ⟨rfl, rfl⟩
  go_wp2_with fail
  refine HN.out.mono ?_
  rintro e w1 ⟨ps, g, rfl, hset, hgr⟩
  have H1 := Lib.hid (show Bit.SetAt w.heap.size w1 ps g (List.replicate n false) ∧ Below w.heap.size w w1 from ⟨hset, ⟨hgr.os, hgr.tape, hgr.output, hgr.size, fun k hk => hgr.block k hk (by simp)⟩⟩)
  have HA := Lib.hid (H.out.2.2 ▸ tdep_v p gI gD gK n s i w1 (H.out.1.below H1.out.2))
  clear hset hgr HM HN
  by_cases h0 : D = 0
  · subst h0
    have t1 : ¬ ((0 : Nat) : Int) > 0 := by omega
    go_wp2_with fail
    refine HA.out.mono ?_
    rintro e w2 ⟨rfl, rfl⟩
    go_wp2_with fail
    go_ret
    exact ⟨⟨ps, rfl, g, _, H1.out.1, by simp, fun x => by rw [at_rep, isT_none hlen H.out.2.1 H.out.2.2]⟩, H1.out.2⟩
  · have hn0 : 0 < n := by
      refine Nat.pos_of_ne_zero fun e => h0 ?_
      rw [← H.out.2.2]
      exact dpT_none (by rw [hlen]; exact e) _
    obtain ⟨O, ov, hdo⟩ := H.out.2.1 hn0
    obtain ⟨a, rfl, ha, hal, -⟩ := hdo.got (i := i) (by rw [H.out.2.2]; omega)
    have HG := Lib.hid (gather_v w p gI gD gK n s O ov a ps g w1 H.out.1 hdo ha H1.out.2 H1.out.1)
    have HL := Lib.hid (And.intro hal hlen)
    have t1 : (D : Int) > 0 := by omega
    clear hdo ha hal h0 hlen
    go_wp2_with fail
    refine HA.out.mono ?_
    rintro e w2 ⟨rfl, rfl⟩
    go_wp2_with fail
    refine HG.out.mono ?_
    rintro e w2 ⟨rfl, hb, sn, hset, hsl, hat⟩
    have H2 := Lib.hid (And.intro hb (And.intro hset (And.intro hsl (fun x => beq_of (hat x)))))
    clear hb hset hsl hat
    go_wp2_with fail
    go_ret
    refine ⟨⟨ps, rfl, g, sn, H2.out.2.1, H2.out.2.2.1, fun x => ?_⟩, H2.out.1⟩
    rw [H2.out.2.2.2 x]
    by_cases hx : x < s.length
    · rw [isT_nat HL.out.1 hx]
    · unfold isT isB
      rw [decide_eq_false (by omega)]
      rw [Bool.false_and]
      have h1 : at_ (reach s 0 (-1)) x = false := by
        unfold at_
        rw [List.getD_eq_getElem?_getD, List.getElem?_eq_none (by rw [reach_len]; omega)]
        rfl
      rw [h1, Bool.false_and]
end Go.Proofs.Ytojfbcfbnadboaa.Gra
