
/- The document's own text of a target. -/
import Derived.Test.YtakfoncdiejhaaaDoorNotMath
import Derived.Test.YtakfoncdiejhaaaDoorShoRefB
import Derived.Deep.RegionHeld3
namespace Go.Proofs.YtakfoncdiejhaaaDoor
open Go.ChangeShapes Go.WideShapes Go.RowKit
set_option linter.unusedVariables false
set_option maxRecDepth 20000

theorem spoT_take (c : Int) (l : List Int) (k : Nat) (x : Int) (h : l[k]? = some x) : spoT c (l.take (k + 1)) = spoT c (l.take k) ++ (32 :: Tg.nameOf 2 c x) := flat_take (fun n => 32 :: Tg.nameOf 2 c n) l k x h
theorem spoT_le (c : Int) (l : List Int) (k : Nat) : (spoT c (l.take k)).length ≤ (spoT c l).length := flat_le (fun n => 32 :: Tg.nameOf 2 c n) l k
theorem five_in {W : World} {Q : Nat} {a0 a1 a2 a3 a4 : Value} {t : TypeId} (h : W.heap[Q]? = some (.cells #[a0, a1, a2, a3, a4] t (0, 0))) :
    W.cell? ⟨Q, 0, none⟩ = some a0 ∧ W.cell? ⟨Q, 1, none⟩ = some a1 ∧ W.cell? ⟨Q, 2, none⟩ = some a2 ∧ W.cell? ⟨Q, 3, none⟩ = some a3 ∧ W.cell? ⟨Q, 4, none⟩ = some a4 := ⟨cell_in h 0, cell_in h 1, cell_in h 2, cell_in h 3, cell_in h 4⟩
/-- The registers of so many classes. -/
def uptoT (c0 c1 : List Int) (c : Nat) : List UInt8 := if c = 0 then [] else if c = 1 then spoT 0 c0 else spoT 0 c0 ++ spoT 1 c1
set_option maxHeartbeats 4000000 in
theorem rtarget_v (r0 r1 : Int) (c0 c1 : List Int) (slots : Int) (a0 : Option Addr) (n0 p0 : Nat) (a1 : Option Addr) (n1 p1 : Nat) (t : List UInt8) (W : World) (h0 : IsInts W a0 n0 c0) (h1 : IsInts W a1 n1 c1)
    (f0 : Deci.fit r0) (f1 : Deci.fit r1) (f2 : Deci.fit slots) (g0 : ∀ n ∈ c0, Deci.fit n) (g1 : ∀ n ∈ c1, Deci.fit n) (s0 : n0 ≤ 1048576) (s1 : n1 ≤ 1048576) (ht : tgtT r0 r1 c0 c1 slots = t) (hlen : t.length ≤ big) :
    Calls Tryd.prog 10 #[.agg #[.int .i64 r0, .int .i64 r1, .slice a0 n0 p0, .slice a1 n1 p1, .int .i64 slots]] W (SaysT t W) := by
  have BA : Below W.heap.size W (W.alloc (.cells #[.int .i64 r0, .int .i64 r1, .slice a0 n0 p0, .slice a1 n1 p1, .int .i64 slots] 26)) := (Below.refl _ W).alloc (Nat.le_refl _) _
  have hal := heap_alloc_new W (.cells #[.int .i64 r0, .int .i64 r1, .slice a0 n0 p0, .slice a1 n1 p1, .int .i64 slots] 26)
  have HI := Lib.hid (And.intro (h0.below BA) (And.intro (h1.below BA) (And.intro g0 (And.intro g1 (And.intro s0 s1)))))
  have hl0 := h0.1
  have hl1 := h1.1
  clear h0 h1 g0 g1
  obtain ⟨wa, hwa⟩ : ∃ wa, W.alloc (.cells #[.int .i64 r0, .int .i64 r1, .slice a0 n0 p0, .slice a1 n1 p1, .int .i64 slots] 26) = wa := ⟨_, rfl⟩
  rw [hwa] at BA hal HI
  have HA := Lib.hid (And.intro BA hal)
  clear BA hal
  obtain ⟨P, hP⟩ : ∃ P, W.heap.size = P := ⟨_, rfl⟩
  have HPP := Lib.hid hP
  have S0 := Lib.hid (show wa.cell? ⟨P, 0, none⟩ = some (.int .i64 r0) ∧ wa.cell? ⟨P, 1, none⟩ = some (.int .i64 r1) ∧ wa.cell? ⟨P, 2, none⟩ = some (.slice a0 n0 p0) ∧ wa.cell? ⟨P, 3, none⟩ = some (.slice a1 n1 p1) ∧ wa.cell? ⟨P, 4, none⟩ = some (.int .i64 slots) from by rw [← hP]; exact five_in HA.out.2)
  clear hP
  have hcells := Lib.hid (show ∀ w', Below wa.heap.size wa w' → w'.cell? ⟨P, 0, none⟩ = some (.int .i64 r0) ∧ w'.cell? ⟨P, 1, none⟩ = some (.int .i64 r1) ∧ w'.cell? ⟨P, 2, none⟩ = some (.slice a0 n0 p0) ∧ w'.cell? ⟨P, 3, none⟩ = some (.slice a1 n1 p1) ∧ w'.cell? ⟨P, 4, none⟩ = some (.int .i64 slots) from fun w' hb => by
    rw [← HPP.out]; exact five_in (kept_box HA.out.2 hb))
  have htl := congrArg List.length ht
  unfold tgtT tgtT1 at htl
  simp only [List.length_append, List.length_cons, List.length_nil] at htl
  obtain ⟨x0, hx0⟩ : ∃ x, Deci.txt r0 = x := ⟨_, rfl⟩
  obtain ⟨x1, hx1⟩ : ∃ x, Deci.txt r1 = x := ⟨_, rfl⟩
  obtain ⟨x2, hx2⟩ : ∃ x, Deci.txt slots = x := ⟨_, rfl⟩
  rw [hx0, hx1, hx2] at htl
  obtain ⟨T1, hT1⟩ : ∃ T, [116, 97, 114, 103, 101, 116, 32, 103, 32] ++ x0 = T := ⟨_, rfl⟩
  obtain ⟨T2, hT2⟩ : ∃ T, T1 ++ [32, 120, 32] = T := ⟨_, rfl⟩
  obtain ⟨T3, hT3⟩ : ∃ T, T2 ++ x1 = T := ⟨_, rfl⟩
  obtain ⟨T4, hT4⟩ : ∃ T, T3 ++ [32, 115, 108, 111, 116, 115, 32] = T := ⟨_, rfl⟩
  obtain ⟨T5, hT5⟩ : ∃ T, T4 ++ x2 = T := ⟨_, rfl⟩
  have l1 : T1.length = 9 + x0.length := by rw [← hT1]; simp; omega
  have l2 : T2.length = T1.length + 3 := by rw [← hT2]; simp
  have l3 : T3.length = T2.length + x1.length := by rw [← hT3]; simp
  have l4 : T4.length = T3.length + 7 := by rw [← hT4]; simp
  have l5 : T5.length = T4.length + x2.length := by rw [← hT5]; simp
  have h5 : tgtT1 r0 r1 slots = T5 := by
    rw [← hT5, ← hT4, ← hT3, ← hT2, ← hT1, ← hx0, ← hx1, ← hx2]; unfold tgtT1; simp
  have e1 : ∀ W : World, (Op.stringOp .add ⟨#[116, 97, 114, 103, 101, 116, 32, 103, 32]⟩ (tx x0)).run Tryd.prog W = .ok (.string (tx T1)) W := add_tx [116, 97, 114, 103, 101, 116, 32, 103, 32] x0 T1 hT1 (by omega)
  have e2 : ∀ W : World, (Op.stringOp .add (tx T1) ⟨#[32, 120, 32]⟩).run Tryd.prog W = .ok (.string (tx T2)) W := add_tx T1 [32, 120, 32] T2 hT2 (by omega)
  have e3 : ∀ W : World, (Op.stringOp .add (tx T2) (tx x1)).run Tryd.prog W = .ok (.string (tx T3)) W := add_tx T2 x1 T3 hT3 (by omega)
  have e4 : ∀ W : World, (Op.stringOp .add (tx T3) ⟨#[32, 115, 108, 111, 116, 115, 32]⟩).run Tryd.prog W = .ok (.string (tx T4)) W := add_tx T3 [32, 115, 108, 111, 116, 115, 32] T4 hT4 (by omega)
  have e5 : ∀ W : World, (Op.stringOp .add (tx T4) (tx x2)).run Tryd.prog W = .ok (.string (tx T5)) W := add_tx T4 x2 T5 hT5 (by omega)
  have C1 := Lib.hid (fun w => rput_t r0 x0 hx0 f0 w)
  have C2 := Lib.hid (fun w => rput_t r1 x1 hx1 f1 w)
  have C3 := Lib.hid (fun w => rput_t slots x2 hx2 f2 w)
  have HT := Lib.hid (And.intro h5 (And.intro ht (And.intro hlen (And.intro htl (And.intro l1 (And.intro l2 (And.intro l3 (And.intro l4 l5))))))))
  clear hT1 hT2 hT3 hT4 hT5 hx0 hx1 hx2 h5 ht hlen htl l1 l2 l3 l4 l5 f0 f1 f2
  go_enter Tryd.func10, Tryd.ntmps10
  go_wp2_with fail
  clear hwa
  rw [HPP.out]
  obtain ⟨k0, k1, k2, k3, k4⟩ := S0.out
  go_region_held3 (fun w' => w'.cell? ⟨P, 0, none⟩ = some (.int .i64 r0) ∧ w'.cell? ⟨P, 1, none⟩ = some (.int .i64 r1) ∧ w'.cell? ⟨P, 4, none⟩ = some (.int .i64 slots))
    (first | exact K3.out | exact K2.out | exact K1.out | exact ⟨k0, k1, k4⟩)
    (first
      | (go_at_call 19; refine (C3.out w2).mono ?_; rintro e w3 ⟨rfl, hb⟩; have B3 := Lib.hid (B2.out.trans (hb.mono B2.out.size)); clear hb; have K3 := Lib.hid (show w3.cell? ⟨P, 0, none⟩ = some (.int .i64 r0) ∧ w3.cell? ⟨P, 1, none⟩ = some (.int .i64 r1) ∧ w3.cell? ⟨P, 4, none⟩ = some (.int .i64 slots) from ⟨(hcells.out w3 B3.out).1, (hcells.out w3 B3.out).2.1, (hcells.out w3 B3.out).2.2.2.2⟩))
      | (go_at_call 19; refine (C2.out w1).mono ?_; rintro e w2 ⟨rfl, hb⟩; have B2 := Lib.hid (B1.out.trans (hb.mono B1.out.size)); clear hb; have K2 := Lib.hid (show w2.cell? ⟨P, 0, none⟩ = some (.int .i64 r0) ∧ w2.cell? ⟨P, 1, none⟩ = some (.int .i64 r1) ∧ w2.cell? ⟨P, 4, none⟩ = some (.int .i64 slots) from ⟨(hcells.out w2 B2.out).1, (hcells.out w2 B2.out).2.1, (hcells.out w2 B2.out).2.2.2.2⟩))
      | (go_at_call 19; refine (C1.out _).mono ?_; rintro e w1 ⟨rfl, hb⟩; have B1 := Lib.hid (show Below wa.heap.size wa w1 from (below_drewN wa 1).trans hb); clear hb; have K1 := Lib.hid (show w1.cell? ⟨P, 0, none⟩ = some (.int .i64 r0) ∧ w1.cell? ⟨P, 1, none⟩ = some (.int .i64 r1) ∧ w1.cell? ⟨P, 4, none⟩ = some (.int .i64 slots) from ⟨(hcells.out w1 B1.out).1, (hcells.out w1 B1.out).2.1, (hcells.out w1 B1.out).2.2.2.2⟩)))
  clear k0 k1 k2 k3 k4 e1 e2 e3 e4 e5 C1 C2 C3 K1 K2 K3 B1 B2
  obtain ⟨T6, hT6⟩ : ∃ T, T5 ++ cloT c0 c1 = T := ⟨_, rfl⟩
  have l6 : T6.length = T5.length + (cloT c0 c1).length := by rw [← hT6]; simp
  have h6 : T6 ++ ((spoT 0 c0 ++ spoT 1 c1) ++ [59, 10]) = t := by
    rw [← HT.out.2.1, ← hT6]; unfold tgtT; rw [HT.out.1]; simp
  have h6l := congrArg List.length h6
  simp only [List.length_append, List.length_cons, List.length_nil] at h6l
  have H6 := Lib.hid (And.intro h6 (And.intro h6l HT.out.2.2.1))
  have i2 : (0 : Int) ≤ (n0 : Int) + (n1 : Int) := by omega
  obtain ⟨k0, k1, k2, k3, k4⟩ := hcells.out w3 B3.out
  by_cases hz : c0.length + c1.length = 0
  · have hcl : cloT c0 c1 = [] := by unfold cloT; rw [if_pos hz]
    rw [hcl, List.append_nil] at hT6
    rw [hT6]
    have z0 : n0 = 0 := by omega
    have z1 : n1 = 0 := by omega
    have gz : ¬ (0 : Int) < (n0 : Int) + (n1 : Int) := by omega
    clear h6 h6l l6 hz hcl hT6 z0 z1
    go_wp2_with fail
    clear k0 k1 k2 k3 k4 gz i2
    go_loopg [3, 4] 2 (fun gk u1 u2 wr => ∃ c : Nat, c + gk = 2 ∧ u2 = .int .i64 (c : Int) ∧ u1 = .string (tx (T6 ++ uptoT c0 c1 c)) ∧ Hid (Below wa.heap.size wa wr))
    case atStart => exact ⟨0, by omega, rfl, by unfold uptoT; simp, B3.out⟩
    case round =>
      obtain ⟨c, hc, rfl, rfl, HH⟩ := hrel
      rcases (by omega : c = 0 ∨ c = 1 ∨ c = 2) with rfl | rfl | rfl
      · obtain rfl : gk = 2 := by omega
        obtain ⟨k0, k1, k2, k3, k4⟩ := hcells.out wr HH.out
        have iC : (0 : Int) < 2 := by omega
        obtain ⟨S, hS⟩ : ∃ S, T6 ++ uptoT c0 c1 0 = S := ⟨_, rfl⟩
        have hSl := congrArg List.length hS
        unfold uptoT at hSl
        simp at hSl
        have HS := Lib.hid (And.intro hS hSl)
        rw [hS]
        clear hS hSl
        go_wp2_with fail
        clear k0 k1 k2 k3 k4 iC
        go_loopg [3, 5] n0 (fun gj v1 v2 w' => ∃ j : Nat, j + gj = n0 ∧ v2 = .int .i64 (j : Int) ∧ v1 = .string (tx (S ++ spoT 0 (c0.take j))) ∧ Hid (Below wa.heap.size wa w'))
        case atStart => exact ⟨0, by omega, rfl, by rw [List.take_zero]; unfold spoT; simp, HH.out⟩
        case round =>
          obtain ⟨j, hj, rfl, rfl, HJ⟩ := hrel
          obtain ⟨k0, k1, k2, k3, k4⟩ := hcells.out wr HJ.out
          by_cases hlt : j < n0
          · have hci := HI.out.1
            obtain ⟨b, o, rfl, hb, x, hx, cx⟩ := (hci.below HJ.out).at hlt
            obtain ⟨Y, hY⟩ : ∃ Y, S ++ spoT 0 (c0.take j) = Y := ⟨_, rfl⟩
            obtain ⟨g, hg⟩ : ∃ g, Tg.nameOf 2 0 x = g := ⟨_, rfl⟩
            obtain ⟨Y1, hY1⟩ : ∃ Y1, Y ++ [32] = Y1 := ⟨_, rfl⟩
            obtain ⟨Y2, hY2⟩ : ∃ Y2, Y1 ++ g = Y2 := ⟨_, rfl⟩
            have hst : S ++ spoT 0 (c0.take (j + 1)) = Y2 := by
              rw [spoT_take 0 c0 j x hx, ← hY2, ← hY1, ← hY, ← hg]; simp
            have hfx : Deci.fit x := HI.out.2.2.1 x (List.mem_of_getElem? hx)
            have ln := congrArg List.length hst
            have l1 : Y2.length = Y1.length + g.length := by rw [← hY2]; simp
            have le := spoT_le 0 c0 (j + 1)
            have hSl := HS.out.2
            have h6l := H6.out.2.1
            have h6b := H6.out.2.2
            rw [List.length_append] at ln
            have hb2 : Y2.length ≤ big := by omega
            have hb1 : Y1.length ≤ big := by omega
            have e1 : ∀ W : World, (Op.stringOp .add (tx Y) ⟨#[32]⟩).run Tryd.prog W = .ok (.string (tx Y1)) W := add_tx Y [32] Y1 hY1 hb1
            have e2 : ∀ W : World, (Op.stringOp .add (tx Y1) (tx g)).run Tryd.prog W = .ok (.string (tx Y2)) W := add_tx Y1 g Y2 hY2 hb2
            have i1 : (j : Int) < (n0 : Int) := by omega
            have HG := Lib.hid (And.intro hg (And.intro hfx hst))
            rw [hY]
            clear hY hg hY1 hY2 hst hfx ln l1 le hSl h6l h6b hb1 hb2 hci hx hb
            go_wp2_with fail
            refine (rname_t 2 0 x g HG.out.1 HG.out.2.1 _).mono ?_
            rintro e w7 ⟨rfl, hb7⟩
            have B7 := Lib.hid (HJ.out.trans (hb7.mono HJ.out.size))
            clear hb7 cx
            go_wp2_with fail
            go_roundg (n0 - j - 1)
            case measure => omega
            case rel => exact ⟨j + 1, by omega, by go_num, by rw [HG.out.2.2], B7.out⟩
          · obtain rfl : j = n0 := by omega
            have hge : ¬ (j : Int) < (j : Int) := by omega
            go_wp2_with fail
            go_roundg 1
            case measure => omega
            case rel =>
              refine ⟨1, by omega, by go_num, ?_, HJ.out⟩
              rw [← HS.out.1, List.take_of_length_le (by omega)]
              unfold uptoT
              simp

      · obtain rfl : gk = 1 := by omega
        obtain ⟨k0, k1, k2, k3, k4⟩ := hcells.out wr HH.out
        have iC : (1 : Int) < 2 := by omega
        obtain ⟨S, hS⟩ : ∃ S, T6 ++ uptoT c0 c1 1 = S := ⟨_, rfl⟩
        have hSl := congrArg List.length hS
        unfold uptoT at hSl
        simp at hSl
        have HS := Lib.hid (And.intro hS hSl)
        rw [hS]
        clear hS hSl
        go_wp2_with fail
        clear k0 k1 k2 k3 k4 iC
        go_loopg [3, 5] n1 (fun gj v1 v2 w' => ∃ j : Nat, j + gj = n1 ∧ v2 = .int .i64 (j : Int) ∧ v1 = .string (tx (S ++ spoT 1 (c1.take j))) ∧ Hid (Below wa.heap.size wa w'))
        case atStart => exact ⟨0, by omega, rfl, by rw [List.take_zero]; unfold spoT; simp, HH.out⟩
        case round =>
          obtain ⟨j, hj, rfl, rfl, HJ⟩ := hrel
          obtain ⟨k0, k1, k2, k3, k4⟩ := hcells.out wr HJ.out
          by_cases hlt : j < n1
          · have hci := HI.out.2.1
            obtain ⟨b, o, rfl, hb, x, hx, cx⟩ := (hci.below HJ.out).at hlt
            obtain ⟨Y, hY⟩ : ∃ Y, S ++ spoT 1 (c1.take j) = Y := ⟨_, rfl⟩
            obtain ⟨g, hg⟩ : ∃ g, Tg.nameOf 2 1 x = g := ⟨_, rfl⟩
            obtain ⟨Y1, hY1⟩ : ∃ Y1, Y ++ [32] = Y1 := ⟨_, rfl⟩
            obtain ⟨Y2, hY2⟩ : ∃ Y2, Y1 ++ g = Y2 := ⟨_, rfl⟩
            have hst : S ++ spoT 1 (c1.take (j + 1)) = Y2 := by
              rw [spoT_take 1 c1 j x hx, ← hY2, ← hY1, ← hY, ← hg]; simp
            have hfx : Deci.fit x := HI.out.2.2.2.1 x (List.mem_of_getElem? hx)
            have ln := congrArg List.length hst
            have l1 : Y2.length = Y1.length + g.length := by rw [← hY2]; simp
            have le := spoT_le 1 c1 (j + 1)
            have hSl := HS.out.2
            have h6l := H6.out.2.1
            have h6b := H6.out.2.2
            rw [List.length_append] at ln
            have hb2 : Y2.length ≤ big := by omega
            have hb1 : Y1.length ≤ big := by omega
            have e1 : ∀ W : World, (Op.stringOp .add (tx Y) ⟨#[32]⟩).run Tryd.prog W = .ok (.string (tx Y1)) W := add_tx Y [32] Y1 hY1 hb1
            have e2 : ∀ W : World, (Op.stringOp .add (tx Y1) (tx g)).run Tryd.prog W = .ok (.string (tx Y2)) W := add_tx Y1 g Y2 hY2 hb2
            have i1 : (j : Int) < (n1 : Int) := by omega
            have HG := Lib.hid (And.intro hg (And.intro hfx hst))
            rw [hY]
            clear hY hg hY1 hY2 hst hfx ln l1 le hSl h6l h6b hb1 hb2 hci hx hb
            go_wp2_with fail
            refine (rname_t 2 1 x g HG.out.1 HG.out.2.1 _).mono ?_
            rintro e w7 ⟨rfl, hb7⟩
            have B7 := Lib.hid (HJ.out.trans (hb7.mono HJ.out.size))
            clear hb7 cx
            go_wp2_with fail
            go_roundg (n1 - j - 1)
            case measure => omega
            case rel => exact ⟨j + 1, by omega, by go_num, by rw [HG.out.2.2], B7.out⟩
          · obtain rfl : j = n1 := by omega
            have hge : ¬ (j : Int) < (j : Int) := by omega
            go_wp2_with fail
            go_roundg 0
            case measure => omega
            case rel =>
              refine ⟨2, by omega, by go_num, ?_, HJ.out⟩
              rw [← HS.out.1, List.take_of_length_le (by omega)]
              unfold uptoT
              simp

      · obtain ⟨k0, k1, k2, k3, k4⟩ := hcells.out wr HH.out
        have e9 : ∀ W : World, (Op.stringOp .add (tx (T6 ++ uptoT c0 c1 2)) ⟨#[59, 10]⟩).run Tryd.prog W = .ok (.string (tx t)) W := add_tx (T6 ++ uptoT c0 c1 2) [59, 10] t (by rw [← H6.out.1]; unfold uptoT; simp) H6.out.2.2
        obtain ⟨T9, hT9⟩ : ∃ T, T6 ++ uptoT c0 c1 2 = T := ⟨_, rfl⟩
        rw [hT9] at e9 ⊢
        clear hT9
        go_wp2_with fail
        go_ret
        exact ⟨rfl, HA.out.1.trans (HH.out.mono HA.out.1.size)⟩
  · have hcl : cloT c0 c1 = [32, 99, 108, 111, 98, 98, 101, 114] := by unfold cloT; rw [if_neg hz]
    rw [hcl] at hT6 l6
    have gz : (0 : Int) < (n0 : Int) + (n1 : Int) := by omega
    have e6 : ∀ W : World, (Op.stringOp .add (tx T5) ⟨#[32, 99, 108, 111, 98, 98, 101, 114]⟩).run Tryd.prog W = .ok (.string (tx T6)) W := add_tx T5 [32, 99, 108, 111, 98, 98, 101, 114] T6 hT6 (by have := HT.out.2.2.1; omega)
    clear h6 h6l l6 hz hcl hT6
    go_wp2_with fail
    clear e6
    clear k0 k1 k2 k3 k4 gz i2
    go_loopg [3, 4] 2 (fun gk u1 u2 wr => ∃ c : Nat, c + gk = 2 ∧ u2 = .int .i64 (c : Int) ∧ u1 = .string (tx (T6 ++ uptoT c0 c1 c)) ∧ Hid (Below wa.heap.size wa wr))
    case atStart => exact ⟨0, by omega, rfl, by unfold uptoT; simp, B3.out⟩
    case round =>
      obtain ⟨c, hc, rfl, rfl, HH⟩ := hrel
      rcases (by omega : c = 0 ∨ c = 1 ∨ c = 2) with rfl | rfl | rfl
      · obtain rfl : gk = 2 := by omega
        obtain ⟨k0, k1, k2, k3, k4⟩ := hcells.out wr HH.out
        have iC : (0 : Int) < 2 := by omega
        obtain ⟨S, hS⟩ : ∃ S, T6 ++ uptoT c0 c1 0 = S := ⟨_, rfl⟩
        have hSl := congrArg List.length hS
        unfold uptoT at hSl
        simp at hSl
        have HS := Lib.hid (And.intro hS hSl)
        rw [hS]
        clear hS hSl
        go_wp2_with fail
        clear k0 k1 k2 k3 k4 iC
        go_loopg [3, 5] n0 (fun gj v1 v2 w' => ∃ j : Nat, j + gj = n0 ∧ v2 = .int .i64 (j : Int) ∧ v1 = .string (tx (S ++ spoT 0 (c0.take j))) ∧ Hid (Below wa.heap.size wa w'))
        case atStart => exact ⟨0, by omega, rfl, by rw [List.take_zero]; unfold spoT; simp, HH.out⟩
        case round =>
          obtain ⟨j, hj, rfl, rfl, HJ⟩ := hrel
          obtain ⟨k0, k1, k2, k3, k4⟩ := hcells.out wr HJ.out
          by_cases hlt : j < n0
          · have hci := HI.out.1
            obtain ⟨b, o, rfl, hb, x, hx, cx⟩ := (hci.below HJ.out).at hlt
            obtain ⟨Y, hY⟩ : ∃ Y, S ++ spoT 0 (c0.take j) = Y := ⟨_, rfl⟩
            obtain ⟨g, hg⟩ : ∃ g, Tg.nameOf 2 0 x = g := ⟨_, rfl⟩
            obtain ⟨Y1, hY1⟩ : ∃ Y1, Y ++ [32] = Y1 := ⟨_, rfl⟩
            obtain ⟨Y2, hY2⟩ : ∃ Y2, Y1 ++ g = Y2 := ⟨_, rfl⟩
            have hst : S ++ spoT 0 (c0.take (j + 1)) = Y2 := by
              rw [spoT_take 0 c0 j x hx, ← hY2, ← hY1, ← hY, ← hg]; simp
            have hfx : Deci.fit x := HI.out.2.2.1 x (List.mem_of_getElem? hx)
            have ln := congrArg List.length hst
            have l1 : Y2.length = Y1.length + g.length := by rw [← hY2]; simp
            have le := spoT_le 0 c0 (j + 1)
            have hSl := HS.out.2
            have h6l := H6.out.2.1
            have h6b := H6.out.2.2
            rw [List.length_append] at ln
            have hb2 : Y2.length ≤ big := by omega
            have hb1 : Y1.length ≤ big := by omega
            have e1 : ∀ W : World, (Op.stringOp .add (tx Y) ⟨#[32]⟩).run Tryd.prog W = .ok (.string (tx Y1)) W := add_tx Y [32] Y1 hY1 hb1
            have e2 : ∀ W : World, (Op.stringOp .add (tx Y1) (tx g)).run Tryd.prog W = .ok (.string (tx Y2)) W := add_tx Y1 g Y2 hY2 hb2
            have i1 : (j : Int) < (n0 : Int) := by omega
            have HG := Lib.hid (And.intro hg (And.intro hfx hst))
            rw [hY]
            clear hY hg hY1 hY2 hst hfx ln l1 le hSl h6l h6b hb1 hb2 hci hx hb
            go_wp2_with fail
            refine (rname_t 2 0 x g HG.out.1 HG.out.2.1 _).mono ?_
            rintro e w7 ⟨rfl, hb7⟩
            have B7 := Lib.hid (HJ.out.trans (hb7.mono HJ.out.size))
            clear hb7 cx
            go_wp2_with fail
            go_roundg (n0 - j - 1)
            case measure => omega
            case rel => exact ⟨j + 1, by omega, by go_num, by rw [HG.out.2.2], B7.out⟩
          · obtain rfl : j = n0 := by omega
            have hge : ¬ (j : Int) < (j : Int) := by omega
            go_wp2_with fail
            go_roundg 1
            case measure => omega
            case rel =>
              refine ⟨1, by omega, by go_num, ?_, HJ.out⟩
              rw [← HS.out.1, List.take_of_length_le (by omega)]
              unfold uptoT
              simp

      · obtain rfl : gk = 1 := by omega
        obtain ⟨k0, k1, k2, k3, k4⟩ := hcells.out wr HH.out
        have iC : (1 : Int) < 2 := by omega
        obtain ⟨S, hS⟩ : ∃ S, T6 ++ uptoT c0 c1 1 = S := ⟨_, rfl⟩
        have hSl := congrArg List.length hS
        unfold uptoT at hSl
        simp at hSl
        have HS := Lib.hid (And.intro hS hSl)
        rw [hS]
        clear hS hSl
        go_wp2_with fail
        clear k0 k1 k2 k3 k4 iC
        go_loopg [3, 5] n1 (fun gj v1 v2 w' => ∃ j : Nat, j + gj = n1 ∧ v2 = .int .i64 (j : Int) ∧ v1 = .string (tx (S ++ spoT 1 (c1.take j))) ∧ Hid (Below wa.heap.size wa w'))
        case atStart => exact ⟨0, by omega, rfl, by rw [List.take_zero]; unfold spoT; simp, HH.out⟩
        case round =>
          obtain ⟨j, hj, rfl, rfl, HJ⟩ := hrel
          obtain ⟨k0, k1, k2, k3, k4⟩ := hcells.out wr HJ.out
          by_cases hlt : j < n1
          · have hci := HI.out.2.1
            obtain ⟨b, o, rfl, hb, x, hx, cx⟩ := (hci.below HJ.out).at hlt
            obtain ⟨Y, hY⟩ : ∃ Y, S ++ spoT 1 (c1.take j) = Y := ⟨_, rfl⟩
            obtain ⟨g, hg⟩ : ∃ g, Tg.nameOf 2 1 x = g := ⟨_, rfl⟩
            obtain ⟨Y1, hY1⟩ : ∃ Y1, Y ++ [32] = Y1 := ⟨_, rfl⟩
            obtain ⟨Y2, hY2⟩ : ∃ Y2, Y1 ++ g = Y2 := ⟨_, rfl⟩
            have hst : S ++ spoT 1 (c1.take (j + 1)) = Y2 := by
              rw [spoT_take 1 c1 j x hx, ← hY2, ← hY1, ← hY, ← hg]; simp
            have hfx : Deci.fit x := HI.out.2.2.2.1 x (List.mem_of_getElem? hx)
            have ln := congrArg List.length hst
            have l1 : Y2.length = Y1.length + g.length := by rw [← hY2]; simp
            have le := spoT_le 1 c1 (j + 1)
            have hSl := HS.out.2
            have h6l := H6.out.2.1
            have h6b := H6.out.2.2
            rw [List.length_append] at ln
            have hb2 : Y2.length ≤ big := by omega
            have hb1 : Y1.length ≤ big := by omega
            have e1 : ∀ W : World, (Op.stringOp .add (tx Y) ⟨#[32]⟩).run Tryd.prog W = .ok (.string (tx Y1)) W := add_tx Y [32] Y1 hY1 hb1
            have e2 : ∀ W : World, (Op.stringOp .add (tx Y1) (tx g)).run Tryd.prog W = .ok (.string (tx Y2)) W := add_tx Y1 g Y2 hY2 hb2
            have i1 : (j : Int) < (n1 : Int) := by omega
            have HG := Lib.hid (And.intro hg (And.intro hfx hst))
            rw [hY]
            clear hY hg hY1 hY2 hst hfx ln l1 le hSl h6l h6b hb1 hb2 hci hx hb
            go_wp2_with fail
            refine (rname_t 2 1 x g HG.out.1 HG.out.2.1 _).mono ?_
            rintro e w7 ⟨rfl, hb7⟩
            have B7 := Lib.hid (HJ.out.trans (hb7.mono HJ.out.size))
            clear hb7 cx
            go_wp2_with fail
            go_roundg (n1 - j - 1)
            case measure => omega
            case rel => exact ⟨j + 1, by omega, by go_num, by rw [HG.out.2.2], B7.out⟩
          · obtain rfl : j = n1 := by omega
            have hge : ¬ (j : Int) < (j : Int) := by omega
            go_wp2_with fail
            go_roundg 0
            case measure => omega
            case rel =>
              refine ⟨2, by omega, by go_num, ?_, HJ.out⟩
              rw [← HS.out.1, List.take_of_length_le (by omega)]
              unfold uptoT
              simp

      · obtain ⟨k0, k1, k2, k3, k4⟩ := hcells.out wr HH.out
        have e9 : ∀ W : World, (Op.stringOp .add (tx (T6 ++ uptoT c0 c1 2)) ⟨#[59, 10]⟩).run Tryd.prog W = .ok (.string (tx t)) W := add_tx (T6 ++ uptoT c0 c1 2) [59, 10] t (by rw [← H6.out.1]; unfold uptoT; simp) H6.out.2.2
        obtain ⟨T9, hT9⟩ : ∃ T, T6 ++ uptoT c0 c1 2 = T := ⟨_, rfl⟩
        rw [hT9] at e9 ⊢
        clear hT9
        go_wp2_with fail
        go_ret
        exact ⟨rfl, HA.out.1.trans (HH.out.mono HA.out.1.size)⟩
end Go.Proofs.YtakfoncdiejhaaaDoor
