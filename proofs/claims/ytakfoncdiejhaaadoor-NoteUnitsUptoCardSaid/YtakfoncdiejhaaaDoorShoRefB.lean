
/- The document's own rows of texts, labels and heads of blocks. -/
import Derived.Test.YtakfoncdiejhaaaDoorShoRefA
namespace Go.Proofs.YtakfoncdiejhaaaDoor
open Go.ChangeShapes Go.WideShapes Go.RowKit
set_option linter.unusedVariables false
set_option maxRecDepth 20000

theorem map_at (L : List (List UInt8)) (k : Nat) (s : ByteArray) (h : (L.map tx)[k]? = some s) : ∃ x, L[k]? = some x ∧ s = tx x := by
  rw [List.getElem?_map] at h
  cases hx : L[k]? with
  | none => rw [hx] at h; cases h
  | some x => rw [hx] at h; injection h with h; exact ⟨x, rfl, h.symm⟩
set_option maxHeartbeats 2000000 in
theorem join_v (A : Option Addr) (n c : Nat) (L : List (List UInt8)) (t : List UInt8) (W : World) (h : IsStrs W A n (L.map tx)) (ht : rowT L = t) (hlen : t.length ≤ big) :
    Calls Tryd.prog 22 #[.slice A n c] W (SaysT t W) := by
  have hn := h.2.1
  have hlL : L.length = n := by have := h.1; rwa [List.length_map] at this
  have hT : ∀ k, (rowT (L.take k)).length ≤ big := fun k => Nat.le_trans (rowT_le L k) (by rw [ht]; exact hlen)
  have HP := Lib.hid (And.intro h (And.intro ht (And.intro hlen (And.intro hlL hT))))
  clear h ht hlen hlL hT
  go_enter Tryd.func22, Tryd.ntmps22
  go_wp2_with fail
  go_loopg [3, 4] n (fun gk u1 u2 wr => ∃ (k : Nat) (T : List UInt8), k + gk = n ∧ u1 = .string (tx T) ∧ u2 = .int .i64 (k : Int) ∧ wr = W ∧ Hid (rowT (L.take k) = T))
  case atStart => exact ⟨0, [], by omega, rfl, rfl, rfl, show rowT (L.take 0) = [] from by simp [rowT]⟩
  case round =>
    obtain ⟨k, T, hk, rfl, rfl, rfl, HH⟩ := hrel
    by_cases hlt : k < n
    · obtain ⟨bk, o, rfl, hb, s, hs, c0⟩ := HP.out.1.at hlt
      obtain ⟨x, hx, rfl⟩ := map_at L k s hs
      have i1 : (k : Int) < (n : Int) := by omega
      have hnext := rowT_take L k x hx
      rw [HH.out] at hnext
      have hmax := HP.out.2.2.2.2 (k + 1)
      obtain ⟨T2, hT2⟩ : ∃ T2, rowT (L.take (k + 1)) = T2 := ⟨_, rfl⟩
      rw [hT2] at hnext hmax
      have H2 := Lib.hid hT2
      clear hs hx hT2
      by_cases hk0 : k = 0
      · have i2 : ¬ (k : Int) > 0 := by omega
        have e2 := add_tx T x T2 (by rw [hnext, hk0]; simp [sepT]) hmax
        clear hnext hmax hk0
        go_wp2_with fail
        go_roundg (gk - 1)
        case measure => omega
        case rel => exact ⟨k + 1, T2, by omega, rfl, by go_num, rfl, H2.out⟩
      · have i2 : (k : Int) > 0 := by omega
        obtain ⟨Tm, hTm⟩ : ∃ Tm, T ++ [44, 32] = Tm := ⟨_, rfl⟩
        have hTx : Tm ++ x = T2 := by rw [← hTm, hnext]; unfold sepT; rw [if_neg hk0]
        have m1 : Tm.length ≤ big := by rw [← hTx, List.length_append] at hmax; omega
        have e1 : ∀ W : World, (Op.stringOp .add (tx T) ⟨#[44, 32]⟩).run Tryd.prog W = .ok (.string (tx Tm)) W := add_tx T [44, 32] Tm hTm m1
        have e2 := add_tx Tm x T2 hTx hmax
        clear hnext hmax hTm hTx m1
        go_wp2_with fail
        go_roundg (gk - 1)
        case measure => omega
        case rel => exact ⟨k + 1, T2, by omega, rfl, by go_num, rfl, H2.out⟩
    · obtain rfl : k = n := by omega
      have hge : ¬ (k : Int) < (k : Int) := by omega
      have HT := Lib.hid (show T = t by rw [← HP.out.2.1, ← HH.out, List.take_of_length_le (by rw [HP.out.2.2.2.1]; exact Nat.le_refl _)])
      go_wp2_with fail
      go_ret
      exact ⟨by rw [← HT.out]; rfl, Below.refl _ _⟩
theorem one_strs (w : World) (s : ByteArray) : IsStrs (w.alloc (.cells #[.string s] 9)) (some ⟨w.heap.size, 0, none⟩) 1 [s] := by
  refine ⟨rfl, by omega, .inr ⟨w.heap.size, 0, rfl, by simp, fun k hk => ?_⟩⟩
  have hk0 : k = 0 := by simpa using hk
  subst hk0
  exact cell_in (heap_alloc_new w (.cells #[.string s] 9)) 0
/-- A slice of texts of the call's own is answered. -/
def RowsP (L : List (List UInt8)) (N : Nat) (W : World) (e : Ending) (w' : World) : Prop := ∃ A c, e = .returned (.slice A N c) ∧ OwnS W.heap.size w' A N c L ∧ Below W.heap.size W w'
set_option maxHeartbeats 2000000 in
theorem rows_v (A : Option Addr) (n c : Nat) (list : List Opn) (W : World) (h : IsOps W A n list) (hf : ∀ x ∈ list, OpF x) (hn2 : n ≤ 1048576) :
    Calls Tryd.prog 23 #[.slice A n c] W (RowsP (list.map opnT) n W) := by
  have hn := h.2.1
  obtain ⟨L, hL⟩ : ∃ L, list.map opnT = L := ⟨_, rfl⟩
  rw [hL]
  have hLn : L.length = n := by rw [← hL, List.length_map]; exact h.1
  have hLx : ∀ (k : Nat) (x : Opn), list[k]? = some x → L[k]? = some (opnT x) := fun k x hx => by rw [← hL, List.getElem?_map, hx]; rfl
  have HP := Lib.hid (And.intro h (And.intro hf (And.intro hLn hLx)))
  clear h hf hL hLn hLx
  go_enter Tryd.func23, Tryd.ntmps23
  go_wp2_with fail
  go_loopg [3, 4] n (fun gk u1 u2 wr => ∃ (k : Nat) (B : Option Addr) (d : Nat), k + gk = n ∧ u1 = .slice B k d ∧ u2 = .int .i64 (k : Int) ∧ Hid (OwnS W.heap.size wr B k d (L.take k) ∧ Below W.heap.size W wr))
  case atStart => exact ⟨0, none, 0, by omega, rfl, rfl, by simpa using OwnS.nil W.heap.size W, Below.refl _ _⟩
  case round =>
    obtain ⟨k, B, d, hk, rfl, rfl, HH⟩ := hrel
    by_cases hlt : k < n
    · obtain ⟨bk, o, rfl, hb, x, hx, c0, c1, c2, c3⟩ := (HP.out.1.below HH.out.2).at hlt
      have i1 : (k : Int) < (n : Int) := by omega
      have hxf := HP.out.2.1 x (List.mem_of_getElem? hx)
      have hxL := HP.out.2.2.2 k x hx
      obtain ⟨y, hy⟩ : ∃ y, opnT x = y := ⟨_, rfl⟩
      rw [hy] at hxL
      have hnext : L.take (k + 1) = L.take k ++ [y] := by rw [List.take_add_one, hxL]; rfl
      have HX := Lib.hid (And.intro hxf (And.intro hy hnext))
      clear hx hxf hxL hnext hy hb
      obtain ⟨xk, xc, xn, xt⟩ := x
      dsimp only at c0 c1 c2 c3 HX
      go_wp2_with fail
      refine (rop_v ⟨xk, xc, xn, xt⟩ y wr HX.out.1 HX.out.2.1).mono ?_
      rintro e w1 ⟨rfl, hb⟩
      have hb1 : Below W.heap.size W (w1.alloc (.cells #[.string (tx y)] 9)) := (HH.out.2.trans (hb.mono HH.out.2.size)).alloc (by have := hb.size; have := HH.out.2.size; omega) _
      have ho1 : OwnS W.heap.size (w1.alloc (.cells #[.string (tx y)] 9)) B k d (L.take k) := (HH.out.1.below hb).alloc _
      have H1 := Lib.hid (And.intro hb1 (And.intro ho1 (one_strs w1 (tx y))))
      clear hb hb1 ho1 c0 c1 c2 c3
      go_wp2_with (at_builtin; refine wpList_strs rfl (.tmp 11) (.tmp 17) rfl W.heap.size _ k (texts (L.take k)) rfl H1.out.2.1.2 (some ⟨w1.heap.size, 0, none⟩) 1 1 [tx y] rfl H1.out.2.2 (by omega) H1.out.1.size ?_)
      intro v' w2 hown' hgrow
      have hown2 : w2.ownsRow W.heap.size 9 1 v' (k + 1) (texts (L.take k) ++ texts [y]) := hown'
      obtain ⟨B', d', rfl, h2, h3⟩ := ownS_next (J := [y]) hown2 rfl hgrow H1.out.2.1 H1.out.1 (Nat.le_refl _) H1.out.1.size
      have H2 := Lib.hid (And.intro h2 h3)
      clear hown' hown2 hgrow h2 h3
      go_wp2_with fail
      go_roundg (gk - 1)
      case measure => omega
      case rel => exact ⟨k + 1, B', d', by omega, by go_num, by go_num, by rw [HX.out.2.2]; exact H2.out.1, H2.out.2⟩
    · obtain rfl : k = n := by omega
      have hge : ¬ (k : Int) < (k : Int) := by omega
      go_wp2_with fail
      go_ret
      refine ⟨B, d, rfl, ?_, HH.out.2⟩
      have := HH.out.1
      rwa [List.take_of_length_le (by rw [HP.out.2.2.1]; exact Nat.le_refl _)] at this
set_option maxHeartbeats 1000000 in
theorem nth_v (A : Option Addr) (n c : Nat) (labels : List ByteArray) (k : Nat) (t : List UInt8) (W : World) (h : IsStrs W A n labels) (ht : nthT labels k = t) :
    Calls Tryd.prog 41 #[.slice A n c, .int .i64 (k : Int)] W fun e w' => e = .returned (.string (tx t)) ∧ W = w' := by
  by_cases hlt : k < n
  · have hn := h.2.1
    obtain ⟨bk, o, rfl, hb, s, hs, c0⟩ := h.at hlt
    have i1 : (k : Int) < (n : Int) := by omega
    have e : s = tx t := by
      have e1 : s.data.toList = t := by rw [← ht]; unfold nthT txs; rw [List.getD_eq_getElem?_getD, List.getElem?_map, hs]; rfl
      rw [← e1, tx_data]
    subst e
    clear h ht hb hs
    go_enter Tryd.func41, Tryd.ntmps41
    go_wp2_with fail
    go_ret
    exact ⟨rfl, rfl⟩
  · have i1 : ¬ (k : Int) < (n : Int) := by omega
    have e : [] = t := by
      rw [← ht]; unfold nthT txs
      rw [List.getD_eq_getElem?_getD, List.getElem?_eq_none (by rw [List.length_map, h.1]; omega)]; rfl
    subst e
    clear h ht
    go_enter Tryd.func41, Tryd.ntmps41
    go_wp2_with fail
    go_ret
    exact ⟨rfl, rfl⟩
set_option maxHeartbeats 2000000 in
theorem rhead_true_1 (label : List UInt8) (ins : List Opn) (ia : Option Addr) (ic : Nat) (ka : Option Addr) (kn kc : Nat) (t : List UInt8) (W : World) (hI : IsOps W ia 0 ins) (hf : ∀ x ∈ ins, OpF x) (ht : edgeT true ++ (label ++ (inT ins ++ [58])) = t) (hlen : t.length ≤ big) :
    Calls Tryd.prog 24 #[.agg #[.string (tx label), .bool true, .slice ia 0 ic, .slice ka kn kc]] W (SaysT t W) := by
  have li := hI.1
  have lim := hI.2.1
  obtain ⟨T0, hT0⟩ : ∃ T0, edgeT true ++ label = T0 := ⟨_, rfl⟩
  have hin : inT ins = [] := by unfold inT; rw [if_pos (List.eq_nil_of_length_eq_zero li)]
  have t2 : T0 ++ [58] = t := by rw [← ht, ← hT0, hin]; simp
  have n0 : T0.length ≤ big := by rw [← t2, List.length_append] at hlen; omega
  have e9 : ∀ W : World, (Op.stringOp .add (tx T0) ⟨#[58]⟩).run Tryd.prog W = .ok (.string (tx t)) W := add_tx T0 [58] t t2 hlen
  have e0 : ∀ W : World, (Op.stringOp .add ⟨#[101, 100, 103, 101, 32]⟩ (tx label)).run Tryd.prog W = .ok (.string (tx T0)) W := add_tx [101, 100, 103, 101, 32] label T0 hT0 n0
  clear hT0
  have BA : Below W.heap.size W (W.alloc (.cells #[.string (tx label), .bool true, .slice ia 0 ic, .slice ka kn kc] 52)) := (Below.refl _ W).alloc (Nat.le_refl _) _
  have hal := heap_alloc_new W (.cells #[.string (tx label), .bool true, .slice ia 0 ic, .slice ka kn kc] 52)
  have HI := hI.below BA
  obtain ⟨wa, hwa⟩ : ∃ wa, W.alloc (.cells #[.string (tx label), .bool true, .slice ia 0 ic, .slice ka kn kc] 52) = wa := ⟨_, rfl⟩
  rw [hwa] at BA hal HI
  obtain ⟨k0, k1, k2, k3⟩ := four_cells hal
  have HA := Lib.hid (And.intro BA (And.intro hal (And.intro HI hf)))
  clear BA hal HI hI ht hlen t2 n0 hin li hf
  go_enter Tryd.func24, Tryd.ntmps24
  go_wp2_with fail
  go_ret
  exact ⟨rfl, HA.out.1⟩
set_option maxHeartbeats 2000000 in
theorem rhead_true_0 (label : List UInt8) (ins : List Opn) (ia : Option Addr) (il ic : Nat) (ka : Option Addr) (kn kc : Nat) (t : List UInt8) (W : World) (hI : IsOps W ia il ins) (hf : ∀ x ∈ ins, OpF x) (hz : ¬ il = 0) (hil : il ≤ 1048576) (ht : edgeT true ++ (label ++ (inT ins ++ [58])) = t) (hlen : t.length ≤ big) :
    Calls Tryd.prog 24 #[.agg #[.string (tx label), .bool true, .slice ia il ic, .slice ka kn kc]] W (SaysT t W) := by
  have li := hI.1
  have lim := hI.2.1
  obtain ⟨T0, hT0⟩ : ∃ T0, edgeT true ++ label = T0 := ⟨_, rfl⟩
  have hz1 : (il : Int) > 0 := by omega
  have hin : inT ins = [32, 91] ++ (rowT (ins.map opnT) ++ [93]) := by unfold inT; rw [if_neg (fun e => hz (by rw [← li, e]; rfl))]
  obtain ⟨J, hJ⟩ : ∃ J, rowT (ins.map opnT) = J := ⟨_, rfl⟩
  obtain ⟨T1, hT1⟩ : ∃ T1, T0 ++ [32, 91] = T1 := ⟨_, rfl⟩
  obtain ⟨T2, hT2⟩ : ∃ T2, T1 ++ J = T2 := ⟨_, rfl⟩
  obtain ⟨T3, hT3⟩ : ∃ T3, T2 ++ [93] = T3 := ⟨_, rfl⟩
  have t2 : T3 ++ [58] = t := by rw [← ht, ← hT3, ← hT2, ← hT1, ← hT0, hin, ← hJ]; simp
  have n3 : T3.length ≤ big := by rw [← t2, List.length_append] at hlen; omega
  have n2 : T2.length ≤ big := by rw [← hT3, List.length_append] at n3; omega
  have n1 : T1.length ≤ big := by rw [← hT2, List.length_append] at n2; omega
  have nJ : J.length ≤ big := by rw [← hT2, List.length_append] at n2; omega
  have n0 : T0.length ≤ big := by rw [← hT1, List.length_append] at n1; omega
  have e5 : ∀ W : World, (Op.stringOp .add (tx T0) ⟨#[32, 91]⟩).run Tryd.prog W = .ok (.string (tx T1)) W := add_tx T0 [32, 91] T1 hT1 n1
  have e6 : ∀ W : World, (Op.stringOp .add (tx T1) (tx J)).run Tryd.prog W = .ok (.string (tx T2)) W := add_tx T1 J T2 hT2 n2
  have e7 : ∀ W : World, (Op.stringOp .add (tx T2) ⟨#[93]⟩).run Tryd.prog W = .ok (.string (tx T3)) W := add_tx T2 [93] T3 hT3 n3
  have e9 : ∀ W : World, (Op.stringOp .add (tx T3) ⟨#[58]⟩).run Tryd.prog W = .ok (.string (tx t)) W := add_tx T3 [58] t t2 hlen
  clear hT1 hT2 hT3 n1 n2 n3
  have e0 : ∀ W : World, (Op.stringOp .add ⟨#[101, 100, 103, 101, 32]⟩ (tx label)).run Tryd.prog W = .ok (.string (tx T0)) W := add_tx [101, 100, 103, 101, 32] label T0 hT0 n0
  clear hT0
  have BA : Below W.heap.size W (W.alloc (.cells #[.string (tx label), .bool true, .slice ia il ic, .slice ka kn kc] 52)) := (Below.refl _ W).alloc (Nat.le_refl _) _
  have hal := heap_alloc_new W (.cells #[.string (tx label), .bool true, .slice ia il ic, .slice ka kn kc] 52)
  have HI := hI.below BA
  obtain ⟨wa, hwa⟩ : ∃ wa, W.alloc (.cells #[.string (tx label), .bool true, .slice ia il ic, .slice ka kn kc] 52) = wa := ⟨_, rfl⟩
  rw [hwa] at BA hal HI
  obtain ⟨k0, k1, k2, k3⟩ := four_cells hal
  have HA := Lib.hid (And.intro BA (And.intro hal (And.intro HI hf)))
  clear BA hal HI hI ht hlen t2 n0 hin li hf
  go_enter Tryd.func24, Tryd.ntmps24
  go_wp2_with fail
  clear hwa
  refine (rows_v ia il ic ins wa HA.out.2.2.1 HA.out.2.2.2 hil).mono ?_
  rintro e w1 ⟨A1, c1, rfl, ho, hb⟩
  have H1 := Lib.hid (And.intro (HA.out.1.trans (hb.mono HA.out.1.size)) (ho.strs lim))
  clear hb ho
  go_wp2_with fail
  refine (join_v A1 il c1 (ins.map opnT) J w1 H1.out.2 hJ nJ).mono ?_
  rintro e w2 ⟨rfl, hb⟩
  have H2 := Lib.hid (H1.out.1.trans (hb.mono H1.out.1.size))
  clear hb
  go_wp2_with fail
  go_ret
  exact ⟨rfl, H2.out⟩
set_option maxHeartbeats 2000000 in
theorem rhead_false_1 (label : List UInt8) (ins : List Opn) (ia : Option Addr) (ic : Nat) (ka : Option Addr) (kn kc : Nat) (t : List UInt8) (W : World) (hI : IsOps W ia 0 ins) (hf : ∀ x ∈ ins, OpF x) (ht : edgeT false ++ (label ++ (inT ins ++ [58])) = t) (hlen : t.length ≤ big) :
    Calls Tryd.prog 24 #[.agg #[.string (tx label), .bool false, .slice ia 0 ic, .slice ka kn kc]] W (SaysT t W) := by
  have li := hI.1
  have lim := hI.2.1
  obtain ⟨T0, hT0⟩ : ∃ T0, edgeT false ++ label = T0 := ⟨_, rfl⟩
  have hin : inT ins = [] := by unfold inT; rw [if_pos (List.eq_nil_of_length_eq_zero li)]
  have t2 : T0 ++ [58] = t := by rw [← ht, ← hT0, hin]; simp
  have n0 : T0.length ≤ big := by rw [← t2, List.length_append] at hlen; omega
  have e9 : ∀ W : World, (Op.stringOp .add (tx T0) ⟨#[58]⟩).run Tryd.prog W = .ok (.string (tx t)) W := add_tx T0 [58] t t2 hlen
  obtain rfl : label = T0 := by rw [← hT0]; simp [edgeT]
  clear hT0
  have BA : Below W.heap.size W (W.alloc (.cells #[.string (tx label), .bool false, .slice ia 0 ic, .slice ka kn kc] 52)) := (Below.refl _ W).alloc (Nat.le_refl _) _
  have hal := heap_alloc_new W (.cells #[.string (tx label), .bool false, .slice ia 0 ic, .slice ka kn kc] 52)
  have HI := hI.below BA
  obtain ⟨wa, hwa⟩ : ∃ wa, W.alloc (.cells #[.string (tx label), .bool false, .slice ia 0 ic, .slice ka kn kc] 52) = wa := ⟨_, rfl⟩
  rw [hwa] at BA hal HI
  obtain ⟨k0, k1, k2, k3⟩ := four_cells hal
  have HA := Lib.hid (And.intro BA (And.intro hal (And.intro HI hf)))
  clear BA hal HI hI ht hlen t2 n0 hin li hf
  go_enter Tryd.func24, Tryd.ntmps24
  go_wp2_with fail
  go_ret
  exact ⟨rfl, HA.out.1⟩
set_option maxHeartbeats 2000000 in
theorem rhead_false_0 (label : List UInt8) (ins : List Opn) (ia : Option Addr) (il ic : Nat) (ka : Option Addr) (kn kc : Nat) (t : List UInt8) (W : World) (hI : IsOps W ia il ins) (hf : ∀ x ∈ ins, OpF x) (hz : ¬ il = 0) (hil : il ≤ 1048576) (ht : edgeT false ++ (label ++ (inT ins ++ [58])) = t) (hlen : t.length ≤ big) :
    Calls Tryd.prog 24 #[.agg #[.string (tx label), .bool false, .slice ia il ic, .slice ka kn kc]] W (SaysT t W) := by
  have li := hI.1
  have lim := hI.2.1
  obtain ⟨T0, hT0⟩ : ∃ T0, edgeT false ++ label = T0 := ⟨_, rfl⟩
  have hz1 : (il : Int) > 0 := by omega
  have hin : inT ins = [32, 91] ++ (rowT (ins.map opnT) ++ [93]) := by unfold inT; rw [if_neg (fun e => hz (by rw [← li, e]; rfl))]
  obtain ⟨J, hJ⟩ : ∃ J, rowT (ins.map opnT) = J := ⟨_, rfl⟩
  obtain ⟨T1, hT1⟩ : ∃ T1, T0 ++ [32, 91] = T1 := ⟨_, rfl⟩
  obtain ⟨T2, hT2⟩ : ∃ T2, T1 ++ J = T2 := ⟨_, rfl⟩
  obtain ⟨T3, hT3⟩ : ∃ T3, T2 ++ [93] = T3 := ⟨_, rfl⟩
  have t2 : T3 ++ [58] = t := by rw [← ht, ← hT3, ← hT2, ← hT1, ← hT0, hin, ← hJ]; simp
  have n3 : T3.length ≤ big := by rw [← t2, List.length_append] at hlen; omega
  have n2 : T2.length ≤ big := by rw [← hT3, List.length_append] at n3; omega
  have n1 : T1.length ≤ big := by rw [← hT2, List.length_append] at n2; omega
  have nJ : J.length ≤ big := by rw [← hT2, List.length_append] at n2; omega
  have n0 : T0.length ≤ big := by rw [← hT1, List.length_append] at n1; omega
  have e5 : ∀ W : World, (Op.stringOp .add (tx T0) ⟨#[32, 91]⟩).run Tryd.prog W = .ok (.string (tx T1)) W := add_tx T0 [32, 91] T1 hT1 n1
  have e6 : ∀ W : World, (Op.stringOp .add (tx T1) (tx J)).run Tryd.prog W = .ok (.string (tx T2)) W := add_tx T1 J T2 hT2 n2
  have e7 : ∀ W : World, (Op.stringOp .add (tx T2) ⟨#[93]⟩).run Tryd.prog W = .ok (.string (tx T3)) W := add_tx T2 [93] T3 hT3 n3
  have e9 : ∀ W : World, (Op.stringOp .add (tx T3) ⟨#[58]⟩).run Tryd.prog W = .ok (.string (tx t)) W := add_tx T3 [58] t t2 hlen
  clear hT1 hT2 hT3 n1 n2 n3
  obtain rfl : label = T0 := by rw [← hT0]; simp [edgeT]
  clear hT0
  have BA : Below W.heap.size W (W.alloc (.cells #[.string (tx label), .bool false, .slice ia il ic, .slice ka kn kc] 52)) := (Below.refl _ W).alloc (Nat.le_refl _) _
  have hal := heap_alloc_new W (.cells #[.string (tx label), .bool false, .slice ia il ic, .slice ka kn kc] 52)
  have HI := hI.below BA
  obtain ⟨wa, hwa⟩ : ∃ wa, W.alloc (.cells #[.string (tx label), .bool false, .slice ia il ic, .slice ka kn kc] 52) = wa := ⟨_, rfl⟩
  rw [hwa] at BA hal HI
  obtain ⟨k0, k1, k2, k3⟩ := four_cells hal
  have HA := Lib.hid (And.intro BA (And.intro hal (And.intro HI hf)))
  clear BA hal HI hI ht hlen t2 n0 hin li hf
  go_enter Tryd.func24, Tryd.ntmps24
  go_wp2_with fail
  clear hwa
  refine (rows_v ia il ic ins wa HA.out.2.2.1 HA.out.2.2.2 hil).mono ?_
  rintro e w1 ⟨A1, c1, rfl, ho, hb⟩
  have H1 := Lib.hid (And.intro (HA.out.1.trans (hb.mono HA.out.1.size)) (ho.strs lim))
  clear hb ho
  go_wp2_with fail
  refine (join_v A1 il c1 (ins.map opnT) J w1 H1.out.2 hJ nJ).mono ?_
  rintro e w2 ⟨rfl, hb⟩
  have H2 := Lib.hid (H1.out.1.trans (hb.mono H1.out.1.size))
  clear hb
  go_wp2_with fail
  go_ret
  exact ⟨rfl, H2.out⟩
theorem rhead_v (x : Blk) (r : BlkV) (t : List UInt8) (W : World) (hI : IsOps W r.ia r.il x.ins) (hf : ∀ y ∈ x.ins, OpF y) (hil : r.il ≤ 1048576) (ht : headT x = t) (hlen : t.length ≤ big) :
    Calls Tryd.prog 24 #[.agg (blkR x r)] W (SaysT t W) := by
  obtain ⟨label, edge, ins, code⟩ := x
  obtain ⟨ia, il, ic, ka, kn, kc, R⟩ := r
  unfold blkR
  dsimp only at hI hf hil ⊢
  unfold headT at ht
  dsimp only at ht
  have hl := tx_data label
  obtain ⟨l, hll⟩ : ∃ l, label.data.toList = l := ⟨_, rfl⟩
  rw [hll] at ht hl
  subst hl
  by_cases hz : il = 0
  · subst hz
    cases edge
    · exact rhead_false_1 l ins ia ic ka kn kc t W hI hf ht hlen
    · exact rhead_true_1 l ins ia ic ka kn kc t W hI hf ht hlen
  · cases edge
    · exact rhead_false_0 l ins ia il ic ka kn kc t W hI hf hz hil ht hlen
    · exact rhead_true_0 l ins ia il ic ka kn kc t W hI hf hz hil ht hlen
end Go.Proofs.YtakfoncdiejhaaaDoor
