/- Packed texts of one proof. Conditions: none. -/
import Derived.Test.YtbpichjmkllfaaaGreatDoorPq35
import Derived.Test.YtbpichjmkllfaaaGreatDoorPq19
namespace Go.Proofs.YtbpichjmkllfaaaGreatDoor.Par
open Go.ChangeShapes Go.WideShapes Go.RowKit
open Lex (Tok tcl tkv tk tc)
set_option linter.unusedVariables false
set_option maxRecDepth 20000
section
variable {w : World} {p : Nat} {A : Option Addr} {n cp : Nat} {ts : List Tok} {s : St}
def ListP (w : World) (p : Nat) (A : Option Addr) (n cp : Nat) (ts : List Tok) (s : St) (M : List Tok → Res (List Opn)) (e : Ending) (w' : World) : Prop :=
 ∃ s' xs B c, e = .returned (.slice B xs.length c) ∧ Step w.heap.size p w w' ∧ Rd w' p A n cp ts s' ∧ Tr ts M s s' xs ∧ OwnL 64 4 Opn.cs w.heap.size w' B c xs ∧ xs.length ≤ n
structure LiI (w W : World) (p : Nat) (A : Option Addr) (n cp : Nat) (ts : List Tok) (M : List Tok → Res (List Opn)) (x : List UInt8) (s s1 : St) (acc : List Opn) (B : Option Addr) (c : Nat) : Prop where
 step : Step w.heap.size p w W
 own : OwnL 64 4 Opn.cs w.heap.size W B c acc
 rd : Rd W p A n cp ts s1
 via : Via ts M (ops x acc) s s1
 len : acc.length ≤ n
 far : s1.code = 0 → acc.length ≤ s1.at_
theorem Tr.far {α : Type} {m : List Tok → Res α} {s1 s2 : St} {v : α} (h : Tr ts m s1 s2 v) (hs : ∀ l r a, m l = .ok a r → Sub1 l r) (hb : s1.at_ < ts.length) (hc : s2.code = 0) : s1.at_ < s2.at_ := by
 have g := (hs _ _ _ (h.good hc).2).2
 rw [List.length_drop, List.length_drop] at g
 omega
theorem Rd.tlen {W : World} {s1 : St} (h : Rd W p A n cp ts s1) : s1.at_ < ts.length := by rw [h.len]; exact h.lt
theorem Rd.grown {W W' : World} {s1 : St} {row : Option Nat} (h0 : Rd w p A n cp ts s) (h : Rd W p A n cp ts s1) (hg : W.grownBy W' row) (hN : w.heap.size ≤ W.heap.size) (hr : ∀ k, row = some k → w.heap.size ≤ k) : Rd W' p A n cp ts s1 :=
 h.keep h0 (below_agree ((Below.refl _ W).grown hg hN hr))
theorem must_sub' (x : List UInt8) : ∀ (l r : List Tok) (a : Unit), must x l = .ok a r → Sub1 l r := fun l r a h => must_sub h
theorem Sub1.weak {l r : List Tok} (h : Sub1 l r) : Sub l r := h.1
theorem rlist_yes (x : ByteArray) (hx : isB (ts.drop s.at_) x.data.toList = true) (h : Rd w p A n cp ts s) : Calls Tryz.prog 49 #[.pointer (some ⟨p, 0, none⟩), .int .i64 0, .string x] w (ListP w p A n cp ts s (ops0 x.data.toList)) := by
 have HA := Hh (Ai h hx)
 clear h hx
 go_enter Tryz.func49, Tryz.ntmps49
 go_wp2_with fail
 refine (rIs_v x true HA.out.2 HA.out.1).mono ?_
 rintro e w1 ⟨rfl, hb1⟩
 have R1 := Hh (Ai (Step.of (p := p) hb1) (HA.out.1.below hb1))
 clear hb1
 go_wp2_with fail
 refine (rmust_v x R1.out.2).mono ?_
 rintro e w2 ⟨s2, rfl, hs2, hr2, htr2⟩
 have H2 := Hh (Ai hs2 (Ai hr2 htr2))
 clear hs2 hr2 htr2
 go_wp2_with fail
 go_ret
 refine ⟨s2, [], none, 0, rfl, R1.out.1.trans (H2.out.1.mono R1.out.1.size), H2.out.2.1, ?_, OwnL.nil, by simp⟩
 refine Via.tr (via_eq (k := fun r => (must x.data.toList r).bind fun _ r => .ok [] r) fun _ => ?_) (Tr.map H2.out.2.2 fun _ => [])
 unfold ops0
 rw [if_pos HA.out.2, must_yes HA.out.2]
 rfl
set_option maxHeartbeats 2000000 in
theorem rlist_no (x : ByteArray) (hx : isB (ts.drop s.at_) x.data.toList = false) (h : Rd w p A n cp ts s) : Calls Tryz.prog 49 #[.pointer (some ⟨p, 0, none⟩), .int .i64 0, .string x] w (ListP w p A n cp ts s (ops0 x.data.toList)) := by
 have HA := Hh h
 have hI0 : Via ts (ops0 x.data.toList) (ops x.data.toList []) s s := via_eq fun _ => by unfold ops0; rw [hx]; rfl
 have HX := Hh (Ai hx hI0)
 clear h hx hI0
 go_enter Tryz.func49, Tryz.ntmps49
 go_wp2_with fail
 refine (rIs_v x false HX.out.1 HA.out).mono ?_
 rintro e w0 ⟨rfl, hb0⟩
 have hI : LiI w w0 p A n cp ts (ops0 x.data.toList) x.data.toList s s [] none 0 := ⟨Step.of hb0, OwnL.nil, HA.out.below hb0, HX.out.2, by simp, by simp⟩
 have HI := Hh hI
 clear hb0 hI
 go_wp2_with fail
 go_loopg [7] (togo ts.length s) (fun gk v wr => ∃ (s1 : St) (acc : List Opn) (B : Option Addr) (c m : Nat), gk = togo ts.length s1 ∧ v = .slice B m c ∧ Hid (acc.length = m ∧ LiI w wr p A n cp ts (ops0 x.data.toList) x.data.toList s s1 acc B c))
 case atStart => exact ⟨s, [], none, 0, 0, rfl, rfl, rfl, HI.out⟩
 case round =>
  obtain ⟨s1, acc, B, c, m, hk, rfl, HR⟩ := hrel
  by_cases hc : s1.code = 0
  ·have HK := Hh (Ai hk hc)
   clear hk hc
   go_wp2_with fail
   refine (rok_v true (by rw [HK.out.2]; rfl) HR.out.2.rd).mono ?_
   rintro e w1 ⟨rfl, rfl⟩
   go_wp2_with fail
   refine (roperand_v HR.out.2.rd).mono ?_
   rintro e w2 ⟨s2, y, rfl, hs2, hr2, htr2⟩
   obtain ⟨w3, hw3⟩ : ∃ w3, w2.alloc (.cells #[.int .i64 y.k, .int .i64 y.c, .int .i64 y.n, .int .i64 y.t] 64) = w3 := ⟨_, rfl⟩
   have nb := new_box w2 _ 64 hw3
   have hp := HA.out.plt
   have st2 := HR.out.2.step.trans (hs2.mono HR.out.2.step.size)
   have st3 := st2.trans ((Step.of nb.1).mono st2.size)
   have ow3 := (own_step HR.out.2.own hs2 hp).below nb.1
   have rd3 := hr2.below nb.1
   have hlen : m ≤ 2000000 := by have := HR.out.1; have := HR.out.2.len; have := HA.out.few; omega
   have HC := Hh (Ai st3 (Ai ow3 (Ai rd3 (Ai nb.2 (Ai hlen htr2)))))
   clear hs2 hr2 htr2 nb st2 st3 ow3 rd3 hlen hp
   unfold opV
   go_wp2_with (at_builtin; refine own_app rowOp rfl _ _ rfl HR.out.1 rfl HC.out.2.1 w2.heap.size y rfl HC.out.2.2.2.1 HC.out.2.2.2.2.1 HC.out.1.size ?_)
   intro g' c' w4 ho4 hg4
   have hr4 : ∀ k, Value.ownBlock (.slice B m c) = some k → w.heap.size ≤ k := by
    intro k hk
    have := HR.out.1
    subst this
    exact (HC.out.2.1.lo k hk).1
   have st4 := HC.out.1.grown hg4 HC.out.1.size hr4
   have rd4 := Rd.grown HA.out HC.out.2.2.1 hg4 HC.out.1.size hr4
   have hv : Via ts (ops0 x.data.toList) (fun r => if isB r [44] = true then ops x.data.toList (acc ++ [y]) r.tail else (must x.data.toList r).bind fun _ r => .ok (acc ++ [y]) r) s s2 :=
    HR.out.2.via.trans ((via_eq (k := fun l => (operand l).bind fun a r => if isB r [44] = true then ops x.data.toList (acc ++ [a]) r.tail else (must x.data.toList r).bind fun _ r => .ok (acc ++ [a]) r) fun _ => ops_eq _ _ _).trans (Tr.next HC.out.2.2.2.2.2))
   have hlen : (acc ++ [y]).length ≤ n := by
    have h1 := HR.out.2.far HK.out.2
    have h2 := HR.out.2.rd.lt
    rw [List.length_append]
    show acc.length + 1 ≤ n
    omega
   have hfar : s2.code = 0 → (acc ++ [y]).length ≤ s2.at_ := by
    intro hc2
    have h1 := HR.out.2.far HK.out.2
    have h2 := HC.out.2.2.2.2.2.far (fun l r a h => operand_sub h) HR.out.2.rd.tlen hc2
    rw [List.length_append]
    show acc.length + 1 ≤ s2.at_
    omega
   have hless := (HC.out.2.2.2.2.2.less HK.out.2 HR.out.2.rd.tlen rd4.tlen (fun l r a h => operand_sub h)).1
   have HD := Hh (Ai st4 (Ai ho4 (Ai rd4 (Ai hv (Ai hlen (Ai hfar hless))))))
   clear ho4 hg4 hr4 st4 rd4 hv hlen hfar hless
   cases hb : isB (ts.drop s2.at_) [44] with
   | false =>
    have HB := Hh hb
    clear hb
    go_wp2_with fail
    refine (rIs_v ⟨#[44]⟩ false HB.out HD.out.2.2.1).mono ?_
    rintro e w5 ⟨rfl, hb5⟩
    have H5 := Hh hb5
    clear hb5
    go_wp2_with fail
    refine (rmust_v x (HD.out.2.2.1.below H5.out)).mono ?_
    rintro e w6 ⟨s6, rfl, hs6, hr6, htr6⟩
    have H6 := Hh (Ai hs6 (Ai hr6 htr6))
    clear hs6 hr6 htr6
    go_wp2_with fail
    go_ret
    have st5 := HD.out.1.trans ((Step.of H5.out).mono HD.out.1.size)
    refine ⟨s6, acc ++ [y], some ⟨g', 0, none⟩, c', (by rw [List.length_append]; rfl), st5.trans (H6.out.1.mono st5.size), H6.out.2.1, ?_, own_step (HD.out.2.1.below H5.out) H6.out.1 HA.out.plt, HD.out.2.2.2.2.1⟩
    refine Via.tr (HD.out.2.2.2.1.trans (via_eq (k := fun r => (must x.data.toList r).bind fun _ r => .ok (acc ++ [y]) r) fun _ => ?_)) (Tr.map H6.out.2.2 fun _ => acc ++ [y])
    rw [HB.out]
    rfl
   | true =>
    have HB := Hh hb
    clear hb
    go_wp2_with fail
    refine (rIs_v ⟨#[44]⟩ true HB.out HD.out.2.2.1).mono ?_
    rintro e w5 ⟨rfl, hb5⟩
    have H5 := Hh hb5
    clear hb5
    go_wp2_with fail
    refine (rmust_v ⟨#[44]⟩ (HD.out.2.2.1.below H5.out)).mono ?_
    rintro e w6 ⟨s6, rfl, hs6, hr6, htr6⟩
    have st5 := HD.out.1.trans ((Step.of H5.out).mono HD.out.1.size)
    have hI : LiI w w6 p A n cp ts (ops0 x.data.toList) x.data.toList s s6 (acc ++ [y]) (some ⟨g', 0, none⟩) c' := by
     refine ⟨st5.trans (hs6.mono st5.size), own_step (HD.out.2.1.below H5.out) hs6 HA.out.plt, hr6, ?_, HD.out.2.2.2.2.1, fun hc6 => ?_⟩
     ·refine (HD.out.2.2.2.1.trans (via_eq (k := fun r => (must [44] r).bind fun _ r => ops x.data.toList (acc ++ [y]) r) fun _ => ?_)).trans (Tr.next htr6)
      rw [HB.out, if_pos rfl, must_yes HB.out]
      rfl
     ·have h1 := HD.out.2.2.2.2.2.1 (htr6.good hc6).1
      have h2 := htr6.far (must_sub' _) HD.out.2.2.1.tlen hc6
      omega
    have hle := htr6.le HD.out.2.2.1.tlen hr6.tlen (fun l r a h => (must_sub h).weak)
    have HE := Hh (Ai hI hle)
    clear hs6 hr6 htr6 st5 hI hle
    go_wp2_with fail
    go_roundg (togo ts.length s6)
    case measure =>
     rw [HK.out.1]
     exact Nat.lt_of_le_of_lt HE.out.2 HD.out.2.2.2.2.2.2
    case rel => exact ⟨s6, acc ++ [y], _, _, _, rfl, rfl, by simp, HE.out.1⟩
  ·have HK := Hh hc
   have hcb : (s1.code == 0) = false := by rw [Bqf]; exact hc
   have HKB := Hh hcb
   clear hk hc hcb
   go_wp2_with fail
   refine (rok_v false HKB.out HR.out.2.rd).mono ?_
   rintro e w1 ⟨rfl, rfl⟩
   go_wp2_with fail
   refine (rmust_v x HR.out.2.rd).mono ?_
   rintro e w6 ⟨s6, rfl, hs6, hr6, htr6⟩
   have H6 := Hh (Ai hs6 (Ai hr6 htr6))
   clear hs6 hr6 htr6
   go_wp2_with fail
   go_ret
   obtain ⟨hm, hR⟩ := HR.out
   subst hm
   exact ⟨s6, acc, _, _, rfl, hR.step.trans (H6.out.1.mono hR.step.size), H6.out.2.1, Via.tr (hR.via.stuck HK.out) (Tr.map H6.out.2.2 fun _ => acc), own_step hR.own H6.out.1 HA.out.plt, hR.len⟩
set_option maxHeartbeats 2000000 in
theorem rlist1_v (x : ByteArray) (h : Rd w p A n cp ts s) : Calls Tryz.prog 49 #[.pointer (some ⟨p, 0, none⟩), .int .i64 1, .string x] w (ListP w p A n cp ts s (ops x.data.toList [])) := by
 have HA := Hh h
 have hI0 : Via ts (ops x.data.toList []) (ops x.data.toList []) s s := Via.refl
 have hI : LiI w w p A n cp ts (ops x.data.toList []) x.data.toList s s [] none 0 := ⟨Step.refl _ _ _, OwnL.nil, h, hI0, by simp, by simp⟩
 have HI := Hh hI
 clear h hI0 hI
 go_enter Tryz.func49, Tryz.ntmps49
 go_wp2_with fail
 go_loopg [7] (togo ts.length s) (fun gk v wr => ∃ (s1 : St) (acc : List Opn) (B : Option Addr) (c m : Nat), gk = togo ts.length s1 ∧ v = .slice B m c ∧ Hid (acc.length = m ∧ LiI w wr p A n cp ts (ops x.data.toList []) x.data.toList s s1 acc B c))
 case atStart => exact ⟨s, [], none, 0, 0, rfl, rfl, rfl, HI.out⟩
 case round =>
  obtain ⟨s1, acc, B, c, m, hk, rfl, HR⟩ := hrel
  by_cases hc : s1.code = 0
  ·have HK := Hh (Ai hk hc)
   clear hk hc
   go_wp2_with fail
   refine (rok_v true (by rw [HK.out.2]; rfl) HR.out.2.rd).mono ?_
   rintro e w1 ⟨rfl, rfl⟩
   go_wp2_with fail
   refine (roperand_v HR.out.2.rd).mono ?_
   rintro e w2 ⟨s2, y, rfl, hs2, hr2, htr2⟩
   obtain ⟨w3, hw3⟩ : ∃ w3, w2.alloc (.cells #[.int .i64 y.k, .int .i64 y.c, .int .i64 y.n, .int .i64 y.t] 64) = w3 := ⟨_, rfl⟩
   have nb := new_box w2 _ 64 hw3
   have hp := HA.out.plt
   have st2 := HR.out.2.step.trans (hs2.mono HR.out.2.step.size)
   have st3 := st2.trans ((Step.of nb.1).mono st2.size)
   have ow3 := (own_step HR.out.2.own hs2 hp).below nb.1
   have rd3 := hr2.below nb.1
   have hlen : m ≤ 2000000 := by have := HR.out.1; have := HR.out.2.len; have := HA.out.few; omega
   have HC := Hh (Ai st3 (Ai ow3 (Ai rd3 (Ai nb.2 (Ai hlen htr2)))))
   clear hs2 hr2 htr2 nb st2 st3 ow3 rd3 hlen hp
   unfold opV
   go_wp2_with (at_builtin; refine own_app rowOp rfl _ _ rfl HR.out.1 rfl HC.out.2.1 w2.heap.size y rfl HC.out.2.2.2.1 HC.out.2.2.2.2.1 HC.out.1.size ?_)
   intro g' c' w4 ho4 hg4
   have hr4 : ∀ k, Value.ownBlock (.slice B m c) = some k → w.heap.size ≤ k := by
    intro k hk
    have := HR.out.1
    subst this
    exact (HC.out.2.1.lo k hk).1
   have st4 := HC.out.1.grown hg4 HC.out.1.size hr4
   have rd4 := Rd.grown HA.out HC.out.2.2.1 hg4 HC.out.1.size hr4
   have hv : Via ts (ops x.data.toList []) (fun r => if isB r [44] = true then ops x.data.toList (acc ++ [y]) r.tail else (must x.data.toList r).bind fun _ r => .ok (acc ++ [y]) r) s s2 :=
    HR.out.2.via.trans ((via_eq (k := fun l => (operand l).bind fun a r => if isB r [44] = true then ops x.data.toList (acc ++ [a]) r.tail else (must x.data.toList r).bind fun _ r => .ok (acc ++ [a]) r) fun _ => ops_eq _ _ _).trans (Tr.next HC.out.2.2.2.2.2))
   have hlen : (acc ++ [y]).length ≤ n := by
    have h1 := HR.out.2.far HK.out.2
    have h2 := HR.out.2.rd.lt
    rw [List.length_append]
    show acc.length + 1 ≤ n
    omega
   have hfar : s2.code = 0 → (acc ++ [y]).length ≤ s2.at_ := by
    intro hc2
    have h1 := HR.out.2.far HK.out.2
    have h2 := HC.out.2.2.2.2.2.far (fun l r a h => operand_sub h) HR.out.2.rd.tlen hc2
    rw [List.length_append]
    show acc.length + 1 ≤ s2.at_
    omega
   have hless := (HC.out.2.2.2.2.2.less HK.out.2 HR.out.2.rd.tlen rd4.tlen (fun l r a h => operand_sub h)).1
   have HD := Hh (Ai st4 (Ai ho4 (Ai rd4 (Ai hv (Ai hlen (Ai hfar hless))))))
   clear ho4 hg4 hr4 st4 rd4 hv hlen hfar hless
   cases hb : isB (ts.drop s2.at_) [44] with
   | false =>
    have HB := Hh hb
    clear hb
    go_wp2_with fail
    refine (rIs_v ⟨#[44]⟩ false HB.out HD.out.2.2.1).mono ?_
    rintro e w5 ⟨rfl, hb5⟩
    have H5 := Hh hb5
    clear hb5
    go_wp2_with fail
    refine (rmust_v x (HD.out.2.2.1.below H5.out)).mono ?_
    rintro e w6 ⟨s6, rfl, hs6, hr6, htr6⟩
    have H6 := Hh (Ai hs6 (Ai hr6 htr6))
    clear hs6 hr6 htr6
    go_wp2_with fail
    go_ret
    have st5 := HD.out.1.trans ((Step.of H5.out).mono HD.out.1.size)
    refine ⟨s6, acc ++ [y], some ⟨g', 0, none⟩, c', (by rw [List.length_append]; rfl), st5.trans (H6.out.1.mono st5.size), H6.out.2.1, ?_, own_step (HD.out.2.1.below H5.out) H6.out.1 HA.out.plt, HD.out.2.2.2.2.1⟩
    refine Via.tr (HD.out.2.2.2.1.trans (via_eq (k := fun r => (must x.data.toList r).bind fun _ r => .ok (acc ++ [y]) r) fun _ => ?_)) (Tr.map H6.out.2.2 fun _ => acc ++ [y])
    rw [HB.out]
    rfl
   | true =>
    have HB := Hh hb
    clear hb
    go_wp2_with fail
    refine (rIs_v ⟨#[44]⟩ true HB.out HD.out.2.2.1).mono ?_
    rintro e w5 ⟨rfl, hb5⟩
    have H5 := Hh hb5
    clear hb5
    go_wp2_with fail
    refine (rmust_v ⟨#[44]⟩ (HD.out.2.2.1.below H5.out)).mono ?_
    rintro e w6 ⟨s6, rfl, hs6, hr6, htr6⟩
    have st5 := HD.out.1.trans ((Step.of H5.out).mono HD.out.1.size)
    have hI : LiI w w6 p A n cp ts (ops x.data.toList []) x.data.toList s s6 (acc ++ [y]) (some ⟨g', 0, none⟩) c' := by
     refine ⟨st5.trans (hs6.mono st5.size), own_step (HD.out.2.1.below H5.out) hs6 HA.out.plt, hr6, ?_, HD.out.2.2.2.2.1, fun hc6 => ?_⟩
     ·refine (HD.out.2.2.2.1.trans (via_eq (k := fun r => (must [44] r).bind fun _ r => ops x.data.toList (acc ++ [y]) r) fun _ => ?_)).trans (Tr.next htr6)
      rw [HB.out, if_pos rfl, must_yes HB.out]
      rfl
     ·have h1 := HD.out.2.2.2.2.2.1 (htr6.good hc6).1
      have h2 := htr6.far (must_sub' _) HD.out.2.2.1.tlen hc6
      omega
    have hle := htr6.le HD.out.2.2.1.tlen hr6.tlen (fun l r a h => (must_sub h).weak)
    have HE := Hh (Ai hI hle)
    clear hs6 hr6 htr6 st5 hI hle
    go_wp2_with fail
    go_roundg (togo ts.length s6)
    case measure =>
     rw [HK.out.1]
     exact Nat.lt_of_le_of_lt HE.out.2 HD.out.2.2.2.2.2.2
    case rel => exact ⟨s6, acc ++ [y], _, _, _, rfl, rfl, by simp, HE.out.1⟩
  ·have HK := Hh hc
   have hcb : (s1.code == 0) = false := by rw [Bqf]; exact hc
   have HKB := Hh hcb
   clear hk hc hcb
   go_wp2_with fail
   refine (rok_v false HKB.out HR.out.2.rd).mono ?_
   rintro e w1 ⟨rfl, rfl⟩
   go_wp2_with fail
   refine (rmust_v x HR.out.2.rd).mono ?_
   rintro e w6 ⟨s6, rfl, hs6, hr6, htr6⟩
   have H6 := Hh (Ai hs6 (Ai hr6 htr6))
   clear hs6 hr6 htr6
   go_wp2_with fail
   go_ret
   obtain ⟨hm, hR⟩ := HR.out
   subst hm
   exact ⟨s6, acc, _, _, rfl, hR.step.trans (H6.out.1.mono hR.step.size), H6.out.2.1, Via.tr (hR.via.stuck HK.out) (Tr.map H6.out.2.2 fun _ => acc), own_step hR.own H6.out.1 HA.out.plt, hR.len⟩
theorem rlist0_v (x : ByteArray) (h : Rd w p A n cp ts s) : Calls Tryz.prog 49 #[.pointer (some ⟨p, 0, none⟩), .int .i64 0, .string x] w (ListP w p A n cp ts s (ops0 x.data.toList)) := by
 cases hx : isB (ts.drop s.at_) x.data.toList with
 | true => exact rlist_yes x hx h
 | false => exact rlist_no x hx h
def LabP (w : World) (p : Nat) (A : Option Addr) (n cp : Nat) (ts : List Tok) (s : St) (e : Ending) (w' : World) : Prop :=
 ∃ s' u, e = .returned (.string ⟨u.toArray⟩) ∧ Step w.heap.size p w w' ∧ Rd w' p A n cp ts s' ∧ Tr ts label s s' u
end
section
variable {w : World} {p : Nat} {A : Option Addr} {n cp : Nat} {ts : List Tok} {s : St}
def OfQ (w : World) (p : Nat) (A : Option Addr) (n cp : Nat) (ts : List Tok) (s : St) (k : Nat) (e : Ending) (w' : World) : Prop :=
 ∃ s' t, (t = tok0 ∨ t ∈ ts) ∧ e = .returned (tkv t) ∧ Step w.heap.size p w w' ∧ Rd w' p A n cp ts s' ∧ Tr ts (ofk k) s s' t
set_option maxHeartbeats 2000000 in
theorem rofq_yes {t : Tok} (k : Nat) (hk : t.kind = k) (h0 : k ≠ 0) (ht : ts[s.at_]? = some t) (hc : s.code = 0) (h : Rd w p A n cp ts s) : Calls Tryz.prog 27 #[.pointer (some ⟨p, 0, none⟩), .int .i64 (k : Int)] w (OfQ w p A n cp ts s k) := by
 have hn : s.at_ + 1 < n := by have := h.ends.more ht (by omega); rwa [h.len] at this
 have hm := h.few
 have hkk : ((t.kind : Int) != (k : Int)) = false := by rw [hk]; simp
 have HA := Hh (Ai hk (Ai ht (Ai hc (Ai h hn))))
 clear hk ht hc h hn
 go_enter Tryz.func27, Tryz.ntmps27
 go_wp2_with fail
 refine (rkind_v HA.out.2.1 (HA.out.2.2.2.1.alloc _)).mono ?_
 rintro e w1 ⟨rfl, hb1⟩
 have R1 := Hh ((HA.out.2.2.2.1.alloc (.cells #[.int .i64 0, .string ⟨#[]⟩, .int .i64 0, .int .i64 0, .int .i64 0] 72)).below hb1)
 have HB := Hh hb1
 clear hb1
 go_wp2_with fail
 refine (rok_v true (by rw [HA.out.2.2.1]; rfl) R1.out).mono ?_
 rintro e w2 ⟨rfl, rfl⟩
 have hp := HA.out.2.2.2.1.plt
 have z1 : w1.heap[w.heap.size]? = some (.cells #[.int .i64 0, .string ⟨#[]⟩, .int .i64 0, .int .i64 0, .int .i64 0] 72 (0, 0)) := by
  rw [HB.out.block w.heap.size (by simp)]
  exact heap_alloc_new w _
 have f1 := box_frozen R1.out.box 1
 obtain ⟨c0, c1, c2, c3⟩ := R1.out.cells
 obtain ⟨a1, ha1⟩ : ∃ a1, s.at_ + 1 = a1 := ⟨_, rfl⟩
 obtain ⟨w3, hw3⟩ : ∃ w3, w1.setCell ⟨p, 1, none⟩ (.int .i64 (a1 : Int)) = w3 := ⟨_, rfl⟩
 have g := R1.out.next HA.out.2.2.2.2
 rw [ha1, hw3] at g
 have z3 : w3.heap[w.heap.size]? = some (.cells #[.int .i64 0, .string ⟨#[]⟩, .int .i64 0, .int .i64 0, .int .i64 0] 72 (0, 0)) := by
  rw [← hw3, Below.heap_setCell _ _ _ _ (by simp; omega)]
  exact z1
 have S3 : Step w.heap.size p w w3 := ((Step.refl _ _ w).alloc (Nat.le_refl _) _).trans ((Step.of (hb1' HB.out)).trans (g.1.mono (by have := HB.out.size; simp at this; omega)))
 have G := Hh (Ai g (Ai z3 S3))
 have HA1 := Hh ha1
 have hl := HA.out.2.2.2.2
 obtain ⟨a, ha⟩ : ∃ a, s.at_ = a := ⟨_, rfl⟩
 have HA2 := Hh ha
 rw [ha] at ha1 hl c1
 have q1 : (a : Int) + 1 = (a1 : Int) := by omega
 have q2 : wrap64 ((a : Int) + 1) = (a1 : Int) := by rw [q1]; unfold wrap64; omega
 have q3 : wrap64 (a1 : Int) = (a1 : Int) := by unfold wrap64; omega
 clear g ha1 z1 z3 S3
 go_wp2_with fail
 try rw [hw3]
 clear c0 c1 c2 c3 f1 q1 q2
 obtain ⟨c0, c1, c2, c3⟩ := G.out.1.2.cells
 obtain ⟨b, o, rfl, hlt, d0, d1, d2, d3, d4⟩ := G.out.1.2.toks.at HA.out.2.1
 rw [ha] at d0 d1 d2 d3 d4
 have l1 : (0 : Int) ≤ (a : Int) := Int.natCast_nonneg _
 have l2 : (a : Int) < (n : Int) := by clear q3; omega
 have q1 : (a1 : Int) - 1 = (a : Int) := by have := HA1.out; clear q3; omega
 have q2 : wrap64 ((a1 : Int) - 1) = (a : Int) := by rw [q1]; unfold wrap64; omega
 have q4 : wrap64 (a : Int) = (a : Int) := by unfold wrap64; omega
 have e0 := box_frozen G.out.2.1 0
 have e1 := box_frozen G.out.2.1 1
 have e2 := box_frozen G.out.2.1 2
 have e3 := box_frozen G.out.2.1 3
 have e4 := box_frozen G.out.2.1 4
 have x0 : w3.cell? ⟨w.heap.size, 0, none⟩ = some (.int .i64 0) := cell_in G.out.2.1 0
 have x1 : w3.cell? ⟨w.heap.size, 1, none⟩ = some (.string ⟨#[]⟩) := cell_in G.out.2.1 1
 have x2 : w3.cell? ⟨w.heap.size, 2, none⟩ = some (.int .i64 0) := cell_in G.out.2.1 2
 have x3 : w3.cell? ⟨w.heap.size, 3, none⟩ = some (.int .i64 0) := cell_in G.out.2.1 3
 have x4 : w3.cell? ⟨w.heap.size, 4, none⟩ = some (.int .i64 0) := cell_in G.out.2.1 4
 clear ha hl hw3 hlt
 go_region
 go_wp2_with fail
 go_wp2_with fail
 refine fin_tok (fn := Tryz.f27) rfl rfl (Lex.five_heap G.out.2.1) rfl ?_
 have hg : Agree (fun k => k < w.heap.size) w3 (Lex.five w3 w.heap.size (.int .i64 t.kind) (.string ⟨t.text.toArray⟩) (.int .i64 t.n) (.int .i64 t.cls) (.int .i64 t.at_)).drew :=
  (below_agree (Lex.five_below (Below.refl _ w3) (Nat.le_refl _))).trans (drew_agree _ _)
 refine ⟨⟨a1, s.code, s.pos⟩, t, .inr (List.mem_of_getElem? HA.out.2.1), rfl, ?_, G.out.1.2.keep HA.out.2.2.2.1 hg, .inr (.inl ⟨HA.out.2.2.1, HA.out.2.2.1, ?_⟩)⟩
 ·exact (G.out.2.2.trans (Step.of (Lex.five_below (Below.refl _ w3) (Nat.le_refl _)))).drew
 ·rw [drop_at HA.out.2.1, HA1.out]
  unfold ofk
  simp only
  rw [if_pos HA.out.1]
theorem rofq_bad {t : Tok} (k : Nat) (hk : t.kind ≠ k) (ht : ts[s.at_]? = some t) (h : Rd w p A n cp ts s) : Calls Tryz.prog 27 #[.pointer (some ⟨p, 0, none⟩), .int .i64 (k : Int)] w (OfQ w p A n cp ts s k) := by
 have hkk : ((t.kind : Int) != (k : Int)) = true := by simp; omega
 have hc : ((badSt s 20 t).code == 0) = false := by
  rw [Bqf]
  unfold badSt
  split
  ·exact (by decide : (20 : Int) ≠ 0)
  ·assumption
 have HA := Hh (Ai hk (Ai ht (Ai hc h)))
 clear hk ht h hc
 go_enter Tryz.func27, Tryz.ntmps27
 go_wp2_with fail
 refine (rkind_v HA.out.2.1 (HA.out.2.2.2.alloc _)).mono ?_
 rintro e w1 ⟨rfl, hb1⟩
 have R1 := Hh ((HA.out.2.2.2.alloc (.cells #[.int .i64 0, .string ⟨#[]⟩, .int .i64 0, .int .i64 0, .int .i64 0] 72)).below hb1)
 have HB := Hh hb1
 clear hb1
 go_wp2_with fail
 refine (rBad_v 20 HA.out.2.1 R1.out).mono ?_
 rintro e w2 ⟨rfl, hs2, hr2⟩
 have R2 := Hh (Ai hs2 hr2)
 clear hs2 hr2
 go_wp2_with fail
 refine (rok_v false HA.out.2.2.1 R2.out.2).mono ?_
 rintro e w3 ⟨rfl, rfl⟩
 have z1 : w2.heap[w.heap.size]? = some (.cells #[.int .i64 0, .string ⟨#[]⟩, .int .i64 0, .int .i64 0, .int .i64 0] 72 (0, 0)) := by
  have hp := HA.out.2.2.2.plt
  have hs := HB.out.size
  rw [World.size_alloc] at hs
  rw [R2.out.1.2.2.2.2 w.heap.size (by omega) (by omega), HB.out.block w.heap.size (by simp)]
  exact heap_alloc_new w _
 have S1 : Step w.heap.size p w w2 := ((Step.refl _ _ w).alloc (Nat.le_refl _) _).trans ((Step.of (hb1' HB.out)).trans (R2.out.1.mono (by have := HB.out.size; simp at this; omega)))
 have e0 := box_frozen z1 0
 have e1 := box_frozen z1 1
 have e2 := box_frozen z1 2
 have e3 := box_frozen z1 3
 have e4 := box_frozen z1 4
 have x0 : w2.cell? ⟨w.heap.size, 0, none⟩ = some (.int .i64 0) := cell_in z1 0
 have x1 : w2.cell? ⟨w.heap.size, 1, none⟩ = some (.string ⟨#[]⟩) := cell_in z1 1
 have x2 : w2.cell? ⟨w.heap.size, 2, none⟩ = some (.int .i64 0) := cell_in z1 2
 have x3 : w2.cell? ⟨w.heap.size, 3, none⟩ = some (.int .i64 0) := cell_in z1 3
 have x4 : w2.cell? ⟨w.heap.size, 4, none⟩ = some (.int .i64 0) := cell_in z1 4
 have E := Hh (rof_end HA.out.2.2.2 R2.out.2 S1 z1)
 clear z1 S1
 go_wp2_with fail
 refine fin_tok (fn := Tryz.f27) rfl rfl E.out.1 rfl ?_
 refine ⟨badSt s 20 t, tok0, .inl rfl, rfl, E.out.2.1, E.out.2.2, ?_⟩
 unfold badSt
 by_cases hc : s.code = 0
 ·rw [if_pos hc]
  refine .inr (.inr ⟨hc, (by decide : (20 : Int) ≠ 0), ?_⟩)
  rw [drop_at HA.out.2.1]
  unfold ofk
  simp only
  rw [if_neg HA.out.1]
  rfl
 ·rw [if_neg hc]
  exact .inl ⟨hc, rfl⟩
theorem rofq_idle {t : Tok} (k : Nat) (hk : t.kind = k) (ht : ts[s.at_]? = some t) (hc : ¬ s.code = 0) (h : Rd w p A n cp ts s) : Calls Tryz.prog 27 #[.pointer (some ⟨p, 0, none⟩), .int .i64 (k : Int)] w (OfQ w p A n cp ts s k) := by
 have hkk : ((t.kind : Int) != (k : Int)) = false := by rw [hk]; simp
 have hc' : (s.code == 0) = false := by rw [Bqf]; exact hc
 have HA := Hh (Ai hc (Ai ht (Ai hc' h)))
 clear hk ht h hc hc'
 go_enter Tryz.func27, Tryz.ntmps27
 go_wp2_with fail
 refine (rkind_v HA.out.2.1 (HA.out.2.2.2.alloc _)).mono ?_
 rintro e w1 ⟨rfl, hb1⟩
 have R1 := Hh ((HA.out.2.2.2.alloc (.cells #[.int .i64 0, .string ⟨#[]⟩, .int .i64 0, .int .i64 0, .int .i64 0] 72)).below hb1)
 have HB := Hh hb1
 clear hb1
 go_wp2_with fail
 refine (rok_v false HA.out.2.2.1 R1.out).mono ?_
 rintro e w3 ⟨rfl, rfl⟩
 have z1 : w1.heap[w.heap.size]? = some (.cells #[.int .i64 0, .string ⟨#[]⟩, .int .i64 0, .int .i64 0, .int .i64 0] 72 (0, 0)) := by
  rw [HB.out.block w.heap.size (by simp)]
  exact heap_alloc_new w _
 have S1 : Step w.heap.size p w w1 := ((Step.refl _ _ w).alloc (Nat.le_refl _) _).trans (Step.of (hb1' HB.out))
 have e0 := box_frozen z1 0
 have e1 := box_frozen z1 1
 have e2 := box_frozen z1 2
 have e3 := box_frozen z1 3
 have e4 := box_frozen z1 4
 have x0 : w1.cell? ⟨w.heap.size, 0, none⟩ = some (.int .i64 0) := cell_in z1 0
 have x1 : w1.cell? ⟨w.heap.size, 1, none⟩ = some (.string ⟨#[]⟩) := cell_in z1 1
 have x2 : w1.cell? ⟨w.heap.size, 2, none⟩ = some (.int .i64 0) := cell_in z1 2
 have x3 : w1.cell? ⟨w.heap.size, 3, none⟩ = some (.int .i64 0) := cell_in z1 3
 have x4 : w1.cell? ⟨w.heap.size, 4, none⟩ = some (.int .i64 0) := cell_in z1 4
 have E := Hh (rof_end HA.out.2.2.2 R1.out S1 z1)
 clear z1 S1
 go_wp2_with fail
 refine fin_tok (fn := Tryz.f27) rfl rfl E.out.1 rfl ?_
 exact ⟨s, tok0, .inl rfl, rfl, E.out.2.1, E.out.2.2, tr_idle HA.out.1⟩
theorem rofq_v (k : Nat) (h0 : k ≠ 0) (h : Rd w p A n cp ts s) : Calls Tryz.prog 27 #[.pointer (some ⟨p, 0, none⟩), .int .i64 (k : Int)] w (OfQ w p A n cp ts s k) := by
 obtain ⟨t, ht, _⟩ := h.tok
 by_cases hk : t.kind = k
 ·by_cases hc : s.code = 0
  ·exact rofq_yes k hk h0 ht hc h
  ·exact rofq_idle k hk ht hc h
 ·exact rofq_bad k hk ht h
end
end Go.Proofs.YtbpichjmkllfaaaGreatDoor.Par
