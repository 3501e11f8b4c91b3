/- Packed texts of one proof. Conditions: none. -/
import Derived.Test.YtbpichjmkllfaaaGreatDoorPq36
import Derived.Test.YtbpichjmkllfaaaGreatDoorPq29
namespace Go.Proofs.YtbpichjmkllfaaaGreatDoor.Par
open Go.ChangeShapes Go.WideShapes Go.RowKit
open Lex (Tok tcl tkv tk tc)
set_option linter.unusedVariables false
set_option maxRecDepth 20000
theorem find_at (s : List UInt8) (k : Nat) (hk : k < 27) (hx : (Opr.tab.getD k Opr.rw0).nm.data.toList = s) (hn : ∀ j, j < k → (Opr.tab.getD j Opr.rw0).nm.data.toList ≠ s) : findOp s = k + 1 := by
 have hl : Opr.tab.length = 27 := Opr.tab_len
 have hg : ∀ j (h : j < Opr.tab.length), Opr.tab.getD j Opr.rw0 = Opr.tab[j] := fun j h => by rw [List.getD_eq_getElem?_getD, List.getElem?_eq_getElem h]; rfl
 have : Opr.tab.findIdx? (fun r => decide (r.nm.data.toList = s)) = some k := by
  rw [List.findIdx?_eq_some_iff_getElem]
  refine ⟨by omega, ?_, fun j hj => ?_⟩
  ·rw [← hg k (by omega)]; simpa using hx
  ·rw [← hg j (by omega)]; simpa using hn j hj
 unfold findOp
 rw [this]
theorem find_none (s : List UInt8) (hn : ∀ j, j < 27 → (Opr.tab.getD j Opr.rw0).nm.data.toList ≠ s) : findOp s = 0 := by
 have hl : Opr.tab.length = 27 := Opr.tab_len
 have : Opr.tab.findIdx? (fun r => decide (r.nm.data.toList = s)) = none := by
  rw [List.findIdx?_eq_none_iff]
  intro r hr
  obtain ⟨j, hj, rfl⟩ := List.getElem_of_mem hr
  have := hn j (by omega)
  rw [List.getD_eq_getElem?_getD, List.getElem?_eq_getElem hj] at this
  simpa using this
 unfold findOp
 rw [this]
theorem bytes_ne {a b : ByteArray} (h : a.data.toList ≠ b.data.toList) : (a.toList == b.toList) = false := by
 rw [Bqf, ByteArray.toList_eq, ByteArray.toList_eq]; exact h
theorem bytes_eq {a b : ByteArray} (h : a.data.toList = b.data.toList) : (a.toList == b.toList) = true := by
 rw [beq_iff_eq, ByteArray.toList_eq, ByteArray.toList_eq]; exact h
theorem rfindop_v (x : ByteArray) (w : World) : Calls Tryz.prog 125 #[.string x] w fun e w' => e = .returned (.int .i64 ((findOp x.data.toList : Nat) : Int)) ∧ Below w.heap.size w w' := by
 go_enter Tryz.func125, Tryz.ntmps125
 go_wp2_with fail
 refine (Opr.all_v _).mono ?_
 rintro e w1 ⟨g, c, l, rfl, htb⟩
 have HT := Hh htb
 clear htb
 go_wp2_with fail
 go_loopg [4] 27 (fun gk v wr => ∃ i : Nat, gk = 27 - i ∧ v = .int .i64 (i : Int) ∧ i ≤ 27 ∧ Hid ((∀ j, j < i → (Opr.tab.getD j Opr.rw0).nm.data.toList ≠ x.data.toList) ∧ wr = w1))
 case atStart => exact ⟨0, rfl, rfl, by omega, ⟨fun j hj => absurd hj (by omega), rfl⟩⟩
 case round =>
  obtain ⟨i, hk, rfl, hi, HR⟩ := hrel
  have hw := HR.out.2
  subst hw
  by_cases hlt : i < 27
  ·obtain ⟨B, _, d0, _⟩ := HT.out.at i hlt
   obtain ⟨M, hM⟩ : ∃ M, (Opr.tab.getD i Opr.rw0).nm = M := ⟨_, rfl⟩
   rw [hM] at d0
   have c1 : (i : Int) < 27 := by omega
   have c0 : (0 : Int) ≤ (i : Int) := by omega
   obtain ⟨i1, hi1⟩ : ∃ i1, i + 1 = i1 := ⟨_, rfl⟩
   have q1 : (i : Int) + 1 = (i1 : Int) := by omega
   have q2 : wrap64 ((i : Int) + 1) = (i1 : Int) := by rw [q1]; unfold wrap64; omega
   have q3 : wrap64 (i1 : Int) = (i1 : Int) := by unfold wrap64; omega
   by_cases hx : M.data.toList = x.data.toList
   ·have hq := bytes_eq hx
    have HX := Hh (Ai hx (Ai hM (Ai hlt hi1)))
    clear hx hM hi1 hk hlt hi
    go_wp2_with fail
    go_ret
    refine ⟨?_, HT.out.below⟩
    rw [find_at _ i HX.out.2.2.1 (by rw [HX.out.2.1]; exact HX.out.1) HR.out.1, HX.out.2.2.2]
    rfl
   ·have hq := bytes_ne hx
    have HX := Hh (Ai hx (Ai hM (Ai hlt (Ai hi1 hk))))
    clear hx hM hi1 hk hlt hi
    go_wp2_with fail
    go_roundg (27 - i1)
    case measure => have := HX.out.2.2.2.1; have := HX.out.2.2.1; have := HX.out.2.2.2.2; omega
    case rel =>
     refine ⟨i1, rfl, rfl, by have := HX.out.2.2.2.1; have := HX.out.2.2.1; omega, ⟨fun j hj => ?_, rfl⟩⟩
     by_cases e : j = i
     ·subst e
      rw [HX.out.2.1]; exact HX.out.1
     ·exact HR.out.1 j (by have := HX.out.2.2.2.1; omega)
  ·have c1 : ¬ (i : Int) < 27 := by omega
   have HX := Hh (Ai hlt hi)
   clear hk hlt hi
   go_wp2_with fail
   go_ret
   refine ⟨?_, HT.out.below⟩
   rw [find_none _ (fun j hj => HR.out.1 j (by have := HX.out.1; omega))]
   rfl
section
variable {w : World} {p : Nat} {A : Option Addr} {n cp : Nat} {ts : List Tok} {s : St}
theorem tok_short (hS : ∀ t ∈ ts, t.text.length ≤ 70000) {t : Tok} (h : t = tok0 ∨ t ∈ ts) : t.text.length ≤ 70000 := by
 rcases h with rfl | h
 ·show 0 ≤ 70000
  omega
 ·exact hS t h
theorem rlabel_v (hS : ∀ t ∈ ts, t.text.length ≤ 70000) (h : Rd w p A n cp ts s) : Calls Tryz.prog 148 #[.pointer (some ⟨p, 0, none⟩)] w (LabP w p A n cp ts s) := by
 have F1 := field1
 have HA := Hh (Ai h hS)
 clear h hS
 go_enter Tryz.func148, Tryz.ntmps148
 go_wp2_with fail
 refine (rofq_v 1 (by decide) HA.out.1).mono ?_
 rintro e w1 ⟨s1, t1, hq1, rfl, hs1, hr1, htr1⟩
 have H1 := Hh (Ai hs1 (Ai hr1 (Ai htr1 (tok_short HA.out.2 hq1))))
 clear hs1 hr1 htr1 hq1
 unfold tkv
 go_wp2_with fail
 have hlab : Via ts label (fun l => if isB l [46] = true then (ofk 1 l.tail).bind fun u l => .ok (t1.text ++ 46 :: u.text) l else .ok t1.text l) s s1 := by
  refine (via_eq (k := fun l => (ofk 1 l).bind fun t l => if isB l [46] = true then (ofk 1 l.tail).bind fun u l => .ok (t.text ++ 46 :: u.text) l else .ok t.text l) fun _ => rfl).trans (Tr.next H1.out.2.2.1)
 have HL := Hh hlab
 clear hlab
 by_cases hc : s1.code = 0
 ·have hcb : (s1.code == 0) = true := by rw [hc]; rfl
  have HC := Hh (Ai hc hcb)
  clear hc hcb
  refine (rok_v true HC.out.2 H1.out.2.1).mono ?_
  rintro e w2 ⟨rfl, rfl⟩
  cases hb : isB (ts.drop s1.at_) [46] with
  | false =>
   have HB := Hh hb
   clear hb
   go_wp2_with fail
   refine (rIs_v ⟨#[46]⟩ false HB.out H1.out.2.1).mono ?_
   rintro e w3 ⟨rfl, hb3⟩
   have H3 := Hh hb3
   clear hb3
   go_wp2_with fail
   go_ret
   refine ⟨s1, t1.text, rfl, H1.out.1.trans ((Step.of H3.out).mono H1.out.1.size), H1.out.2.1.below H3.out, Via.trans HL.out (via_eq fun _ => ?_)⟩
   rw [HB.out]
   rfl
  | true =>
   have HB := Hh hb
   clear hb
   go_wp2_with fail
   refine (rIs_v ⟨#[46]⟩ true HB.out H1.out.2.1).mono ?_
   rintro e w3 ⟨rfl, hb3⟩
   have H3 := Hh (Ai hb3 (H1.out.2.1.below hb3))
   clear hb3
   go_wp2_with fail
   refine (rmust_v ⟨#[46]⟩ H3.out.2).mono ?_
   rintro e w4 ⟨s4, rfl, hs4, hr4, htr4⟩
   have H4 := Hh (Ai (((Step.of H3.out.1).mono H1.out.1.size) |> H1.out.1.trans |>.trans (hs4.mono (Nat.le_trans H1.out.1.size H3.out.1.size))) (Ai hr4 htr4))
   clear hs4 hr4 htr4
   obtain ⟨X, hX⟩ : ∃ X : ByteArray, (⟨t1.text.toArray⟩ : ByteArray) ++ (⟨#[46]⟩ : ByteArray) = X := ⟨_, rfl⟩
   have hz1 : (⟨t1.text.toArray⟩ : ByteArray).size = t1.text.length := by show t1.text.toArray.size = _; simp
   have e1 := Lex.add_run ⟨t1.text.toArray⟩ ⟨#[46]⟩ X (by rw [hz1]; show t1.text.length + 1 ≤ _; have := H1.out.2.2.2; omega) hX
   have hXz : X.size = t1.text.length + 1 := by rw [← hX, ByteArray.size_append, hz1]; rfl
   have HX := Hh (Ai hX hXz)
   clear hX hXz hz1
   go_wp2_with fail
   refine (rofq_v 1 (by decide) H4.out.2.1).mono ?_
   rintro e w5 ⟨s5, t5, hq5, rfl, hs5, hr5, htr5⟩
   have H5 := Hh (Ai hs5 (Ai hr5 (Ai htr5 (tok_short HA.out.2 hq5))))
   clear hs5 hr5 htr5 hq5
   obtain ⟨Y, hY⟩ : ∃ Y : ByteArray, X ++ (⟨t5.text.toArray⟩ : ByteArray) = Y := ⟨_, rfl⟩
   have hz5 : (⟨t5.text.toArray⟩ : ByteArray).size = t5.text.length := by show t5.text.toArray.size = _; simp
   have e2 := Lex.add_run X ⟨t5.text.toArray⟩ Y (by rw [HX.out.2, hz5]; have := H1.out.2.2.2; have := H5.out.2.2.2; omega) hY
   have HY := Hh hY
   clear hY hz5
   unfold tkv
   go_wp2_with fail
   go_ret
   have hYt : Y = ⟨(t1.text ++ 46 :: t5.text).toArray⟩ := by
    rw [← HY.out, ← HX.out.1]
    apply ByteArray.ext
    rw [ByteArray.data_append, ByteArray.data_append]
    apply Array.ext'
    simp
   refine ⟨s5, t1.text ++ 46 :: t5.text, (by rw [← hYt]; rfl), H4.out.1.trans (H5.out.1.mono H4.out.1.size), H5.out.2.1, ?_⟩
   refine Via.tr (HL.out.trans (via_eq (k := fun l => (must [46] l).bind fun _ l => (ofk 1 l).bind fun u l => .ok (t1.text ++ 46 :: u.text) l) fun _ => ?_)) (Via.tr (Tr.next H4.out.2.2) (Tr.map H5.out.2.2.1 fun u => t1.text ++ 46 :: u.text))
   rw [HB.out, if_pos rfl, must_yes HB.out]
   rfl
 ·have hcb : (s1.code == 0) = false := by rw [Bqf]; exact hc
  have HC := Hh (Ai hc hcb)
  clear hc hcb
  refine (rok_v false HC.out.2 H1.out.2.1).mono ?_
  rintro e w2 ⟨rfl, rfl⟩
  go_wp2_with fail
  go_ret
  exact ⟨s1, t1.text, rfl, H1.out.1, H1.out.2.1, HL.out.stuck HC.out.1⟩
theorem rbegins_v (r : Bool) (hr : begins (ts.drop s.at_) = r) (h : Rd w p A n cp ts s) : Calls Tryz.prog 83 #[.pointer (some ⟨p, 0, none⟩)] w fun e w' => e = .returned (.bool r) ∧ Below w.heap.size w w' := by
 obtain ⟨t, ht, _⟩ := h.tok
 obtain ⟨c0, c1, c2, c3⟩ := h.cells
 have hlt := h.lt
 have hfew := h.few
 obtain ⟨a1, ha1⟩ : ∃ a1, s.at_ + 1 = a1 := ⟨_, rfl⟩
 have q1 : (s.at_ : Int) + 1 = (a1 : Int) := by omega
 have q2 : wrap64 ((s.at_ : Int) + 1) = (a1 : Int) := by rw [q1]; unfold wrap64; omega
 have q3 : wrap64 (a1 : Int) = (a1 : Int) := by unfold wrap64; omega
 obtain ⟨b1, h1⟩ : ∃ b, isB (ts.drop a1) [58] = b := ⟨_, rfl⟩
 obtain ⟨b2, h2⟩ : ∃ b, isB (ts.drop a1) [91] = b := ⟨_, rfl⟩
 obtain ⟨b3, h3⟩ : ∃ b, isB (ts.drop s.at_) edgeL = b := ⟨_, rfl⟩
 obtain ⟨K, hK⟩ : ∃ K, kindOf (ts.drop s.at_).tail = K := ⟨_, rfl⟩
 have hb : r = (decide (t.kind = 1) && (b1 || (b2 || (decide (t.kind = 1) && (b3 && decide (K = 1)))))) := by
  rw [← hr]
  unfold begins edgeB
  rw [kind_at ht, h3, hK, tail_at, ha1, h1, h2]
 have hm : a1 ≤ 2000000 := by omega
 have HA := Hh (Ai h (Ai ht (Ai h1 (Ai h2 (Ai h3 (Ai hK hm))))))
 clear h ht h1 h2 h3 hK hr hm ha1 hlt hfew
 by_cases hk : t.kind = 1
 ·have hk1 : ((t.kind : Int) == 1) = true := by rw [hk]; rfl
  rw [show decide (t.kind = 1) = true from decide_eq_true hk, Bool.true_and, Bool.true_and] at hb
  subst hb
  clear hk
  go_enter Tryz.func83, Tryz.ntmps83
  go_wp2_with fail
  refine (rkind_v HA.out.2.1 HA.out.1).mono ?_
  rintro e w1 ⟨rfl, hb1⟩
  have R1 := Hh (Ai hb1 (HA.out.1.below hb1))
  clear hb1 c0 c1 c2 c3
  obtain ⟨c0, c1, c2, c3⟩ := R1.out.2.cells
  go_wp2_with fail
  refine (ris_v a1 HA.out.2.2.2.2.2.2 ⟨#[58]⟩ b1 HA.out.2.2.1 R1.out.2).mono ?_
  rintro e w2 ⟨rfl, hb2⟩
  have R2 := Hh (Ai (R1.out.1.trans (hb2.mono R1.out.1.size)) (R1.out.2.below hb2))
  clear hb2 c0 c1 c2 c3
  obtain ⟨c0, c1, c2, c3⟩ := R2.out.2.cells
  cases b1 with
  | true =>
   go_wp2_with fail
   go_ret
   exact ⟨rfl, R2.out.1⟩
  | false =>
   go_wp2_with fail
   refine (ris_v a1 HA.out.2.2.2.2.2.2 ⟨#[91]⟩ b2 HA.out.2.2.2.1 R2.out.2).mono ?_
   rintro e w3 ⟨rfl, hb3⟩
   have R3 := Hh (Ai (R2.out.1.trans (hb3.mono R2.out.1.size)) (R2.out.2.below hb3))
   clear hb3
   cases b2 with
   | true =>
    go_wp2_with fail
    go_ret
    exact ⟨rfl, R3.out.1⟩
   | false =>
    go_wp2_with fail
    refine (rIs_v ⟨#[101, 100, 103, 101]⟩ b3 HA.out.2.2.2.2.1 R3.out.2).mono ?_
    rintro e w4 ⟨rfl, hb4⟩
    have R4 := Hh (Ai (R3.out.1.trans (hb4.mono R3.out.1.size)) (R3.out.2.below hb4))
    clear hb4
    cases b3 with
    | false =>
     go_wp2_with fail
     go_ret
     exact ⟨rfl, R4.out.1⟩
    | true =>
     go_wp2_with fail
     refine (rafter_v K HA.out.2.2.2.2.2.1 R4.out.2).mono ?_
     rintro e w5 ⟨rfl, hb5⟩
     have R5 := Hh (R4.out.1.trans (hb5.mono R4.out.1.size))
     clear hb5
     have hkk : ((K : Int) == 1) = decide (K = 1) := by
      rw [Bool.eq_iff_iff, beq_iff_eq, decide_eq_true_iff]; omega
     go_wp2_with fail
     go_ret
     exact ⟨by simp, R5.out⟩
 ·have hk1 : ((t.kind : Int) == 1) = false := by rw [Bqf]; omega
  rw [show decide (t.kind = 1) = false from decide_eq_false hk, Bool.false_and] at hb
  subst hb
  clear hk
  go_enter Tryz.func83, Tryz.ntmps83
  go_wp2_with fail
  refine (rkind_v HA.out.2.1 HA.out.1).mono ?_
  rintro e w1 ⟨rfl, hb1⟩
  have R1 := Hh hb1
  clear hb1
  go_wp2_with fail
  go_ret
  exact ⟨rfl, R1.out⟩
end
structure RsD (w W : World) (p : Nat) (A : Option Addr) (n cp : Nat) (ts : List Tok) (s : St) (op dk dc dn dt : Int) (B : Option Addr) (an ac : Nat) (nm : ByteArray) (off : Int) (L : Option Addr) (ln lc : Nat) (C : Option Addr) (cn cc : Nat) : Prop where
 step : Step w.heap.size p w W
 rd : Rd W p A n cp ts s
 ib : W.heap[w.heap.size]? = some (.cells (ic op dk dc dn dt B an ac nm off L ln lc C cn cc) 67 (0, 0))
 z : W.heap[w.heap.size + 1]? = some (.cells icZ 67 (0, 0))
 old : ∃ s0, Rd w p A n cp ts s0
section
variable {w W W' : World} {p : Nat} {A : Option Addr} {n cp : Nat} {ts : List Tok} {s s' : St} {op dk dc dn dt : Int} {B : Option Addr} {an ac : Nat} {nm : ByteArray} {off : Int} {L : Option Addr} {ln lc : Nat} {C : Option Addr} {cn cc : Nat}
theorem RsD.plt (h : RsD w W p A n cp ts s op dk dc dn dt B an ac nm off L ln lc C cn cc) : p < w.heap.size := by obtain ⟨s0, h0⟩ := h.old; exact h0.plt
theorem RsD.hi (h : RsD w W p A n cp ts s op dk dc dn dt B an ac nm off L ln lc C cn cc) : w.heap.size + 1 < W.heap.size := (Array.getElem?_eq_some_iff.1 h.z).1
theorem RsD.call (h : RsD w W p A n cp ts s op dk dc dn dt B an ac nm off L ln lc C cn cc) (hs : Step W.heap.size p W W') (hr : Rd W' p A n cp ts s') : RsD w W' p A n cp ts s' op dk dc dn dt B an ac nm off L ln lc C cn cc :=
 ⟨h.step.trans (hs.mono h.step.size), hr, by rw [hs.2.2.2.2 _ (by have := h.hi; omega) (by have := h.plt; omega)]; exact h.ib, by rw [hs.2.2.2.2 _ h.hi (by have := h.plt; omega)]; exact h.z, h.old⟩
theorem RsD.below (h : RsD w W p A n cp ts s op dk dc dn dt B an ac nm off L ln lc C cn cc) (hb : Below W.heap.size W W') : RsD w W' p A n cp ts s op dk dc dn dt B an ac nm off L ln lc C cn cc := h.call (Step.of hb) (h.rd.below hb)
theorem RsD.put {B' : Option Addr} {an' ac' : Nat} {nm' : ByteArray} {off' : Int} {L' : Option Addr} {ln' lc' : Nat} {C' : Option Addr} {cn' cc' : Nat} (h : RsD w W p A n cp ts s op dk dc dn dt B an ac nm off L ln lc C cn cc) (o : Nat) (v : Value)
  (hb : (W.setCell ⟨w.heap.size, o, none⟩ v).heap[w.heap.size]? = some (.cells (ic op dk dc dn dt B' an' ac' nm' off' L' ln' lc' C' cn' cc') 67 (0, 0))) : RsD w (W.setCell ⟨w.heap.size, o, none⟩ v) p A n cp ts s op dk dc dn dt B' an' ac' nm' off' L' ln' lc' C' cn' cc' := by
 obtain ⟨s0, h0⟩ := h.old
 have hb' : Below w.heap.size W (W.setCell ⟨w.heap.size, o, none⟩ v) := (Below.refl w.heap.size W).setCell (p := ⟨w.heap.size, o, none⟩) (Nat.le_refl _) _
 exact ⟨h.step.trans (Step.of hb'), h.rd.keep h0 (below_agree hb'), hb, by rw [Below.heap_setCell _ _ _ _ (by show w.heap.size + 1 ≠ w.heap.size; omega)]; exact h.z, s0, h0⟩
theorem RsD.setA (h : RsD w W p A n cp ts s op dk dc dn dt B an ac nm off L ln lc C cn cc) (B' : Option Addr) (an' ac' : Nat) : RsD w (W.setCell ⟨w.heap.size, 5, none⟩ (.slice B' an' ac')) p A n cp ts s op dk dc dn dt B' an' ac' nm off L ln lc C cn cc := h.put _ _ ((put10 h.ib).1 _ _ _)
theorem RsD.setN (h : RsD w W p A n cp ts s op dk dc dn dt B an ac nm off L ln lc C cn cc) (x : ByteArray) : RsD w (W.setCell ⟨w.heap.size, 6, none⟩ (.string x)) p A n cp ts s op dk dc dn dt B an ac x off L ln lc C cn cc := h.put _ _ ((put10 h.ib).2.1 _)
theorem RsD.setO (h : RsD w W p A n cp ts s op dk dc dn dt B an ac nm off L ln lc C cn cc) (x : Int) : RsD w (W.setCell ⟨w.heap.size, 7, none⟩ (.int .i64 x)) p A n cp ts s op dk dc dn dt B an ac nm x L ln lc C cn cc := h.put _ _ ((put10 h.ib).2.2.1 _)
theorem RsD.setL (h : RsD w W p A n cp ts s op dk dc dn dt B an ac nm off L ln lc C cn cc) (B' : Option Addr) (an' ac' : Nat) : RsD w (W.setCell ⟨w.heap.size, 8, none⟩ (.slice B' an' ac')) p A n cp ts s op dk dc dn dt B an ac nm off B' an' ac' C cn cc := h.put _ _ ((put10 h.ib).2.2.2.1 _ _ _)
theorem RsD.setC (h : RsD w W p A n cp ts s op dk dc dn dt B an ac nm off L ln lc C cn cc) (B' : Option Addr) (an' ac' : Nat) : RsD w (W.setCell ⟨w.heap.size, 9, none⟩ (.slice B' an' ac')) p A n cp ts s op dk dc dn dt B an ac nm off L ln lc B' an' ac' := h.put _ _ ((put10 h.ib).2.2.2.2 _ _ _)
def DRest (w : World) (p : Nat) (A : Option Addr) (n cp : Nat) (ts : List Tok) (s : St) (op : Nat) (d : Opn) (e : Ending) (w' : World) : Prop :=
 ∃ s' x val, e = .returned val ∧ Step w.heap.size p w w' ∧ Rd w' p A n cp ts s' ∧ Tr ts (rest op) s s' x ∧ InsA w.heap.size w' ⟨(op : Int), d, x.args, x.name, x.off, x.labels, x.cases⟩ val
theorem RsD.fin {o : Nat} {d : Opn} {x : Has} (h : RsD w W p A n cp ts s' (o : Int) d.k d.c d.n d.t B x.args.length ac x.name x.off L x.labels.length lc C x.cases.length cc)
  (h1 : OwnL 64 4 Opn.cs (w.heap.size + 1) W B ac x.args) (h2 : OwnL 9 1 strC (w.heap.size + 1) W L lc x.labels) (h3 : OwnL 3 1 intC (w.heap.size + 1) W C cc x.cases) (ht : Tr ts (rest o) s s' x) :
  (ten W (w.heap.size + 1) (.int .i64 (o : Int)) (.int .i64 d.k) (.int .i64 d.c) (.int .i64 d.n) (.int .i64 d.t) (.slice B x.args.length ac) (.string x.name) (.int .i64 x.off) (.slice L x.labels.length lc) (.slice C x.cases.length cc)).heap[w.heap.size + 1]? = some (.cells (ic (o : Int) d.k d.c d.n d.t B x.args.length ac x.name x.off L x.labels.length lc C x.cases.length cc) 67 (0, 0)) ∧
  DRest w p A n cp ts s o d (.returned (.agg (ic (o : Int) d.k d.c d.n d.t B x.args.length ac x.name x.off L x.labels.length lc C x.cases.length cc))) (ten W (w.heap.size + 1) (.int .i64 (o : Int)) (.int .i64 d.k) (.int .i64 d.c) (.int .i64 d.n) (.int .i64 d.t) (.slice B x.args.length ac) (.string x.name) (.int .i64 x.off) (.slice L x.labels.length lc) (.slice C x.cases.length cc)) := by
 obtain ⟨s0, h0⟩ := h.old
 have hb : Below w.heap.size W (ten W (w.heap.size + 1) (.int .i64 (o : Int)) (.int .i64 d.k) (.int .i64 d.c) (.int .i64 d.n) (.int .i64 d.t) (.slice B x.args.length ac) (.string x.name) (.int .i64 x.off) (.slice L x.labels.length lc) (.slice C x.cases.length cc)) := ten_below (Below.refl _ W) (Nat.le_succ _)
 refine ⟨ten_heap h.z, s', x, _, rfl, h.step.trans (Step.of hb), h.rd.keep h0 (below_agree hb), ht, ⟨B, x.args.length, ac, L, x.labels.length, lc, C, x.cases.length, cc⟩, rfl, ?_⟩
 exact (heldIns h1 h2 h3 h.z).weak fun k _ hk => by omega
theorem RsD.start {w0 w1 : World} (h : Rd w p A n cp ts s) (h0 : w.alloc (.cells (ic op dk dc dn dt B an ac nm off L ln lc C cn cc) 67) = w0) (h1 : w0.alloc (.cells icZ 67) = w1) : RsD w w1 p A n cp ts s op dk dc dn dt B an ac nm off L ln lc C cn cc := by
 have hsz : w0.heap.size = w.heap.size + 1 := by rw [← h0]; simp
 have nb := new_box w _ 67 h0
 have nb1 := new_box w0 _ 67 h1
 have z1 := kept_box nb.2 nb1.1
 rw [hsz] at nb1
 have B1 : Below w.heap.size w w1 := nb.1.trans (nb1.1.mono (by omega))
 exact ⟨Step.of B1, h.below B1, z1, nb1.2, s, h⟩
end
section
variable {w : World} {p : Nat} {A : Option Addr} {n cp : Nat} {ts : List Tok} {s : St}
def insB (op : Nat) (d : Opn) : Value := .agg #[.int .i64 (op : Int), .int .i64 d.k, .int .i64 d.c, .int .i64 d.n, .int .i64 d.t, .slice none 0 0, .string ⟨#[]⟩, .int .i64 0, .slice none 0 0, .slice none 0 0]
set_option maxHeartbeats 2000000 in
theorem drest_call (d : Opn) (h : Rd w p A n cp ts s) : Calls Tryz.prog 126 #[.pointer (some ⟨p, 0, none⟩), insB 19 d] w (DRest w p A n cp ts s 19 d) := by
 have F1 := field1
 obtain ⟨dk, dc, dn, dt⟩ := d
 obtain ⟨w0, hw0⟩ : ∃ w0, w.alloc (.cells (ic 19 dk dc dn dt none 0 0 ⟨#[]⟩ 0 none 0 0 none 0 0) 67) = w0 := ⟨_, rfl⟩
 obtain ⟨w1, hw1⟩ : ∃ w1, w0.alloc (.cells icZ 67) = w1 := ⟨_, rfl⟩
 have R1 := Hh (RsD.start h hw0 hw1)
 have hsz : w0.heap.size = w.heap.size + 1 := by rw [← hw0]; simp
 have HA := Hh h
 have HW := Hh (Ai hw0 (Ai hw1 hsz))
 obtain ⟨⟨c0, c5, c6, c7, c8, c9⟩, _, f5, f6, f7, f8, f9⟩ := box10 R1.out.ib
 clear h hw0 hw1 hsz
 unfold insB
 go_enter Tryz.func126, Tryz.ntmps126
 have e0 := HW.out.1
 have e1 := HW.out.2.1
 have e2 := HW.out.2.2
 unfold ic at e0
 unfold icZ at e1
 go_wp2_with fail
 try rw [e0, e1]
 try rw [e0]
 try rw [e1]
 try rw [e2]
 clear e0 e1 e2
 refine (rof_v 3 (by decide) R1.out.rd).mono ?_
 rintro e w2 ⟨s2, t, rfl, hs2, hr2, htr2⟩
 have R2 := Hh (R1.out.call hs2 hr2)
 have HT2 := Hh htr2
 clear hs2 hr2 htr2 c0 c5 c6 c7 c8 c9 f5 f6 f7 f8 f9
 obtain ⟨⟨c0, c5, c6, c7, c8, c9⟩, _, f5, f6, f7, f8, f9⟩ := box10 R2.out.ib
 obtain ⟨w3, hw3⟩ : ∃ w3, w2.setCell ⟨w.heap.size, 6, none⟩ (.string ⟨t.text.toArray⟩) = w3 := ⟨_, rfl⟩
 have R3 := Hh (hw3 ▸ R2.out.setN ⟨t.text.toArray⟩)
 unfold tkv
 go_wp2_with fail
 try rw [hw3]
 clear hw3 c0 c5 c6 c7 c8 c9 f5 f6 f7 f8 f9
 refine (rmust_v ⟨#[40]⟩ R3.out.rd).mono ?_
 rintro e w4 ⟨s4, rfl, hs4, hr4, htr4⟩
 have R4 := Hh (R3.out.call hs4 hr4)
 have HT4 := Hh htr4
 clear hs4 hr4 htr4
 go_wp2_with fail
 refine (rlist0_v ⟨#[41]⟩ R4.out.rd).mono ?_
 rintro e w5 ⟨s5, xs, D, c, rfl, hs5, hr5, htr5, ho5, _⟩
 have R5 := Hh (R4.out.call hs5 hr5)
 have HO5 := Hh (Ai htr5 (ho5.less (N' := w.heap.size + 1) (by have := R4.out.hi; omega)))
 clear hs5 hr5 htr5 ho5
 obtain ⟨⟨c0, c5, c6, c7, c8, c9⟩, _, f5, f6, f7, f8, f9⟩ := box10 R5.out.ib
 obtain ⟨m, hm⟩ : ∃ m, xs.length = m := ⟨_, rfl⟩
 obtain ⟨w6, hw6⟩ : ∃ w6, w5.setCell ⟨w.heap.size, 5, none⟩ (.slice D m c) = w6 := ⟨_, rfl⟩
 have R6 := Hh (hw6 ▸ R5.out.setA D m c)
 have HO6 := Hh (hw6 ▸ own_put (I := w.heap.size) (o := 5) (v := .slice D m c) HO5.out.2 (by omega))
 have HM := Hh hm
 rw [hm]
 have R7 := R6.out.ib
 unfold ic at R7
 obtain ⟨d0, d1, d2, d3, d4, d5, d6, d7, d8, d9⟩ := (boxT R7)
 have R8 := R6.out.z
 unfold icZ at R8
 obtain ⟨z0, z1, z2, z3, z4, z5, z6, z7, z8, z9⟩ := (boxT R8)
 clear hm R7 R8
 go_wp2_with fail
 have hm := HM.out
 subst hm
 have htr : Tr ts (rest 19) s s5 ⟨xs, ⟨t.text.toArray⟩, 0, [], []⟩ := by
  refine Via.tr (via_eq (k := fun l => (ofk 3 l).bind fun t l => (must [40] l).bind fun _ l => (ops0 [41] l).bind fun a l => .ok ⟨a, ⟨t.text.toArray⟩, 0, [], []⟩ l) fun _ => ?_) (Via.tr (Tr.next HT2.out) (Via.tr (Tr.next HT4.out) (Tr.map HO5.out.1 fun a => (⟨a, ⟨t.text.toArray⟩, 0, [], []⟩ : Has))))
  unfold rest
  rw [if_pos rfl]
 have HF := RsD.fin (o := 19) (d := ⟨dk, dc, dn, dt⟩) (x := ⟨xs, ⟨t.text.toArray⟩, 0, [], []⟩) R6.out HO6.out OwnL.nil OwnL.nil htr
 refine fin_ins (fn := Tryz.f126) rfl rfl HF.1 rfl ?_
 exact HF.2
end
end Go.Proofs.YtbpichjmkllfaaaGreatDoor.Par
