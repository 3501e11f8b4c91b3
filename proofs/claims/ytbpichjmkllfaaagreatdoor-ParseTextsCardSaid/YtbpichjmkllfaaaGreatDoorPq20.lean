/- Packed texts of one proof. Conditions: none. -/
import Derived.Test.YtbpichjmkllfaaaGreatDoorPq19
namespace Go.Proofs.YtbpichjmkllfaaaGreatDoor.Par
open Go.ChangeShapes Go.WideShapes Go.RowKit
open Lex (Tok tcl tkv tk tc)
set_option linter.unusedVariables false
set_option maxRecDepth 20000
section
variable {w : World} {p g n cp : Nat} {ts : List Tok} {a : Nat}
def firstM (l : List Tok) : Res Int := if findOp (textOf l) = 0 then err l.tail else .ok (findOp (textOf l) : Int) l.tail
theorem lfirst_v {t : Tok} (ht : ts[a]? = some t) (hk : t.kind = 1) (h : Lr w p g n cp ts a) : Calls Tryz.prog 143 #[.pointer (some ⟨p, 0, none⟩)] w (LP w p g n cp ts a firstM fun _ r val => val = .int .i64 r) := by
 have F1 := field1
 have HA := Hh (Ai ht (Ai hk h))
 clear ht hk h
 by_cases h0 : findOp t.text = 0
 ·have hf : findF t.text = (0, false) := by unfold findF; rw [h0]; rfl
  have HF := Hh (Ai hf h0)
  clear hf h0
  go_enter Tryz.func143, Tryz.ntmps143
  go_wp2_with fail
  refine (ltok_v HA.out.1 HA.out.2.2).mono ?_
  rintro e w1 ⟨rfl, hb1⟩
  have R1 := HA.out.2.2.below hb1
  have HB := Hh (Ai hb1 R1)
  clear hb1 R1
  unfold tkv
  go_wp2_with fail
  refine (opfind_v t w1 HB.out.2.gl).mono ?_
  rintro e w2 ⟨rfl, rfl⟩
  rw [HF.out.1]
  have hn := HA.out.2.2.more HA.out.1 (by have := HA.out.2.1; omega)
  obtain ⟨a1, ha1⟩ : ∃ a1, a + 1 = a1 := ⟨_, rfl⟩
  obtain ⟨c0, c1⟩ := HB.out.2.cells
  have f1 := box_frozen HB.out.2.box 1
  obtain ⟨q1, q2, q3⟩ := plus1 hn HA.out.2.2.few ha1
  obtain ⟨w3, hw3⟩ : ∃ w3, w1.setCell ⟨p, 1, none⟩ (.int .i64 (a1 : Int)) = w3 := ⟨_, rfl⟩
  have g3 := HB.out.2.set a1 (by omega)
  rw [hw3] at g3
  have HC := Hh (Ai g3 ha1)
  clear hn g3 ha1 c0
  go_wp2_with fail
  try rw [hw3]
  clear c1 f1 q1 q2 q3 hw3
  obtain ⟨u, hu, _⟩ := HC.out.1.2.tok
  have HU := Hh hu
  clear hu
  refine (lwrong_v HU.out HC.out.1.2).mono ?_
  rintro e w4 ⟨rfl, hb⟩
  have HD := Hh hb
  clear hb
  go_wp2_with fail
  refine ⟨rfl, ((Step.of HB.out.1).trans (HC.out.1.1.mono HB.out.1.size)).trans (Step.of (HD.out.mono (Nat.le_trans HB.out.1.size HC.out.1.1.size))), Or.inr ⟨20, u.at_, by decide, ?_, rfl⟩⟩
  unfold firstM
  rw [text_at HA.out.1, if_pos HF.out.2, tail_at, HC.out.2]
  unfold err
  rw [head_at HU.out]
 ·have hf : findF t.text = (((findOp t.text : Nat) : Int), true) := by unfold findF; rw [decide_eq_true h0]
  have HF := Hh (Ai hf h0)
  clear hf h0
  go_enter Tryz.func143, Tryz.ntmps143
  go_wp2_with fail
  refine (ltok_v HA.out.1 HA.out.2.2).mono ?_
  rintro e w1 ⟨rfl, hb1⟩
  have R1 := HA.out.2.2.below hb1
  have HB := Hh (Ai hb1 R1)
  clear hb1 R1
  unfold tkv
  go_wp2_with fail
  refine (opfind_v t w1 HB.out.2.gl).mono ?_
  rintro e w2 ⟨rfl, rfl⟩
  rw [HF.out.1]
  go_wp2_with fail
  refine (kop_v HB.out.2).mono ?_
  have hm1 : knownM findF (ts.drop a) = .ok (findOp t.text : Int) (ts.drop (a + 1)) := by
   unfold knownM
   rw [kind_at HA.out.1, text_at HA.out.1, HF.out.1, if_pos ⟨HA.out.2.1, rfl⟩, tail_at]
  rintro e w3 ⟨hs, ⟨x, a1, val, hm, rfl, rfl, hl⟩ | ⟨c, q, hc, hm, rfl⟩⟩
  ·have HD := Hh (Ai hs (Ai hm hl))
   have HM := Hh hm1
   clear hs hm hl hm1
   go_wp2_with fail
   go_ret
   refine ⟨(Step.of HB.out.1).trans (HD.out.1.mono HB.out.1.size), Or.inl ⟨x, a1, _, ?_, rfl, rfl, HD.out.2.2⟩⟩
   rw [← HD.out.2.1, HM.out]
   unfold firstM
   rw [text_at HA.out.1, if_neg HF.out.2, tail_at]
  ·rw [hm1] at hm
   cases hm
def casesM (l : List Tok) : Res (List Int × List ByteArray) := (must [91] l).bind fun _ l => cases [] [] l
structure CasI (w W : World) (p g n cp : Nat) (ts : List Tok) (a a' : Nat) (cs : List Int) (ls : List ByteArray) (A : Option Addr) (c : Nat) (L : Option Addr) (d : Nat) : Prop where
 step : Step w.heap.size p w W
 own : OwnL 3 1 intC w.heap.size W A c cs
 owl : OwnL 9 1 strC w.heap.size W L d ls
 rd : Lr W p g n cp ts a'
 eq : casesM (ts.drop a) = cases cs ls (ts.drop a')
 far : cs.length ≤ a' ∧ ls.length ≤ a'
theorem own_other {α : Type} {T : TypeId} {sz : Nat} {cs : α → List Value} {N : Nat} {W W' : World} {A : Option Addr} {c : Nat} {l : List α} {row : Option Nat} (h : OwnL T sz cs N W A c l) (hg : W.grownBy W' row) (hne : ∀ k, Value.ownBlock (.slice A l.length c) = some k → some k ≠ row) : OwnL T sz cs N W' A c l :=
 h.held W' ((grown_agree hg).weak fun k _ e => hne k e)
theorem own_type {α : Type} {T : TypeId} {sz : Nat} {cs : α → List Value} {N : Nat} {W : World} {A : Option Addr} {c : Nat} {l : List α} (h : OwnL T sz cs N W A c l) {k : Nat} (hk : Value.ownBlock (.slice A l.length c) = some k) : ∃ cur, W.heap[k]? = some (.cells cur T (0, 0)) := by
 obtain ⟨_, ⟨e, _⟩ | ⟨g, cap, cur, e, _, hb, _⟩⟩ := h
 ·rw [e] at hk; cases hk
 ·rw [e] at hk
  injection hk with hk
  subst hk
  exact ⟨cur, hb⟩
theorem own_apart {α β : Type} {T T' : TypeId} {sz sz' : Nat} {cs : α → List Value} {cs' : β → List Value} {N N' : Nat} {W : World} {A A' : Option Addr} {c c' : Nat} {l : List α} {l' : List β} (h : OwnL T sz cs N W A c l) (h' : OwnL T' sz' cs' N' W A' c' l') (hT : T ≠ T') {k : Nat} (hk : Value.ownBlock (.slice A l.length c) = some k) : some k ≠ Value.ownBlock (.slice A' l'.length c') := by
 intro e
 obtain ⟨x, hx⟩ := own_type h hk
 obtain ⟨y, hy⟩ := own_type h' e.symm
 rw [hx] at hy
 injection hy with hy
 injection hy with _ hy
 exact hT hy
set_option maxHeartbeats 2000000 in
theorem lcases_v (h : Lr w p g n cp ts a) : Calls Tryz.prog 159 #[.pointer (some ⟨p, 0, none⟩)] w (LP w p g n cp ts a casesM fun w' x val => ∃ A c L d, val = .tuple #[.slice A x.1.length c, .slice L x.2.length d] ∧ OwnL 3 1 intC w.heap.size w' A c x.1 ∧ OwnL 9 1 strC w.heap.size w' L d x.2) := by
 have HA := Hh h
 clear h
 go_enter Tryz.func159, Tryz.ntmps159
 go_wp2_with fail
 refine (lmust_v ⟨#[91]⟩ HA.out).mono ?_
 rintro e w1 ⟨hs, ⟨_, a1, val, hm, rfl, rfl, hl⟩ | ⟨c, q, hc, hm, rfl⟩⟩
 ·have hI : CasI w w1 p g n cp ts a a1 [] [] none 0 none 0 := ⟨hs, OwnL.nil, OwnL.nil, hl, by unfold casesM; rw [show must [91] (ts.drop a) = _ from hm]; rfl, by simp⟩
  have HI := Hh hI
  clear hs hm hl hI
  go_wp2_with fail
  go_loopg [4, 5] (n - a1) (fun gk u v wr => ∃ (a' : Nat) (cs : List Int) (ls : List ByteArray) (A : Option Addr) (c : Nat) (L : Option Addr) (d m k : Nat), gk = n - a' ∧ u = .slice A m c ∧ v = .slice L k d ∧ Hid (cs.length = m ∧ ls.length = k ∧ CasI w wr p g n cp ts a a' cs ls A c L d))
  case atStart => exact ⟨a1, [], [], none, 0, none, 0, 0, 0, rfl, rfl, rfl, rfl, rfl, HI.out⟩
  case round =>
   obtain ⟨a', cs, ls, A, c, L, d, m, k, hk, rfl, rfl, HR⟩ := hrel
   have hla := HR.out.2.2.rd.lt
   have hln := HR.out.2.2.rd.few
   cases hr : isB (ts.drop a') elseL with
   | true =>
    have HK := Hh hr
    clear hk hla hln hr
    go_wp2_with fail
    refine (lmay_yes ⟨#[101, 108, 115, 101]⟩ HK.out HR.out.2.2.rd).mono ?_
    rintro e w3 ⟨rfl, hs3, hl3⟩
    have HB := Hh (Ai hs3 hl3)
    clear hs3 hl3
    have heq : casesM (ts.drop a) = (must [58] (ts.drop (a' + 1))).bind fun _ l => (label l).bind fun s l => (must [93] l).bind fun _ l => .ok (cs, ls ++ [⟨s.toArray⟩]) l := by
     rw [HR.out.2.2.eq, cases_eq, if_pos HK.out, tail_at]
    have HQ := Hh heq
    clear heq
    go_wp2_with fail
    refine (lmust_v ⟨#[58]⟩ HB.out.2).mono ?_
    rintro e w4 ⟨hs, ⟨_, a2, val, hm, rfl, rfl, hl⟩ | ⟨c0, q, hc, hm, rfl⟩⟩
    ·have s4 := (HR.out.2.2.step.trans (HB.out.1.mono HR.out.2.2.step.size)).trans (hs.mono (Nat.le_trans HR.out.2.2.step.size HB.out.1.size))
     have HC := Hh (Ai s4 (Ai hm (Ai hl (Ai (own_step (own_step HR.out.2.2.own HB.out.1 HA.out.plt) hs HA.out.plt) (own_step (own_step HR.out.2.2.owl HB.out.1 HA.out.plt) hs HA.out.plt)))))
     clear hs hm hl s4
     go_wp2_with fail
     refine (llab_v HC.out.2.2.1).mono ?_
     rintro e w5 ⟨hs, ⟨s, a3, val, hm, rfl, rfl, hl⟩ | ⟨c0, q, hc, hm, rfl⟩⟩
     ·obtain ⟨w6, hw6⟩ : ∃ w6, w5.alloc (.cells #[.string ⟨s.toArray⟩] 9) = w6 := ⟨_, rfl⟩
      have nb := new_box w5 _ 9 hw6
      have s5 := HC.out.1.trans (hs.mono HC.out.1.size)
      have s6 := s5.trans ((Step.of nb.1).mono s5.size)
      have o6 := (own_step HC.out.2.2.2.1 hs HA.out.plt).below nb.1
      have p6 := (own_step HC.out.2.2.2.2 hs HA.out.plt).below nb.1
      have HD := Hh (Ai s6 (Ai hm (Ai (hl.below nb.1) (Ai o6 (Ai p6 (Ai nb.2 s6.size))))))
      have hlen : k ≤ 2000000 := by have := HR.out.2.1; have := HR.out.2.2.far.2; have := HR.out.2.2.rd.lt; have := HA.out.few; omega
      clear hs hm hl nb s5 s6 o6 p6
      have HL := Hh hlen
      clear hlen
      go_wp2_with (at_builtin; refine own_app rowStr rfl _ _ rfl HR.out.2.1 rfl HD.out.2.2.2.2.1 w5.heap.size ⟨s.toArray⟩ rfl HD.out.2.2.2.2.2.1 HL.out HD.out.2.2.2.2.2.2 ?_)
      intro g' c' w7 ho7 hg7
      have hr7 : ∀ j, Value.ownBlock (.slice L k d) = some j → w.heap.size ≤ j := by
       intro j hj
       exact (HD.out.2.2.2.2.1.lo j (by rw [HR.out.2.1]; exact hj)).1
      have s7 := HD.out.1.grown hg7 HD.out.2.2.2.2.2.2 hr7
      have l7 := HD.out.2.2.1.grown hg7 HD.out.2.2.2.2.2.2 hr7 HA.out.plt HA.out.glt
      have o7 := own_other HD.out.2.2.2.1 hg7 (fun j hj => by have := own_apart HD.out.2.2.2.1 HD.out.2.2.2.2.1 (by decide) hj; rw [HR.out.2.1] at this; exact this)
      have HE := Hh (Ai s7 (Ai l7 (Ai o7 ho7)))
      clear ho7 hg7 hr7 s7 l7 o7
      go_wp2_with fail
      refine (lmust_v ⟨#[93]⟩ HE.out.2.1).mono ?_
      rintro e w8 ⟨hs, ⟨_, a4, val, hm, rfl, rfl, hl⟩ | ⟨c0, q, hc, hm, rfl⟩⟩
      ·have HF := Hh (Ai (HE.out.1.trans (hs.mono HE.out.1.size)) (Ai hm (Ai hl (Ai (own_step HE.out.2.2.1 hs HA.out.plt) (own_step HE.out.2.2.2 hs HA.out.plt)))))
       clear hs hm hl
       go_wp2_with fail
       go_ret2
       refine ⟨HF.out.1, Or.inl ⟨(cs, ls ++ [⟨s.toArray⟩]), a4, _, ?_, rfl, ⟨A, c, some ⟨g', 0, none⟩, c', by first | rfl | (rw [show cs.length = m from HR.out.1]; simp [HR.out.2.1]), HF.out.2.2.2.1, HF.out.2.2.2.2⟩, HF.out.2.2.1⟩⟩
       rw [HQ.out, show must [58] (ts.drop (a' + 1)) = _ from HC.out.2.1]
       show (label (ts.drop a2)).bind _ = _
       rw [HD.out.2.1]
       show (must [93] (ts.drop a3)).bind _ = _
       rw [show must [93] (ts.drop a3) = _ from HF.out.2.1]
       rfl
      ·go_wp2_with fail
       refine ⟨rfl, HE.out.1.trans (hs.mono HE.out.1.size), Or.inr ⟨c0, q, hc, ?_, rfl⟩⟩
       rw [HQ.out, show must [58] (ts.drop (a' + 1)) = _ from HC.out.2.1]
       show (label (ts.drop a2)).bind _ = _
       rw [HD.out.2.1]
       show (must [93] (ts.drop a3)).bind _ = _
       rw [show must [93] (ts.drop a3) = _ from hm]
       rfl
     ·go_wp2_with fail
      refine ⟨rfl, HC.out.1.trans (hs.mono HC.out.1.size), Or.inr ⟨c0, q, hc, ?_, rfl⟩⟩
      rw [HQ.out, show must [58] (ts.drop (a' + 1)) = _ from HC.out.2.1]
      show (label (ts.drop a2)).bind _ = _
      rw [hm]
      rfl
    ·go_wp2_with fail
     refine ⟨rfl, (HR.out.2.2.step.trans (HB.out.1.mono HR.out.2.2.step.size)).trans (hs.mono (Nat.le_trans HR.out.2.2.step.size HB.out.1.size)), Or.inr ⟨c0, q, hc, ?_, rfl⟩⟩
     rw [HQ.out, show must [58] (ts.drop (a' + 1)) = _ from hm]
     rfl
   | false =>
    have heq : casesM (ts.drop a) = (case1 (ts.drop a')).bind fun x r => cases (cs ++ [x.1]) (ls ++ [⟨x.2.toArray⟩]) r := by
     rw [HR.out.2.2.eq, cases_eq, hr]
     rfl
    have HQ := Hh heq
    have HK := Hh (Ai hk (Ai hla hr))
    clear hk hla hln hr heq
    go_wp2_with fail
    refine (lmay_no ⟨#[101, 108, 115, 101]⟩ HK.out.2.2 HR.out.2.2.rd).mono ?_
    rintro e w3 ⟨rfl, hb3⟩
    have s3 := HR.out.2.2.step.trans ((Step.of hb3).mono HR.out.2.2.step.size)
    have HB := Hh (Ai s3 (Ai (HR.out.2.2.rd.below hb3) (Ai (HR.out.2.2.own.below hb3) (HR.out.2.2.owl.below hb3))))
    clear hb3 s3
    go_wp2_with fail
    refine (lval_v HB.out.2.1).mono ?_
    rintro e w4 ⟨hs, ⟨v, a2, val, hm, rfl, rfl, hl⟩ | ⟨c0, q, hc, hm, rfl⟩⟩
    ·obtain ⟨w5, hw5⟩ : ∃ w5, w4.alloc (.cells #[.int .i64 v] 3) = w5 := ⟨_, rfl⟩
     have nb := new_box w4 _ 3 hw5
     have s4 := HB.out.1.trans (hs.mono HB.out.1.size)
     have s5 := s4.trans ((Step.of nb.1).mono s4.size)
     have o5 := (own_step HB.out.2.2.1 hs HA.out.plt).below nb.1
     have p5 := (own_step HB.out.2.2.2 hs HA.out.plt).below nb.1
     have HC := Hh (Ai s5 (Ai hm (Ai (hl.below nb.1) (Ai o5 (Ai p5 (Ai nb.2 s5.size))))))
     have hlen : m ≤ 2000000 := by have := HR.out.1; have := HR.out.2.2.far.1; have := HR.out.2.2.rd.lt; have := HA.out.few; omega
     have HL := Hh hlen
     clear hs hm hl nb s4 s5 o5 p5 hlen
     go_wp2_with (at_builtin; refine own_app rowInt rfl _ _ rfl HR.out.1 rfl HC.out.2.2.2.1 w4.heap.size v rfl HC.out.2.2.2.2.2.1 HL.out HC.out.2.2.2.2.2.2 ?_)
     intro g' c' w6 ho6 hg6
     have hr6 : ∀ j, Value.ownBlock (.slice A m c) = some j → w.heap.size ≤ j := by
      intro j hj
      exact (HC.out.2.2.2.1.lo j (by rw [HR.out.1]; exact hj)).1
     have s6 := HC.out.1.grown hg6 HC.out.2.2.2.2.2.2 hr6
     have l6 := HC.out.2.2.1.grown hg6 HC.out.2.2.2.2.2.2 hr6 HA.out.plt HA.out.glt
     have p6 := own_other HC.out.2.2.2.2.1 hg6 (fun j hj => by have := own_apart HC.out.2.2.2.2.1 HC.out.2.2.2.1 (by decide) hj; rw [HR.out.1] at this; exact this)
     have HE := Hh (Ai s6 (Ai l6 (Ai ho6 p6)))
     clear ho6 hg6 hr6 s6 l6 p6
     go_wp2_with fail
     refine (lmust_v ⟨#[58]⟩ HE.out.2.1).mono ?_
     rintro e w7 ⟨hs, ⟨_, a3, val, hm, rfl, rfl, hl⟩ | ⟨c0, q, hc, hm, rfl⟩⟩
     ·have HF := Hh (Ai (HE.out.1.trans (hs.mono HE.out.1.size)) (Ai hm (Ai hl (Ai (own_step HE.out.2.2.1 hs HA.out.plt) (own_step HE.out.2.2.2 hs HA.out.plt)))))
      clear hs hm hl
      go_wp2_with fail
      refine (llab_v HF.out.2.2.1).mono ?_
      rintro e w8 ⟨hs, ⟨s, a4, val, hm, rfl, rfl, hl⟩ | ⟨c0, q, hc, hm, rfl⟩⟩
      ·obtain ⟨w9, hw9⟩ : ∃ w9, w8.alloc (.cells #[.string ⟨s.toArray⟩] 9) = w9 := ⟨_, rfl⟩
       have nb := new_box w8 _ 9 hw9
       have s8 := HF.out.1.trans (hs.mono HF.out.1.size)
       have s9 := s8.trans ((Step.of nb.1).mono s8.size)
       have o9 := (own_step HF.out.2.2.2.1 hs HA.out.plt).below nb.1
       have p9 := (own_step HF.out.2.2.2.2 hs HA.out.plt).below nb.1
       have HG := Hh (Ai s9 (Ai hm (Ai (hl.below nb.1) (Ai o9 (Ai p9 (Ai nb.2 s9.size))))))
       have hlen : k ≤ 2000000 := by have := HR.out.2.1; have := HR.out.2.2.far.2; have := HR.out.2.2.rd.lt; have := HA.out.few; omega
       have HM := Hh hlen
       clear hs hm hl nb s8 s9 o9 p9 hlen
       go_wp2_with (at_builtin; refine own_app rowStr rfl _ _ rfl HR.out.2.1 rfl HG.out.2.2.2.2.1 w8.heap.size ⟨s.toArray⟩ rfl HG.out.2.2.2.2.2.1 HM.out HG.out.2.2.2.2.2.2 ?_)
       intro g2 c2 w10 ho hg
       have hr10 : ∀ j, Value.ownBlock (.slice L k d) = some j → w.heap.size ≤ j := by
        intro j hj
        exact (HG.out.2.2.2.2.1.lo j (by rw [HR.out.2.1]; exact hj)).1
       have s10 := HG.out.1.grown hg HG.out.2.2.2.2.2.2 hr10
       have l10 := HG.out.2.2.1.grown hg HG.out.2.2.2.2.2.2 hr10 HA.out.plt HA.out.glt
       have o10 := own_other HG.out.2.2.2.1 hg (fun j hj => by have := own_apart HG.out.2.2.2.1 HG.out.2.2.2.2.1 (by decide) hj; rw [HR.out.2.1] at this; exact this)
       have HH := Hh (Ai s10 (Ai l10 (Ai o10 ho)))
       clear ho hg hr10 s10 l10 o10
       go_wp2_with fail
       refine (lmust_v ⟨#[44]⟩ HH.out.2.1).mono ?_
       rintro e w11 ⟨hs, ⟨_, a5, val, hm, rfl, rfl, hl⟩ | ⟨c0, q, hc, hm, rfl⟩⟩
       ·have h1 : case1 (ts.drop a') = .ok (v, s) (ts.drop a5) := by
         unfold case1
         rw [HC.out.2.1]
         show (must [58] (ts.drop a2)).bind _ = _
         rw [show must [58] (ts.drop a2) = _ from HF.out.2.1]
         show (label (ts.drop a3)).bind _ = _
         rw [HG.out.2.1]
         show (must [44] (ts.drop a4)).bind _ = _
         rw [show must [44] (ts.drop a4) = _ from hm]
         rfl
        have hlt := drop_lt (case1_sub h1) (by rw [HA.out.len]; exact HK.out.2.1)
        have hI : CasI w w11 p g n cp ts a a5 (cs ++ [v]) (ls ++ [⟨s.toArray⟩]) (some ⟨g', 0, none⟩) c' (some ⟨g2, 0, none⟩) c2 := ⟨HH.out.1.trans (hs.mono HH.out.1.size), own_step HH.out.2.2.1 hs HA.out.plt, own_step HH.out.2.2.2 hs HA.out.plt, hl, by rw [HQ.out, h1]; rfl, by have := HR.out.2.2.far; rw [List.length_append, List.length_append]; simp; omega⟩
        have HI := Hh hI
        have hlt5 := hl.lt
        have ha' := HK.out.2.1
        have hgk := HK.out.1
        clear hs hm hl h1 hI
        go_wp2_with fail
        go_roundg (n - a5)
        case measure => omega
        case rel => exact ⟨a5, cs ++ [v], ls ++ [⟨s.toArray⟩], _, _, _, _, _, _, rfl, rfl, rfl, by simp [HR.out.1], by simp [HR.out.2.1], HI.out⟩
       ·go_wp2_with fail
        refine ⟨rfl, HH.out.1.trans (hs.mono HH.out.1.size), Or.inr ⟨c0, q, hc, ?_, rfl⟩⟩
        rw [HQ.out]
        unfold case1
        rw [HC.out.2.1]
        show ((must [58] (ts.drop a2)).bind _).bind _ = _
        rw [show must [58] (ts.drop a2) = _ from HF.out.2.1]
        show ((label (ts.drop a3)).bind _).bind _ = _
        rw [HG.out.2.1]
        show ((must [44] (ts.drop a4)).bind _).bind _ = _
        rw [show must [44] (ts.drop a4) = _ from hm]
        rfl
      ·go_wp2_with fail
       refine ⟨rfl, HF.out.1.trans (hs.mono HF.out.1.size), Or.inr ⟨c0, q, hc, ?_, rfl⟩⟩
       rw [HQ.out]
       unfold case1
       rw [HC.out.2.1]
       show ((must [58] (ts.drop a2)).bind _).bind _ = _
       rw [show must [58] (ts.drop a2) = _ from HF.out.2.1]
       show ((label (ts.drop a3)).bind _).bind _ = _
       rw [hm]
       rfl
     ·go_wp2_with fail
      refine ⟨rfl, HE.out.1.trans (hs.mono HE.out.1.size), Or.inr ⟨c0, q, hc, ?_, rfl⟩⟩
      rw [HQ.out]
      unfold case1
      rw [HC.out.2.1]
      show ((must [58] (ts.drop a2)).bind _).bind _ = _
      rw [show must [58] (ts.drop a2) = _ from hm]
      rfl
    ·go_wp2_with fail
     refine ⟨rfl, HB.out.1.trans (hs.mono HB.out.1.size), Or.inr ⟨c0, q, hc, ?_, rfl⟩⟩
     rw [HQ.out]
     unfold case1
     rw [hm]
     rfl
 ·go_wp2_with fail
  refine ⟨rfl, hs, Or.inr ⟨c, q, hc, ?_, rfl⟩⟩
  unfold casesM
  rw [show must [91] (ts.drop a) = _ from hm]
  rfl
end
section
variable {w : World} {p g n cp : Nat} {ts : List Tok} {a : Nat}
theorem class_is (h : Lr w p g n cp ts a) {b : Nat} : knownM classF (ts.drop b) = if isB (ts.drop b) [120] = true then .ok 1 (ts.drop b).tail else (must [103] (ts.drop b)).bind fun _ l => .ok 0 l := by
 cases hb : ts[b]? with
 | none =>
  have : ts.drop b = [] := List.drop_of_length_le (by rw [List.getElem?_eq_none_iff] at hb; exact hb)
  rw [this]
  rfl
 | some t =>
  have ht := List.mem_of_getElem? hb
  have hx : ∀ c : UInt8, Nam.sign c = true → Fol.isT t [c] = decide (t.kind = 1 ∧ t.text = [c]) := by
   intro c hc
   unfold Fol.isT
   by_cases h1 : t.kind = 1
   ·simp [h1]
   ·by_cases h7 : t.kind = 7
    ·have hne : t.text ≠ [c] := fun e => by
      have := h.sg t ht h7 c (by rw [e]; simp)
      rw [hc] at this; cases this
     simp [h7, hne]
    ·simp [h1, h7]
  unfold knownM must err classF
  rw [isB_at _ hb, isB_at _ hb, kind_at hb, text_at hb, hx 120 (by decide), hx 103 (by decide)]
  by_cases h1 : t.kind = 1
  ·by_cases e0 : t.text = [120]
   ·simp [h1, e0]
   ·by_cases e1 : t.text = [103]
    ·simp [h1, e1, Res.bind]
    ·simp [h1, e0, e1, Res.bind]
  ·simp [h1, Res.bind]
def regsM (l : List Tok) : Res (List Rg) := if (isB l regsL && decide (kindOf l.tail = 4)) = true then regs [] l.tail else .ok [] l
structure RgsI (w W : World) (p g n cp : Nat) (ts : List Tok) (a a' : Nat) (acc : List Rg) (A : Option Addr) (c : Nat) : Prop where
 step : Step w.heap.size p w W
 own : OwnL 81 2 Rg.cs w.heap.size W A c acc
 rd : Lr W p g n cp ts a'
 eq : regsM (ts.drop a) = regs acc (ts.drop a')
 far : acc.length ≤ a'
theorem lregs_no (hm : regsM (ts.drop a) = .ok [] (ts.drop a)) (hi : isB (ts.drop a) regsL = false ∨ ∃ t, ts[a + 1]? = some t ∧ isB (ts.drop a) regsL = true ∧ t.kind ≠ 4) (h : Lr w p g n cp ts a) : Calls Tryz.prog 79 #[.pointer (some ⟨p, 0, none⟩)] w (LP w p g n cp ts a regsM fun w' xs val => xs.length ≤ n ∧ OwnV 81 2 Rg.cs w.heap.size w' xs val) := by
 have F0 := field0
 rcases hi with hi | ⟨t, ht, hi, hk⟩
 ·have HA := Hh (Ai h (Ai hm hi))
  clear h hm hi
  go_enter Tryz.func79, Tryz.ntmps79
  go_wp2_with fail
  refine (lis_v ⟨#[114, 101, 103, 115]⟩ false HA.out.2.2 HA.out.1).mono ?_
  rintro e w1 ⟨rfl, hb⟩
  have HB := Hh hb
  clear hb
  go_wp2_with fail
  go_ret
  exact ⟨Step.of HB.out, Or.inl ⟨[], a, _, HA.out.2.1, rfl, ⟨by simp, none, 0, rfl, OwnL.nil⟩, HA.out.1.below HB.out⟩⟩
 ·have hk4 : ((t.kind : Int) != 4) = true := by simp; omega
  have HA := Hh (Ai h (Ai hm (Ai hi ht)))
  clear h hm hi ht hk
  go_enter Tryz.func79, Tryz.ntmps79
  go_wp2_with fail
  refine (lis_v ⟨#[114, 101, 103, 115]⟩ true HA.out.2.2.1 HA.out.1).mono ?_
  rintro e w1 ⟨rfl, hb⟩
  have HB := Hh hb
  clear hb
  go_wp2_with fail
  refine (lbeh_v HA.out.2.2.2 (HA.out.1.below HB.out)).mono ?_
  rintro e w2 ⟨rfl, hb⟩
  have HC := Hh (HB.out.trans (hb.mono HB.out.size))
  clear hb
  unfold tkv
  go_wp2_with fail
  go_ret
  exact ⟨Step.of HC.out, Or.inl ⟨[], a, _, HA.out.2.1, rfl, ⟨by simp, none, 0, rfl, OwnL.nil⟩, HA.out.1.below HC.out⟩⟩
set_option maxHeartbeats 2000000 in
theorem lregs_yes {t : Tok} (hi : isB (ts.drop a) regsL = true) (ht : ts[a + 1]? = some t) (hk : t.kind = 4) (h : Lr w p g n cp ts a) : Calls Tryz.prog 79 #[.pointer (some ⟨p, 0, none⟩)] w (LP w p g n cp ts a regsM fun w' xs val => xs.length ≤ n ∧ OwnV 81 2 Rg.cs w.heap.size w' xs val) := by
 have F0 := field0
 have F2 := field2
 have hk4 : (t.kind : Int) = 4 := by omega
 have hm0 : regsM (ts.drop a) = regs [] (ts.drop (a + 1)) := by
  unfold regsM
  rw [hi, tail_at, kind_at ht, hk]
  rfl
 have HA := Hh (Ai h (Ai hi (Ai ht (Ai hm0 hk4))))
 clear h hi ht hk hm0 hk4
 go_enter Tryz.func79, Tryz.ntmps79
 go_wp2_with fail
 refine (lis_v ⟨#[114, 101, 103, 115]⟩ true HA.out.2.1 HA.out.1).mono ?_
 rintro e w1 ⟨rfl, hb⟩
 have HB := Hh hb
 clear hb
 go_wp2_with fail
 refine (lbeh_v HA.out.2.2.1 (HA.out.1.below HB.out)).mono ?_
 rintro e w2 ⟨rfl, hb⟩
 have B2 := HB.out.trans (hb.mono HB.out.size)
 have R2 := HA.out.1.below B2
 have hn : a + 1 < n := by have := (List.getElem?_eq_some_iff.1 HA.out.2.2.1).1; rwa [HA.out.1.len] at this
 obtain ⟨a1, ha1⟩ : ∃ a1, a + 1 = a1 := ⟨_, rfl⟩
 obtain ⟨c0, c1⟩ := R2.cells
 have f1 := box_frozen R2.box 1
 obtain ⟨q1, q2, q3⟩ := plus1 hn HA.out.1.few ha1
 obtain ⟨w3, hw3⟩ : ∃ w3, w2.setCell ⟨p, 1, none⟩ (.int .i64 (a1 : Int)) = w3 := ⟨_, rfl⟩
 have g3 := R2.set a1 (by omega)
 rw [hw3] at g3
 have hI : RgsI w w3 p g n cp ts a a1 [] none 0 := ⟨(Step.of B2).trans (g3.1.mono B2.size), OwnL.nil, g3.2, by rw [HA.out.2.2.2.1, ha1], by simp⟩
 have HI := Hh hI
 clear hb B2 R2 hn g3 ha1 c0 hI
 unfold tkv
 rw [HA.out.2.2.2.2]
 go_wp2_with fail
 try rw [hw3]
 clear c1 f1 q1 q2 q3 hw3
 go_loopg [3] (n - a1) (fun gk v wr => ∃ (a' : Nat) (acc : List Rg) (A : Option Addr) (c m : Nat), gk = n - a' ∧ v = .slice A m c ∧ Hid (acc.length = m ∧ RgsI w wr p g n cp ts a a' acc A c))
 case atStart => exact ⟨a1, [], none, 0, 0, rfl, rfl, rfl, HI.out⟩
 case round =>
  obtain ⟨a', acc, A, c, m, hk, rfl, HR⟩ := hrel
  have hla := HR.out.2.rd.lt
  cases hr : isB (ts.drop a') [59] with
  | true =>
   have HK := Hh (Ai hr hla)
   clear hk hla hr
   go_wp2_with fail
   refine (lmay_yes ⟨#[59]⟩ HK.out.1 HR.out.2.rd).mono ?_
   rintro e w4 ⟨rfl, hs, hl⟩
   have HB2 := Hh (Ai hs hl)
   clear hs hl
   go_wp2_with fail
   go_ret
   obtain ⟨hm, hR⟩ := HR.out
   subst hm
   refine ⟨hR.step.trans (HB2.out.1.mono hR.step.size), Or.inl ⟨acc, a' + 1, _, ?_, rfl, ⟨by have := hR.far; have := HK.out.2; omega, A, c, rfl, own_step hR.own HB2.out.1 HA.out.1.plt⟩, HB2.out.2⟩⟩
   rw [hR.eq, regs_eq, if_pos HK.out.1, tail_at]
  | false =>
   have heq : regsM (ts.drop a) = (reg1 (ts.drop a')).bind fun x r => regs (acc ++ [x]) r := by
    rw [HR.out.2.eq, regs_eq, hr]
    rfl
   have HQ := Hh heq
   have HK := Hh (Ai hk (Ai hla hr))
   clear hk hla hr heq
   go_wp2_with fail
   refine (lmay_no ⟨#[59]⟩ HK.out.2.2 HR.out.2.rd).mono ?_
   rintro e w4 ⟨rfl, hb⟩
   have s4 := HR.out.2.step.trans ((Step.of hb).mono HR.out.2.step.size)
   have HB2 := Hh (Ai s4 (Ai (HR.out.2.rd.below hb) (HR.out.2.own.below hb)))
   clear hb s4
   go_wp2_with fail
   refine (lone_v 4 (by decide) HB2.out.2.1).mono ?_
   rintro e w5 ⟨hs, ⟨v, a2, val, hm, rfl, rfl, hl⟩ | ⟨c0, q, hc, hm, rfl⟩⟩
   ·have HC := Hh (Ai (HB2.out.1.trans (hs.mono HB2.out.1.size)) (Ai hm (Ai hl (own_step HB2.out.2.2 hs HA.out.1.plt))))
    clear hs hm hl
    unfold tkv
    go_wp2_with fail
    refine (lmust_v ⟨#[58]⟩ HC.out.2.2.1).mono ?_
    rintro e w6 ⟨hs, ⟨_, a3, val, hm, rfl, rfl, hl⟩ | ⟨c0, q, hc, hm, rfl⟩⟩
    ·have HD := Hh (Ai (HC.out.1.trans (hs.mono HC.out.1.size)) (Ai hm (Ai hl (own_step HC.out.2.2.2 hs HA.out.1.plt))))
     clear hs hm hl
     have h1 : reg1 (ts.drop a') = (knownM classF (ts.drop a3)).bind fun x l => .ok ⟨v.n, x⟩ l := by
      unfold reg1
      rw [HC.out.2.1]
      show (must [58] (ts.drop a2)).bind _ = _
      rw [show must [58] (ts.drop a2) = _ from HD.out.2.1]
      show (if isB (ts.drop a3) [120] = true then _ else _) = _
      rw [class_is HD.out.2.2.1]
      split
      ·rfl
      ·cases must [103] (ts.drop a3) <;> rfl
     have H1 := Hh h1
     clear h1
     go_wp2_with fail
     refine (kclass_v HD.out.2.2.1).mono ?_
     rintro e w7 ⟨hs, ⟨x, a4, val, hm, rfl, rfl, hl⟩ | ⟨c0, q, hc, hm, rfl⟩⟩
     ·obtain ⟨w8, hw8⟩ : ∃ w8, w7.alloc (.cells #[.int .i64 v.n, .int .i64 x] 81) = w8 := ⟨_, rfl⟩
      have nb := new_box w7 _ 81 hw8
      have s7 := HD.out.1.trans (hs.mono HD.out.1.size)
      have s8 := s7.trans ((Step.of nb.1).mono s7.size)
      have o8 := (own_step HD.out.2.2.2 hs HA.out.1.plt).below nb.1
      have h2 : reg1 (ts.drop a') = .ok ⟨v.n, x⟩ (ts.drop a4) := by rw [H1.out, hm]; rfl
      have hlt := drop_lt (reg1_sub h2) (by rw [HA.out.1.len]; exact HK.out.2.1)
      have HE := Hh (Ai s8 (Ai h2 (Ai (hl.below nb.1) (Ai o8 (Ai nb.2 (Ai s8.size hlt))))))
      have hlen : m ≤ 2000000 := by have := HR.out.1; have := HR.out.2.far; have := HR.out.2.rd.lt; have := HA.out.1.few; omega
      have HL := Hh hlen
      clear hs hm hl nb s7 s8 o8 h2 hlt hlen
      go_wp2_with (at_builtin; refine own_app rowRg rfl _ _ rfl HR.out.1 rfl HE.out.2.2.2.1 w7.heap.size (⟨v.n, x⟩ : Rg) rfl HE.out.2.2.2.2.1 HL.out HE.out.2.2.2.2.2.1 ?_)
      intro g' c' w9 ho hg
      have hr9 : ∀ j, Value.ownBlock (.slice A m c) = some j → w.heap.size ≤ j := by
       intro j hj
       exact (HE.out.2.2.2.1.lo j (by rw [HR.out.1]; exact hj)).1
      have hI : RgsI w w9 p g n cp ts a a4 (acc ++ [⟨v.n, x⟩]) (some ⟨g', 0, none⟩) c' := ⟨HE.out.1.grown hg HE.out.2.2.2.2.2.1 hr9, ho, HE.out.2.2.1.grown hg HE.out.2.2.2.2.2.1 hr9 HA.out.1.plt HA.out.1.glt, by rw [HQ.out, HE.out.2.1]; rfl, by have := HR.out.2.far; have := HE.out.2.2.2.2.2.2; rw [List.length_append]; simp; omega⟩
      have HI2 := Hh hI
      have hlt := HE.out.2.2.2.2.2.2
      have ha4 := HI2.out.rd.lt
      have ha' := HK.out.2.1
      have hgk := HK.out.1
      clear ho hg hr9 hI
      go_wp2_with fail
      go_roundg (n - a4)
      case measure => omega
      case rel => exact ⟨a4, acc ++ [⟨v.n, x⟩], _, _, _, rfl, rfl, by simp [HR.out.1], HI2.out⟩
     ·go_wp2_with fail
      refine ⟨rfl, HD.out.1.trans (hs.mono HD.out.1.size), Or.inr ⟨c0, q, hc, ?_, rfl⟩⟩
      rw [HQ.out, H1.out, hm]
      rfl
    ·go_wp2_with fail
     refine ⟨rfl, HC.out.1.trans (hs.mono HC.out.1.size), Or.inr ⟨c0, q, hc, ?_, rfl⟩⟩
     rw [HQ.out]
     unfold reg1
     rw [HC.out.2.1]
     show ((must [58] (ts.drop a2)).bind _).bind _ = _
     rw [show must [58] (ts.drop a2) = _ from hm]
     rfl
   ·go_wp2_with fail
    refine ⟨rfl, HB2.out.1.trans (hs.mono HB2.out.1.size), Or.inr ⟨c0, q, hc, ?_, rfl⟩⟩
    rw [HQ.out]
    unfold reg1
    rw [hm]
    rfl
theorem lregs_v (h : Lr w p g n cp ts a) : Calls Tryz.prog 79 #[.pointer (some ⟨p, 0, none⟩)] w (LP w p g n cp ts a regsM fun w' xs val => xs.length ≤ n ∧ OwnV 81 2 Rg.cs w.heap.size w' xs val) := by
 cases hi : isB (ts.drop a) regsL with
 | false => exact lregs_no (by unfold regsM; rw [hi]; rfl) (.inl hi) h
 | true =>
  have hn := h.isMore hi
  have ht : ts[a + 1]? = some (ts[a + 1]'(by rw [h.len]; exact hn)) := List.getElem?_eq_getElem _
  by_cases hk : (ts[a + 1]'(by rw [h.len]; exact hn)).kind = 4
  ·exact lregs_yes hi ht hk h
  ·refine lregs_no ?_ (.inr ⟨_, ht, hi, hk⟩) h
   unfold regsM
   rw [tail_at, kind_at ht, decide_eq_false hk, Bool.and_false]
   rfl
end
end Go.Proofs.YtbpichjmkllfaaaGreatDoor.Par
