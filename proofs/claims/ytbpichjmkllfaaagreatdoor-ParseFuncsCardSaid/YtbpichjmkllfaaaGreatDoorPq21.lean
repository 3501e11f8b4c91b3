/- Packed texts of one proof. Conditions: none. -/
import Derived.Test.YtbpichjmkllfaaaGreatDoorPq20
namespace Go.Proofs.YtbpichjmkllfaaaGreatDoor.Par
open Go.ChangeShapes Go.WideShapes Go.RowKit
open Lex (Tok tcl tkv tk tc)
set_option linter.unusedVariables false
set_option maxRecDepth 20000
section
variable {w : World} {p g n cp : Nat} {ts : List Tok} {a : Nat}
def namedM (l : List Tok) : Res (List UInt8) :=
 if edgeB l = true then (word l.tail).bind fun s r => (must [46] r).bind fun _ r => (word r).bind fun u r => .ok (s ++ 46 :: u) r else word l
theorem sizeBlk : (Tryz.prog.info? 62).map (·.size) = some 4 := by kernel_rfl
theorem fin_blk {fn : Func} {q : Tmp} (h : fn.results = #[.cell q 62]) {act : Act} {w : World} {g : Nat} {x0 x1 x2 x3 : Value} {R : Ending → World → Prop}
  (hp : act.tmps.getD q undef = .pointer (some ⟨g, 0, none⟩)) (hg : w.heap[g]? = some (.cells #[x0, x1, x2, x3] 62 (0, 0))) (hd : act.defers = [])
  (hR : R (.returned (.agg #[x0, x1, x2, x3])) w) : bodyPost Tryz.prog fn R .ret act w :=
 bodyPost_ret (results_cell_row h _ _ g 62 _ (0, 0) _ hp hg Tryz.underlying62 rfl sizeBlk) hd hR
theorem lnamed_v (b : Bool) (hb : edgeB (ts.drop a) = b) (h : Lr w p g n cp ts a) : Calls Tryz.prog 120 #[.pointer (some ⟨p, 0, none⟩)] w (LP w p g n cp ts a namedM fun _ s val => val = .agg #[.string ⟨s.toArray⟩, .bool b, .slice none 0 0, .slice none 0 0]) := by
 obtain ⟨w0, hw0⟩ : ∃ w0, w.alloc (.cells #[.string ⟨#[]⟩, .bool false, .slice none 0 0, .slice none 0 0] 62) = w0 := ⟨_, rfl⟩
 have nb := new_box w _ 62 hw0
 have R0 := h.below nb.1
 cases b with
 | false =>
  have hm0 : namedM (ts.drop a) = word (ts.drop a) := by unfold namedM; rw [hb]; rfl
  have HA := Hh (Ai h (Ai R0 (Ai nb (Ai hb hm0))))
  clear h R0 nb hb hm0
  go_enter Tryz.func120, Tryz.ntmps120
  go_wp2_with fail
  try rw [hw0]
  clear hw0
  refine (ledg_v false HA.out.2.2.2.1 HA.out.2.1).mono ?_
  rintro e w1 ⟨rfl, hb1⟩
  have HB := Hh (Ai (HA.out.2.2.1.1.trans (hb1.mono HA.out.2.2.1.1.size)) (Ai (HA.out.2.1.below hb1) (kept_box HA.out.2.2.1.2 hb1)))
  clear hb1
  go_wp2_with fail
  refine (lword_v HB.out.2.1).mono ?_
  rintro e w2 ⟨hs, ⟨s, a1, val, hm, rfl, rfl, hl⟩ | ⟨c0, q, hc, hm, rfl⟩⟩
  ·have hz : w2.heap[w.heap.size]? = some (.cells #[.string ⟨#[]⟩, .bool false, .slice none 0 0, .slice none 0 0] 62 (0, 0)) := by
    rw [hs.2.2.2.2 _ (Array.getElem?_eq_some_iff.1 HB.out.2.2).1 (by have := HA.out.1.plt; omega)]; exact HB.out.2.2
   have HC := Hh (Ai hs (Ai hm (Ai hl hz)))
   clear hs hm hl
   obtain ⟨⟨u0, u1, u2, u3⟩, v0, v1, v2, v3⟩ := box4 hz
   clear hz
   go_wp2_with fail
   refine fin_blk (fn := Tryz.f120) rfl rfl (four_heap HC.out.2.2.2) rfl ?_
   have hg : Below w.heap.size w2 (four w2 w.heap.size (.string ⟨s.toArray⟩) (.bool false) (.slice none 0 0) (.slice none 0 0)) := four_below (Below.refl _ w2) (Nat.le_refl _)
   exact ⟨((Step.of HB.out.1).trans (HC.out.1.mono HB.out.1.size)).trans (Step.of hg), Or.inl ⟨s, a1, _, by rw [HA.out.2.2.2.2]; exact HC.out.2.1, rfl, rfl, HC.out.2.2.1.far hg HA.out.1.plt HA.out.1.glt⟩⟩
  ·go_wp2_with fail
   exact ⟨rfl, (Step.of HB.out.1).trans (hs.mono HB.out.1.size), Or.inr ⟨c0, q, hc, by rw [HA.out.2.2.2.2]; exact hm, rfl⟩⟩
 | true =>
  have hm0 : namedM (ts.drop a) = (word (ts.drop (a + 1))).bind fun s r => (must [46] r).bind fun _ r => (word r).bind fun u r => .ok (s ++ 46 :: u) r := by unfold namedM; rw [hb, if_pos rfl, tail_at]
  have hn : a + 1 < n := h.isMore (x := edgeL) (by unfold edgeB at hb; simp only [Bool.and_eq_true] at hb; exact hb.2.1)
  have HA := Hh (Ai h (Ai R0 (Ai nb (Ai hb (Ai hm0 hn)))))
  clear h R0 nb hb hm0 hn
  go_enter Tryz.func120, Tryz.ntmps120
  go_wp2_with fail
  try rw [hw0]
  clear hw0
  refine (ledg_v true HA.out.2.2.2.1 HA.out.2.1).mono ?_
  rintro e w1 ⟨rfl, hb1⟩
  have R1 := HA.out.2.1.below hb1
  have B1 := HA.out.2.2.1.1.trans (hb1.mono HA.out.2.2.1.1.size)
  obtain ⟨a1, ha1⟩ : ∃ a1, a + 1 = a1 := ⟨_, rfl⟩
  obtain ⟨c0, c1⟩ := R1.cells
  have f1 := box_frozen R1.box 1
  have hn := HA.out.2.2.2.2.2
  obtain ⟨q1, q2, q3⟩ := plus1 hn HA.out.1.few ha1
  obtain ⟨w2, hw2⟩ : ∃ w2, w1.setCell ⟨p, 1, none⟩ (.int .i64 (a1 : Int)) = w2 := ⟨_, rfl⟩
  have g2 := R1.set a1 (by omega)
  rw [hw2] at g2
  have hp := HA.out.1.plt
  have hz : w2.heap[w.heap.size]? = some (.cells #[.string ⟨#[]⟩, .bool false, .slice none 0 0, .slice none 0 0] 62 (0, 0)) := by
   rw [← hw2]
   exact far_put (kept_box HA.out.2.2.1.2 hb1) (by omega)
  have HB := Hh (Ai ((Step.of B1).trans (g2.1.mono B1.size)) (Ai g2.2 (Ai hz ha1)))
  clear hb1 R1 B1 hn g2 hz ha1 c0 hp
  go_wp2_with fail
  try rw [hw2]
  clear c1 f1 q1 q2 q3 hw2
  refine (lword_v HB.out.2.1).mono ?_
  rintro e w3 ⟨hs, ⟨s, a2, val, hm, rfl, rfl, hl⟩ | ⟨c0, q, hc, hm, rfl⟩⟩
  ·have HC := Hh (Ai hs (Ai hm hl))
   clear hs hm hl
   go_wp2_with fail
   refine (lmust_v ⟨#[46]⟩ HC.out.2.2).mono ?_
   rintro e w4 ⟨hs, ⟨_, a3, val, hm, rfl, rfl, hl⟩ | ⟨c0, q, hc, hm, rfl⟩⟩
   ·have HD := Hh (Ai hs (Ai hm hl))
    clear hs hm hl
    go_wp2_with fail
    refine (lword_v HD.out.2.2).mono ?_
    rintro e w5 ⟨hs, ⟨u, a4, val, hm, rfl, rfl, hl⟩ | ⟨c0, q, hc, hm, rfl⟩⟩
    ·have HE := Hh (Ai hs (Ai hm hl))
     clear hs hm hl
     go_wp2_with fail
     have l1 := HA.out.1.wordShort HC.out.2.1
     have l2 := HA.out.1.wordShort HE.out.2.1
     refine (ledge_v ⟨s.toArray⟩ ⟨u.toArray⟩ w5 (by show s.toArray.size + u.toArray.size ≤ _; simp only [List.size_toArray]; omega)).mono ?_
     rintro e w6 ⟨rfl, rfl⟩
     have hlo := (Array.getElem?_eq_some_iff.1 HB.out.2.2.1).1
     have hp := HA.out.1.plt
     have hz : w5.heap[w.heap.size]? = some (.cells #[.string ⟨#[]⟩, .bool false, .slice none 0 0, .slice none 0 0] 62 (0, 0)) := by
      have h3 := HC.out.1.2.2.2.1
      have h4 := HD.out.1.2.2.2.1
      rw [HE.out.1.2.2.2.2 _ (by omega) (by omega), HD.out.1.2.2.2.2 _ (by omega) (by omega), HC.out.1.2.2.2.2 _ hlo (by omega)]
      exact HB.out.2.2.1
     have HF := Hh hz
     clear l1 l2 hlo hp
     obtain ⟨⟨u0, u1, u2, u3⟩, v0, v1, v2, v3⟩ := box4 hz
     clear hz
     go_wp2_with fail
     refine fin_blk (fn := Tryz.f120) rfl rfl (four_heap HF.out) rfl ?_
     have hg : ∀ x0 x1 x2 x3, Below w.heap.size w5 (four w5 w.heap.size x0 x1 x2 x3) := fun _ _ _ _ => four_below (Below.refl _ w5) (Nat.le_refl _)
     have s5 := ((HB.out.1.trans (HC.out.1.mono HB.out.1.size)).trans (HD.out.1.mono (Nat.le_trans HB.out.1.size HC.out.1.size))).trans (HE.out.1.mono (Nat.le_trans HB.out.1.size (Nat.le_trans HC.out.1.size HD.out.1.size)))
     refine ⟨s5.trans (Step.of (hg _ _ _ _)), Or.inl ⟨s ++ 46 :: u, a4, _, ?_, rfl, rfl, HE.out.2.2.far (hg _ _ _ _) HA.out.1.plt HA.out.1.glt⟩⟩
     rw [HA.out.2.2.2.2.1, HB.out.2.2.2, HC.out.2.1]
     show (must [46] (ts.drop a2)).bind _ = _
     rw [show must [46] (ts.drop a2) = _ from HD.out.2.1]
     show (word (ts.drop a3)).bind _ = _
     rw [HE.out.2.1]
     rfl
    ·go_wp2_with fail
     refine ⟨rfl, ((HB.out.1.trans (HC.out.1.mono HB.out.1.size)).trans (HD.out.1.mono (Nat.le_trans HB.out.1.size HC.out.1.size))).trans (hs.mono (Nat.le_trans HB.out.1.size (Nat.le_trans HC.out.1.size HD.out.1.size))), Or.inr ⟨c0, q, hc, ?_, rfl⟩⟩
     rw [HA.out.2.2.2.2.1, HB.out.2.2.2, HC.out.2.1]
     show (must [46] (ts.drop a2)).bind _ = _
     rw [show must [46] (ts.drop a2) = _ from HD.out.2.1]
     show (word (ts.drop a3)).bind _ = _
     rw [hm]
     rfl
   ·go_wp2_with fail
    refine ⟨rfl, (HB.out.1.trans (HC.out.1.mono HB.out.1.size)).trans (hs.mono (Nat.le_trans HB.out.1.size HC.out.1.size)), Or.inr ⟨c0, q, hc, ?_, rfl⟩⟩
    rw [HA.out.2.2.2.2.1, HB.out.2.2.2, HC.out.2.1]
    show (must [46] (ts.drop a2)).bind _ = _
    rw [show must [46] (ts.drop a2) = _ from hm]
    rfl
  ·go_wp2_with fail
   refine ⟨rfl, HB.out.1.trans (hs.mono HB.out.1.size), Or.inr ⟨c0, q, hc, ?_, rfl⟩⟩
   rw [HA.out.2.2.2.2.1, HB.out.2.2.2, hm]
   rfl
end
end Go.Proofs.YtbpichjmkllfaaaGreatDoor.Par
