/- Packed texts of one proof. Conditions: none. -/
import Derived.Test.YtbpichjmkllfaaaGreatDoorPq39
namespace Go.Proofs.YtbpichjmkllfaaaGreatDoor.Par
open Go.ChangeShapes Go.WideShapes Go.RowKit
open Lex (Tok tcl tkv tk tc)
set_option linter.unusedVariables false
set_option maxRecDepth 20000
section
variable {w : World} {p : Nat} {A : Option Addr} {n cp : Nat} {ts : List Tok} {s : St}
def DBlk (w : World) (p : Nat) (A : Option Addr) (n cp : Nat) (ts : List Tok) (s : St) (e : Ending) (w' : World) : Prop :=
 ∃ s' x val, e = .returned val ∧ Step w.heap.size p w w' ∧ Rd w' p A n cp ts s' ∧ Tr ts block s s' x ∧ BlkA w.heap.size w' x val
theorem edge_eq {a : Nat} {t : Tok} (ht : ts[a]? = some t) (hw : Wf t) : (isB (ts.drop a) edgeL && decide (kindOf (ts.drop a).tail = 1)) = edgeB (ts.drop a) := by
 unfold edgeB
 rw [kind_at ht, isB_at _ ht]
 by_cases hk : t.kind = 1
 ·rw [decide_eq_true hk, Bool.true_and]
 ·have : Fol.isT t edgeL = false := by
   cases h : Fol.isT t edgeL with
   | false => rfl
   | true =>
    rcases isT_kind h with h1 | h7
    ·exact absurd h1 hk
    ·unfold Fol.isT at h
     rw [Bool.and_eq_true, decide_eq_true_eq] at h
     have := hw.sgn h7 101 (by rw [h.2]; unfold edgeL; simp)
     exact absurd this (by decide)
  rw [this, decide_eq_false hk]
  rfl
def blk5 (e : Bool) (s : List UInt8) (ins : List Opn) (r : List Tok) : Res Blk := (must [58] r).bind fun _ r => (code [] r).bind fun c r => .ok ⟨⟨s.toArray⟩, e, ins, c⟩ r
def blk4 (e : Bool) (s : List UInt8) (r : List Tok) : Res Blk := (if isB r [91] = true then ops [93] [] r.tail else .ok [] r).bind fun ins r => blk5 e s ins r
def blk3 (e : Bool) (t : List UInt8) (r : List Tok) : Res Blk := (if e = true then (must [46] r).bind fun _ r => (ofk 1 r).bind fun u r => .ok (t ++ 46 :: u.text) r else .ok t r).bind fun s r => blk4 e s r
def blk2 (e : Bool) (l : List Tok) : Res Blk := (ofk 1 l).bind fun t r => blk3 e t.text r
theorem block_2 (l : List Tok) : block l = blk2 (edgeB l) (if edgeB l = true then l.tail else l) := rfl
theorem edge_is {l : List Tok} (h : edgeB l = true) : isB l edgeL = true := by
 unfold edgeB at h
 rw [Bool.and_eq_true, Bool.and_eq_true] at h
 exact h.2.1
structure BlD (w W : World) (p : Nat) (A : Option Addr) (n cp : Nat) (ts : List Tok) (s s1 : St) (lab : List UInt8) (e : Bool) (ins : List Opn) (IA : Option Addr) (icap : Nat) (acc : List (Ins × InsV)) (D : Option Addr) (c m : Nat) : Prop where
 mem : BlkM w W p (w.heap.size + 1) ⟨lab.toArray⟩ e ins IA icap (.slice D m c) acc D c m
 rd : Rd W p A n cp ts s1
 via : Via ts block (fun r => (code (acc.map (·.1)) r).bind fun cd r => .ok ⟨⟨lab.toArray⟩, e, ins, cd⟩ r) s s1
 far : s1.code = 0 → m ≤ s1.at_
theorem BlD.fin {W : World} {s1 : St} {lab : List UInt8} {e : Bool} {ins : List Opn} {IA : Option Addr} {icap : Nat} {acc : List (Ins × InsV)} {D : Option Addr} {c m : Nat} (h0 : Rd w p A n cp ts s) (h : BlD w W p A n cp ts s s1 lab e ins IA icap acc D c m) (hd : s1.code ≠ 0 ∨ (isB (ts.drop s1.at_) [125] || begins (ts.drop s1.at_)) = true) :
  (four W w.heap.size (.string ⟨lab.toArray⟩) (.bool e) (.slice IA ins.length icap) (.slice D m c)).heap[w.heap.size]? = some (.cells #[.string ⟨lab.toArray⟩, .bool e, .slice IA ins.length icap, .slice D m c] 62 (0, 0)) ∧
  DBlk w p A n cp ts s (.returned (.agg #[.string ⟨lab.toArray⟩, .bool e, .slice IA ins.length icap, .slice D m c])) (four W w.heap.size (.string ⟨lab.toArray⟩) (.bool e) (.slice IA ins.length icap) (.slice D m c)) := by
 have hb : Below w.heap.size W (four W w.heap.size (.string ⟨lab.toArray⟩) (.bool e) (.slice IA ins.length icap) (.slice D m c)) := four_below (Below.refl _ W) (Nat.le_refl _)
 refine ⟨four_heap h.mem.z, s1, ⟨⟨lab.toArray⟩, e, ins, acc.map (·.1)⟩, _, rfl, h.mem.step.trans (Step.of hb), h.rd.keep h0 (below_agree hb), ?_, ⟨IA, ins.length, icap, D, acc.length, c, viewI acc⟩, ?_, h.mem.held _ _ _ _⟩
 ·rcases hd with hd | hd
  ·exact h.via.stuck hd
  ·refine h.via.trans (via_eq fun _ => ?_)
   show (code _ _).bind _ = _
   rw [code_eq, if_pos hd]
   rfl
 ·unfold blkR
  rw [h.mem.len]
theorem Oy.putb {W : World} {s' : St} {ca : Array Value} {T : TypeId} {y0 y1 y2 y3 : Value} (h : Oy w W p A n cp ts s' ca T #[y0, y1, y2, y3] 62) (v : Value) :
  Oy w (W.setCell ⟨w.heap.size + 1, 0, none⟩ v) p A n cp ts s' ca T #[v, y1, y2, y3] 62 ∧ Oy w (W.setCell ⟨w.heap.size + 1, 1, none⟩ v) p A n cp ts s' ca T #[y0, v, y2, y3] 62 ∧ Oy w (W.setCell ⟨w.heap.size + 1, 2, none⟩ v) p A n cp ts s' ca T #[y0, y1, v, y3] 62 := by
 have hb := h.b
 refine ⟨h.far ((Below.refl _ W).setCell (p := ⟨w.heap.size + 1, 0, none⟩) (Nat.le_refl _) _) ?_, h.far ((Below.refl _ W).setCell (p := ⟨w.heap.size + 1, 1, none⟩) (Nat.le_refl _) _) ?_, h.far ((Below.refl _ W).setCell (p := ⟨w.heap.size + 1, 2, none⟩) (Nat.le_refl _) _) ?_⟩
 all_goals simp [World.setCell, Array.getElem?_modify, hb]
theorem Oy.blkM {W : World} {s' : St} {lab : List UInt8} {e : Bool} {ins : List Opn} {IA : Option Addr} {icap : Nat} (h : Oy w W p A n cp ts s' #[.string ⟨#[]⟩, .bool false, .slice none 0 0, .slice none 0 0] 62 #[.string ⟨lab.toArray⟩, .bool e, .slice IA ins.length icap, .slice none 0 0] 62) (ho : OwnL 64 4 Opn.cs (w.heap.size + 2) W IA icap ins) :
  BlkM w W p (w.heap.size + 1) ⟨lab.toArray⟩ e ins IA icap (.slice none 0 0) [] none 0 0 := ⟨h.step, Nat.lt_succ_self _, h.plt, h.z, h.b, ho, OwnL.nil, by simp, rfl⟩
theorem blk3_t (t : List UInt8) (l : List Tok) : blk3 true t l = (must [46] l).bind fun _ l => (ofk 1 l).bind fun u r => blk4 true (t ++ 46 :: u.text) r := by
 unfold blk3
 rw [if_pos rfl]
 cases must [46] l with
 | bad c q => rfl
 | ok u r =>
  show ((ofk 1 r).bind _).bind _ = (ofk 1 r).bind _
  cases ofk 1 r <;> rfl
theorem BlD.below {W W' : World} {s1 : St} {lab : List UInt8} {e : Bool} {ins : List Opn} {IA : Option Addr} {icap : Nat} {acc : List (Ins × InsV)} {D : Option Addr} {c m : Nat} (h : BlD w W p A n cp ts s s1 lab e ins IA icap acc D c m) (hb : Below W.heap.size W W') : BlD w W' p A n cp ts s s1 lab e ins IA icap acc D c m :=
 ⟨h.mem.call (Step.of hb), h.rd.below hb, h.via, h.far⟩
set_option maxHeartbeats 8000000 in
theorem rblock_v (hS : ∀ t ∈ ts, t.text.length ≤ 70000) (hc : s.code = 0) (h : Rd w p A n cp ts s) : Calls Tryz.prog 51 #[.pointer (some ⟨p, 0, none⟩)] w (DBlk w p A n cp ts s) := by
 have F1 := field1
 obtain ⟨t, ht, hwf⟩ := h.tok
 obtain ⟨e, he⟩ : ∃ e, edgeB (ts.drop s.at_) = e := ⟨_, rfl⟩
 obtain ⟨b1, hb1⟩ : ∃ b1, isB (ts.drop s.at_) edgeL = b1 := ⟨_, rfl⟩
 obtain ⟨K, hK⟩ : ∃ K, kindOf (ts.drop s.at_).tail = K := ⟨_, rfl⟩
 have hee : (b1 && decide (K = 1)) = e := by rw [← he, ← hb1, ← hK]; exact edge_eq ht hwf
 obtain ⟨w0, hw0⟩ : ∃ w0, w.alloc (.cells #[.string ⟨#[]⟩, .bool false, .slice none 0 0, .slice none 0 0] 62) = w0 := ⟨_, rfl⟩
 obtain ⟨w1, hw1⟩ : ∃ w1, w0.alloc (.cells #[.string ⟨#[]⟩, .bool false, .slice none 0 0, .slice none 0 0] 62) = w1 := ⟨_, rfl⟩
 have R0 := Hh (Oy.start h hw0 hw1)
 have hsz : w0.heap.size = w.heap.size + 1 := by rw [← hw0]; simp
 have HA := Hh (Ai ht (Ai hS (Ai hc h)))
 have HE := Hh (Ai he (Ai hb1 (Ai hK hee)))
 clear h ht hS hc he hb1 hK hee hwf
 obtain ⟨⟨d0, d1, d2, d3⟩, f0, f1, f2, f3⟩ := box4 R0.out.b
 obtain ⟨w1b, hw1b⟩ : ∃ w1b, four w1 (w.heap.size + 1) (.string ⟨#[]⟩) (.bool false) (.slice none 0 0) (.slice none 0 0) = w1b := ⟨_, rfl⟩
 have R1 := Hh (hw1b ▸ R0.out.far (four_below (Below.refl _ w1) (Nat.le_refl _)) (four_heap R0.out.b))
 unfold four at hw1b
 go_enter Tryz.func51, Tryz.ntmps51
 go_upto_region 2 with fail
 try rw [hw1b]
 clear d0 d1 d2 d3 f0 f1 f2 f3 hw0 hw1 hw1b hsz R0
 go_cut [11] from 4 (fun s11 wc => s11 = .bool e ∧ Hid (Oy w wc p A n cp ts s #[.string ⟨#[]⟩, .bool false, .slice none 0 0, .slice none 0 0] 62 #[.string ⟨#[]⟩, .bool false, .slice none 0 0, .slice none 0 0] 62))
 case first =>
  go_wp2_with fail
  refine (rIs_v ⟨#[101, 100, 103, 101]⟩ b1 HE.out.2.1 R1.out.rd).mono ?_
  rintro e2 w2 ⟨rfl, hb2⟩
  have R2 := Hh (R1.out.below hb2)
  clear hb2
  cases b1 with
  | false =>
   have ef : e = false := HE.out.2.2.2.symm
   go_wp2_with fail
   go_meet
   case rel => exact ⟨by first | rfl | rw [ef], R2⟩
  | true =>
   go_wp2_with fail
   refine (rafter_v K HE.out.2.2.1 R2.out.rd).mono ?_
   rintro e3 w3 ⟨rfl, hb3⟩
   have R3 := Hh (R2.out.below hb3)
   clear hb3
   have ek : ((K : Int) == 1) = e := by
    rw [← HE.out.2.2.2, Bool.true_and, Bool.eq_iff_iff, beq_iff_eq, decide_eq_true_iff]
    omega
   go_wp2_with fail
   go_meet
   case rel => exact ⟨rfl, R3⟩
 obtain ⟨rfl, R3⟩ := hcut
 clear R1
 go_upto_if 11 with fail
 go_cut [] from 4 (fun wc => ∃ s1, Hid (Oy w wc p A n cp ts s1 #[.string ⟨#[]⟩, .bool false, .slice none 0 0, .slice none 0 0] 62 #[.string ⟨#[]⟩, .bool e, .slice none 0 0, .slice none 0 0] 62 ∧ Via ts block (blk2 e) s s1))
 case first =>
  cases e with
  | false =>
   go_wp2_with fail
   go_meet
   case rel => exact ⟨s, Hh ⟨R3.out, via_eq fun _ => by rw [block_2, HE.out.1]; rfl⟩⟩
  | true =>
   go_wp2_with fail
   refine (rmust_v ⟨#[101, 100, 103, 101]⟩ R3.out.rd).mono ?_
   rintro e4 w4 ⟨s4, rfl, hs4, hr4, htr4⟩
   have R4 := Hh (R3.out.call hs4 hr4)
   have hv : Via ts block (blk2 true) s s4 := by
    refine (via_eq (k := fun l => (must edgeL l).bind fun _ l => blk2 true l) fun _ => ?_).trans (Tr.next htr4)
    rw [block_2, HE.out.1, must_yes (edge_is HE.out.1)]
    rfl
   have HV := Hh hv
   clear hs4 hr4 htr4 hv
   obtain ⟨⟨d0, d1, d2, d3⟩, f0, f1, f2, f3⟩ := box4 R4.out.b
   obtain ⟨w5, hw5⟩ : ∃ w5, w4.setCell ⟨w.heap.size + 1, 1, none⟩ (.bool true) = w5 := ⟨_, rfl⟩
   have R5 := Hh (hw5 ▸ (R4.out.putb (.bool true)).2.1)
   go_wp2_with fail
   try rw [hw5]
   go_meet
   case rel => exact ⟨s4, Hh ⟨R5.out, HV.out⟩⟩
 rename_i wq
 obtain ⟨s1, RH⟩ := hcut
 have R1 := Hh RH.out.1
 have HV := Hh RH.out.2
 clear RH R3
 go_wp2_with fail
 refine (rofq_v 1 (by decide) R1.out.rd).mono ?_
 rintro e2 w2 ⟨s2, t2, hq2, rfl, hs2, hr2, htr2⟩
 have R2 := Hh (R1.out.call hs2 hr2)
 have HV2 : Hid (Via ts block (blk3 e t2.text) s s2) := Hh (HV.out.trans (Tr.next htr2))
 have HQ2 := Hh (tok_short HA.out.2.1 hq2)
 clear hs2 hr2 htr2 hq2
 obtain ⟨⟨d0, d1, d2, d3⟩, f0, f1, f2, f3⟩ := box4 R2.out.b
 obtain ⟨w3, hw3⟩ : ∃ w3, w2.setCell ⟨w.heap.size + 1, 0, none⟩ (.string ⟨t2.text.toArray⟩) = w3 := ⟨_, rfl⟩
 have R3 := Hh (hw3 ▸ (R2.out.putb (.string ⟨t2.text.toArray⟩)).1)
 have g1 : w3.cell? ⟨w.heap.size + 1, 1, none⟩ = some (.bool e) := cell_in R3.out.b 1
 unfold tkv
 go_upto_if 20 with fail
 try rw [hw3]
 clear d0 d1 d2 d3 f0 f1 f2 f3 hw3 g1 R1 R2
 go_cut [] from 4 (fun wc => ∃ (s3 : St) (lab : List UInt8), Hid (Oy w wc p A n cp ts s3 #[.string ⟨#[]⟩, .bool false, .slice none 0 0, .slice none 0 0] 62 #[.string ⟨lab.toArray⟩, .bool e, .slice none 0 0, .slice none 0 0] 62 ∧ Via ts block (blk4 e lab) s s3))
 case first =>
  cases e with
  | false =>
   go_wp2_with fail
   go_meet
   case rel => exact ⟨s2, t2.text, Hh ⟨R3.out, HV2.out⟩⟩
  | true =>
   go_wp2_with fail
   refine (rmust_v ⟨#[46]⟩ R3.out.rd).mono ?_
   rintro e4 w4 ⟨s4, rfl, hs4, hr4, htr4⟩
   have R4 := Hh (R3.out.call hs4 hr4)
   have HV4 : Hid (Via ts block (fun r => (ofk 1 r).bind fun u r => blk4 true (t2.text ++ 46 :: u.text) r) s s4) := Hh ((HV2.out.trans (via_eq (k := fun l => (must [46] l).bind fun _ l => (ofk 1 l).bind fun u r => blk4 true (t2.text ++ 46 :: u.text) r) fun _ => blk3_t _ _)).trans (Tr.next htr4))
   clear hs4 hr4 htr4
   obtain ⟨X, hX⟩ : ∃ X : ByteArray, (⟨t2.text.toArray⟩ : ByteArray) ++ (⟨#[46]⟩ : ByteArray) = X := ⟨_, rfl⟩
   have hz1 : (⟨t2.text.toArray⟩ : ByteArray).size = t2.text.length := by show t2.text.toArray.size = _; simp
   have e1 := Lex.add_run ⟨t2.text.toArray⟩ ⟨#[46]⟩ X (by rw [hz1]; show t2.text.length + 1 ≤ _; have := HQ2.out; omega) hX
   have hXz : X.size = t2.text.length + 1 := by rw [← hX, ByteArray.size_append, hz1]; rfl
   have HX := Hh (Ai hX hXz)
   clear hX hXz hz1
   have bd := (Below.refl w4.heap.size w4).drew
   obtain ⟨wd, hwd⟩ : ∃ wd, w4.drew = wd := ⟨_, rfl⟩
   rw [hwd] at bd
   have Rq := Hh (R4.out.below bd)
   have c0 : wd.cell? ⟨w.heap.size + 1, 0, none⟩ = some (.string ⟨t2.text.toArray⟩) := cell_in Rq.out.b 0
   clear bd
   go_wp2_with fail
   refine region_z 8 (fun W => W.cell? ⟨w.heap.size + 1, 0, none⟩ = some (.string ⟨t2.text.toArray⟩)) (by kernel_rfl) ?_
   rw [hwd]
   clear hwd
   refine anyZ_take (i := 0) (v := .pointer (some ⟨w.heap.size + 1, 0, none⟩)) rfl (by kernel_rfl) (fun _ _ _ h => h) (Or.inl ⟨by rfl, by intro W hSw; go_simp; try with_reducible rfl⟩) c0 ?_
   try dsimp only [Act.put, Lzs, Lz0, Lz1]
   refine anyZ_take (i := 1) (v := .string ⟨t2.text.toArray⟩) rfl (by kernel_rfl) (fun _ _ _ h => h) (Or.inl ⟨by rfl, by intro W hSw; go_simp; try with_reducible rfl⟩) c0 ?_
   try dsimp only [Act.put, Lzs, Lz0, Lz1]
   refine anyZ_take (i := 2) (v := .string X) rfl (by kernel_rfl) (fun _ _ _ h => h) (Or.inl ⟨by rfl, by intro W hSw; go_simp; try with_reducible rfl⟩) c0 ?_
   try dsimp only [Act.put, Lzs, Lz0, Lz1]
   refine anyZ_take (i := 3) (v := .pointer (some ⟨p, 0, none⟩)) rfl (by kernel_rfl) (fun _ _ _ h => h) (Or.inl ⟨by rfl, by intro W hSw; go_simp; try with_reducible rfl⟩) c0 ?_
   try dsimp only [Act.put, Lzs, Lz0, Lz1]
   refine anyZ_one (i := 4) (by kernel_rfl) rfl (fun K hK => ?_)
   go_simp
   refine Calls.mono (rofq_v 1 (by decide) Rq.out.rd) ?_
   rintro e5 w5 ⟨s5, t5, hq5, rfl, hs5, hr5, htr5⟩
   have R5 := Hh (Rq.out.call hs5 hr5)
   have HT5 := Hh (Ai htr5 (tok_short HA.out.2.1 hq5))
   clear hs5 hr5 htr5 hq5 c0
   obtain ⟨Y, hY⟩ : ∃ Y : ByteArray, X ++ (⟨t5.text.toArray⟩ : ByteArray) = Y := ⟨_, rfl⟩
   have hz5 : (⟨t5.text.toArray⟩ : ByteArray).size = t5.text.length := by show t5.text.toArray.size = _; simp
   have e3 := Lex.add_run X ⟨t5.text.toArray⟩ Y (by rw [HX.out.2, hz5]; have := HQ2.out; have := HT5.out.2; omega) hY
   have HY := Hh hY
   clear hY hz5
   obtain ⟨⟨d0, d1, d2, d3⟩, f0, f1, f2, f3⟩ := box4 R5.out.b
   unfold tkv
   go_simp
   refine hK.out _ _ (fun _ => d0) ?_
   clear hK K
   try dsimp only [Act.put, Lzs, Lz0, Lz1]
   refine anyZ_take (i := 5) (v := .string ⟨t5.text.toArray⟩) rfl (by kernel_rfl) (fun _ _ _ h => h) (Or.inl ⟨by rfl, by intro W hSw; go_simp; try with_reducible rfl⟩) d0 ?_
   try dsimp only [Act.put, Lzs, Lz0, Lz1]
   refine anyZ_take (i := 6) (v := .string Y) rfl (by kernel_rfl) (fun _ _ _ h => h) (Or.inl ⟨by rfl, by intro W hSw; go_simp; try with_reducible rfl⟩) d0 ?_
   try dsimp only [Act.put, Lzs, Lz0, Lz1]
   refine anyZ_take (i := 7) (v := .pointer (some ⟨w.heap.size + 1, 0, none⟩)) rfl (by kernel_rfl) (fun _ _ _ h => h) (Or.inl ⟨by rfl, by intro W hSw; go_simp; try with_reducible rfl⟩) d0 ?_
   try dsimp only [Act.put, Lzs, Lz0, Lz1]
   obtain ⟨w6, hw6⟩ : ∃ w6, w5.setCell ⟨w.heap.size + 1, 0, none⟩ (.string Y) = w6 := ⟨_, rfl⟩
   have R6 := Hh (hw6 ▸ (R5.out.putb (.string Y)).1)
   have hYt : Y = ⟨(t2.text ++ 46 :: t5.text).toArray⟩ := by
    rw [← HY.out, ← HX.out.1]
    apply ByteArray.ext
    rw [ByteArray.data_append, ByteArray.data_append]
    apply Array.ext'
    simp
   rw [hYt] at R6
   clear hYt
   refine anyZ_one (i := 8) (by kernel_rfl) rfl (fun K hK => ?_)
   go_simp
   try rw [hw6]
   refine hK.out _ _ (fun h => absurd rfl h) ?_
   clear hK K
   try dsimp only [Act.put, Lzs, Lz0, Lz1]
   refine anyZ_done (by kernel_rfl) ?_ _
   clear hw6
   go_wp2_with fail
   go_meet
   case rel => exact ⟨s5, t2.text ++ 46 :: t5.text, Hh ⟨R6.out, HV4.out.trans (Tr.next HT5.out.1)⟩⟩
 obtain ⟨s3, lab, RH⟩ := hcut
 have R4 := Hh RH.out.1
 have HV4 := Hh RH.out.2
 clear RH R3 HV2
 obtain ⟨v, hv⟩ : ∃ v, ((s3.code == 0) && isB (ts.drop s3.at_) [91]) = v := ⟨_, rfl⟩
 have Hv := Hh hv
 clear hv
 go_upto_region 9 with fail
 go_cut [36] from 4 (fun s36 wc => s36 = .bool v ∧ Hid (Oy w wc p A n cp ts s3 #[.string ⟨#[]⟩, .bool false, .slice none 0 0, .slice none 0 0] 62 #[.string ⟨lab.toArray⟩, .bool e, .slice none 0 0, .slice none 0 0] 62))
 case first =>
  by_cases hc3 : s3.code = 0
  ·have hcb : (s3.code == 0) = true := by rw [hc3]; rfl
   have HC := Hh hcb
   go_wp2_with fail
   refine (rok_v true HC.out R4.out.rd).mono ?_
   rintro e2 w3 ⟨rfl, rfl⟩
   obtain ⟨b, hb⟩ : ∃ b, isB (ts.drop s3.at_) [91] = b := ⟨_, rfl⟩
   have HB := Hh hb
   have ev : b = v := by rw [← Hv.out, hcb, Bool.true_and, hb]
   clear hc3 hcb hb
   go_wp2_with fail
   refine (rIs_v ⟨#[91]⟩ b HB.out R4.out.rd).mono ?_
   rintro e3 w4 ⟨rfl, hb4⟩
   have R5 := Hh (R4.out.below hb4)
   clear hb4
   go_wp2_with fail
   go_meet
   case rel => exact ⟨by first | rfl | rw [ev], R5⟩
  ·have hcb : (s3.code == 0) = false := by rw [Bqf]; exact hc3
   have HC := Hh hcb
   have ev : v = false := by rw [← Hv.out, hcb]; rfl
   clear hc3 hcb
   go_wp2_with fail
   refine (rok_v false HC.out R4.out.rd).mono ?_
   rintro e2 w3 ⟨rfl, rfl⟩
   go_wp2_with fail
   go_meet
   case rel => exact ⟨by first | rfl | rw [ev], R4⟩
 obtain ⟨rfl, R5⟩ := hcut
 clear R4
 go_upto_if 36 with fail
 go_cut [] from 4 (fun wc => ∃ (s4 : St) (ins : List Opn) (IA : Option Addr) (icap : Nat), Hid (Oy w wc p A n cp ts s4 #[.string ⟨#[]⟩, .bool false, .slice none 0 0, .slice none 0 0] 62 #[.string ⟨lab.toArray⟩, .bool e, .slice IA ins.length icap, .slice none 0 0] 62 ∧ OwnL 64 4 Opn.cs (w.heap.size + 2) wc IA icap ins ∧ Via ts block (blk5 e lab ins) s s4))
 case first =>
  cases v with
  | false =>
   go_wp2_with fail
   go_meet
   case rel =>
    refine ⟨s3, [], none, 0, Hh ⟨R5.out, OwnL.nil, ?_⟩⟩
    by_cases hc3 : s3.code = 0
    ·refine HV4.out.trans (via_eq fun _ => ?_)
     have := Hv.out
     rw [hc3] at this
     have hb : isB (ts.drop s3.at_) [91] = false := this
     unfold blk4
     rw [hb]
     rfl
    ·exact HV4.out.stuck hc3
  | true =>
   go_wp2_with fail
   refine (rmust_v ⟨#[91]⟩ R5.out.rd).mono ?_
   rintro e2 w6 ⟨s6, rfl, hs6, hr6, htr6⟩
   have R6 := Hh (Ai (R5.out.call hs6 hr6) htr6)
   clear hs6 hr6 htr6
   go_wp2_with fail
   refine (rlist1_v ⟨#[93]⟩ R6.out.1.rd).mono ?_
   rintro e3 w7 ⟨s7, xs, IA, icap, rfl, hs7, hr7, htr7, ho7, _⟩
   have R7 := Hh (Ai (R6.out.1.call hs7 hr7) (Ai (ho7.less (N' := w.heap.size + 2) R6.out.1.hi) htr7))
   clear hs7 hr7 htr7 ho7
   obtain ⟨⟨d0, d1, d2, d3⟩, f0, f1, f2, f3⟩ := box4 R7.out.1.b
   obtain ⟨m, hm⟩ : ∃ m, xs.length = m := ⟨_, rfl⟩
   have HM := Hh hm
   rw [hm]
   obtain ⟨w8, hw8⟩ : ∃ w8, w7.setCell ⟨w.heap.size + 1, 2, none⟩ (.slice IA m icap) = w8 := ⟨_, rfl⟩
   have R8 := Hh (Ai (hw8 ▸ (R7.out.1.putb (.slice IA m icap)).2.2) (hw8 ▸ own_put (I := w.heap.size + 1) (o := 2) (v := .slice IA m icap) R7.out.2.1 (Nat.lt_succ_self _)))
   clear hm
   go_wp2_with fail
   try rw [hw8]
   go_meet
   case rel =>
    have hm := HM.out
    subst hm
    refine ⟨s7, xs, IA, icap, Hh ⟨R8.out.1, R8.out.2, ?_⟩⟩
    have hb : isB (ts.drop s3.at_) [91] = true := by
     have := Hv.out
     rw [Bool.and_eq_true] at this
     exact this.2
    refine ((HV4.out.trans (via_eq (k := fun l => (must [91] l).bind fun _ l => (ops [93] [] l).bind fun ins r => blk5 e lab ins r) fun _ => ?_)).trans (Tr.next R6.out.2)).trans (Tr.next R7.out.2.2)
    unfold blk4
    rw [if_pos hb, must_yes hb]
    rfl
 obtain ⟨s4, ins, IA, icap, RH⟩ := hcut
 have R6 := Hh RH.out
 clear RH R5
 go_wp2_with fail
 refine (rmust_v ⟨#[58]⟩ R6.out.1.rd).mono ?_
 rintro e2 w8 ⟨s8, rfl, hs8, hr8, htr8⟩
 have hI : BlD w w8 p A n cp ts s s8 lab e ins IA icap [] none 0 0 := ⟨Oy.blkM (R6.out.1.call hs8 hr8) (R6.out.2.1.step hs8 (by have := R6.out.1.plt; omega)), hr8, R6.out.2.2.trans (Tr.next htr8), fun _ => Nat.zero_le _⟩
 have HI := Hh hI
 clear hs8 hr8 htr8 hI R6 HV4 Hv
 go_wp2_with fail
 go_loopg [] (togo ts.length s8) (fun gk wr => ∃ (s1 : St) (acc : List (Ins × InsV)) (D : Option Addr) (c m : Nat), gk = togo ts.length s1 ∧ Hid (BlD w wr p A n cp ts s s1 lab e ins IA icap acc D c m))
 case atStart => exact ⟨s8, [], none, 0, 0, rfl, HI.out⟩
 case round =>
  obtain ⟨sx, acc, D, c, m, hk, HR⟩ := hrel
  have HK := Hh hk
  clear hk HI
  by_cases hc2 : sx.code = 0
  ·have hcb2 : (sx.code == 0) = true := by rw [hc2]; rfl
   have HC2 := Hh (Ai hc2 hcb2)
   clear hc2 hcb2
   go_wp2_with fail
   refine (rok_v true HC2.out.2 HR.out.rd).mono ?_
   rintro e2 w9 ⟨rfl, rfl⟩
   cases hr1 : isB (ts.drop sx.at_) [125] with
   | true =>
    have H1 := Hh hr1
    clear hr1
    go_wp2_with fail
    refine (rIs_v ⟨#[125]⟩ true H1.out HR.out.rd).mono ?_
    rintro e3 w9 ⟨rfl, hb9⟩
    have HR9 := Hh (HR.out.below hb9)
    have HD := Hh (show sx.code ≠ 0 ∨ (isB (ts.drop sx.at_) [125] || begins (ts.drop sx.at_)) = true from .inr (by rw [H1.out]; rfl))
    clear hb9
    obtain ⟨⟨u0, u1, u2, u3⟩, _⟩ := box4 HR9.out.mem.b
    obtain ⟨⟨v0, v1, v2, v3⟩, y0, y1, y2, y3⟩ := box4 HR9.out.mem.z
    go_wp2_with fail
    have HF := HR9.out.fin HA.out.2.2.2 HD.out
    refine fin_blk (fn := Tryz.f51) rfl rfl HF.1 rfl ?_
    exact HF.2
   | false =>
    have H1 := Hh hr1
    clear hr1
    go_wp2_with fail
    refine (rIs_v ⟨#[125]⟩ false H1.out HR.out.rd).mono ?_
    rintro e3 wi ⟨rfl, hbi⟩
    have HRi := Hh (HR.out.below hbi)
    clear hbi
    cases hr2 : begins (ts.drop sx.at_) with
    | true =>
     have H2 := Hh hr2
     clear hr2
     go_wp2_with fail
     refine (rbegins_v true H2.out HRi.out.rd).mono ?_
     rintro e4 w9 ⟨rfl, hb9⟩
     have HR9 := Hh (HRi.out.below hb9)
     have HD := Hh (show sx.code ≠ 0 ∨ (isB (ts.drop sx.at_) [125] || begins (ts.drop sx.at_)) = true from .inr (by rw [H1.out, H2.out]; rfl))
     clear hb9
     obtain ⟨⟨u0, u1, u2, u3⟩, _⟩ := box4 HR9.out.mem.b
     obtain ⟨⟨v0, v1, v2, v3⟩, y0, y1, y2, y3⟩ := box4 HR9.out.mem.z
     go_wp2_with fail
     have HF := HR9.out.fin HA.out.2.2.2 HD.out
     refine fin_blk (fn := Tryz.f51) rfl rfl HF.1 rfl ?_
     exact HF.2
    | false =>
     have H2 := Hh hr2
     clear hr2
     go_wp2_with fail
     refine (rbegins_v false H2.out HRi.out.rd).mono ?_
     rintro e4 wj ⟨rfl, hbj⟩
     have HRj := Hh (HRi.out.below hbj)
     have hq : Via ts block (fun r => (instr r).bind fun x r => (code (acc.map (·.1) ++ [x]) r).bind fun cd r => .ok ⟨⟨lab.toArray⟩, e, ins, cd⟩ r) s sx := by
      refine HR.out.via.trans (via_eq fun _ => ?_)
      show (code _ _).bind _ = _
      rw [code_eq, H1.out, H2.out]
      show ((instr (ts.drop sx.at_)).bind _).bind _ = _
      cases instr (ts.drop sx.at_) <;> rfl
     have HQ := Hh hq
     have hlen : m ≤ 2000000 := by have h1 := HR.out.far HC2.out.1; have h2 := HR.out.rd.lt; have h3 := HR.out.rd.few; omega
     have HLEN := Hh hlen
     clear hbj hq hlen HRi
     go_wp2_with fail
     have bd := (Below.refl wj.heap.size wj).drew
     obtain ⟨wd, hwd⟩ : ∃ wd, wj.drew = wd := ⟨_, rfl⟩
     rw [hwd] at bd
     have HMd := Hh (HRj.out.mem.call (Step.of bd))
     have HLd := Hh (HRj.out.rd.below bd)
     obtain ⟨⟨_, _, _, c3⟩, _⟩ := box4 HMd.out.b
     clear bd
     refine region_z 7 (fun W => W.cell? ⟨w.heap.size + 1, 3, none⟩ = some (.slice D m c)) (by kernel_rfl) ?_
     rw [hwd]
     clear hwd
     refine anyZ_take (i := 0) (v := .pointer (some ⟨w.heap.size + 1, 3, none⟩)) rfl (by kernel_rfl) (fun _ _ _ h => h) (Or.inl ⟨by rfl, by intro W hSw; go_simp; try with_reducible rfl⟩) c3 ?_
     try dsimp only [Act.put, Lzs, Lz0, Lz1]
     refine anyZ_take (i := 1) (v := .slice D m c) rfl (by kernel_rfl) (fun _ _ _ h => h) (Or.inl ⟨by rfl, by intro W hSw; go_simp; try with_reducible rfl⟩) c3 ?_
     try dsimp only [Act.put, Lzs, Lz0, Lz1]
     refine anyZ_take (i := 2) (v := .pointer (some ⟨p, 0, none⟩)) rfl (by kernel_rfl) (fun _ _ _ h => h) (Or.inl ⟨by rfl, by intro W hSw; go_simp; try with_reducible rfl⟩) c3 ?_
     try dsimp only [Act.put, Lzs, Lz0, Lz1]
     refine anyZ_one (i := 3) (by kernel_rfl) rfl (fun K hK => ?_)
     go_simp
     refine Calls.mono (rinstr_v HA.out.2.1 HC2.out.1 HLd.out) ?_
     rintro e5 w4 ⟨s5, x, val, rfl, hs, hr, htr, r, rfl, hH⟩
     have HM4 := Hh (HMd.out.call hs)
     have HX := Hh (Ai htr (safe_new (N := w.heap.size + 2) (row := Value.ownBlock (.slice D m c)) hH (by have := HMd.out.hi; omega) (fun k hk => (HMd.out.own.lo k (by rw [HMd.out.len]; exact hk)).2)))
     have HL4 := Hh hr
     clear hs htr hH hr
     obtain ⟨⟨_, _, _, c3'⟩, _⟩ := box4 HM4.out.b
     unfold insR
     go_simp
     refine hK.out _ _ (fun _ => c3') ?_
     clear hK K
     try dsimp only [Act.put, Lzs, Lz0, Lz1]
     refine anyZ_one (i := 4) (by kernel_rfl) rfl (fun K hK => ?_)
     obtain ⟨w5, hw5⟩ : ∃ w5, w4.alloc (.cells #[.int .i64 x.op, .int .i64 x.dst.k, .int .i64 x.dst.c, .int .i64 x.dst.n, .int .i64 x.dst.t, .slice r.aa r.an r.ac, .string x.name, .int .i64 x.off, .slice r.la r.ln r.lc, .slice r.ca r.cn r.cc] 67) = w5 := ⟨_, rfl⟩
     have nb := new_box w4 _ 67 hw5
     have HM5 := Hh (HM4.out.call (Step.of nb.1))
     have HL5 := Hh (HL4.out.below nb.1)
     have HB5 := Hh (Ai nb.2 (HX.out.2.keep ⟨nb.1.size, fun k hk _ => nb.1.block k hk⟩))
     clear nb
     obtain ⟨⟨_, _, _, c3''⟩, _⟩ := box4 HM5.out.b
     go_simp
     try rw [hw5]
     clear hw5
     refine hK.out _ _ (fun _ => c3'') ?_
     clear hK K
     try dsimp only [Act.put, Lzs, Lz0, Lz1]
     refine anyZ_one (i := 5) (by kernel_rfl) rfl (fun K hK => ?_)
     rw [if_pos (by rfl)]
     refine own_app_wp rowIns _ _ rfl HM5.out.len rfl HM5.out.own w4.heap.size (x, r) rfl HB5.out.1 HLEN.out HM5.out.hi ?_
     intro g' c' w6 ho hg hat
     have HM6 := Hh (HM5.out.app HB5.out.2 ho hg hat)
     have HL6 := Hh (Rd.grown HA.out.2.2.2 HL5.out hg HM5.out.step.size (fun k hk => by have := (HM5.out.own.lo k (by rw [HM5.out.len]; exact hk)).1; omega))
     clear ho hg hat
     obtain ⟨⟨_, _, _, d3⟩, _, _, _, g3⟩ := box4 HM6.out.b
     refine hK.out _ _ (fun _ => d3) ?_
     clear hK K
     try dsimp only [Act.put, Lzs, Lz0, Lz1]
     refine anyZ_take (i := 6) (v := .pointer (some ⟨w.heap.size + 1, 3, none⟩)) rfl (by kernel_rfl) (fun _ _ _ h => h) (Or.inl ⟨by rfl, by intro W hSw; go_simp; try with_reducible rfl⟩) d3 ?_
     try dsimp only [Act.put, Lzs, Lz0, Lz1]
     refine anyZ_one (i := 7) (by kernel_rfl) rfl (fun K hK => ?_)
     obtain ⟨w7, hw7⟩ : ∃ w7, w6.setCell ⟨w.heap.size + 1, 3, none⟩ (.slice (some ⟨g', 0, none⟩) (m + 1) c') = w7 := ⟨_, rfl⟩
     have HM7 := Hh (hw7 ▸ HM6.out.put (.slice (some ⟨g', 0, none⟩) (m + 1) c'))
     have HL7 := Hh (hw7 ▸ HL6.out.keep HA.out.2.2.2 (below_agree ((Below.refl w.heap.size w6).setCell (p := ⟨w.heap.size + 1, 3, none⟩) (Nat.le_succ _) (.slice (some ⟨g', 0, none⟩) (m + 1) c'))))
     go_simp
     try rw [hw7]
     clear hw7
     refine hK.out _ _ (fun h => absurd rfl h) ?_
     clear hK K
     try dsimp only [Act.put, Lzs, Lz0, Lz1]
     refine anyZ_done (by kernel_rfl) ?_ _
     have hfar : s5.code = 0 → m + 1 ≤ s5.at_ := by
      intro hc5
      have h1 := HR.out.far HC2.out.1
      have h2 := HX.out.1.far (fun l r a h => instr_sub h) HR.out.rd.tlen hc5
      omega
     have hI : BlD w w7 p A n cp ts s s5 lab e ins IA icap (acc ++ [(x, r)]) (some ⟨g', 0, none⟩) c' (m + 1) := ⟨HM7.out, HL7.out, (by
      have := HQ.out.trans (Tr.next HX.out.1)
      rw [List.map_append]
      exact this), hfar⟩
     have hless := (HX.out.1.less HC2.out.1 HR.out.rd.tlen HL7.out.tlen (fun l r a h => instr_sub h)).1
     have HZ := Hh (Ai hI hless)
     have hgk := HK.out
     clear hI hless hfar
     go_wp2_with fail
     go_roundg (togo ts.length s5)
     case measure => rw [hgk]; exact HZ.out.2
     case rel => exact ⟨s5, _, _, _, _, rfl, HZ.out.1⟩
  ·have hcb2 : (sx.code == 0) = false := by rw [Bqf]; exact hc2
   have HC2 := Hh (Ai hc2 hcb2)
   clear hc2 hcb2
   go_wp2_with fail
   refine (rok_v false HC2.out.2 HR.out.rd).mono ?_
   rintro e2 w9 ⟨rfl, rfl⟩
   have HR9 := Hh HR.out
   have HD := Hh (show sx.code ≠ 0 ∨ (isB (ts.drop sx.at_) [125] || begins (ts.drop sx.at_)) = true from .inl HC2.out.1)
   obtain ⟨⟨u0, u1, u2, u3⟩, _⟩ := box4 HR9.out.mem.b
   obtain ⟨⟨v0, v1, v2, v3⟩, y0, y1, y2, y3⟩ := box4 HR9.out.mem.z
   go_wp2_with fail
   have HF := HR9.out.fin HA.out.2.2.2 HD.out
   refine fin_blk (fn := Tryz.f51) rfl rfl HF.1 rfl ?_
   exact HF.2
end
end Go.Proofs.YtbpichjmkllfaaaGreatDoor.Par
