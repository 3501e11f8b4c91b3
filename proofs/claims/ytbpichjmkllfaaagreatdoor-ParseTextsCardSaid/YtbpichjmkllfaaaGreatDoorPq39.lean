/- Packed texts of one proof. Conditions: none. -/
import Derived.Test.YtbpichjmkllfaaaGreatDoorPq38
namespace Go.Proofs.YtbpichjmkllfaaaGreatDoor.Par
open Go.ChangeShapes Go.WideShapes Go.RowKit
open Lex (Tok tcl tkv tk tc)
set_option linter.unusedVariables false
set_option maxRecDepth 20000
section
variable {w : World} {p : Nat} {A : Option Addr} {n cp : Nat} {ts : List Tok} {s : St}
theorem drest_v {o : Nat} (h1 : 1 ≤ o) (h2 : o ≤ 27) (hS : ∀ t ∈ ts, t.text.length ≤ 70000) (d : Opn) (h : Rd w p A n cp ts s) : Calls Tryz.prog 126 #[.pointer (some ⟨p, 0, none⟩), insB o d] w (DRest w p A n cp ts s o d) := by
 by_cases h19 : o = 19
 ·subst h19; exact drest_call d h
 ·exact drest_any h1 h2 h19 hS d h
end
structure Oy (w W : World) (p : Nat) (A : Option Addr) (n cp : Nat) (ts : List Tok) (s : St) (ca : Array Value) (T : TypeId) (cb : Array Value) (T' : TypeId) : Prop where
 step : Step w.heap.size p w W
 rd : Rd W p A n cp ts s
 z : W.heap[w.heap.size]? = some (.cells ca T (0, 0))
 b : W.heap[w.heap.size + 1]? = some (.cells cb T' (0, 0))
 old : ∃ s0, Rd w p A n cp ts s0
section
variable {w W W' : World} {p : Nat} {A : Option Addr} {n cp : Nat} {ts : List Tok} {s s' : St} {ca cb cb' : Array Value} {T T' : TypeId}
theorem Oy.plt (h : Oy w W p A n cp ts s ca T cb T') : p < w.heap.size := by obtain ⟨s0, h0⟩ := h.old; exact h0.plt
theorem Oy.hi (h : Oy w W p A n cp ts s ca T cb T') : w.heap.size + 1 < W.heap.size := (Array.getElem?_eq_some_iff.1 h.b).1
theorem Oy.call (h : Oy w W p A n cp ts s ca T cb T') (hs : Step W.heap.size p W W') (hr : Rd W' p A n cp ts s') : Oy w W' p A n cp ts s' ca T cb T' :=
 ⟨h.step.trans (hs.mono h.step.size), hr, by rw [hs.2.2.2.2 _ (by have := h.hi; omega) (by have := h.plt; omega)]; exact h.z, by rw [hs.2.2.2.2 _ h.hi (by have := h.plt; omega)]; exact h.b, h.old⟩
theorem Oy.below (h : Oy w W p A n cp ts s ca T cb T') (hb : Below W.heap.size W W') : Oy w W' p A n cp ts s ca T cb T' := h.call (Step.of hb) (h.rd.below hb)
theorem Oy.far (h : Oy w W p A n cp ts s ca T cb T') (hb : Below (w.heap.size + 1) W W') (hx : W'.heap[w.heap.size + 1]? = some (.cells cb' T' (0, 0))) : Oy w W' p A n cp ts s ca T cb' T' := by
 obtain ⟨s0, h0⟩ := h.old
 have hb' : Below w.heap.size W W' := hb.mono (Nat.le_succ _)
 exact ⟨h.step.trans (Step.of hb'), h.rd.keep h0 (below_agree hb'), by rw [hb.block _ (Nat.lt_succ_self _)]; exact h.z, hx, s0, h0⟩
theorem Oy.start {w0 w1 : World} (h : Rd w p A n cp ts s) (h0 : w.alloc (.cells ca T) = w0) (h1 : w0.alloc (.cells cb T') = w1) : Oy w w1 p A n cp ts s ca T cb T' := by
 have hsz : w0.heap.size = w.heap.size + 1 := by rw [← h0]; simp
 have nb := new_box w _ T h0
 have nb1 := new_box w0 _ T' h1
 have z1 := kept_box nb.2 nb1.1
 rw [hsz] at nb1
 have B1 : Below w.heap.size w w1 := nb.1.trans (nb1.1.mono (by omega))
 exact ⟨Step.of B1, h.below B1, z1, nb1.2, s, h⟩
end
section
variable {w : World} {p : Nat} {A : Option Addr} {n cp : Nat} {ts : List Tok} {s : St}
def DIns (w : World) (p : Nat) (A : Option Addr) (n cp : Nat) (ts : List Tok) (s : St) (e : Ending) (w' : World) : Prop :=
 ∃ s' x val, e = .returned val ∧ Step w.heap.size p w w' ∧ Rd w' p A n cp ts s' ∧ Tr ts instr s s' x ∧ InsA w.heap.size w' x val
theorem Oy.four1 {W : World} {s' : St} {y0 y1 y2 y3 y4 y5 y6 y7 y8 y9 : Value} (h : Oy w W p A n cp ts s' icZ 67 #[y0, y1, y2, y3, y4, y5, y6, y7, y8, y9] 67) (x1 x2 x3 x4 : Value) :
  Oy w ((((W.setCell ⟨w.heap.size + 1, 1, none⟩ x1).setCell ⟨w.heap.size + 1, 2, none⟩ x2).setCell ⟨w.heap.size + 1, 3, none⟩ x3).setCell ⟨w.heap.size + 1, 4, none⟩ x4) p A n cp ts s' icZ 67 #[y0, x1, x2, x3, x4, y5, y6, y7, y8, y9] 67 := by
 refine h.far ?_ ?_
 ·exact ((((Below.refl _ W).setCell (p := ⟨w.heap.size + 1, 1, none⟩) (Nat.le_refl _) _).setCell (p := ⟨w.heap.size + 1, 2, none⟩) (Nat.le_refl _) _).setCell (p := ⟨w.heap.size + 1, 3, none⟩) (Nat.le_refl _) _).setCell (p := ⟨w.heap.size + 1, 4, none⟩) (Nat.le_refl _) _
 ·have := h.b
  simp [World.setCell, Array.getElem?_modify, this]
theorem Oy.one0 {W : World} {s' : St} {y0 y1 y2 y3 y4 y5 y6 y7 y8 y9 : Value} (h : Oy w W p A n cp ts s' icZ 67 #[y0, y1, y2, y3, y4, y5, y6, y7, y8, y9] 67) (x0 : Value) :
  Oy w (W.setCell ⟨w.heap.size + 1, 0, none⟩ x0) p A n cp ts s' icZ 67 #[x0, y1, y2, y3, y4, y5, y6, y7, y8, y9] 67 := by
 refine h.far ((Below.refl _ W).setCell (p := ⟨w.heap.size + 1, 0, none⟩) (Nat.le_refl _) _) ?_
 have := h.b
 simp [World.setCell, Array.getElem?_modify, this]
theorem Oy.ten1 {W : World} {s' : St} {y0 y1 y2 y3 y4 y5 y6 y7 y8 y9 : Value} (h : Oy w W p A n cp ts s' icZ 67 #[y0, y1, y2, y3, y4, y5, y6, y7, y8, y9] 67) (x0 x1 x2 x3 x4 x5 x6 x7 x8 x9 : Value) :
  Oy w (ten W (w.heap.size + 1) x0 x1 x2 x3 x4 x5 x6 x7 x8 x9) p A n cp ts s' icZ 67 #[x0, x1, x2, x3, x4, x5, x6, x7, x8, x9] 67 := h.far (ten_below (Below.refl _ W) (Nat.le_refl _)) (ten_heap h.b)
theorem Oy.finI {W : World} {s' : St} {x : Ins} {r : InsV} {c : Array Value} (h : Oy w W p A n cp ts s' icZ 67 c 67) (hx : Held (fun k => w.heap.size + 2 ≤ k) W fun W => IsIns W x r) (ht : Tr ts instr s s' x) :
  (ten W w.heap.size (.int .i64 x.op) (.int .i64 x.dst.k) (.int .i64 x.dst.c) (.int .i64 x.dst.n) (.int .i64 x.dst.t) (.slice r.aa r.an r.ac) (.string x.name) (.int .i64 x.off) (.slice r.la r.ln r.lc) (.slice r.ca r.cn r.cc)).heap[w.heap.size]? = some (.cells (insR x r) 67 (0, 0)) ∧
  DIns w p A n cp ts s (.returned (.agg (insR x r))) (ten W w.heap.size (.int .i64 x.op) (.int .i64 x.dst.k) (.int .i64 x.dst.c) (.int .i64 x.dst.n) (.int .i64 x.dst.t) (.slice r.aa r.an r.ac) (.string x.name) (.int .i64 x.off) (.slice r.la r.ln r.lc) (.slice r.ca r.cn r.cc)) := by
 obtain ⟨s0, h0⟩ := h.old
 have hb : Below w.heap.size W (ten W w.heap.size (.int .i64 x.op) (.int .i64 x.dst.k) (.int .i64 x.dst.c) (.int .i64 x.dst.n) (.int .i64 x.dst.t) (.slice r.aa r.an r.ac) (.string x.name) (.int .i64 x.off) (.slice r.la r.ln r.lc) (.slice r.ca r.cn r.cc)) := ten_below (Below.refl _ W) (Nat.le_refl _)
 refine ⟨ten_heap h.z, s', x, _, rfl, h.step.trans (Step.of hb), h.rd.keep h0 (below_agree hb), ht, r, rfl, ?_⟩
 refine (hx.keep ?_).weak fun k _ hk => by omega
 refine ⟨hb.size, fun k hk hs => ?_⟩
 have hne : k ≠ w.heap.size := by omega
 unfold ten
 simp [World.setCell, Array.getElem?_modify, Ne.symm hne]
theorem ins_nil (op : Int) (d : Opn) (S : Nat → Prop) (W : World) : Held S W fun W => IsIns W ⟨op, d, [], ⟨#[]⟩, 0, [], []⟩ ⟨none, 0, 0, none, 0, 0, none, 0, 0⟩ := by
 have h : ∀ W : World, IsIns W ⟨op, d, [], ⟨#[]⟩, 0, [], []⟩ ⟨none, 0, 0, none, 0, 0, none, 0, 0⟩ := fun W =>
  ⟨(OwnL.nil (T := 64) (sz := 4) (cs := Opn.cs) (N := 0) (w := W)).ops, (OwnL.nil (T := 9) (sz := 1) (cs := strC) (N := 0) (w := W)).strs, (OwnL.nil (T := 3) (sz := 1) (cs := intC) (N := 0) (w := W)).ints⟩
 exact fun W' _ => h W'
theorem bad_new {S : St} {t : Tok} {α : Type} {m : List Tok → Res α} {v : α} (code : Int) (hne : code ≠ 0) (hc : S.code = 0) (hm : m (ts.drop S.at_) = .bad code t.at_) : Tr ts m S (badSt S code t) v := by
 unfold badSt
 rw [if_pos hc]
 exact .inr (.inr ⟨hc, hne, hm⟩)
theorem bad_code {S : St} {t : Tok} (code : Int) (hne : code ≠ 0) (hc : S.code = 0) : ((badSt S code t).code == 0) = false := by
 unfold badSt
 rw [if_pos hc, Bqf]
 exact hne
theorem instr2_bad {d : Opn} {a : Nat} {t : Tok} (ht : ts[a]? = some t) (h : ¬ (t.kind = 1 ∧ findOp t.text ≠ 0)) : instr2 d (ts.drop a) = .bad 20 t.at_ := by
 unfold instr2
 rw [kind_at ht, text_at ht, if_neg h]
 unfold err
 rw [head_at ht]
theorem instr2_go {d : Opn} {a o : Nat} {t : Tok} (ht : ts[a]? = some t) (hk : t.kind = 1) (ho : findOp t.text = o) (h0 : o ≠ 0) : instr2 d (ts.drop a) = (rest o (ts.drop (a + 1))).bind fun x r => (must [59] r).bind fun _ r => .ok ⟨(o : Int), d, x.args, x.name, x.off, x.labels, x.cases⟩ r := by
 unfold instr2
 rw [kind_at ht, text_at ht, ho, if_pos ⟨hk, h0⟩, tail_at]
theorem instr_word {a : Nat} {t t' : Tok} (ht : ts[a]? = some t) (hk : t.kind = 1) (hf : findOp t.text = 0) (ht' : ts[a + 1]? = some t') : instr (ts.drop a) = .bad 20 t'.at_ := by
 unfold instr
 rw [kind_at ht, hk, if_neg (by decide), text_at ht, if_pos ⟨rfl, hf⟩, tail_at]
 unfold err
 rw [head_at ht']
theorem Oy.beyond {W W' : World} {s' : St} {ca cb : Array Value} {T T' : TypeId} (h : Oy w W p A n cp ts s' ca T cb T') (hb : Below (w.heap.size + 2) W W') : Oy w W' p A n cp ts s' ca T cb T' := by
 obtain ⟨s0, h0⟩ := h.old
 have hb' : Below w.heap.size W W' := hb.mono (by omega)
 exact ⟨h.step.trans (Step.of hb'), h.rd.keep h0 (below_agree hb'), by rw [hb.block _ (by omega)]; exact h.z, by rw [hb.block _ (by omega)]; exact h.b, s0, h0⟩
theorem ten_agree1 (W : World) (b : Nat) (x0 x1 x2 x3 x4 x5 x6 x7 x8 x9 : Value) : Agree (fun k => b + 1 ≤ k) W (ten W b x0 x1 x2 x3 x4 x5 x6 x7 x8 x9) := by
 refine ⟨(ten_below (Below.refl b W) (Nat.le_refl _)).size, fun k hk hs => ?_⟩
 have hne : k ≠ b := by omega
 unfold ten
 simp [World.setCell, Array.getElem?_modify, Ne.symm hne]
set_option maxHeartbeats 4000000 in
theorem rinstr_v (hS : ∀ t ∈ ts, t.text.length ≤ 70000) (hc : s.code = 0) (h : Rd w p A n cp ts s) : Calls Tryz.prog 84 #[.pointer (some ⟨p, 0, none⟩)] w (DIns w p A n cp ts s) := by
 obtain ⟨t, ht, hwf⟩ := h.tok
 have hk : True := trivial
 obtain ⟨w0, hw0⟩ : ∃ w0, w.alloc (.cells icZ 67) = w0 := ⟨_, rfl⟩
 obtain ⟨w1, hw1⟩ : ∃ w1, w0.alloc (.cells icZ 67) = w1 := ⟨_, rfl⟩
 have R1 := Hh (Oy.start h hw0 hw1)
 have hsz : w0.heap.size = w.heap.size + 1 := by rw [← hw0]; simp
 have HW := Hh (Ai hw0 (Ai hw1 hsz))
 have HA := Hh (Ai ht (Ai hS (Ai hc h)))
 have HKk := Hh hk
 clear h hw0 hw1 hsz ht hS hc hk
 go_enter Tryz.func84, Tryz.ntmps84
 have e0 := HW.out.1
 have e1 := HW.out.2.1
 have e2 := HW.out.2.2
 unfold icZ at e0 e1
 have Q1 := R1.out.b
 unfold icZ at Q1
 obtain ⟨⟨n0, n1, n2, n3, n4, n5, n6, n7, n8, n9⟩, m0, m1, m2, m3, m4, m5, m6, m7, m8, m9⟩ := boxT Q1
 clear Q1
 obtain ⟨w1b, hw1b⟩ : ∃ w1b, ten w1 (w.heap.size + 1) (.int .i64 0) (.int .i64 0) (.int .i64 0) (.int .i64 0) (.int .i64 0) (.slice none 0 0) (.string ⟨#[]⟩) (.int .i64 0) (.slice none 0 0) (.slice none 0 0) = w1b := ⟨_, rfl⟩
 have R1b := Hh (hw1b ▸ R1.out.ten1 (.int .i64 0) (.int .i64 0) (.int .i64 0) (.int .i64 0) (.int .i64 0) (.slice none 0 0) (.string ⟨#[]⟩) (.int .i64 0) (.slice none 0 0) (.slice none 0 0))
 clear R1
 have R1 := R1b
 clear R1b
 go_wp2_with fail
 unfold ten at hw1b
 rw [hw1b]
 clear e0 e1 e2 hw1b n0 n1 n2 n3 n4 n5 n6 n7 n8 n9 m0 m1 m2 m3 m4 m5 m6 m7 m8 m9
 refine (rkind_v HA.out.1 R1.out.rd).mono ?_
 rintro e w2 ⟨rfl, hb2⟩
 have R2 := Hh (R1.out.below hb2)
 clear hb2
 obtain ⟨r, hr⟩ : ∃ r, (decide (t.kind = 4) || (decide (t.kind = 5) || decide (t.kind = 6))) = r := ⟨_, rfl⟩
 have Hr := Hh hr
 clear hr
 go_upto_region 3 with fail
 go_cut [18] from 6 (fun s18 wc => s18 = .bool r ∧ w2 = wc)
 case first =>
  by_cases k4 : t.kind = 4
  ·have q4 : ((t.kind : Int) == 4) = true := by rw [k4]; rfl
   have e : r = true := by rw [← Hr.out, k4]; rfl
   subst e
   clear k4
   go_wp2_with fail
   go_meet
   case rel => exact ⟨rfl, rfl⟩
  have q4 : ((t.kind : Int) == 4) = false := by rw [Bqf]; omega
  by_cases k5 : t.kind = 5
  ·have q5 : ((t.kind : Int) == 5) = true := by rw [k5]; rfl
   have e : r = true := by rw [← Hr.out, k5]; rfl
   subst e
   clear k4 k5
   go_wp2_with fail
   go_meet
   case rel => exact ⟨rfl, rfl⟩
  have q5 : ((t.kind : Int) == 5) = false := by rw [Bqf]; omega
  have q6 : ((t.kind : Int) == 6) = r := by
   rw [← Hr.out, decide_eq_false k4, decide_eq_false k5, Bool.false_or, Bool.false_or, Bool.eq_iff_iff, beq_iff_eq, decide_eq_true_iff]
   omega
  clear k4 k5
  go_wp2_with fail
  go_meet
  case rel => exact ⟨rfl, rfl⟩
 obtain ⟨rfl, hwc⟩ := hcut
 subst hwc
 go_upto_if 18 with fail
 go_cut [] from 6 (fun wc => ∃ (s1 : St) (dk dc dn dt : Int), Hid (Oy w wc p A n cp ts s1 icZ 67 (ic 0 dk dc dn dt none 0 0 ⟨#[]⟩ 0 none 0 0 none 0 0) 67 ∧ Via ts instr (fun l => instr2 ⟨dk, dc, dn, dt⟩ l) s s1))
 case first =>
  cases r with
  | true =>
   go_wp2_with fail
   refine (roperand_v R2.out.rd).mono ?_
   rintro e w3 ⟨s3, ⟨dk, dc, dn, dt⟩, rfl, hs3, hr3, htr3⟩
   have R3 := Hh (R2.out.call hs3 hr3)
   have HT3 := Hh htr3
   clear hs3 hr3 htr3
   have Q3 := R3.out.b
   unfold icZ at Q3
   obtain ⟨⟨d0, d1, d2, d3, d4, d5, d6, d7, d8, d9⟩, f0, f1, f2, f3, f4, f5, f6, f7, f8, f9⟩ := boxT Q3
   clear Q3
   obtain ⟨w4, hw4⟩ : ∃ w4, (((w3.setCell ⟨w.heap.size + 1, 1, none⟩ (.int .i64 dk)).setCell ⟨w.heap.size + 1, 2, none⟩ (.int .i64 dc)).setCell ⟨w.heap.size + 1, 3, none⟩ (.int .i64 dn)).setCell ⟨w.heap.size + 1, 4, none⟩ (.int .i64 dt) = w4 := ⟨_, rfl⟩
   have R4 := Hh (hw4 ▸ R3.out.four1 (.int .i64 dk) (.int .i64 dc) (.int .i64 dn) (.int .i64 dt))
   unfold opV
   go_wp2_with fail
   try rw [hw4]
   clear hw4
   clear d0 d1 d2 d3 d4 d5 d6 d7 d8 d9 f0 f1 f2 f3 f4 f5 f6 f7 f8 f9
   refine (rmust_v ⟨#[61]⟩ R4.out.rd).mono ?_
   rintro e w5 ⟨s5, rfl, hs5, hr5, htr5⟩
   have R5 := Hh (R4.out.call hs5 hr5)
   have hv : Via ts instr (fun l => instr2 ⟨dk, dc, dn, dt⟩ l) s s5 := by
    refine ((via_eq (k := fun l => (operand l).bind fun d l => (must [61] l).bind fun _ l => instr2 d l) fun _ => ?_).trans (Tr.next HT3.out)).trans (Tr.next htr5)
    have := Hr.out
    simp only [Bool.or_eq_true, decide_eq_true_eq] at this
    unfold instr
    rw [kind_at HA.out.1, if_pos this]
   have HV := Hh hv
   clear hs5 hr5 htr5 hv
   go_wp2_with fail
   go_meet
   case rel => exact ⟨s5, dk, dc, dn, dt, Hh ⟨R5.out, HV.out⟩⟩
  | false =>
   obtain ⟨c0, c1, c2, c3⟩ := R2.out.rd.cells
   by_cases k1 : t.kind = 1
   ·have q1 : ((t.kind : Int) == 1) = true := by rw [k1]; rfl
    have hl := R2.out.rd.lt
    have hfew := R2.out.rd.few
    obtain ⟨b, o, rfl, hlt, k0, kt, k2, k3, k4⟩ := R2.out.rd.toks.at HA.out.1
    obtain ⟨a, ha⟩ : ∃ a, s.at_ = a := ⟨_, rfl⟩
    rw [ha] at c1 k0 kt k2 k3 k4 hl
    have l1 : (0 : Int) ≤ (a : Int) := Int.natCast_nonneg _
    have l2 : (a : Int) < (n : Int) := by omega
    have HB := Hh (Ai k1 (Ai ha (Ai hl hfew)))
    have wd := (Below.refl w2.heap.size w2).drew
    obtain ⟨w3, hw3⟩ : ∃ w3, w2.drew = w3 := ⟨_, rfl⟩
    rw [hw3] at wd
    have R3 := Hh (R2.out.below wd)
    have HW3 := Hh hw3
    clear k1 ha hl hfew wd hlt hw3
    go_wp2_with fail
    go_still_tail 14, (by kernel_rfl)
    go_wp2_with fail
    rw [HW3.out]
    refine (rfindop_v _ _).mono ?_
    rintro e w4 ⟨rfl, hb4⟩
    have R4 := Hh (R3.out.below hb4)
    clear hb4 c0 c1 c2 c3 k0 kt k2 k3 k4 l1 l2
    obtain ⟨F, hF⟩ : ∃ F, findOp t.text = F := ⟨_, rfl⟩
    rw [show (ByteArray.data ⟨t.text.toArray⟩).toList = t.text from by simp, hF]
    by_cases hf0 : F = 0
    ·have qf : ((F : Int) == 0) = true := by rw [hf0]; rfl
     have HF := Hh (Ai hF hf0)
     clear hF hf0
     have hn : s.at_ + 1 < n := by
      have := R4.out.rd.ends.more HA.out.1 (by rw [HB.out.1]; decide)
      rwa [R4.out.rd.len] at this
     obtain ⟨c0, c1, c2, c3⟩ := R4.out.rd.cells
     have fz := box_frozen R4.out.rd.box 1
     have q2 : (s.at_ : Int) + 1 = ((s.at_ + 1 : Nat) : Int) := by omega
     have q3 : wrap64 ((s.at_ + 1 : Nat) : Int) = ((s.at_ + 1 : Nat) : Int) := by have := HB.out.2.2.2; unfold wrap64; omega
     have q4 : wrap64 ((s.at_ : Int) + 1) = ((s.at_ + 1 : Nat) : Int) := by rw [q2]; exact q3
     have nx := R4.out.rd.next hn
     obtain ⟨a1, ha1⟩ : ∃ a1, s.at_ + 1 = a1 := ⟨_, rfl⟩
     rw [ha1] at hn q2 q3 q4 nx
     obtain ⟨w5, hw5⟩ : ∃ w5, w4.setCell ⟨p, 1, none⟩ (.int .i64 (a1 : Int)) = w5 := ⟨_, rfl⟩
     rw [hw5] at nx
     have R5 := Hh (R4.out.call nx.1 nx.2)
     have HN := Hh ha1
     clear nx hn
     go_wp2_with fail
     try rw [hw5]
     clear hw5 c0 c1 c2 c3 fz q2 q3 q4 ha1
     obtain ⟨t5, ht5, hwf5⟩ := R5.out.rd.tok
     refine (rBad_v 20 ht5 R5.out.rd).mono ?_
     rintro e w6 ⟨rfl, hs6, hr6⟩
     have RA := Hh (R5.out.call hs6 hr6)
     have HT5 := Hh ht5
     clear hs6 hr6 ht5 hwf5
     have QA := RA.out.b
     unfold icZ at QA
     have QZ := RA.out.z
     unfold icZ at QZ
     obtain ⟨⟨d0, d1, d2, d3, d4, d5, d6, d7, d8, d9⟩, f0, f1, f2, f3, f4, f5, f6, f7, f8, f9⟩ := boxT QA
     obtain ⟨⟨z0, z1, z2, z3, z4, z5, z6, z7, z8, z9⟩, y0, y1, y2, y3, y4, y5, y6, y7, y8, y9⟩ := boxT QZ
     clear QA QZ
     go_wp2_with fail
     have htr : Tr ts instr s (badSt ⟨a1, s.code, s.pos⟩ 20 t5) (⟨0, ⟨0, 0, 0, 0⟩, [], ⟨#[]⟩, 0, [], []⟩ : Ins) := by
      unfold badSt
      rw [if_pos HA.out.2.2.1]
      exact .inr (.inr ⟨HA.out.2.2.1, (show (20 : Int) ≠ 0 by decide), instr_word HA.out.1 HB.out.1 (by rw [HF.out.1]; exact HF.out.2) (by rw [HN.out]; exact HT5.out)⟩)
     have HG := Oy.finI (s := s) (x := ⟨0, ⟨0, 0, 0, 0⟩, [], ⟨#[]⟩, 0, [], []⟩) (r := ⟨none, 0, 0, none, 0, 0, none, 0, 0⟩) RA.out (ins_nil _ _ _ _) htr
     refine fin_ins (fn := Tryz.f84) rfl rfl HG.1 rfl ?_
     exact HG.2
    ·have qf : ((F : Int) == 0) = false := by rw [Bqf]; omega
     have hv : Via ts instr (fun l => instr2 ⟨0, 0, 0, 0⟩ l) s s := by
      refine via_eq fun _ => ?_
      unfold instr
      rw [kind_at HA.out.1, HB.out.1, if_neg (by decide), text_at HA.out.1, hF, if_neg (by omega)]
     have HV := Hh hv
     clear hv hf0
     go_wp2_with fail
     go_meet
     case rel => exact ⟨s, 0, 0, 0, 0, Hh ⟨R4.out, HV.out⟩⟩
   ·have q1 : ((t.kind : Int) == 1) = false := by rw [Bqf]; omega
    have hv : Via ts instr (fun l => instr2 ⟨0, 0, 0, 0⟩ l) s s := by
     refine via_eq fun _ => ?_
     have := Hr.out
     simp only [Bool.or_eq_false_iff, decide_eq_false_iff_not] at this
     unfold instr
     rw [kind_at HA.out.1, if_neg (by omega), if_neg (by omega)]
    have HV := Hh hv
    clear hv k1
    go_wp2_with fail
    go_quiet (fail)
    go_wp2_with fail
    go_meet
    case rel => exact ⟨s, 0, 0, 0, 0, Hh ⟨R2.out.below (below_drewN _ _), HV.out⟩⟩
 obtain ⟨s1, dk, dc, dn, dt, HR⟩ := hcut
 have R := Hh HR.out.1
 have HV := Hh HR.out.2
 clear HR R1 R2 HW Hr
 obtain ⟨w6, hw6⟩ : ∃ w6, wc.alloc (.cells #[.int .i64 0, .string ⟨#[]⟩, .int .i64 0, .int .i64 0, .int .i64 0] 72) = w6 := ⟨_, rfl⟩
 have nb6 := new_box wc _ 72 hw6
 have hJ2 : w.heap.size + 2 ≤ wc.heap.size := R.out.hi
 have r6 := R.out.below nb6.1
 obtain ⟨J, hJ⟩ : ∃ J, wc.heap.size = J := ⟨_, rfl⟩
 rw [hJ] at nb6 hJ2
 have R6 := Hh (Ai r6 (Ai nb6.2 hJ2))
 clear nb6 hJ2 r6
 have HJ := Hh (Ai hw6 hJ)
 obtain ⟨w6b, hw6b⟩ : ∃ w6b, Lex.five w6 J (.int .i64 0) (.string ⟨#[]⟩) (.int .i64 0) (.int .i64 0) (.int .i64 0) = w6b := ⟨_, rfl⟩
 have HJC := Hh R6.out.2.1
 have R6b := Hh (Ai (hw6b ▸ R6.out.1.beyond (Lex.five_below (Below.refl _ w6) R6.out.2.2)) (Ai (hw6b ▸ Lex.five_heap R6.out.2.1) R6.out.2.2))
 clear R6
 have R6 := R6b
 clear R6b
 unfold Lex.five at hw6b
 have HJB := Hh hw6b
 have hnw := HJC.out
 have n0 := cell_in hnw 0
 have n1 := cell_in hnw 1
 have n2 := cell_in hnw 2
 have n3 := cell_in hnw 3
 have n4 := cell_in hnw 4
 have m0 := box_frozen hnw 0
 have m1 := box_frozen hnw 1
 have m2 := box_frozen hnw 2
 have m3 := box_frozen hnw 3
 have m4 := box_frozen hnw 4
 simp only [List.getElem?_toArray, List.getElem?_cons_zero, List.getElem?_cons_succ] at n0 n1 n2 n3 n4
 clear hw6b hnw
 by_cases hc6 : s1.code = 0
 ·have hcb6 : (s1.code == 0) = true := by rw [hc6]; rfl
  have HC6 := Hh (Ai hc6 hcb6)
  clear hc6 hcb6
  go_wp2_with fail
  rw [HJB.out]
  clear hw6 hJ n0 n1 n2 n3 n4 m0 m1 m2 m3 m4
  refine (rok_v true HC6.out.2 R6.out.1.rd).mono ?_
  rintro e w7 ⟨rfl, rfl⟩
  obtain ⟨t6, ht6, hwf6⟩ := R6.out.1.rd.tok
  have HT6 := Hh (Ai ht6 hwf6)
  obtain ⟨c0, c1, c2, c3⟩ := R6.out.1.rd.cells
  obtain ⟨b, o, rfl, hlt, k0, k1, k2, k3, k4⟩ := R6.out.1.rd.toks.at ht6
  have hl := R6.out.1.rd.lt
  have hfew := R6.out.1.rd.few
  obtain ⟨a, ha⟩ : ∃ a, s1.at_ = a := ⟨_, rfl⟩
  rw [ha] at c1 k0 k1 k2 k3 k4 hl
  have l1 : (0 : Int) ≤ (a : Int) := Int.natCast_nonneg _
  have l2 : (a : Int) < (n : Int) := by omega
  have j0 : w6b.cell? ⟨J, 0, none⟩ = some (.int .i64 0) := cell_in R6.out.2.1 0
  have j1 : w6b.cell? ⟨J, 1, none⟩ = some (.string ⟨#[]⟩) := cell_in R6.out.2.1 1
  have j2 : w6b.cell? ⟨J, 2, none⟩ = some (.int .i64 0) := cell_in R6.out.2.1 2
  have j3 : w6b.cell? ⟨J, 3, none⟩ = some (.int .i64 0) := cell_in R6.out.2.1 3
  have j4 : w6b.cell? ⟨J, 4, none⟩ = some (.int .i64 0) := cell_in R6.out.2.1 4
  have g0 := box_frozen R6.out.2.1 0
  have g1 := box_frozen R6.out.2.1 1
  have g2 := box_frozen R6.out.2.1 2
  have g3 := box_frozen R6.out.2.1 3
  have g4 := box_frozen R6.out.2.1 4
  have HAa := Hh (Ai ha (Ai hl hfew))
  clear ht6 hwf6 ha hlt hl hfew
  obtain ⟨w7, hw7⟩ : ∃ w7, Lex.five w6b J (.int .i64 (t6.kind : Int)) (.string ⟨t6.text.toArray⟩) (.int .i64 t6.n) (.int .i64 t6.cls) (.int .i64 t6.at_) = w7 := ⟨_, rfl⟩
  have R7 := Hh (Ai (hw7 ▸ R6.out.1.beyond (Lex.five_below (Below.refl _ w6b) R6.out.2.2)) (hw7 ▸ Lex.five_heap R6.out.2.1))
  have wd6 := (Below.refl w7.heap.size w7).drew
  obtain ⟨w8, hw8⟩ : ∃ w8, w7.drew = w8 := ⟨_, rfl⟩
  rw [hw8] at wd6
  have R8 := Hh (Ai (R7.out.1.below wd6) (kept_box R7.out.2 wd6))
  clear wd6
  go_wp2_with fail
  go_still_tail 10, (by kernel_rfl)
  go_wp2_with fail
  unfold Lex.five at hw7
  rw [hw7, hw8]
  clear c0 c1 c2 c3 k0 k1 k2 k3 k4 j0 j1 j2 j3 j4 g0 g1 g2 g3 g4 l1 l2 hw8 hw7
  have j1 : w8.cell? ⟨J, 1, none⟩ = some (.string ⟨t6.text.toArray⟩) := cell_in R8.out.2 1
  go_wp2_with fail
  refine (rfindop_v _ _).mono ?_
  rintro e w9 ⟨rfl, hb9⟩
  have R9 := Hh (Ai (R8.out.1.below hb9) (kept_box R8.out.2 hb9))
  clear hb9 j1
  obtain ⟨O9, hO⟩ : ∃ O9, findOp t6.text = O9 := ⟨_, rfl⟩
  rw [show (ByteArray.data ⟨t6.text.toArray⟩).toList = t6.text from by simp, hO]
  have HO := Hh hO
  clear hO
  have Q9 := R9.out.1.b
  unfold ic at Q9
  obtain ⟨⟨d0, d1, d2, d3, d4, d5, d6, d7, d8, d9⟩, f0, f1, f2, f3, f4, f5, f6, f7, f8, f9⟩ := boxT Q9
  clear Q9
  obtain ⟨wa, hwa⟩ : ∃ wa, w9.setCell ⟨w.heap.size + 1, 0, none⟩ (.int .i64 (O9 : Int)) = wa := ⟨_, rfl⟩
  have RA := Hh (Ai (hwa ▸ R9.out.1.one0 (.int .i64 (O9 : Int))) (hwa ▸ far_put R9.out.2 (by have := R6.out.2.2; omega)))
  have j0 : wa.cell? ⟨J, 0, none⟩ = some (.int .i64 (t6.kind : Int)) := cell_in RA.out.2 0
  have e0 : wa.cell? ⟨w.heap.size + 1, 0, none⟩ = some (.int .i64 (O9 : Int)) := cell_in RA.out.1.b 0
  have RB := Hh RA.out.1
  clear R R6 R7 R8 R9 RA HJ
  by_cases hok : t6.kind = 1 ∧ O9 ≠ 0
  ·have q1 : ((t6.kind : Int) != 1) = false := by rw [hok.1]; rfl
   have qo : ((O9 : Int) == 0) = false := by rw [Bqf]; have := hok.2; omega
   have HB := Hh hok
   clear hok
   go_wp2_with fail
   refine (rok_v true HC6.out.2 RB.out.rd).mono ?_
   rintro e wb ⟨rfl, rfl⟩
   clear j0 e0 q1 qo hwa
   clear d0 d1 d2 d3 d4 d5 d6 d7 d8 d9 f0 f1 f2 f3 f4 f5 f6 f7 f8 f9
   have hn : s1.at_ + 1 < n := by
    have := RB.out.rd.ends.more HT6.out.1 (by rw [HB.out.1]; decide)
    rwa [RB.out.rd.len] at this
   obtain ⟨c0, c1, c2, c3⟩ := RB.out.rd.cells
   have fz := box_frozen RB.out.rd.box 1
   have nx := RB.out.rd.next hn
   obtain ⟨a1, ha1⟩ : ∃ a1, s1.at_ + 1 = a1 := ⟨_, rfl⟩
   have q2 : (s1.at_ : Int) + 1 = (a1 : Int) := by omega
   have q3 : wrap64 (a1 : Int) = (a1 : Int) := by have := RB.out.rd.few; unfold wrap64; omega
   have q4 : wrap64 ((s1.at_ : Int) + 1) = (a1 : Int) := by rw [q2]; exact q3
   rw [ha1] at nx
   obtain ⟨wn, hwn⟩ : ∃ wn, wa.setCell ⟨p, 1, none⟩ (.int .i64 (a1 : Int)) = wn := ⟨_, rfl⟩
   rw [hwn] at nx
   have RC := Hh (RB.out.call nx.1 nx.2)
   have HN := Hh ha1
   clear nx hn ha1
   have QC := RC.out.b
   obtain ⟨⟨d0, d1, d2, d3, d4, d5, d6, d7, d8, d9⟩, f0, f1, f2, f3, f4, f5, f6, f7, f8, f9⟩ := boxT QC
   clear QC
   go_wp2_with fail
   try rw [hwn]
   clear c0 c1 c2 c3 fz q2 q3 q4
   go_wp2_with fail
   refine (drest_v (o := O9) (by have := HB.out.2; omega) (by rw [← HO.out]; exact find_le _) HA.out.2.1 ⟨dk, dc, dn, dt⟩ RC.out.rd).mono ?_
   rintro e wC ⟨sC, x, val, rfl, hsC, hrC, htrC, r', rfl, hheld⟩
   clear hwn
   have RD := Hh (RC.out.call hsC hrC)
   have HD := Hh (Ai htrC (Ai hheld RC.out.hi))
   clear hsC hrC htrC hheld
   clear d0 d1 d2 d3 d4 d5 d6 d7 d8 d9 f0 f1 f2 f3 f4 f5 f6 f7 f8 f9
   have QD := RD.out.b
   obtain ⟨⟨d0, d1, d2, d3, d4, d5, d6, d7, d8, d9⟩, f0, f1, f2, f3, f4, f5, f6, f7, f8, f9⟩ := boxT QD
   clear QD
   obtain ⟨wD, hwD⟩ : ∃ wD, ten wC (w.heap.size + 1) (.int .i64 (O9 : Int)) (.int .i64 dk) (.int .i64 dc) (.int .i64 dn) (.int .i64 dt) (.slice r'.aa r'.an r'.ac) (.string x.name) (.int .i64 x.off) (.slice r'.la r'.ln r'.lc) (.slice r'.ca r'.cn r'.cc) = wD := ⟨_, rfl⟩
   have RE := Hh (Ai (hwD ▸ RD.out.ten1 (.int .i64 (O9 : Int)) (.int .i64 dk) (.int .i64 dc) (.int .i64 dn) (.int .i64 dt) (.slice r'.aa r'.an r'.ac) (.string x.name) (.int .i64 x.off) (.slice r'.la r'.ln r'.lc) (.slice r'.ca r'.cn r'.cc)) (hwD ▸ ten_agree1 wC (w.heap.size + 1) _ _ _ _ _ _ _ _ _ _ : Agree (fun k => w.heap.size + 2 ≤ k) wC wD))
   unfold insR
   go_wp2_with fail
   unfold ten at hwD
   try rw [hwD]
   clear hwD
   clear d0 d1 d2 d3 d4 d5 d6 d7 d8 d9 f0 f1 f2 f3 f4 f5 f6 f7 f8 f9
   refine (rmust_v ⟨#[59]⟩ RE.out.1.rd).mono ?_
   rintro e wE ⟨sE, rfl, hsE, hrE, htrE⟩
   have hH : Held (fun k => w.heap.size + 2 ≤ k) wE fun W => IsIns W ⟨(O9 : Int), ⟨dk, dc, dn, dt⟩, x.args, x.name, x.off, x.labels, x.cases⟩ r' := by
    refine (((HD.out.2.1.weak fun k _ hk => ?_).keep RE.out.2).keep ⟨hsE.size, fun k hk hs => hsE.2.2.2.2 k hk (by have := RE.out.1.plt; omega)⟩)
    have := HD.out.2.2
    omega
   have hT : Tr ts instr s sE ⟨(O9 : Int), ⟨dk, dc, dn, dt⟩, x.args, x.name, x.off, x.labels, x.cases⟩ := by
    refine HV.out.tr (Via.tr (k := fun l => (rest O9 l).bind fun x r => (must [59] r).bind fun _ r => .ok ⟨(O9 : Int), ⟨dk, dc, dn, dt⟩, x.args, x.name, x.off, x.labels, x.cases⟩ r) (s1 := ⟨a1, s1.code, s1.pos⟩) (.inr (.inl ⟨HC6.out.1, HC6.out.1, ?_⟩)) (Via.tr (Tr.next HD.out.1) (Tr.map htrE fun _ => _)))
    show instr2 _ _ = _
    rw [instr2_go HT6.out.1 HB.out.1 HO.out HB.out.2, HN.out]
   have RF := Hh (Ai (RE.out.1.call hsE hrE) (Ai hH hT))
   clear hsE hrE htrE hH hT
   have QF := RF.out.1.b
   obtain ⟨⟨d0, d1, d2, d3, d4, d5, d6, d7, d8, d9⟩, f0, f1, f2, f3, f4, f5, f6, f7, f8, f9⟩ := boxT QF
   clear QF
   have QZ := RF.out.1.z
   unfold icZ at QZ
   obtain ⟨⟨z0, z1, z2, z3, z4, z5, z6, z7, z8, z9⟩, y0, y1, y2, y3, y4, y5, y6, y7, y8, y9⟩ := boxT QZ
   clear QZ
   go_wp2_with fail
   have HG := Oy.finI (s := s) (x := ⟨(O9 : Int), ⟨dk, dc, dn, dt⟩, x.args, x.name, x.off, x.labels, x.cases⟩) (r := r') RF.out.1 RF.out.2.1 RF.out.2.2
   refine fin_ins (fn := Tryz.f84) rfl rfl HG.1 rfl ?_
   exact HG.2
  ·have HB : Hid (¬ (t6.kind = 1 ∧ findOp t6.text ≠ 0)) := Hh (by rw [HO.out]; exact hok)
   by_cases k1 : t6.kind = 1
   ·have q1 : ((t6.kind : Int) != 1) = false := by rw [k1]; rfl
    have qo : ((O9 : Int) == 0) = true := by
     rw [beq_iff_eq]
     rcases Nat.eq_zero_or_pos O9 with e | e
     ·omega
     ·exact absurd ⟨k1, by omega⟩ hok
    clear hok k1
    go_wp2_with fail
    refine (rBad_v 20 HT6.out.1 RB.out.rd).mono ?_
    rintro e wA ⟨rfl, hsA, hrA⟩
    have RC := Hh (RB.out.call hsA hrA)
    clear hsA hrA j0 e0 hwa
    clear d0 d1 d2 d3 d4 d5 d6 d7 d8 d9 f0 f1 f2 f3 f4 f5 f6 f7 f8 f9
    go_wp2_with fail
    refine (rok_v false (bad_code 20 (by decide) HC6.out.1) RC.out.rd).mono ?_
    rintro e wB ⟨rfl, rfl⟩
    have QC := RC.out.b
    have QZ := RC.out.z
    unfold icZ at QZ
    obtain ⟨⟨d0, d1, d2, d3, d4, d5, d6, d7, d8, d9⟩, f0, f1, f2, f3, f4, f5, f6, f7, f8, f9⟩ := boxT QC
    obtain ⟨⟨z0, z1, z2, z3, z4, z5, z6, z7, z8, z9⟩, y0, y1, y2, y3, y4, y5, y6, y7, y8, y9⟩ := boxT QZ
    clear QC QZ
    go_wp2_with fail
    have HG := Oy.finI (s := s) (x := ⟨(O9 : Int), ⟨dk, dc, dn, dt⟩, [], ⟨#[]⟩, 0, [], []⟩) (r := ⟨none, 0, 0, none, 0, 0, none, 0, 0⟩) RC.out (ins_nil _ _ _ _) (HV.out.tr (bad_new 20 (by decide) HC6.out.1 (instr2_bad HT6.out.1 HB.out)))
    refine fin_ins (fn := Tryz.f84) rfl rfl HG.1 rfl ?_
    exact HG.2
   ·have q1 : ((t6.kind : Int) != 1) = true := by rw [bne_iff_ne]; omega
    clear hok k1
    go_wp2_with fail
    refine (rBad_v 20 HT6.out.1 RB.out.rd).mono ?_
    rintro e wA ⟨rfl, hsA, hrA⟩
    have RC := Hh (RB.out.call hsA hrA)
    clear hsA hrA j0 e0 hwa
    clear d0 d1 d2 d3 d4 d5 d6 d7 d8 d9 f0 f1 f2 f3 f4 f5 f6 f7 f8 f9
    go_wp2_with fail
    refine (rok_v false (bad_code 20 (by decide) HC6.out.1) RC.out.rd).mono ?_
    rintro e wB ⟨rfl, rfl⟩
    have QC := RC.out.b
    have QZ := RC.out.z
    unfold icZ at QZ
    obtain ⟨⟨d0, d1, d2, d3, d4, d5, d6, d7, d8, d9⟩, f0, f1, f2, f3, f4, f5, f6, f7, f8, f9⟩ := boxT QC
    obtain ⟨⟨z0, z1, z2, z3, z4, z5, z6, z7, z8, z9⟩, y0, y1, y2, y3, y4, y5, y6, y7, y8, y9⟩ := boxT QZ
    clear QC QZ
    go_wp2_with fail
    have HG := Oy.finI (s := s) (x := ⟨(O9 : Int), ⟨dk, dc, dn, dt⟩, [], ⟨#[]⟩, 0, [], []⟩) (r := ⟨none, 0, 0, none, 0, 0, none, 0, 0⟩) RC.out (ins_nil _ _ _ _) (HV.out.tr (bad_new 20 (by decide) HC6.out.1 (instr2_bad HT6.out.1 HB.out)))
    refine fin_ins (fn := Tryz.f84) rfl rfl HG.1 rfl ?_
    exact HG.2
 ·have hcb6 : (s1.code == 0) = false := by rw [Bqf]; exact hc6
  have HC6 := Hh (Ai hc6 hcb6)
  clear hc6 hcb6
  go_wp2_with fail
  rw [HJB.out]
  clear hw6 hJ n0 n1 n2 n3 n4 m0 m1 m2 m3 m4
  refine (rok_v false HC6.out.2 R6.out.1.rd).mono ?_
  rintro e w7 ⟨rfl, rfl⟩
  go_wp2_with fail
  refine (rok_v false HC6.out.2 R6.out.1.rd).mono ?_
  rintro e w8 ⟨rfl, rfl⟩
  have QC := R6.out.1.b
  unfold ic at QC
  have QZ := R6.out.1.z
  unfold icZ at QZ
  obtain ⟨⟨d0, d1, d2, d3, d4, d5, d6, d7, d8, d9⟩, f0, f1, f2, f3, f4, f5, f6, f7, f8, f9⟩ := boxT QC
  obtain ⟨⟨z0, z1, z2, z3, z4, z5, z6, z7, z8, z9⟩, y0, y1, y2, y3, y4, y5, y6, y7, y8, y9⟩ := boxT QZ
  clear QC QZ
  go_wp2_with fail
  have HG := Oy.finI (s := s) (x := ⟨0, ⟨dk, dc, dn, dt⟩, [], ⟨#[]⟩, 0, [], []⟩) (r := ⟨none, 0, 0, none, 0, 0, none, 0, 0⟩) R6.out.1 (ins_nil _ _ _ _) (HV.out.stuck HC6.out.1)
  refine fin_ins (fn := Tryz.f84) rfl rfl HG.1 rfl ?_
  exact HG.2
end
end Go.Proofs.YtbpichjmkllfaaaGreatDoor.Par
