/- Packed texts of one proof. Conditions: none. -/
import Derived.Test.YtbpichjmkllfaaaGreatDoorPq18
namespace Go.Proofs.YtbpichjmkllfaaaGreatDoor.Par
open Go.ChangeShapes Go.WideShapes Go.RowKit
open Lex (Tok tcl tkv tk tc)
set_option linter.unusedVariables false
set_option maxRecDepth 20000
theorem ledge_v (a b : ByteArray) (w : World) (h : a.size + b.size ≤ 1000000) : Calls Tryz.prog 142 #[.string a, .string b] w fun e w' => e = .returned (.string ⟨(a.data.toList ++ 46 :: b.data.toList).toArray⟩) ∧ w = w' := by
 have hX : a ++ (⟨#[46]⟩ : ByteArray) ++ b = ⟨(a.data.toList ++ 46 :: b.data.toList).toArray⟩ := by
  apply ByteArray.ext
  rw [ByteArray.data_append, ByteArray.data_append]
  apply Array.ext'
  simp
 rw [← hX]
 obtain ⟨X, hX⟩ : ∃ X : ByteArray, a ++ (⟨#[46]⟩ : ByteArray) = X := ⟨_, rfl⟩
 have hXz : X.size = a.size + 1 := by rw [← hX, ByteArray.size_append]; rfl
 obtain ⟨Y, hY⟩ : ∃ Y : ByteArray, X ++ b = Y := ⟨_, rfl⟩
 have e1 := Lex.add_run a ⟨#[46]⟩ X (by show a.size + 1 ≤ _; omega) hX
 have e2 := Lex.add_run X b Y (by omega) hY
 rw [hX, hY]
 clear hX hY hXz
 go_enter Tryz.func142, Tryz.ntmps142
 go_wp2_with fail
 go_ret
 exact ⟨rfl, rfl⟩
section
variable {w : World} {p g n cp : Nat} {ts : List Tok} {a : Nat}
theorem word_text {l r : List Tok} {s : List UInt8} (h : word l = .ok s r) : ∃ t ∈ l, t.text = s ∧ l = t :: r := by
 unfold word at h
 obtain ⟨t, r', h1, h2⟩ := bind_ok h
 injection h2 with h2 h3
 subst h3
 obtain ⟨h4, h5⟩ := ofk_ok h1
 exact ⟨t, by rw [h4]; simp, h2, h4⟩
theorem Lr.wordShort (h : Lr w p g n cp ts a) {b : Nat} {s : List UInt8} {r : List Tok} (hw : word (ts.drop b) = .ok s r) : s.length ≤ 70000 := by
 obtain ⟨t, ht, rfl, _⟩ := word_text hw
 exact h.short t (List.mem_of_mem_drop ht)
set_option maxHeartbeats 1000000 in
theorem llab_v (h : Lr w p g n cp ts a) : Calls Tryz.prog 158 #[.pointer (some ⟨p, 0, none⟩)] w (LP w p g n cp ts a label fun _ s val => val = .string ⟨s.toArray⟩) := by
 have hlab : ∀ l, label l = (word l).bind fun s l => if isB l [46] = true then (word l.tail).bind fun u l => .ok (s ++ 46 :: u) l else .ok s l := by
  intro l
  unfold label word
  cases ofk 1 l with
  | bad c q => rfl
  | ok t r =>
   simp only [Res.bind]
   split
   ·cases ofk 1 r.tail <;> rfl
   ·rfl
 have HA := Hh (Ai h hlab)
 clear h hlab
 go_enter Tryz.func158, Tryz.ntmps158
 go_wp2_with fail
 refine (lword_v HA.out.1).mono ?_
 rintro e w1 ⟨hs, ⟨s, a1, val, hm, rfl, rfl, hl⟩ | ⟨c, q, hc, hm, rfl⟩⟩
 ·have HB := Hh (Ai hs (Ai hm hl))
  clear hs hm hl
  go_wp2_with fail
  cases hr : isB (ts.drop a1) [46] with
  | false =>
   refine (lmay_no ⟨#[46]⟩ hr HB.out.2.2).mono ?_
   rintro e w2 ⟨rfl, hb2⟩
   have HC := Hh (Ai hb2 hr)
   clear hb2 hr
   go_wp2_with fail
   go_ret
   refine ⟨HB.out.1.trans (Step.of (HC.out.1.mono HB.out.1.size)), Or.inl ⟨s, a1, _, ?_, rfl, rfl, HB.out.2.2.below HC.out.1⟩⟩
   rw [HA.out.2, HB.out.2.1]
   show (if isB (ts.drop a1) [46] = true then _ else _) = _
   rw [HC.out.2]
   rfl
  | true =>
   refine (lmay_yes ⟨#[46]⟩ hr HB.out.2.2).mono ?_
   rintro e w2 ⟨rfl, hs, hl⟩
   have HC := Hh (Ai hs (Ai hr hl))
   clear hs hr hl
   go_wp2_with fail
   refine (lword_v HC.out.2.2).mono ?_
   rintro e w3 ⟨hs, ⟨u, a2, val, hm, rfl, rfl, hl⟩ | ⟨c, q, hc, hm, rfl⟩⟩
   ·have HD := Hh (Ai hs (Ai hm hl))
    clear hs hm hl
    go_wp2_with fail
    have l1 := HA.out.1.wordShort HB.out.2.1
    have l2 := HA.out.1.wordShort HD.out.2.1
    refine (ledge_v ⟨s.toArray⟩ ⟨u.toArray⟩ w3 (by show s.toArray.size + u.toArray.size ≤ _; simp only [List.size_toArray]; omega)).mono ?_
    rintro e w4 ⟨rfl, rfl⟩
    clear l1 l2
    go_wp2_with fail
    go_ret
    refine ⟨HB.out.1.trans ((HC.out.1.mono HB.out.1.size).trans (HD.out.1.mono (Nat.le_trans HB.out.1.size HC.out.1.size))), Or.inl ⟨s ++ 46 :: u, a2, _, ?_, rfl, rfl, HD.out.2.2⟩⟩
    rw [HA.out.2, HB.out.2.1]
    show (if isB (ts.drop a1) [46] = true then _ else _) = _
    rw [HC.out.2.1, if_pos rfl, tail_at, HD.out.2.1]
    rfl
   ·go_wp2_with fail
    refine ⟨rfl, HB.out.1.trans ((HC.out.1.mono HB.out.1.size).trans (hs.mono (Nat.le_trans HB.out.1.size HC.out.1.size))), Or.inr ⟨c, q, hc, ?_, rfl⟩⟩
    rw [HA.out.2, HB.out.2.1]
    show (if isB (ts.drop a1) [46] = true then _ else _) = _
    rw [HC.out.2.1, if_pos rfl, tail_at, hm]
    rfl
 ·go_wp2_with fail
  refine ⟨rfl, hs, Or.inr ⟨c, q, hc, ?_, rfl⟩⟩
  rw [HA.out.2, hm]
  rfl
theorem edgeL_wf (h : Lr w p g n cp ts a) (he : isB (ts.drop a) edgeL = true) : kindOf (ts.drop a) = 1 := by
 obtain ⟨t, ht, hw⟩ := h.tok
 rw [isB_at _ ht] at he
 rw [kind_at ht]
 exact isT_word hw (by decide) he
theorem ledg_v (r : Bool) (hr : edgeB (ts.drop a) = r) (h : Lr w p g n cp ts a) : Calls Tryz.prog 141 #[.pointer (some ⟨p, 0, none⟩)] w fun e w' => e = .returned (.bool r) ∧ Below w.heap.size w w' := by
 have F0 := field0
 cases he : isB (ts.drop a) edgeL with
 | false =>
  have : r = false := by rw [← hr]; unfold edgeB; rw [he]; simp
  subst this
  have HA := Hh (Ai h he)
  clear h he hr
  go_enter Tryz.func141, Tryz.ntmps141
  go_wp2_with fail
  refine (lis_v ⟨#[101, 100, 103, 101]⟩ false HA.out.2 HA.out.1).mono ?_
  rintro e w1 ⟨rfl, hb⟩
  go_wp2_with fail
  go_ret
  exact ⟨rfl, hb⟩
 | true =>
  have hn := h.isMore he
  have hk := edgeL_wf h he
  have ht : ts[a + 1]? = some (ts[a + 1]'(by rw [h.len]; exact hn)) := List.getElem?_eq_getElem _
  obtain ⟨t, htt⟩ : ∃ t, (ts[a + 1]'(by rw [h.len]; exact hn)) = t := ⟨_, rfl⟩
  rw [htt] at ht
  have h1 : ((t.kind : Int) == 1) = r := by
   rw [← hr]
   unfold edgeB
   rw [hk, he, tail_at, kind_at ht, Bool.eq_iff_iff]
   simp
   omega
  obtain ⟨K, hK⟩ : ∃ K : Int, (t.kind : Int) = K := ⟨_, rfl⟩
  rw [hK] at h1
  have HA := Hh (Ai h (Ai he (Ai ht hK)))
  clear h he hr hn hk ht htt hK
  go_enter Tryz.func141, Tryz.ntmps141
  go_wp2_with fail
  refine (lis_v ⟨#[101, 100, 103, 101]⟩ true HA.out.2.1 HA.out.1).mono ?_
  rintro e w1 ⟨rfl, hb⟩
  have HB := Hh hb
  clear hb
  go_wp2_with fail
  refine (lbeh_v HA.out.2.2.1 (HA.out.1.below HB.out)).mono ?_
  rintro e w2 ⟨rfl, hb⟩
  have HC := Hh hb
  clear hb
  unfold tkv
  rw [HA.out.2.2.2]
  go_wp2_with fail
  go_ret
  exact ⟨by first | rw [h1] | rfl, HB.out.trans (HC.out.mono HB.out.size)⟩
end
structure RowK {α : Type} (T st : TypeId) (sz : Nat) (cs : α → List Value) : Prop where
 under : Tryz.prog.underlying st = some (.slice T)
 info : ∃ i z, Tryz.prog.info? T = some i ∧ i.zero = some z ∧ i.size = sz ∧ i.bytes ≤ 1000000 ∧ z.cells.size = sz
 pos : 0 < sz
 len : ∀ x, (cs x).length = sz
 one : ∀ x, ∀ u ∈ cs x, u.oneCell' = true
theorem info_of {T : TypeId} {z : Value} {sz by_ : Nat} (h : (Tryz.prog.info? T).map (fun i => (i.zero, i.size, i.bytes)) = some (some z, sz, by_)) (hb : by_ ≤ 1000000) (hz : z.cells.size = sz) :
  ∃ i z, Tryz.prog.info? T = some i ∧ i.zero = some z ∧ i.size = sz ∧ i.bytes ≤ 1000000 ∧ z.cells.size = sz := by
 obtain ⟨i, h1, h2⟩ := Option.map_eq_some_iff.1 h
 injection h2 with h2 h3
 injection h3 with h3 h4
 exact ⟨i, z, h1, h2, h3, by rw [h4]; exact hb, hz⟩
theorem rowOp : RowK 64 24 4 Opn.cs := ⟨Tryz.underlying24, info_of (z := .agg #[.int .i64 0, .int .i64 0, .int .i64 0, .int .i64 0]) (sz := 4) (by_ := 32) (by kernel_rfl) (by decide) rfl, by decide, fun x => rfl, fun x u hu => by simp [Opn.cs] at hu; rcases hu with rfl | rfl | rfl | rfl <;> rfl⟩
theorem rowRg : RowK 81 23 2 Rg.cs := ⟨Tryz.underlying23, info_of (z := .agg #[.int .i64 0, .int .i64 0]) (sz := 2) (by_ := 16) (by kernel_rfl) (by decide) rfl, by decide, fun x => rfl, fun x u hu => by simp [Rg.cs] at hu; rcases hu with rfl | rfl <;> rfl⟩
theorem rowStr : RowK 9 35 1 strC := ⟨Tryz.underlying35, info_of (z := .string ⟨#[]⟩) (sz := 1) (by_ := 16) (by kernel_rfl) (by decide) rfl, by decide, fun x => rfl, fun x u hu => by simp [strC] at hu; rw [hu]; rfl⟩
theorem rowInt : RowK 3 65 1 intC := ⟨Tryz.underlying65, info_of (z := .int .i64 0) (sz := 1) (by_ := 8) (by kernel_rfl) (by decide) rfl, by decide, fun x => rfl, fun x u hu => by simp [intC] at hu; rw [hu]; rfl⟩
theorem infoIns : (Tryz.prog.info? 67).map (fun i => (i.zero, i.size, decide (i.bytes ≤ 1000000))) = some (some (.agg #[.int .i64 0, .int .i64 0, .int .i64 0, .int .i64 0, .int .i64 0, .slice none 0 0, .string ⟨#[]⟩, .int .i64 0, .slice none 0 0, .slice none 0 0]), 10, true) := by kernel_rfl
theorem infoBlk : (Tryz.prog.info? 62).map (fun i => (i.zero, i.size, decide (i.bytes ≤ 1000000))) = some (some (.agg #[.string ⟨#[]⟩, .bool false, .slice none 0 0, .slice none 0 0]), 4, true) := by kernel_rfl
theorem info_of2 {T : TypeId} {z : Value} {sz : Nat} (h : (Tryz.prog.info? T).map (fun i => (i.zero, i.size, decide (i.bytes ≤ 1000000))) = some (some z, sz, true)) (hz : z.cells.size = sz) :
  ∃ i z, Tryz.prog.info? T = some i ∧ i.zero = some z ∧ i.size = sz ∧ i.bytes ≤ 1000000 ∧ z.cells.size = sz := by
 obtain ⟨i, h1, h2⟩ := Option.map_eq_some_iff.1 h
 injection h2 with h2 h3
 injection h3 with h3 h4
 exact ⟨i, z, h1, h2, h3, of_decide_eq_true h4, hz⟩
theorem rowIns : RowK 67 60 10 insC := ⟨Tryz.underlying60, info_of2 infoIns rfl, by decide, fun x => rfl, fun x u hu => by simp [insC, insR] at hu; rcases hu with rfl | rfl | rfl | rfl | rfl | rfl | rfl | rfl | rfl | rfl <;> rfl⟩
theorem rowBlk : RowK 62 25 4 blkC := ⟨Tryz.underlying25, info_of2 infoBlk rfl, by decide, fun x => rfl, fun x u hu => by simp [blkC, blkR] at hu; rcases hu with rfl | rfl | rfl | rfl <;> rfl⟩
section
variable {α : Type} {T st : TypeId} {sz : Nat} {cs : α → List Value}
theorem own_first (hK : RowK T st sz cs) {N b : Nat} {W : World} {r : α} (hb : W.heap[b]? = some (.cells (cs r).toArray T (0, 0))) (hN : N ≤ b) : OwnL T sz cs N W (some ⟨b, 0, none⟩) 1 [r] := by
 refine ⟨by simp [hK.len], .inr ⟨b, 1, (cs r).toArray, rfl, hN, hb, Nat.le_refl _, by unfold maxLen; omega, by simp [hK.len], ?_⟩⟩
 simp
 rw [List.take_of_length_le (by rw [hK.len]; exact Nat.le_refl _)]
theorem own_app (hK : RowK T st sz cs) {W : World} {ops : Array Oper} {rest : List Oper} {o : Oper} {a : Act} {Q : Exit → Act → World → Prop} (hgd : o.guard = none) (s x : Operand)
  (ho : o.op = .call { callee := .builtin .append, args := #[s, x], argTypes := #[st, st] })
  {N : Nat} {A : Option Addr} {c m : Nat} {l : List α} (hm : l.length = m) (hs : a.eval s = .slice A m c) (hown : OwnL T sz cs N W A c l) (b : Nat) (r : α) (hx : a.eval x = .slice (some ⟨b, 0, none⟩) 1 1)
  (hb : W.heap[b]? = some (.cells (cs r).toArray T (0, 0))) (hlen : m ≤ 2000000) (hN : N ≤ W.heap.size)
  (h : ∀ g c' w', OwnL T sz cs N w' (some ⟨g, 0, none⟩) c' (l ++ [r]) → W.grownBy w' (Value.ownBlock (.slice A m c)) → wpList Tryz.prog ops Q rest (a.put o.dst (.slice (some ⟨g, 0, none⟩) (l ++ [r]).length c')) w') : wpList Tryz.prog ops Q (o :: rest) a W := by
 obtain ⟨i, z, hi, hz, hz1, hz2, hz3⟩ := hK.info
 subst hm
 refine wpList_append_own W hgd s x st ho N T i z sz i.bytes hK.under hi hz hz1 rfl hz3 hK.pos (.slice A l.length c) l.length (l.flatMap cs) hs hown ⟨b, 0, none⟩ 1 1 (cs r) hx (by rw [hK.len, Nat.one_mul]) ?_ (hK.one r) (by unfold maxLen; omega) ?_ hN ?_
 ·intro j u hu
  have hj : (⟨b, 0, none⟩ : Addr).add j = ⟨b, j, none⟩ := by rw [add_at]; simp
  rw [hj, cell_in hb j]
  simpa using hu
 ·have h1 : (l.length + 1) * i.bytes ≤ 2000001 * 1000000 := Nat.mul_le_mul (by omega) hz2
  omega
 ·intro v' w' ho' hg _
  obtain ⟨g, cap, rfl, _, _⟩ := World.ownsRow.form ho' (by omega)
  have := own_more ho' rfl
  have e : (l ++ [r]).length = l.length + 1 := by simp
  have h' := h g cap w' this hg
  rw [e] at h'
  exact h'
end
section
variable {w : World} {p g n cp : Nat} {ts : List Tok} {a : Nat}
theorem lhead_v (r : Bool) (hr : begins (ts.drop a) = r) (h : Lr w p g n cp ts a) : Calls Tryz.prog 121 #[.pointer (some ⟨p, 0, none⟩)] w fun e w' => e = .returned (.bool r) ∧ Below w.heap.size w w' := by
 have F0 := field0
 obtain ⟨t, ht, _⟩ := h.tok
 by_cases hk : t.kind = 1
 ·have hn := h.more ht (by omega)
  have hu : ts[a + 1]? = some (ts[a + 1]'(by rw [h.len]; exact hn)) := List.getElem?_eq_getElem _
  obtain ⟨u, huu⟩ : ∃ u, (ts[a + 1]'(by rw [h.len]; exact hn)) = u := ⟨_, rfl⟩
  rw [huu] at hu
  obtain ⟨b1, h1⟩ : ∃ b, Fol.isT u [58] = b := ⟨_, rfl⟩
  obtain ⟨b2, h2⟩ : ∃ b, Fol.isT u [91] = b := ⟨_, rfl⟩
  obtain ⟨b3, h3⟩ : ∃ b, edgeB (ts.drop a) = b := ⟨_, rfl⟩
  have hb : r = (b1 || (b2 || b3)) := by
   rw [← hr]
   unfold begins
   rw [kind_at ht, hk, tail_at, isB_at _ hu, isB_at _ hu, h1, h2, h3]
   simp
  have hk1 : ((t.kind : Int)) = 1 := by omega
  have HA := Hh (Ai h (Ai ht (Ai hu (Ai h1 (Ai h2 (Ai h3 hk1))))))
  clear h ht hu h1 h2 h3 hk1 hr hn huu
  subst hb
  go_enter Tryz.func121, Tryz.ntmps121
  go_wp2_with fail
  refine (ltok_v HA.out.2.1 HA.out.1).mono ?_
  rintro e w1 ⟨rfl, hb1⟩
  have HB := Hh hb1
  clear hb1
  unfold tkv
  rw [HA.out.2.2.2.2.2.2]
  go_wp2_with fail
  refine (lbeh_v HA.out.2.2.1 (HA.out.1.below HB.out)).mono ?_
  rintro e w2 ⟨rfl, hb2⟩
  have HC := Hh (HB.out.trans (hb2.mono HB.out.size))
  clear hb2
  go_wp2_with fail
  refine (Fol.is_v u ⟨#[58]⟩ b1 HA.out.2.2.2.1 w2).mono ?_
  rintro e w3 ⟨rfl, hb3⟩
  have HD := Hh (HC.out.trans (hb3.mono HC.out.size))
  clear hb3
  cases b1 with
  | true =>
   go_wp2_with fail
   go_ret
   exact ⟨rfl, HD.out⟩
  | false =>
   go_wp2_with fail
   refine (lbeh_v HA.out.2.2.1 (HA.out.1.below HD.out)).mono ?_
   rintro e w4 ⟨rfl, hb4⟩
   have HE := Hh (HD.out.trans (hb4.mono HD.out.size))
   clear hb4
   go_wp2_with fail
   refine (Fol.is_v u ⟨#[91]⟩ b2 HA.out.2.2.2.2.1 w4).mono ?_
   rintro e w5 ⟨rfl, hb5⟩
   have HF := Hh (HE.out.trans (hb5.mono HE.out.size))
   clear hb5
   cases b2 with
   | true =>
    go_wp2_with fail
    go_ret
    exact ⟨rfl, HF.out⟩
   | false =>
    go_wp2_with fail
    refine (ledg_v b3 HA.out.2.2.2.2.2.1 (HA.out.1.below HF.out)).mono ?_
    rintro e w6 ⟨rfl, hb6⟩
    have HG := Hh (HF.out.trans (hb6.mono HF.out.size))
    clear hb6
    go_wp2_with fail
    go_ret
    exact ⟨rfl, HG.out⟩
 ·have hk1 : ((t.kind : Int) != 1) = true := by simp; omega
  have hb : r = false := by
   rw [← hr]
   unfold begins
   rw [kind_at ht]
   simp [hk]
  subst hb
  have HA := Hh (Ai h ht)
  clear h ht hr
  go_enter Tryz.func121, Tryz.ntmps121
  go_wp2_with fail
  refine (ltok_v HA.out.2 HA.out.1).mono ?_
  rintro e w1 ⟨rfl, hb1⟩
  have HB := Hh hb1
  clear hb1
  unfold tkv
  go_wp2_with fail
  go_ret
  exact ⟨rfl, HB.out⟩
end
section
variable {w : World} {p g n cp : Nat} {ts : List Tok} {a : Nat}
def OwnV {α : Type} (T : TypeId) (sz : Nat) (cs : α → List Value) (N : Nat) (w : World) (l : List α) (val : Value) : Prop := ∃ A c, val = .slice A l.length c ∧ OwnL T sz cs N w A c l
def RowP (w : World) (p g n cp : Nat) (ts : List Tok) (a : Nat) (e : Ending) (w' : World) : Prop :=
 Step w.heap.size p w w' ∧ ((∃ xs a' A c, (∀ x, ops x [] (ts.drop a) = (must x (ts.drop a')).bind fun _ r => .ok xs r) ∧ xs.length ≤ n ∧ e = .returned (.slice A xs.length c) ∧ OwnL 64 4 Opn.cs w.heap.size w' A c xs ∧ Lr w' p g n cp ts a') ∨
  ∃ c q, c ≠ 0 ∧ (∀ x, ops x [] (ts.drop a) = .bad c q) ∧ e = .panicked [gave c q])
structure RowI (w W : World) (p g n cp : Nat) (ts : List Tok) (a a' : Nat) (acc : List Opn) (A : Option Addr) (c : Nat) : Prop where
 step : Step w.heap.size p w W
 own : OwnL 64 4 Opn.cs w.heap.size W A c acc
 rd : Lr W p g n cp ts a'
 eq : ∀ x, ops x [] (ts.drop a) = if isB (ts.drop a') [44] = true then ops x acc (ts.drop a').tail else (must x (ts.drop a')).bind fun _ r => .ok acc r
 far : acc.length ≤ a'
theorem own_step {α : Type} {T : TypeId} {sz : Nat} {cs : α → List Value} {w W W' : World} {A : Option Addr} {c p : Nat} {l : List α} (h : OwnL T sz cs w.heap.size W A c l) (hs : Step W.heap.size p W W') (hp : p < w.heap.size) : OwnL T sz cs w.heap.size W' A c l := h.step hs hp
theorem Lr.grown {W W' : World} {row : Option Nat} (h : Lr W p g n cp ts a) (hg : W.grownBy W' row) {N : Nat} (hN : N ≤ W.heap.size) (hr : ∀ k, row = some k → N ≤ k) (hp : p < N) (hgN : g < N) : Lr W' p g n cp ts a :=
 h.far ((Below.refl N W).grown hg hN hr) hp hgN
theorem row_more {x : List UInt8} {acc : List Opn} {a1 : Nat} {y : Opn} {a2 : Nat} (hb : operand (ts.drop a1) = .ok y (ts.drop a2)) :
  ops x acc (ts.drop a1) = if isB (ts.drop a2) [44] = true then ops x (acc ++ [y]) (ts.drop a2).tail else (must x (ts.drop a2)).bind fun _ r => .ok (acc ++ [y]) r := by
 rw [ops_eq, hb]
 rfl
theorem row_bad {x : List UInt8} {acc : List Opn} {a1 : Nat} {c : Int} {q : Nat} (hb : operand (ts.drop a1) = .bad c q) : ops x acc (ts.drop a1) = .bad c q := by
 rw [ops_eq, hb]
 rfl
theorem drop_lt {a b : Nat} (h : Sub1 (ts.drop a) (ts.drop b)) (ha : a < ts.length) : a < b := by
 have := h.2
 rw [List.length_drop, List.length_drop] at this
 omega
set_option maxHeartbeats 1000000 in
theorem lrow_v (h : Lr w p g n cp ts a) : Calls Tryz.prog 116 #[.pointer (some ⟨p, 0, none⟩)] w (RowP w p g n cp ts a) := by
 have HA := Hh h
 clear h
 go_enter Tryz.func116, Tryz.ntmps116
 go_wp2_with fail
 refine (lop_v HA.out).mono ?_
 rintro e w1 ⟨hs, ⟨x, a1, val, hm, rfl, rfl, hl⟩ | ⟨c, q, hc, hm, rfl⟩⟩
 ·obtain ⟨w2, hw2⟩ : ∃ w2, w1.alloc (.cells #[.int .i64 x.k, .int .i64 x.c, .int .i64 x.n, .int .i64 x.t] 64) = w2 := ⟨_, rfl⟩
  have nb := new_box w1 _ 64 hw2
  have hlt := drop_lt (operand_sub hm) (by rw [HA.out.len]; exact HA.out.lt)
  have hI : RowI w w2 p g n cp ts a a1 [x] (some ⟨w1.heap.size, 0, none⟩) 1 := ⟨hs.trans ((Step.of nb.1).mono hs.size), own_first rowOp nb.2 hs.size, hl.below nb.1, fun y => row_more (acc := []) hm, by show 1 ≤ a1; omega⟩
  have HI := Hh hI
  clear hs hm hl hI nb hlt
  unfold opV
  go_wp2_with fail
  try rw [hw2]
  clear hw2
  go_loopg [3] (n - a1) (fun gk v wr => ∃ (a' : Nat) (acc : List Opn) (A : Option Addr) (c m : Nat), gk = n - a' ∧ v = .slice A m c ∧ Hid (acc.length = m ∧ RowI w wr p g n cp ts a a' acc A c))
  case atStart => exact ⟨a1, [x], _, 1, 1, rfl, rfl, rfl, HI.out⟩
  case round =>
   obtain ⟨a', acc, A, c, m, hk, rfl, HR⟩ := hrel
   have hla := HR.out.2.rd.lt
   have hln := HR.out.2.rd.few
   cases hr : isB (ts.drop a') [44] with
   | false =>
    have HK := Hh (Ai hk (Ai hla hr))
    go_wp2_with fail
    refine (lmay_no ⟨#[44]⟩ HK.out.2.2 HR.out.2.rd).mono ?_
    rintro e w3 ⟨rfl, hb3⟩
    have HB := Hh hb3
    clear hb3 hk hla hln hr
    go_wp2_with fail
    go_ret
    obtain ⟨hm, hR⟩ := HR.out
    subst hm
    refine ⟨hR.step.trans ((Step.of HB.out).mono hR.step.size), Or.inl ⟨acc, a', A, c, fun y => ?_, by have := hR.far; have := HK.out.2.1; omega, rfl, hR.own.below HB.out, hR.rd.below HB.out⟩⟩
    rw [hR.eq, HK.out.2.2]
    rfl
   | true =>
    have HK := Hh (Ai hk (Ai hla hr))
    clear hk hla hln hr
    go_wp2_with fail
    refine (lmay_yes ⟨#[44]⟩ HK.out.2.2 HR.out.2.rd).mono ?_
    rintro e w3 ⟨rfl, hs3, hl3⟩
    have HB := Hh (Ai hs3 hl3)
    clear hs3 hl3
    go_wp2_with fail
    refine (lop_v HB.out.2).mono ?_
    rintro e w4 ⟨hs, ⟨x, a2, val, hm, rfl, rfl, hl⟩ | ⟨c, q, hc, hm, rfl⟩⟩
    ·obtain ⟨w5, hw5⟩ : ∃ w5, w4.alloc (.cells #[.int .i64 x.k, .int .i64 x.c, .int .i64 x.n, .int .i64 x.t] 64) = w5 := ⟨_, rfl⟩
     have nb := new_box w4 _ 64 hw5
     have hp := HA.out.plt
     have hg0 := HA.out.glt
     have s4 := (HR.out.2.step.trans (HB.out.1.mono HR.out.2.step.size)).trans (hs.mono (Nat.le_trans HR.out.2.step.size HB.out.1.size))
     have s5 := s4.trans ((Step.of nb.1).mono s4.size)
     have o5 := (own_step (own_step HR.out.2.own HB.out.1 hp) hs hp).below nb.1
     have l5 := hl.below nb.1
     have hlt := drop_lt (operand_sub hm) (by rw [HA.out.len]; exact HB.out.2.lt)
     have hsz : w.heap.size ≤ w5.heap.size := s5.size
     have hlen : m ≤ 2000000 := by have := HR.out.1; have := HR.out.2.far; have := HK.out.2.1; have := HA.out.few; omega
     have HC := Hh (Ai hm (Ai s5 (Ai o5 (Ai l5 (Ai nb.2 (Ai hsz (Ai hlen hlt)))))))
     clear hs hm hl s4 s5 o5 l5 nb hsz hlen hlt hp hg0
     unfold opV
     go_wp2_with (at_builtin; refine own_app rowOp rfl _ _ rfl HR.out.1 rfl HC.out.2.2.1 w4.heap.size x rfl HC.out.2.2.2.2.1 HC.out.2.2.2.2.2.2.1 HC.out.2.2.2.2.2.1 ?_)
     intro g' c' w6 ho6 hg6
     have hr6 : ∀ k, Value.ownBlock (.slice A m c) = some k → w.heap.size ≤ k := by
      intro k hk
      have := HR.out.1
      subst this
      exact (HC.out.2.2.1.lo k hk).1
     have s6 := HC.out.2.1.grown hg6 HC.out.2.2.2.2.2.1 hr6
     have l6 := HC.out.2.2.2.1.grown hg6 HC.out.2.2.2.2.2.1 hr6 HA.out.plt HA.out.glt
     have hI : RowI w w6 p g n cp ts a a2 (acc ++ [x]) (some ⟨g', 0, none⟩) c' := ⟨s6, ho6, l6, fun y => by rw [HR.out.2.eq, HK.out.2.2, if_pos rfl, tail_at]; exact row_more HC.out.1, by rw [List.length_append]; have := HR.out.2.far; have := HC.out.2.2.2.2.2.2.2; simp; omega⟩
     have HI := Hh hI
     have hlt := HC.out.2.2.2.2.2.2.2
     have ha' := HK.out.2.1
     have hgk := HK.out.1
     have ha2 := HI.out.rd.lt
     clear ho6 hg6 hr6 s6 l6 hI
     go_wp2_with fail
     go_roundg (n - a2)
     case measure => omega
     case rel => exact ⟨a2, acc ++ [x], _, _, _, rfl, rfl, by simp, HI.out⟩
    ·go_wp2_with fail
     refine ⟨rfl, (HR.out.2.step.trans (HB.out.1.mono HR.out.2.step.size)).trans (hs.mono (Nat.le_trans HR.out.2.step.size HB.out.1.size)), Or.inr ⟨c, q, hc, fun y => ?_, rfl⟩⟩
     rw [HR.out.2.eq, HK.out.2.2, if_pos rfl, tail_at]
     exact row_bad hm
 ·go_wp2_with fail
  exact ⟨rfl, hs, Or.inr ⟨c, q, hc, fun y => row_bad hm, rfl⟩⟩
def paren (l : List Tok) : Res (List Opn) := (must [40] l).bind fun _ l => ops0 [41] l
set_option maxHeartbeats 1000000 in
theorem lpar_v (h : Lr w p g n cp ts a) : Calls Tryz.prog 78 #[.pointer (some ⟨p, 0, none⟩)] w (LP w p g n cp ts a paren fun w' xs val => xs.length ≤ n ∧ OwnV 64 4 Opn.cs w.heap.size w' xs val) := by
 have HA := Hh h
 clear h
 go_enter Tryz.func78, Tryz.ntmps78
 go_wp2_with fail
 refine (lmust_v ⟨#[40]⟩ HA.out).mono ?_
 rintro e w1 ⟨hs, ⟨_, a1, val, hm, rfl, rfl, hl⟩ | ⟨c, q, hc, hm, rfl⟩⟩
 ·have HB := Hh (Ai hs (Ai hm hl))
  clear hs hm hl
  go_wp2_with fail
  cases hr : isB (ts.drop a1) [41] with
  | true =>
   refine (lmay_yes ⟨#[41]⟩ hr HB.out.2.2).mono ?_
   rintro e w2 ⟨rfl, hs, hl⟩
   have HC := Hh (Ai hs (Ai hr hl))
   clear hs hr hl
   go_wp2_with fail
   go_ret
   refine ⟨HB.out.1.trans (HC.out.1.mono HB.out.1.size), Or.inl ⟨[], a1 + 1, _, ?_, rfl, ⟨by simp, none, 0, rfl, OwnL.nil⟩, HC.out.2.2⟩⟩
   unfold paren
   rw [show must [40] (ts.drop a) = _ from HB.out.2.1]
   show ops0 [41] (ts.drop a1) = _
   unfold ops0
   rw [if_pos HC.out.2.1, tail_at]
  | false =>
   refine (lmay_no ⟨#[41]⟩ hr HB.out.2.2).mono ?_
   rintro e w2 ⟨rfl, hb⟩
   have HC := Hh (Ai hb hr)
   clear hb hr
   have hpar : paren (ts.drop a) = ops [41] [] (ts.drop a1) := by
    unfold paren
    rw [show must [40] (ts.drop a) = _ from HB.out.2.1]
    show ops0 [41] (ts.drop a1) = _
    unfold ops0
    rw [HC.out.2]
    rfl
   have HP := Hh hpar
   clear hpar
   go_wp2_with fail
   refine (lrow_v (HB.out.2.2.below HC.out.1)).mono ?_
   rintro e w3 ⟨hs, ⟨xs, a2, A, c, hm, hxs, rfl, ho, hl⟩ | ⟨c, q, hc, hm, rfl⟩⟩
   ·have s2 := HB.out.1.trans (Step.of (HC.out.1.mono HB.out.1.size))
    have HD := Hh (Ai (s2.trans (hs.mono s2.size)) (Ai hm (Ai (Ai hxs (ho.less s2.size)) hl)))
    clear hs hm ho hl s2 hxs
    go_wp2_with fail
    refine (lmust_v ⟨#[41]⟩ HD.out.2.2.2).mono ?_
    rintro e w4 ⟨hs, ⟨_, a3, val, hm, rfl, rfl, hl⟩ | ⟨c, q, hc, hm, rfl⟩⟩
    ·have HE := Hh (Ai (HD.out.1.trans (hs.mono HD.out.1.size)) (Ai hm (Ai (own_step HD.out.2.2.1.2 hs HA.out.plt) hl)))
     clear hs hm hl
     go_wp2_with fail
     go_ret
     refine ⟨HE.out.1, Or.inl ⟨xs, a3, _, ?_, rfl, ⟨HD.out.2.2.1.1, A, c, rfl, HE.out.2.2.1⟩, HE.out.2.2.2⟩⟩
     rw [HP.out, HD.out.2.1, show must [41] (ts.drop a2) = _ from HE.out.2.1]
     rfl
    ·go_wp2_with fail
     refine ⟨rfl, HD.out.1.trans (hs.mono HD.out.1.size), Or.inr ⟨c, q, hc, ?_, rfl⟩⟩
     rw [HP.out, HD.out.2.1, show must [41] (ts.drop a2) = _ from hm]
     rfl
   ·go_wp2_with fail
    exact ⟨rfl, (HB.out.1.trans (Step.of (HC.out.1.mono HB.out.1.size))).trans (hs.mono (Nat.le_trans HB.out.1.size HC.out.1.size)), Or.inr ⟨c, q, hc, by rw [HP.out]; exact hm _, rfl⟩⟩
 ·go_wp2_with fail
  refine ⟨rfl, hs, Or.inr ⟨c, q, hc, ?_, rfl⟩⟩
  unfold paren
  rw [show must [40] (ts.drop a) = _ from hm]
  rfl
structure ArgI (w W : World) (p g n cp : Nat) (ts : List Tok) (a M a' : Nat) (acc : List Opn) (A : Option Addr) (c : Nat) : Prop where
 step : Step w.heap.size p w W
 own : OwnL 64 4 Opn.cs w.heap.size W A c acc
 rd : Lr W p g n cp ts a'
 eq : argsN M [] (ts.drop a) = argsN (M - acc.length) acc (ts.drop a')
 le : acc.length ≤ M
set_option maxHeartbeats 1000000 in
theorem ltaken_v (o : Int) (M : Nat) (hM : Opr.many o = M) (h19 : o ≠ 19) (hM3 : M ≤ 1000) (h : Lr w p g n cp ts a) : Calls Tryz.prog 157 #[.pointer (some ⟨p, 0, none⟩), .int .i64 o] w (LP w p g n cp ts a (argsN M []) fun w' xs val => xs.length = M ∧ OwnV 64 4 Opn.cs w.heap.size w' xs val) := by
 have HA := Hh (Ai h (Ai hM (Ai h19 hM3)))
 clear h hM h19 hM3
 go_enter Tryz.func157, Tryz.ntmps157
 go_wp2_with fail
 refine (Opr.args_v o M M HA.out.2.1 (by rw [if_neg HA.out.2.2.1]) _).mono ?_
 rintro e w1 ⟨rfl, rfl⟩
 go_wp2_with fail
 go_loopg [5, 15] M (fun gk v u wr => ∃ (a' : Nat) (acc : List Opn) (A : Option Addr) (c m : Nat), m + gk = M ∧ v = .slice A m c ∧ u = .int .i64 (m : Int) ∧ Hid (acc.length = m ∧ ArgI w wr p g n cp ts a M a' acc A c))
 case atStart => exact ⟨a, [], none, 0, 0, by omega, rfl, rfl, rfl, Step.refl _ _ _, OwnL.nil, HA.out.1, by simp, by simp⟩
 case round =>
  obtain ⟨a', acc, A, c, m, hk, rfl, rfl, HR⟩ := hrel
  have hM3 := HA.out.2.2.2
  by_cases hlt : m < M
  ·have i1 : (m : Int) < (M : Int) := by omega
   by_cases h0 : m = 0
   ·subst h0
    have hacc : acc = [] := List.eq_nil_of_length_eq_zero HR.out.1
    have hx : argsN M [] (ts.drop a) = (operand (ts.drop a')).bind fun x l => argsN (M - 0 - 1) (acc ++ [x]) l := by
     obtain ⟨M', rfl⟩ : ∃ M', M = M' + 1 := ⟨M - 1, by omega⟩
     rw [HR.out.2.eq, HR.out.1]
     show argsN (M' + 1) acc _ = _
     rw [argsN, if_pos hacc]
     rfl
    have HK := Hh (Ai hk hlt)
    have HX := Hh (Ai HR.out.2.rd (Ai HR.out.2.step (Ai HR.out.2.own (Ai hx (show 0 + 1 ≤ M by omega)))))
    clear hk hlt hM3 hx hacc
    go_wp2_with fail
    refine (lop_v HX.out.1).mono ?_
    rintro e w4 ⟨hs, ⟨x, a2, val, hm, rfl, rfl, hl⟩ | ⟨c, q, hc, hm, rfl⟩⟩
    ·obtain ⟨w5, hw5⟩ : ∃ w5, w4.alloc (.cells #[.int .i64 x.k, .int .i64 x.c, .int .i64 x.n, .int .i64 x.t] 64) = w5 := ⟨_, rfl⟩
     have nb := new_box w4 _ 64 hw5
     have s4 := HX.out.2.1.trans (hs.mono HX.out.2.1.size)
     have s5 := s4.trans ((Step.of nb.1).mono s4.size)
     have o5 := (own_step HX.out.2.2.1 hs HA.out.1.plt).below nb.1
     have l5 := hl.below nb.1
     have hsz : w.heap.size ≤ w5.heap.size := s5.size
     have hlen : 0 ≤ 2000000 := by have := HX.out.2.2.2.2; have := HA.out.2.2.2; omega
     have q1 : ((0 : Nat) : Int) + 1 = ((0 + 1 : Nat) : Int) := by omega
     have q2 : wrap64 (((0 : Nat) : Int) + 1) = ((0 + 1 : Nat) : Int) := by rw [q1]; unfold wrap64; omega
     have HC := Hh (Ai hm (Ai s5 (Ai o5 (Ai l5 (Ai nb.2 (Ai hsz hlen))))))
     clear hs hm hl s4 s5 o5 l5 nb hsz hlen
     unfold opV
     go_wp2_with (at_builtin; refine own_app rowOp rfl _ _ rfl HR.out.1 rfl HC.out.2.2.1 w4.heap.size x rfl HC.out.2.2.2.2.1 HC.out.2.2.2.2.2.2 HC.out.2.2.2.2.2.1 ?_)
     intro g' c' w6 ho6 hg6
     have hr6 : ∀ k, Value.ownBlock (.slice A 0 c) = some k → w.heap.size ≤ k := by
      intro k hk
      exact (HC.out.2.2.1.lo k (by rw [HR.out.1]; exact hk)).1
     have s6 := HC.out.2.1.grown hg6 HC.out.2.2.2.2.2.1 hr6
     have l6 := HC.out.2.2.2.1.grown hg6 HC.out.2.2.2.2.2.1 hr6 HA.out.1.plt HA.out.1.glt
     have hI : ArgI w w6 p g n cp ts a M a2 (acc ++ [x]) (some ⟨g', 0, none⟩) c' := ⟨s6, ho6, l6, by rw [HX.out.2.2.2.1, HC.out.1]; show argsN (M - 0 - 1) _ _ = _; rw [List.length_append, HR.out.1]; rfl, by rw [List.length_append, HR.out.1]; exact HX.out.2.2.2.2⟩
     have HI := Hh hI
     have hlt := HX.out.2.2.2.2
     have hgk := HK.out.1
     clear ho6 hg6 hr6 s6 l6 hI
     go_wp2_with fail
     go_roundg (gk - 1)
     case measure => omega
     case rel => exact ⟨a2, acc ++ [x], _, _, 0 + 1, by omega, by first | rfl | (rw [List.length_append, HR.out.1]; rfl) | simp [HR.out.1], by first | rfl | simp, by rw [List.length_append, HR.out.1]; rfl, HI.out⟩
    ·go_wp2_with fail
     refine ⟨rfl, HX.out.2.1.trans (hs.mono HX.out.2.1.size), Or.inr ⟨c, q, hc, ?_, rfl⟩⟩
     rw [HX.out.2.2.2.1, hm]
     rfl
   ·have hacc : acc ≠ [] := by
     rintro rfl
     exact h0 HR.out.1.symm
    have i2 : ¬ (m : Int) ≤ 0 := by omega
    have i3 : (0 : Int) < (m : Int) := by omega
    have HK := Hh (Ai hk (Ai hlt hacc))
    clear hk hlt hM3 h0 hacc
    go_wp2_with fail
    refine (lmust_v ⟨#[44]⟩ HR.out.2.rd).mono ?_
    rintro e w3 ⟨hs, ⟨_, a1, val, hm, rfl, rfl, hl⟩ | ⟨c, q, hc, hm, rfl⟩⟩
    ·have hx : argsN M [] (ts.drop a) = (operand (ts.drop a1)).bind fun x l => argsN (M - m - 1) (acc ++ [x]) l := by
      obtain ⟨d, hd⟩ : ∃ d, M - m = d + 1 := ⟨M - m - 1, by have := HK.out.2.1; omega⟩
      rw [HR.out.2.eq, HR.out.1, hd, argsN, if_neg HK.out.2.2, show must [44] (ts.drop a') = _ from hm]
      rfl
     have HX := Hh (Ai hl (Ai (HR.out.2.step.trans (hs.mono HR.out.2.step.size)) (Ai (own_step HR.out.2.own hs HA.out.1.plt) (Ai hx (show m + 1 ≤ M from HK.out.2.1)))))
     clear hs hm hl hx
     go_wp2_with fail
     refine (lop_v HX.out.1).mono ?_
     rintro e w4 ⟨hs, ⟨x, a2, val, hm, rfl, rfl, hl⟩ | ⟨c, q, hc, hm, rfl⟩⟩
     ·obtain ⟨w5, hw5⟩ : ∃ w5, w4.alloc (.cells #[.int .i64 x.k, .int .i64 x.c, .int .i64 x.n, .int .i64 x.t] 64) = w5 := ⟨_, rfl⟩
      have nb := new_box w4 _ 64 hw5
      have s4 := HX.out.2.1.trans (hs.mono HX.out.2.1.size)
      have s5 := s4.trans ((Step.of nb.1).mono s4.size)
      have o5 := (own_step HX.out.2.2.1 hs HA.out.1.plt).below nb.1
      have l5 := hl.below nb.1
      have hsz : w.heap.size ≤ w5.heap.size := s5.size
      have hlen : m ≤ 2000000 := by have := HX.out.2.2.2.2; have := HA.out.2.2.2; omega
      obtain ⟨m1, hm1⟩ : ∃ m1, m + 1 = m1 := ⟨_, rfl⟩
      have q1 : (m : Int) + 1 = (m1 : Int) := by omega
      have q2 : wrap64 ((m : Int) + 1) = (m1 : Int) := by rw [q1]; unfold wrap64; omega
      have q3 : wrap64 (m1 : Int) = (m1 : Int) := by unfold wrap64; omega
      have HM1 := Hh hm1
      clear hm1
      have HC := Hh (Ai hm (Ai s5 (Ai o5 (Ai l5 (Ai nb.2 (Ai hsz hlen))))))
      clear hs hm hl s4 s5 o5 l5 nb hsz hlen
      unfold opV
      go_wp2_with (at_builtin; refine own_app rowOp rfl _ _ rfl HR.out.1 rfl HC.out.2.2.1 w4.heap.size x rfl HC.out.2.2.2.2.1 HC.out.2.2.2.2.2.2 HC.out.2.2.2.2.2.1 ?_)
      intro g' c' w6 ho6 hg6
      have hr6 : ∀ k, Value.ownBlock (.slice A m c) = some k → w.heap.size ≤ k := by
       intro k hk
       exact (HC.out.2.2.1.lo k (by rw [HR.out.1]; exact hk)).1
      have s6 := HC.out.2.1.grown hg6 HC.out.2.2.2.2.2.1 hr6
      have l6 := HC.out.2.2.2.1.grown hg6 HC.out.2.2.2.2.2.1 hr6 HA.out.1.plt HA.out.1.glt
      have hI : ArgI w w6 p g n cp ts a M a2 (acc ++ [x]) (some ⟨g', 0, none⟩) c' := ⟨s6, ho6, l6, by rw [HX.out.2.2.2.1, HC.out.1]; show argsN (M - m - 1) _ _ = _; rw [List.length_append, HR.out.1]; rfl, by rw [List.length_append, HR.out.1]; exact HX.out.2.2.2.2⟩
      have HI := Hh hI
      have hlt := HX.out.2.2.2.2
      have hgk := HK.out.1
      clear ho6 hg6 hr6 s6 l6 hI
      go_wp2_with fail
      go_roundg (gk - 1)
      case measure => omega
      case rel => exact ⟨a2, acc ++ [x], _, _, m1, by have := HM1.out; omega, by first | rfl | (rw [List.length_append, HR.out.1]; exact congrArg _ HM1.out) | (simp [HR.out.1]; exact HM1.out), by rw [show wrap64 (m1 : Int) = (m1 : Int) by have h1 := HM1.out; have h2 := HA.out.2.2.2; unfold wrap64; omega], by rw [List.length_append, HR.out.1]; exact HM1.out, HI.out⟩
     ·go_wp2_with fail
      refine ⟨rfl, HX.out.2.1.trans (hs.mono HX.out.2.1.size), Or.inr ⟨c, q, hc, ?_, rfl⟩⟩
      rw [HX.out.2.2.2.1, hm]
      rfl
    ·go_wp2_with fail
     refine ⟨rfl, HR.out.2.step.trans (hs.mono HR.out.2.step.size), Or.inr ⟨c, q, hc, ?_, rfl⟩⟩
     obtain ⟨d, hd⟩ : ∃ d, M - m = d + 1 := ⟨M - m - 1, by have := HK.out.2.1; omega⟩
     rw [HR.out.2.eq, HR.out.1, hd, argsN, if_neg HK.out.2.2, show must [44] (ts.drop a') = _ from hm]
     rfl
  ·have i1 : ¬ (m : Int) < (M : Int) := by omega
   have HK := Hh (Ai hk hlt)
   clear hk hlt hM3
   go_wp2_with fail
   go_ret
   obtain ⟨hm, hR⟩ := HR.out
   subst hm
   have he : acc.length = M := by have := hR.le; have := HK.out.2; omega
   refine ⟨hR.step, Or.inl ⟨acc, a', _, ?_, rfl, ⟨he, A, c, rfl, hR.own⟩, hR.rd⟩⟩
   rw [hR.eq, he, Nat.sub_self]
   rfl
end
end Go.Proofs.YtbpichjmkllfaaaGreatDoor.Par
