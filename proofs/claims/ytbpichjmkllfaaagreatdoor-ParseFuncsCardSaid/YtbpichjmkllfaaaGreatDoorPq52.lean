/- Packed texts of one proof. Conditions: none. -/
import Derived.Test.YtbpichjmkllfaaaGreatDoorPq50
namespace Go.Proofs.YtbpichjmkllfaaaGreatDoor.Par
open Go.ChangeShapes Go.WideShapes Go.RowKit
open Lex (Tok tcl tkv tk tc)
set_option linter.unusedVariables false
set_option maxRecDepth 20000
set_option maxHeartbeats 4000000 in
theorem pfunc_out (A : Option Addr) (n cp : Nat) (a : Int) (ha : a < 0 ∨ (n : Int) ≤ a) (w : World) : Calls Tryz.prog 19 #[.slice A n cp, .int .i64 a] w fun e w' => e = .returned (.tuple #[funZ, .int .i64 0, Flt.err 1 0 []]) ∧ Below w.heap.size w w' := by
 obtain ⟨T, v, hE⟩ := Flt.err_iface 1 0 []
 have HE := Hh hE
 rw [hE]
 clear hE
 obtain ⟨w0, hw0⟩ : ∃ w0, w.alloc (.cells #[.bool false, .string ⟨#[]⟩, .slice none 0 0, .slice none 0 0, .slice none 0 0] 27) = w0 := ⟨_, rfl⟩
 have nb := new_box w _ 27 hw0
 have hs0 : w0.heap.size = w.heap.size + 1 := by rw [← hw0]; simp
 obtain ⟨w1, hw1⟩ : ∃ w1, w0.alloc (.cells #[.nilIface] 29) = w1 := ⟨_, rfl⟩
 have nb1 := new_box w0 _ 29 hw1
 rw [hs0] at nb1
 have B1 : Below w.heap.size w w1 := nb.1.trans (nb1.1.mono (by omega))
 have zF : w1.heap[w.heap.size]? = some (.cells #[.bool false, .string ⟨#[]⟩, .slice none 0 0, .slice none 0 0, .slice none 0 0] 27 (0, 0)) := by rw [nb1.1.block _ (by omega)]; exact nb.2
 obtain ⟨w2, hw2⟩ : ∃ w2, Lex.five w1 w.heap.size (.bool false) (.string ⟨#[]⟩) (.slice none 0 0) (.slice none 0 0) (.slice none 0 0) = w2 := ⟨_, rfl⟩
 have f2 : w2.heap[w.heap.size]? = some (.cells #[.bool false, .string ⟨#[]⟩, .slice none 0 0, .slice none 0 0, .slice none 0 0] 27 (0, 0)) := hw2 ▸ Lex.five_heap zF
 have e2 : w2.heap[w.heap.size + 1]? = some (.cells #[.nilIface] 29 (0, 0)) := by
  rw [← hw2]
  have := nb1.2
  unfold Lex.five
  simp [World.setCell, Array.getElem?_modify, this]
 have b2 : Below w.heap.size w w2 := B1.trans (hw2 ▸ Lex.five_below (Below.refl _ w1) (Nat.le_refl _))
 obtain ⟨w3, hw3⟩ : ∃ w3, w2.setCell ⟨w.heap.size + 1, 0, none⟩ (.iface T v) = w3 := ⟨_, rfl⟩
 have f3 : w3.heap[w.heap.size]? = some (.cells #[.bool false, .string ⟨#[]⟩, .slice none 0 0, .slice none 0 0, .slice none 0 0] 27 (0, 0)) := by rw [← hw3]; exact far_put f2 (Nat.ne_of_lt (Nat.lt_succ_self _))
 have c3 : w3.cell? ⟨w.heap.size + 1, 0, none⟩ = some (.iface T v) := by
  have : w3.heap[w.heap.size + 1]? = some (.cells #[.iface T v] 29 (0, 0)) := by rw [← hw3]; simp [World.setCell, Array.getElem?_modify, e2]
  exact cell_in this 0
 have b3 : Below w.heap.size w w3 := by rw [← hw3]; exact b2.setCell (p := ⟨w.heap.size + 1, 0, none⟩) (Nat.le_succ _) _
 have HC := Hh (Ai f3 (Ai c3 b3))
 obtain ⟨⟨u0, u1, u2, u3, u4⟩, v0, v1, v2, v3, v4⟩ := box5 zF
 have x0 : w2.cell? ⟨w.heap.size + 1, 0, none⟩ = some .nilIface := cell_in e2 0
 have y0 := box_frozen e2 0
 unfold Lex.five at hw2
 clear nb nb1 B1 zF f2 e2 b2 f3 c3 b3
 by_cases h1 : a < 0
 ·clear ha
  go_enter_defers Tryz.func19, Tryz.ntmps19
  go_wp2_with fail
  refine (Flt.new_v 1 0 (by decide) w1).mono ?_
  rintro e w4 ⟨rfl, rfl⟩
  rw [HE.out]
  go_wp2_with fail
  try rw [hw3]
  exact ⟨_, results_fun (fn := Tryz.f19) rfl _ _ w.heap.size (w.heap.size + 1) _ _ _ _ _ _ _ rfl rfl rfl HC.out.1 HC.out.2.1, rfl, HC.out.2.2⟩
 ·have h2 : (n : Int) ≤ a := ha.resolve_left h1
  clear ha
  go_enter_defers Tryz.func19, Tryz.ntmps19
  go_wp2_with fail
  refine (Flt.new_v 1 0 (by decide) w1).mono ?_
  rintro e w4 ⟨rfl, rfl⟩
  rw [HE.out]
  go_wp2_with fail
  try rw [hw3]
  exact ⟨_, results_fun (fn := Tryz.f19) rfl _ _ w.heap.size (w.heap.size + 1) _ _ _ _ _ _ _ rfl rfl rfl HC.out.1 HC.out.2.1, rfl, HC.out.2.2⟩
theorem slice_toks (g n c a : Nat) (h : a ≤ n) (hc : a < c) (W : World) : (Instr.slice 48 (.slice (some ⟨g, 0, none⟩) n c) (some (.int .i64 (a : Int))) none none).run Tryz.prog W = .ok (.slice (some ⟨g, a * 5, none⟩) (n - a) (c - a)) W := by
 have he : Tryz.prog.elem 48 = 72 := by kernel_rfl
 have ht : Tryz.prog.underlying 48 = some (.slice (Tryz.prog.elem 48)) := by rw [he]; exact Tryz.underlying48
 have hs : (sizeOf (Tryz.prog.elem 48)).run Tryz.prog W = .ok 5 W := by kernel_rfl
 rw [run_slice_l (P := Tryz.prog) (t := 48) (ht := ht) (kl := .i64) (l := (a : Int)) (h0 := by omega) (h1 := by omega), hs]
 have e : ((a : Int)).toNat = a := by omega
 simp [Result.andThen, sliced, Addr.add, e, show ¬ c = a by omega]
 exact fun h => h.symm
theorem own_cap {N0 : Nat} {w : World} {A : Option Addr} {c : Nat} {m : List Lex.Tok} (h : Lex.OwnK N0 w A c m) (hm : m ≠ []) : m.length ≤ c := by
 obtain ⟨_, ⟨e, h2⟩ | ⟨g', cap', cur, e, _, _, hle, _⟩⟩ := h
 ·simp only [Value.slice.injEq] at e
  exact absurd (List.eq_nil_of_length_eq_zero e.2.1) hm
 ·simp only [Value.slice.injEq] at e
  omega
theorem toks_drop {w : World} {g n a : Nat} {m : List Tok} (h : IsToks w (some ⟨g, 0, none⟩) n m) (ha : a ≤ n) : IsToks w (some ⟨g, a * 5, none⟩) (n - a) (m.drop a) := by
 obtain ⟨h1, h2, h3⟩ := h
 refine ⟨by rw [List.length_drop, h1], by omega, ?_⟩
 rcases h3 with rfl | ⟨b, o, e, hlt, hc⟩
 ·exact .inl (by simp)
 ·injection e with e
  injection e with e1 e2
  subst e1
  subst e2
  refine .inr ⟨g, a * 5, rfl, hlt, fun k hk j hj => ?_⟩
  rw [List.length_drop] at hk
  have := hc (a + k) (by omega) j hj
  rw [List.getElem_drop, ← this]
  congr 2
  omega
theorem ends_drop {m : List Tok} {a : Nat} (h : Ends m) (ha : a < m.length) : Ends (m.drop a) := by
 obtain ⟨u, e, rfl, hk⟩ := h
 rw [List.length_append] at ha
 simp at ha
 exact ⟨u.drop a, e, by rw [List.drop_append_of_le_length (by omega)], hk⟩
set_option maxHeartbeats 8000000 in
theorem funcs_v (s : ByteArray) (at_ : Int) (w : World) (hG : Opr.Glob w) (hF : Flt.Glob w) : Calls Tryz.prog 5 #[.string s, .int .i64 at_] w fun e w' => e = .returned (.bool true) ∧ Below w.heap.size w w' := by
 have HA := Hh (Ai hG hF)
 clear hG hF
 go_enter Tryz.func5, Tryz.ntmps5
 go_wp2_with fail
 refine (Lex.doc_v s w).mono ?_
 rintro e w1 ⟨m, code, q, hm, hb1, ⟨hc, A, c, rfl, ho⟩ | ⟨hc, rfl⟩⟩
 rotate_left
 ·have hcb : (code != 0) = true := by rw [bne_iff_ne]; exact hc
  have HB := Hh hb1
  clear hm hb1 hc
  by_cases hs : (3000 : Int) < (s.size : Int)
  all_goals
   go_wp2_with fail
   refine (works_v w1 (next_opr HA.out.1 HB.out) (next_flt HA.out.2 HB.out)).mono ?_
   rintro e w2 ⟨rfl, hb2⟩
   have HC := Hh (HB.out.trans (hb2.mono HB.out.size))
   clear hb2
   go_wp2_with fail
   go_ret
   exact ⟨rfl, HC.out⟩
 by_cases hs : (3000 : Int) < (s.size : Int)
 ·have HB := Hh hb1
  clear hm hb1 hc ho
  go_wp2_with fail
  refine (works_v w1 (next_opr HA.out.1 HB.out) (next_flt HA.out.2 HB.out)).mono ?_
  rintro e w2 ⟨rfl, hb2⟩
  have HC := Hh (HB.out.trans (hb2.mono HB.out.size))
  clear hb2
  go_wp2_with fail
  go_ret
  exact ⟨rfl, HC.out⟩
 subst hc
 obtain ⟨g, rfl, hglo, hT⟩ := tks_of HA.out.1 hm hb1 ho
 obtain ⟨n, hn⟩ : ∃ n, m.length = n := ⟨_, rfl⟩
 rw [hn] at hT
 have hcap : n ≤ c := by rw [← hn]; exact own_cap ho hT.ends.ne
 have HB := Hh (Ai hb1 (Ai hT hn))
 rw [hn]
 clear hm hb1 ho hglo hT hn
 by_cases hat : at_ < 0 ∨ (n : Int) ≤ at_
 ·go_wp2_with fail
  refine (pfunc_out _ n c at_ hat w1).mono ?_
  rintro e w2 ⟨rfl, hb2⟩
  obtain ⟨T, v, hE⟩ := Flt.err_iface 1 0 []
  have HE := Hh hE
  rw [hE]
  clear hE
  have HC := Hh (HB.out.1.trans (hb2.mono HB.out.1.size))
  clear hb2
  obtain ⟨w3, hw3⟩ : ∃ w3, w2.alloc (.cells #[.bool false, .string ⟨#[]⟩, .slice none 0 0, .slice none 0 0, .slice none 0 0] 27) = w3 := ⟨_, rfl⟩
  obtain ⟨w4, hw4⟩ : ∃ w4, Lex.five w3 w2.heap.size (.bool false) (.string ⟨#[]⟩) (.slice none 0 0) (.slice none 0 0) (.slice none 0 0) = w4 := ⟨_, rfl⟩
  have lw4 := laid hw3 hw4
  have Lw4 := Hh lw4
  obtain ⟨⟨n0, n1, n2, n3, n4⟩, m0, m1, m2, m3, m4⟩ := box5 lw4.2.2
  unfold Lex.five at hw4
  clear lw4
  have HD := Hh (HC.out.trans (Lw4.out.1.mono HC.out.size))
  have HAt := Hh hat
  by_cases hlt : at_ < 0
  all_goals
   try (have hge : (n : Int) ≤ at_ := hat.resolve_left hlt)
   clear hat
   unfold funZ
   go_wp2_with fail
   try rw [hw4]
   rw [← HE.out]
   refine (Flt.of_v 1 0 [] _ (next_flt HA.out.2 HD.out)).mono ?_
   rintro e w5 ⟨rfl, hb5⟩
   have HP := Hh (HD.out.trans (hb5.mono HD.out.size))
   clear hb5
   rw [HE.out]
   go_wp2_with fail
   rw [← HE.out]
   refine (Flt.at_v 1 0 [] _ (next_flt HA.out.2 HP.out)).mono ?_
   rintro e w6 ⟨rfl, hb6⟩
   have HQ := Hh (HP.out.trans (hb6.mono HP.out.size))
   clear hb6
   rw [HE.out]
   go_wp2_with fail
   refine (works_v _ (next_opr HA.out.1 HQ.out) (next_flt HA.out.2 HQ.out)).mono ?_
   rintro e w7 ⟨rfl, hb7⟩
   have HY := Hh (HQ.out.trans (hb7.mono HQ.out.size))
   clear hb7
   go_wp2_with fail
   go_ret
   exact ⟨rfl, HY.out⟩
 obtain ⟨a, rfl⟩ : ∃ a : Nat, at_ = (a : Int) := ⟨at_.toNat, by omega⟩
 have l0 : ¬ (a : Int) < 0 := by omega
 have l1 : ¬ (n : Int) ≤ (a : Int) := by omega
 have han : a < n := by omega
 clear hat
 go_wp2_with fail
 refine (pfunc_v (cp := c) a han HB.out.2.1).mono ?_
 rintro e w2 ⟨hb2, ⟨x, a', r, hf, hlt', rfl, hH⟩ | ⟨cd, pq, hcd, hf, rfl⟩⟩
 ·have HC := Hh (Ai (HB.out.1.trans (hb2.mono HB.out.1.size)) (Ai hf (Ai hlt' (Ai hb2 hH))))
  clear hb2 hf hlt' hH
  obtain ⟨w3, hw3⟩ : ∃ w3, w2.alloc (.cells #[.bool false, .string ⟨#[]⟩, .slice none 0 0, .slice none 0 0, .slice none 0 0] 27) = w3 := ⟨_, rfl⟩
  obtain ⟨w4, hw4⟩ : ∃ w4, Lex.five w3 w2.heap.size (.bool x.machine) (.string x.name) (.slice r.ra r.rn r.rc) (.slice r.pa r.pn r.pc) (.slice r.ba r.bn r.bc) = w4 := ⟨_, rfl⟩
  have lw4 := laid hw3 hw4
  have Lw4 := Hh lw4
  obtain ⟨⟨n0, n1, n2, n3, n4⟩, m0, m1, m2, m3, m4⟩ := box5 lw4.2.2
  unfold Lex.five at hw4
  clear lw4
  have HD := Hh (Ai (HC.out.1.trans (Lw4.out.1.mono HC.out.1.size)) (Ai Lw4.out.1 (HC.out.2.2.2.1.trans (Lw4.out.1.mono HC.out.2.2.2.1.size))))
  have hsl := slice_toks g n c a (by omega) (by omega)
  have hdT : IsToks w4 (some ⟨g, a * 5, none⟩) (n - a) (m.drop a) := toks_drop (HB.out.2.1.toks.below HD.out.2.2) (by omega)
  have hdE : Ends (m.drop a) := ends_drop HB.out.2.1.ends (by rw [HB.out.2.2]; omega)
  have hdW : ∀ t ∈ m.drop a, Wf t := fun t ht => HB.out.2.1.wf t (List.mem_of_mem_drop ht)
  have hdS : ∀ t ∈ m.drop a, t.text.length ≤ 70000 := fun t ht => HB.out.2.1.short t (List.mem_of_mem_drop ht)
  have HS := Hh (Ai hdT (Ai hdE (Ai hdW hdS)))
  have HN := Hh han
  clear hdT hdE hdW hdS han
  unfold funR
  go_wp2_with fail
  try rw [hw4]
  clear n0 n1 n2 n3 n4 m0 m1 m2 m3 m4
  clear hw4 hw3 hsl
  refine (rnew_v HS.out.1 HS.out.2.1 HS.out.2.2.1).mono ?_
  rintro e w5 ⟨rfl, hb5, hr5⟩
  obtain ⟨p, hp⟩ : ∃ p, w4.heap.size = p := ⟨_, rfl⟩
  have hBp : w2.heap.size < p := by rw [← hp]; exact (Array.getElem?_eq_some_iff.1 Lw4.out.2.1).1
  have hWp : w.heap.size ≤ p := by rw [← hp]; exact HD.out.1.size
  have c5 : Below w.heap.size w w5 := HD.out.1.trans (hb5.mono HD.out.1.size)
  have d5 : Below w2.heap.size w2 w5 := HD.out.2.1.trans (hb5.mono HD.out.2.1.size)
  have k5 := kept_box Lw4.out.2.1 hb5
  rw [hp] at hr5
  have HP := Hh (Ai c5 (Ai d5 (Ai k5 (Ai hr5 (Ai hBp hWp)))))
  rw [hp]
  clear hb5 hr5 hp hBp hWp c5 d5 k5
  go_wp2_with fail
  refine (rfunc_v HS.out.2.2.2 HP.out.2.2.2.1).mono ?_
  rintro e w6 ⟨s6, x6, val, rfl, hs6, hr6, htr6, r6, rfl, hH6⟩
  have b6 : Below w.heap.size w w6 := HP.out.1.trans (step_below' hs6 HP.out.1.size HP.out.2.2.2.2.2)
  have d6 : Below w2.heap.size w2 w6 := HP.out.2.1.trans (step_below' hs6 HP.out.2.1.size (Nat.le_of_lt HP.out.2.2.2.2.1))
  have B6 : w6.heap[w2.heap.size]? = some (.cells #[.bool x.machine, .string x.name, .slice r.ra r.rn r.rc, .slice r.pa r.pn r.pc, .slice r.ba r.bn r.bc] 27 (0, 0)) := by
   rw [hs6.2.2.2.2 _ (Array.getElem?_eq_some_iff.1 HP.out.2.2.1).1 (by have := HP.out.2.2.2.2.1; omega)]
   exact HP.out.2.2.1
  have hfx : x6 = x ∧ (s6.code = 0 ∧ a + s6.at_ = a') := by
   have h1 := HC.out.2.1
   rcases htr6 with ⟨h0, _⟩ | ⟨_, h2, h3⟩ | ⟨_, h2, h3⟩
   ·exact absurd rfl h0
   ·have h3' : func (m.drop a) = .ok x6 ((m.drop a).drop s6.at_) := h3
    rw [h1] at h3'
    injection h3' with e1 e2
    refine ⟨e1.symm, h2, ?_⟩
    have e3 := congrArg List.length e2
    rw [List.length_drop, List.length_drop, List.length_drop, HB.out.2.2] at e3
    have := hr6.lt
    have := HC.out.2.2.1
    have := HN.out
    omega
   ·have h3' : func (m.drop a) = .bad s6.code s6.pos := h3
    rw [h1] at h3'
    cases h3'
  obtain ⟨rfl, hc6, ha6⟩ := hfx
  have F6 : IsFun w6 x6 r := HC.out.2.2.2.2 w6 ⟨d6.size, fun k hk _ => d6.block k hk⟩
  have HQ := Hh (Ai b6 (Ai F6 (Ai B6 (Ai hr6 (Ai hH6.here (Ai hc6 ha6))))))
  clear b6 F6 B6 hr6 hH6 hc6 ha6 hs6 htr6 d6
  obtain ⟨w7, hw7⟩ : ∃ w7, w6.alloc (.cells #[.bool false, .string ⟨#[]⟩, .slice none 0 0, .slice none 0 0, .slice none 0 0] 27) = w7 := ⟨_, rfl⟩
  obtain ⟨w8, hw8⟩ : ∃ w8, Lex.five w7 w6.heap.size (.bool x6.machine) (.string x6.name) (.slice r6.ra r6.rn r6.rc) (.slice r6.pa r6.pn r6.pc) (.slice r6.ba r6.bn r6.bc) = w8 := ⟨_, rfl⟩
  have lw8 := laid hw7 hw8
  have Lw8 := Hh lw8
  obtain ⟨⟨n0, n1, n2, n3, n4⟩, m0, m1, m2, m3, m4⟩ := box5 lw8.2.2
  unfold Lex.five at hw8
  clear lw8
  have HR := Hh (Ai (HQ.out.1.trans (Lw8.out.1.mono HQ.out.1.size)) (Ai (HQ.out.2.1.below Lw8.out.1) (Ai (kept_box HQ.out.2.2.1 Lw8.out.1) (Ai (HQ.out.2.2.2.1.below Lw8.out.1) (HQ.out.2.2.2.2.1.below Lw8.out.1)))))
  unfold funR
  go_wp2_with fail
  try rw [hw8]
  clear n0 n1 n2 n3 n4 m0 m1 m2 m3 m4
  clear hw7 hw8
  refine (rok_v true (by rw [HQ.out.2.2.2.2.2.1]; rfl) HR.out.2.2.2.1).mono ?_
  rintro e w9 ⟨rfl, rfl⟩
  obtain ⟨⟨n0, n1, n2, n3, n4⟩, m0, m1, m2, m3, m4⟩ := box5 HR.out.2.2.1
  obtain ⟨⟨k0, k1, k2, k3, k4⟩, j0, j1, j2, j3, j4⟩ := box5 Lw8.out.2.1
  go_wp2_with fail
  refine (eq11_v x6 x6 r r6 w8 HR.out.2.1 HR.out.2.2.2.2).mono ?_
  rintro e wa ⟨rfl, hba⟩
  have HT := Hh (Ai (HR.out.1.trans (hba.mono HR.out.1.size)) (HR.out.2.2.2.1.below hba))
  clear hba n0 n1 n2 n3 n4 m0 m1 m2 m3 m4 k0 k1 k2 k3 k4 j0 j1 j2 j3 j4
  obtain ⟨c0, c1, c2, c3⟩ := HT.out.2.cells
  have q0 := HQ.out.2.2.2.2.2.2
  have hfew := HB.out.2.1.few
  have hltn := HC.out.2.2.1
  have q1 : (a : Int) + (s6.at_ : Int) = (a' : Int) := by omega
  have q2 : wrap64 (a' : Int) = (a' : Int) := by unfold wrap64; omega
  have q3 : wrap64 ((a : Int) + (s6.at_ : Int)) = (a' : Int) := by rw [q1]; exact q2
  have q4 : ((a' : Int) == (a' : Int)) = true := by rw [beq_iff_eq]
  clear q0 hfew hltn
  rw [funEq_refl]
  go_wp2_with fail
  refine (works_v _ (next_opr HA.out.1 HT.out.1) (next_flt HA.out.2 HT.out.1)).mono ?_
  rintro e wb ⟨rfl, hbb⟩
  have HY := Hh (HT.out.1.trans (hbb.mono HT.out.1.size))
  clear hbb
  go_wp2_with fail
  go_ret
  exact ⟨rfl, HY.out⟩
 ·have HC := Hh (Ai (HB.out.1.trans (hb2.mono HB.out.1.size)) (Ai hf (Ai hcd (Ai hb2 trivial))))
  clear hb2 hf hcd
  obtain ⟨T, v, hE⟩ := Flt.err_iface cd (pq : Int) []
  have HE := Hh hE
  rw [show Fau.bare cd (pq : Int) = Flt.err cd (pq : Int) [] from rfl, hE]
  clear hE
  obtain ⟨w3, hw3⟩ : ∃ w3, w2.alloc (.cells #[.bool false, .string ⟨#[]⟩, .slice none 0 0, .slice none 0 0, .slice none 0 0] 27) = w3 := ⟨_, rfl⟩
  obtain ⟨w4, hw4⟩ : ∃ w4, Lex.five w3 w2.heap.size (.bool false) (.string ⟨#[]⟩) (.slice none 0 0) (.slice none 0 0) (.slice none 0 0) = w4 := ⟨_, rfl⟩
  have lw4 := laid hw3 hw4
  have Lw4 := Hh lw4
  obtain ⟨⟨n0, n1, n2, n3, n4⟩, m0, m1, m2, m3, m4⟩ := box5 lw4.2.2
  unfold Lex.five at hw4
  clear lw4
  have HD := Hh (Ai (HC.out.1.trans (Lw4.out.1.mono HC.out.1.size)) (Ai Lw4.out.1 (HC.out.2.2.2.1.trans (Lw4.out.1.mono HC.out.2.2.2.1.size))))
  have hsl := slice_toks g n c a (by omega) (by omega)
  have hdT : IsToks w4 (some ⟨g, a * 5, none⟩) (n - a) (m.drop a) := toks_drop (HB.out.2.1.toks.below HD.out.2.2) (by omega)
  have hdE : Ends (m.drop a) := ends_drop HB.out.2.1.ends (by rw [HB.out.2.2]; omega)
  have hdW : ∀ t ∈ m.drop a, Wf t := fun t ht => HB.out.2.1.wf t (List.mem_of_mem_drop ht)
  have hdS : ∀ t ∈ m.drop a, t.text.length ≤ 70000 := fun t ht => HB.out.2.1.short t (List.mem_of_mem_drop ht)
  have HS := Hh (Ai hdT (Ai hdE (Ai hdW hdS)))
  have HN := Hh han
  clear hdT hdE hdW hdS han
  unfold funZ
  go_wp2_with fail
  try rw [hw4]
  clear n0 n1 n2 n3 n4 m0 m1 m2 m3 m4
  clear hw4 hw3 hsl
  refine (rnew_v HS.out.1 HS.out.2.1 HS.out.2.2.1).mono ?_
  rintro e w5 ⟨rfl, hb5, hr5⟩
  obtain ⟨p, hp⟩ : ∃ p, w4.heap.size = p := ⟨_, rfl⟩
  have hBp : w2.heap.size < p := by rw [← hp]; exact (Array.getElem?_eq_some_iff.1 Lw4.out.2.1).1
  have hWp : w.heap.size ≤ p := by rw [← hp]; exact HD.out.1.size
  have c5 : Below w.heap.size w w5 := HD.out.1.trans (hb5.mono HD.out.1.size)
  have d5 : Below w2.heap.size w2 w5 := HD.out.2.1.trans (hb5.mono HD.out.2.1.size)
  have k5 := kept_box Lw4.out.2.1 hb5
  rw [hp] at hr5
  have HP := Hh (Ai c5 (Ai d5 (Ai k5 (Ai hr5 (Ai hBp hWp)))))
  rw [hp]
  clear hb5 hr5 hp hBp hWp c5 d5 k5
  go_wp2_with fail
  refine (rfunc_v HS.out.2.2.2 HP.out.2.2.2.1).mono ?_
  rintro e w6 ⟨s6, x6, val, rfl, hs6, hr6, htr6, r6, rfl, hH6⟩
  have b6 : Below w.heap.size w w6 := HP.out.1.trans (step_below' hs6 HP.out.1.size HP.out.2.2.2.2.2)
  have d6 : Below w2.heap.size w2 w6 := HP.out.2.1.trans (step_below' hs6 HP.out.2.1.size (Nat.le_of_lt HP.out.2.2.2.2.1))
  have B6 : w6.heap[w2.heap.size]? = some (.cells #[.bool false, .string ⟨#[]⟩, .slice none 0 0, .slice none 0 0, .slice none 0 0] 27 (0, 0)) := by
   rw [hs6.2.2.2.2 _ (Array.getElem?_eq_some_iff.1 HP.out.2.2.1).1 (by have := HP.out.2.2.2.2.1; omega)]
   exact HP.out.2.2.1
  have hfx : s6.code = cd ∧ s6.pos = pq := by
   have h1 := HC.out.2.1
   rcases htr6 with ⟨h0, _⟩ | ⟨_, h2, h3⟩ | ⟨_, h2, h3⟩
   ·exact absurd rfl h0
   ·have h3' : func (m.drop a) = .ok x6 ((m.drop a).drop s6.at_) := h3
    rw [h1] at h3'
    cases h3'
   ·have h3' : func (m.drop a) = .bad s6.code s6.pos := h3
    rw [h1] at h3'
    injection h3' with e1 e2
    exact ⟨e1.symm, e2.symm⟩
  have HQ := Hh (Ai b6 (Ai hr6 hfx))
  clear b6 B6 hr6 hH6 hs6 htr6 d6 hfx
  obtain ⟨w7, hw7⟩ : ∃ w7, w6.alloc (.cells #[.bool false, .string ⟨#[]⟩, .slice none 0 0, .slice none 0 0, .slice none 0 0] 27) = w7 := ⟨_, rfl⟩
  obtain ⟨w8, hw8⟩ : ∃ w8, Lex.five w7 w6.heap.size (.bool x6.machine) (.string x6.name) (.slice r6.ra r6.rn r6.rc) (.slice r6.pa r6.pn r6.pc) (.slice r6.ba r6.bn r6.bc) = w8 := ⟨_, rfl⟩
  have lw8 := laid hw7 hw8
  have Lw8 := Hh lw8
  obtain ⟨⟨n0, n1, n2, n3, n4⟩, m0, m1, m2, m3, m4⟩ := box5 lw8.2.2
  unfold Lex.five at hw8
  clear lw8
  have HR := Hh (Ai (HQ.out.1.trans (Lw8.out.1.mono HQ.out.1.size)) (HQ.out.2.1.below Lw8.out.1))
  unfold funR
  go_wp2_with fail
  try rw [hw8]
  clear n0 n1 n2 n3 n4 m0 m1 m2 m3 m4
  clear hw7 hw8
  refine (rok_v false (by rw [HQ.out.2.2.1, Bqf]; exact HC.out.2.2.1) HR.out.2).mono ?_
  rintro e w9 ⟨rfl, rfl⟩
  have bd := (Below.refl w8.heap.size w8).drew
  obtain ⟨wd, hwd⟩ : ∃ wd, w8.drew = wd := ⟨_, rfl⟩
  rw [hwd] at bd
  have rd := HR.out.2.below bd
  have k2 : wd.cell? ⟨p, 2, none⟩ = some (.int .i64 cd) := by rw [← HQ.out.2.2.1]; exact cell_in rd.box 2
  have k3 : wd.cell? ⟨p, 3, none⟩ = some (.int .i64 (pq : Int)) := by rw [← HQ.out.2.2.2]; exact cell_in rd.box 3
  have HU := Hh (Ai (HR.out.1.trans (bd.mono HR.out.1.size)) (Ai k2 (Ai k3 rd.plt)))
  have q2 : (cd == cd) = true := by rw [beq_iff_eq]
  have q3 : ((pq : Int) == (pq : Int)) = true := by rw [beq_iff_eq]
  clear bd rd
  go_wp2_with fail
  refine wp_region_held_drew (S := fun W => W.cell? ⟨p, 2, none⟩ = some (.int .i64 cd) ∧ W.cell? ⟨p, 3, none⟩ = some (.int .i64 (pq : Int))) (by kernel_rfl) (by rw [hwd]; exact ⟨k2, k3⟩) (fun hHeld => ?_)
  try rw [hwd] at hHeld ⊢
  clear hwd k2 k3
  refine wpAnyH_take (i := 0) (v := .iface T v) rfl (by kernel_rfl) (by kernel_rfl) (by kernel_rfl) (fun _ _ _ h => h) (Or.inl ⟨by rfl, by intro W hSw; (try dsimp only at hSw); go_simp; try with_reducible rfl⟩) (by assumption) ?_
  try simp only [Act.put, Lzs]
  refine wpAnyH_take (i := 2) (v := .pointer (some ⟨p, 0, none⟩)) rfl (by kernel_rfl) (by kernel_rfl) (by kernel_rfl) (fun _ _ _ h => h) (Or.inl ⟨by rfl, by intro W hSw; (try dsimp only at hSw); go_simp; try with_reducible rfl⟩) (by assumption) ?_
  try simp only [Act.put]
  refine wpAnyH_take (i := 3) (v := .pointer (some ⟨p, 0, none⟩)) rfl (by kernel_rfl) (by kernel_rfl) (by kernel_rfl) (fun _ _ _ h => h) (Or.inl ⟨by rfl, by intro W hSw; (try dsimp only at hSw); go_simp; try with_reducible rfl⟩) (by assumption) ?_
  try simp only [Act.put]
  refine wpAnyH_take (i := 4) (v := .pointer (some ⟨p, 2, none⟩)) rfl (by kernel_rfl) (by kernel_rfl) (by kernel_rfl) (fun _ _ _ h => h) (Or.inl ⟨by rfl, by intro W hSw; (try dsimp only at hSw); go_simp; try with_reducible rfl⟩) (by assumption) ?_
  try simp only [Act.put]
  refine wpAnyH_take (i := 5) (v := .int .i64 cd) rfl (by kernel_rfl) (by kernel_rfl) (by kernel_rfl) (fun _ _ _ h => h) (Or.inl ⟨by rfl, by intro W hSw; (try dsimp only at hSw); go_simp; try with_reducible rfl⟩) (by assumption) ?_
  try simp only [Act.put]
  refine wpAnyH_ready (rs := [1]) (by kernel_rfl) (by simp) ?_
  refine AllReadyH.cons rfl (fun K hK => ?_) AllReadyH.nil
  go_simp
  rw [← HE.out]
  refine Calls.mono (Flt.of_v cd (pq : Int) [] _ (next_flt HA.out.2 HU.out.1)) ?_
  rintro e wk ⟨rfl, hbk⟩
  have HV := Hh (Ai (HU.out.1.trans (hbk.mono HU.out.1.size)) (Ai ((hbk.cell HU.out.2.2.2).trans HU.out.2.1) (Ai ((hbk.cell HU.out.2.2.2).trans HU.out.2.2.1) (Nat.lt_of_lt_of_le HU.out.2.2.2 hbk.size))))
  clear hbk
  rw [HE.out]
  go_simp
  refine hK.out _ _ ⟨HV.out.2.1, HV.out.2.2.1⟩ (fun hHeld => ?_)
  clear hK K
  try simp only [Act.put, Lzs, Lz0, Lz1]
  refine wpAnyH_take (i := 6) (v := .bool true) rfl (by kernel_rfl) (by kernel_rfl) (by kernel_rfl) (fun _ _ _ h => h) (Or.inl ⟨by rfl, by intro W hSw; (try dsimp only at hSw); go_simp; try with_reducible rfl⟩) (by assumption) ?_
  try simp only [Act.put, Lzs]
  refine wpAnyH_take (i := 7) (v := .bool true) rfl (by kernel_rfl) (by kernel_rfl) (by kernel_rfl) (fun _ _ _ h => h) (Or.inl ⟨by rfl, by intro W hSw; (try dsimp only at hSw); go_simp; try with_reducible rfl⟩) (by assumption) ?_
  try simp only [Act.put]
  refine wpAnyH_take (i := 8) (v := .iface T v) rfl (by kernel_rfl) (by kernel_rfl) (by kernel_rfl) (fun _ _ _ h => h) (Or.inl ⟨by rfl, by intro W hSw; (try dsimp only at hSw); go_simp; try with_reducible rfl⟩) (by assumption) ?_
  try simp only [Act.put]
  refine wpAnyH_take (i := 10) (v := .pointer (some ⟨p, 0, none⟩)) rfl (by kernel_rfl) (by kernel_rfl) (by kernel_rfl) (fun _ _ _ h => h) (Or.inl ⟨by rfl, by intro W hSw; (try dsimp only at hSw); go_simp; try with_reducible rfl⟩) (by assumption) ?_
  try simp only [Act.put]
  refine wpAnyH_take (i := 11) (v := .pointer (some ⟨p, 0, none⟩)) rfl (by kernel_rfl) (by kernel_rfl) (by kernel_rfl) (fun _ _ _ h => h) (Or.inl ⟨by rfl, by intro W hSw; (try dsimp only at hSw); go_simp; try with_reducible rfl⟩) (by assumption) ?_
  try simp only [Act.put]
  refine wpAnyH_take (i := 12) (v := .pointer (some ⟨p, 3, none⟩)) rfl (by kernel_rfl) (by kernel_rfl) (by kernel_rfl) (fun _ _ _ h => h) (Or.inl ⟨by rfl, by intro W hSw; (try dsimp only at hSw); go_simp; try with_reducible rfl⟩) (by assumption) ?_
  try simp only [Act.put]
  refine wpAnyH_take (i := 13) (v := .int .i64 (pq : Int)) rfl (by kernel_rfl) (by kernel_rfl) (by kernel_rfl) (fun _ _ _ h => h) (Or.inl ⟨by rfl, by intro W hSw; (try dsimp only at hSw); go_simp; try with_reducible rfl⟩) (by assumption) ?_
  try simp only [Act.put]
  refine wpAnyH_ready (rs := [9]) (by kernel_rfl) (by simp) ?_
  refine AllReadyH.cons rfl (fun K hK => ?_) AllReadyH.nil
  go_simp
  rw [← HE.out]
  refine Calls.mono (Flt.at_v cd (pq : Int) [] _ (next_flt HA.out.2 HV.out.1)) ?_
  rintro e wl ⟨rfl, hbk⟩
  have HW := Hh (Ai (HV.out.1.trans (hbk.mono HV.out.1.size)) (Ai ((hbk.cell HV.out.2.2.2).trans HV.out.2.1) (Ai ((hbk.cell HV.out.2.2.2).trans HV.out.2.2.1) (Nat.lt_of_lt_of_le HV.out.2.2.2 hbk.size))))
  clear hbk
  rw [HE.out]
  go_simp
  refine hK.out _ _ ⟨HW.out.2.1, HW.out.2.2.1⟩ (fun hHeld => ?_)
  clear hK K
  try simp only [Act.put, Lzs, Lz0, Lz1]
  refine wpAnyH_take (i := 14) (v := .bool true) rfl (by kernel_rfl) (by kernel_rfl) (by kernel_rfl) (fun _ _ _ h => h) (Or.inl ⟨by rfl, by intro W hSw; (try dsimp only at hSw); go_simp; try with_reducible rfl⟩) (by assumption) ?_
  try simp only [Act.put, Lzs]
  refine wpAnyH_take (i := 15) (v := .bool true) rfl (by kernel_rfl) (by kernel_rfl) (by kernel_rfl) (fun _ _ _ h => h) (Or.inl ⟨by rfl, by intro W hSw; (try dsimp only at hSw); go_simp; try with_reducible rfl⟩) (by assumption) ?_
  try simp only [Act.put]
  refine wpAnyH_take (i := 16) (v := .bool true) rfl (by kernel_rfl) (by kernel_rfl) (by kernel_rfl) (fun _ _ _ h => h) (Or.inl ⟨by rfl, by intro W hSw; (try dsimp only at hSw); go_simp; try with_reducible rfl⟩) (by assumption) ?_
  try simp only [Act.put]
  refine wpAnyH_take (i := 17) (v := .int .i64 0) rfl (by kernel_rfl) (by kernel_rfl) (by kernel_rfl) (fun _ _ _ h => h) (Or.inl ⟨by rfl, by intro W hSw; (try dsimp only at hSw); go_simp; try with_reducible rfl⟩) (by assumption) ?_
  try simp only [Act.put]
  refine wpAnyH_take (i := 18) (v := .bool true) rfl (by kernel_rfl) (by kernel_rfl) (by kernel_rfl) (fun _ _ _ h => h) (Or.inl ⟨by rfl, by intro W hSw; (try dsimp only at hSw); go_simp; try with_reducible rfl⟩) (by assumption) ?_
  try simp only [Act.put]
  refine wpAnyH_take (i := 19) (v := .bool true) rfl (by kernel_rfl) (by kernel_rfl) (by kernel_rfl) (fun _ _ _ h => h) (Or.inl ⟨by rfl, by intro W hSw; (try dsimp only at hSw); go_simp; try with_reducible rfl⟩) (by assumption) ?_
  try simp only [Act.put]
  refine wpAnyH_take (i := 20) (v := .bool true) rfl (by kernel_rfl) (by kernel_rfl) (by kernel_rfl) (fun _ _ _ h => h) (Or.inl ⟨by rfl, by intro W hSw; (try dsimp only at hSw); go_simp; try with_reducible rfl⟩) (by assumption) ?_
  try simp only [Act.put]
  refine wpAnyH_take (i := 21) (v := .iface T v) rfl (by kernel_rfl) (by kernel_rfl) (by kernel_rfl) (fun _ _ _ h => h) (Or.inl ⟨by rfl, by intro W hSw; (try dsimp only at hSw); go_simp; try with_reducible rfl⟩) (by assumption) ?_
  try simp only [Act.put]
  refine wpAnyH_ready (rs := [22]) (by kernel_rfl) (by simp) ?_
  refine AllReadyH.cons rfl (fun K hK => ?_) AllReadyH.nil
  go_simp
  rw [← HE.out]
  refine Calls.mono (Flt.path_v cd (pq : Int) [] (by decide) _ (next_flt HA.out.2 HW.out.1)) ?_
  rintro e wo ⟨Ap, cp', rfl, _, hbk⟩
  have HX := Hh (Ai (HW.out.1.trans (hbk.mono HW.out.1.size)) (Ai ((hbk.cell HW.out.2.2.2).trans HW.out.2.1) (Ai ((hbk.cell HW.out.2.2.2).trans HW.out.2.2.1) (Nat.lt_of_lt_of_le HW.out.2.2.2 hbk.size))))
  clear hbk
  rw [HE.out]
  go_simp
  refine hK.out _ _ ⟨HX.out.2.1, HX.out.2.2.1⟩ (fun hHeld => ?_)
  clear hK K
  try simp only [Act.put, Lzs, Lz0, Lz1]
  refine wpAnyH_take (i := 23) (v := .int .i64 0) rfl (by kernel_rfl) (by kernel_rfl) (by kernel_rfl) (fun _ _ _ h => h) (Or.inl ⟨by rfl, by intro W hSw; (try dsimp only at hSw); go_simp; try with_reducible rfl⟩) (by assumption) ?_
  try simp only [Act.put, Lzs]
  refine wpAnyH_take (i := 24) (v := .bool true) rfl (by kernel_rfl) (by kernel_rfl) (by kernel_rfl) (fun _ _ _ h => h) (Or.inl ⟨by rfl, by intro W hSw; (try dsimp only at hSw); go_simp; try with_reducible rfl⟩) (by assumption) ?_
  try simp only [Act.put]
  refine wpAnyH_take (i := 25) (v := .bool true) rfl (by kernel_rfl) (by kernel_rfl) (by kernel_rfl) (fun _ _ _ h => h) (Or.inl ⟨by rfl, by intro W hSw; (try dsimp only at hSw); go_simp; try with_reducible rfl⟩) (by assumption) ?_
  try simp only [Act.put]
  refine wpAnyH_take (i := 26) (v := .bool true) rfl (by kernel_rfl) (by kernel_rfl) (by kernel_rfl) (fun _ _ _ h => h) (Or.inl ⟨by rfl, by intro W hSw; (try dsimp only at hSw); go_simp; try with_reducible rfl⟩) (by assumption) ?_
  try simp only [Act.put]
  refine wpAnyH_ready (rs := [27]) (by kernel_rfl) (by simp) ?_
  refine AllReadyH.cons rfl (fun K hK => ?_) AllReadyH.nil
  go_simp
  refine Calls.mono (works_v _ (next_opr HA.out.1 HX.out.1) (next_flt HA.out.2 HX.out.1)) ?_
  rintro e wq ⟨rfl, hbk⟩
  have HY := Hh (Ai (HX.out.1.trans (hbk.mono HX.out.1.size)) (Ai ((hbk.cell HX.out.2.2.2).trans HX.out.2.1) (Ai ((hbk.cell HX.out.2.2.2).trans HX.out.2.2.1) (Nat.lt_of_lt_of_le HX.out.2.2.2 hbk.size))))
  clear hbk
  go_simp
  refine hK.out _ _ ⟨HY.out.2.1, HY.out.2.2.1⟩ (fun hHeld => ?_)
  clear hK K
  try simp only [Act.put, Lzs, Lz0, Lz1]
  refine wpAnyH_take (i := 28) (oi := { dst := some 94, op := Op.pick (Operand.tmp 92) (Operand.tmp 93) (Operand.const (Value.bool false)), type := 4, pos := "law.go:69", after := #[{ on := 26, ground := Ground.data }, { on := 27, ground := Ground.data }], guard := none }) (v := .bool true) rfl (by kernel_rfl) (by kernel_rfl) (by kernel_rfl) (fun _ _ _ h => h) (Or.inl ⟨by rfl, by intro W hSw; (try dsimp only at hSw); go_simp; try with_reducible rfl⟩) (by assumption) ?_
  try simp only [Act.put, Lzs]
  refine wpAnyH_take (i := 29) (oi := { dst := some 4, op := Op.assign (Operand.tmp 94), type := 4, pos := "law.go:69", after := #[{ on := 28, ground := Ground.data }, { on := 27, ground := Ground.chain }, { on := 0, ground := Ground.phase }, { on := 1, ground := Ground.phase }, { on := 2, ground := Ground.phase }, { on := 3, ground := Ground.phase }, { on := 4, ground := Ground.phase }, { on := 5, ground := Ground.phase }, { on := 6, ground := Ground.phase }, { on := 7, ground := Ground.phase }, { on := 8, ground := Ground.phase }, { on := 9, ground := Ground.phase }, { on := 10, ground := Ground.phase }, { on := 11, ground := Ground.phase }, { on := 12, ground := Ground.phase }, { on := 13, ground := Ground.phase }, { on := 14, ground := Ground.phase }, { on := 15, ground := Ground.phase }, { on := 16, ground := Ground.phase }, { on := 17, ground := Ground.phase }, { on := 18, ground := Ground.phase }, { on := 19, ground := Ground.phase }, { on := 20, ground := Ground.phase }, { on := 21, ground := Ground.phase }, { on := 22, ground := Ground.phase }, { on := 23, ground := Ground.phase }, { on := 24, ground := Ground.phase }, { on := 25, ground := Ground.phase }, { on := 26, ground := Ground.phase }, { on := 27, ground := Ground.phase }, { on := 28, ground := Ground.phase }], guard := none }) (v := .bool true) rfl (by kernel_rfl) (by kernel_rfl) (by kernel_rfl) (fun _ _ _ h => h) (Or.inl ⟨by rfl, by intro W hSw; (try dsimp only at hSw); go_simp; try with_reducible rfl⟩) (by assumption) ?_
  try simp only [Act.put]
  refine wpAnyH_done (by kernel_rfl) ?_ _
  go_wp2_with fail
  go_ret
  exact ⟨rfl, HY.out.1⟩
end Go.Proofs.YtbpichjmkllfaaaGreatDoor.Par
