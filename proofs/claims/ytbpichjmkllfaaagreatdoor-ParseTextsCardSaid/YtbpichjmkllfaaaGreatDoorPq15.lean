/- Packed texts of one proof. Conditions: none. -/
import Derived.Test.YtbpichjmkllfaaaGreatDoorPq14
namespace Go.Proofs.YtbpichjmkllfaaaGreatDoor.Fol
open Go.ChangeShapes Go.WideShapes Go.RowKit Lex
set_option linter.unusedVariables false
set_option maxRecDepth 20000
structure FrB (L a s v : Value) (act : Act) : Prop where
 size : act.tmps.size = 147
 s0 : act.tmps.getD 0 undef = L
 s1 : act.tmps.getD 1 undef = a
 s4 : act.tmps.getD 4 undef = .int .i64 0
 s5 : act.tmps.getD 5 undef = .int .i64 0
 s6 : act.tmps.getD 6 undef = .nilIface
 s7 : act.tmps.getD 7 undef = s
 s10 : act.tmps.getD 10 undef = v
 defers : act.defers = []
theorem arr_fn (xs : Array Value) (n : Nat) (h : xs.size = n) : xs = ((List.range n).map (fun k => xs.getD k undef)).toArray := by
 apply Array.ext
 ·simp [h]
 ·intro i h1 h2
  simp [h1]
theorem arr147 (f : Nat → Value) : ((List.range 147).map f).toArray = #[f 0, f 1, f 2, f 3, f 4, f 5, f 6, f 7, f 8, f 9, f 10, f 11, f 12, f 13, f 14, f 15, f 16, f 17, f 18, f 19, f 20, f 21, f 22, f 23, f 24, f 25, f 26, f 27, f 28, f 29, f 30, f 31, f 32, f 33, f 34, f 35, f 36, f 37, f 38, f 39, f 40, f 41, f 42, f 43, f 44, f 45, f 46, f 47, f 48, f 49, f 50, f 51, f 52, f 53, f 54, f 55, f 56, f 57, f 58, f 59, f 60, f 61, f 62, f 63, f 64, f 65, f 66, f 67, f 68, f 69, f 70, f 71, f 72, f 73, f 74, f 75, f 76, f 77, f 78, f 79, f 80, f 81, f 82, f 83, f 84, f 85, f 86, f 87, f 88, f 89, f 90, f 91, f 92, f 93, f 94, f 95, f 96, f 97, f 98, f 99, f 100, f 101, f 102, f 103, f 104, f 105, f 106, f 107, f 108, f 109, f 110, f 111, f 112, f 113, f 114, f 115, f 116, f 117, f 118, f 119, f 120, f 121, f 122, f 123, f 124, f 125, f 126, f 127, f 128, f 129, f 130, f 131, f 132, f 133, f 134, f 135, f 136, f 137, f 138, f 139, f 140, f 141, f 142, f 143, f 144, f 145, f 146] := rfl
theorem FrB.out {L a s v : Value} {act : Act} (h : FrB L a s v act) : ∃ f : Nat → Value, act = { tmps := #[L, a, f 2, f 3, .int .i64 0, .int .i64 0, .nilIface, s, f 8, f 9, v, f 11, f 12, f 13, f 14, f 15, f 16, f 17, f 18, f 19, f 20, f 21, f 22, f 23, f 24, f 25, f 26, f 27, f 28, f 29, f 30, f 31, f 32, f 33, f 34, f 35, f 36, f 37, f 38, f 39, f 40, f 41, f 42, f 43, f 44, f 45, f 46, f 47, f 48, f 49, f 50, f 51, f 52, f 53, f 54, f 55, f 56, f 57, f 58, f 59, f 60, f 61, f 62, f 63, f 64, f 65, f 66, f 67, f 68, f 69, f 70, f 71, f 72, f 73, f 74, f 75, f 76, f 77, f 78, f 79, f 80, f 81, f 82, f 83, f 84, f 85, f 86, f 87, f 88, f 89, f 90, f 91, f 92, f 93, f 94, f 95, f 96, f 97, f 98, f 99, f 100, f 101, f 102, f 103, f 104, f 105, f 106, f 107, f 108, f 109, f 110, f 111, f 112, f 113, f 114, f 115, f 116, f 117, f 118, f 119, f 120, f 121, f 122, f 123, f 124, f 125, f 126, f 127, f 128, f 129, f 130, f 131, f 132, f 133, f 134, f 135, f 136, f 137, f 138, f 139, f 140, f 141, f 142, f 143, f 144, f 145, f 146], defers := [] } := by
 obtain ⟨hs, h0, h1, h4, h5, h6, h7, h10, hd⟩ := h
 obtain ⟨xs, ds⟩ := act
 subst hd
 have e := arr_fn xs 147 hs
 rw [arr147] at e
 refine ⟨fun k => xs.getD k undef, ?_⟩
 simp only at h0 h1 h4 h5 h6 h7 h10
 rw [h0, h1, h4, h5, h6, h7, h10] at e
 exact congrArg (fun t => ({ tmps := t, defers := [] } : Act)) e
structure Inv (w : World) (R : Res) (l : List Tok) (wr : World) (k : Nat) (md : Mode) (a : Nat) (A : Option Addr) (c M : Nat) (stk : List Opn) : Prop where
 run : mach l k md a stk = some R
 few : M ≤ 32
 stk : StkAt w.heap.size wr A c M stk
 below : Below w.heap.size w wr
def JF (w : World) (R : Res) (l : List Tok) (LV : Value) (k : Nat) (act : Act) (wr : World) : Prop := ∃ a A c M stk v, FrB LV (.int .i64 (a : Nat)) (.slice A M c) v act ∧ Inv w R l wr k .fac a A c M stk
def JB (w : World) (R : Res) (l : List Tok) (LV : Value) (k : Nat) (act : Act) (wr : World) : Prop := ∃ a A c M stk n, FrB LV (.int .i64 (a : Nat)) (.slice A M c) (.int .i64 n) act ∧ Inv w R l wr k (.beh n) a A c M stk
def resE : Res → Ending
 | .val n a => .returned (.tuple #[.int .i64 n, .int .i64 (a : Nat), .nilIface])
 | .bad c p => .returned (.tuple #[.int .i64 0, .int .i64 0, Fau.bare c (p : Nat)])
theorem w64 {n : Int} (h1 : -9223372036854775808 ≤ n) (h2 : n ≤ 9223372036854775807) : wrap64 n = n := IntWalk.wrap64_in n ⟨h1, h2⟩
theorem at_lt {l : List Tok} {a L : Nat} {t : Tok} (hL : l.length = L) (h : l[a]? = some t) : (a : Int) < (L : Int) := by
 have := (List.getElem?_eq_some_iff.1 h).1
 omega
theorem few_next {M : Nat} {m : Bool} (h : M ≤ 32) (hm : mayT M m = 0) : M + 1 ≤ 32 := by
 unfold mayT at hm
 by_cases h32 : M = 32
 ·subst h32
  rw [if_neg (fun k => absurd k.1 (by decide)), if_pos rfl] at hm
  cases hm
 ·omega
structure TkAt (w : World) (g : Nat) (l : List Tok) : Prop where
 lt : g < w.heap.size
 cells : ∀ k t, l[k]? = some t → w.cell? ⟨g, k * 5, none⟩ = some (.int .i64 t.kind) ∧ w.cell? ⟨g, k * 5 + 1, none⟩ = some (.string ⟨t.text.toArray⟩) ∧ w.cell? ⟨g, k * 5 + 2, none⟩ = some (.int .i64 t.n) ∧ w.cell? ⟨g, k * 5 + 3, none⟩ = some (.int .i64 t.cls) ∧ w.cell? ⟨g, k * 5 + 4, none⟩ = some (.int .i64 t.at_)
theorem TkAt.grow {w w' : World} {g : Nat} {l : List Tok} (h : TkAt w g l) (hb : Below w.heap.size w w') : TkAt w' g l := by
 refine ⟨Nat.lt_of_lt_of_le h.lt hb.size, fun k t ht => ?_⟩
 obtain ⟨c0, c1, c2, c3, c4⟩ := h.cells k t ht
 exact ⟨(hb.cell h.lt).trans c0, (hb.cell h.lt).trans c1, (hb.cell h.lt).trans c2, (hb.cell h.lt).trans c3, (hb.cell h.lt).trans c4⟩
theorem wrong_k (l : List Tok) (g c : Nat) (a : Nat) (code : Int) (hcode : ¬ code = 0) (t : Tok) (ht : l[a]? = some t) (w : World) (ho : TkAt w g l) :
  Calls Tryz.prog 175 #[.slice (some ⟨g, 0, none⟩) l.length c, .int .i64 (a : Int), .int .i64 code] w fun e w' => e = .returned (.tuple #[.int .i64 0, .int .i64 0, Fau.bare code (t.at_ : Int)]) ∧ w = w' := by
 obtain ⟨c0, c1, c2, c3, c4⟩ := ho.cells a t ht
 have hal : a < l.length := (List.getElem?_eq_some_iff.1 ht).1
 obtain ⟨L, hL⟩ : ∃ L, l.length = L := ⟨_, rfl⟩
 rw [hL] at hal ⊢
 have a1 : (a : Int) < (L : Int) := by omega
 have a0 : (0 : Int) ≤ (a : Int) := by omega
 have HC := Hh hcode
 clear hcode c0 c1 c2 c3 ht hL ho
 go_enter Tryz.func175, Tryz.ntmps175
 go_wp2_with fail
 refine (Fau.new_v _ _ HC.out _).mono ?_
 rintro e w1 ⟨rfl, rfl⟩
 unfold Fau.bare
 go_wp2_with fail
 go_ret3
 exact ⟨rfl, rfl⟩
theorem value_at (l : List Tok) (g c a0 : Nat) (k : Nat) (R : Res) (hR : mach l k .fac a0 [] = some R) (ha0 : a0 < l.length) (ts : List Tok) (tl : Tok) (hk0 : tl.kind = 0) (hl : l = ts ++ [tl]) (hs : l.length < 9223372036854775807) (w : World) (ho : TkAt w g l) :
  Calls Tryz.prog 167 #[.slice (some ⟨g, 0, none⟩) l.length c, .int .i64 (a0 : Int)] w fun e w' => e = resE R ∧ Below w.heap.size w w' := by
 obtain ⟨L, hL⟩ : ∃ L, l.length = L := ⟨_, rfl⟩
 have hL0 : 0 < L := by rw [← hL, hl]; simp
 have hlast : l[L - 1]? = some tl := by rw [← hL, hl]; simp
 obtain ⟨d0, d1, d2, d3, d4⟩ := ho.cells (L - 1) _ hlast
 rw [hk0] at d0
 rw [hL] at ha0
 have HO := Hh ho
 have HL := Hh hL
 have HR := Hh hR
 clear hlast hl ho hk0
 rw [hL] at hs ⊢
 clear hL hR
 have z1 : ((a0 : Int) ≥ (L : Int)) = False := by simp only [ge_iff_le, eq_iff_iff, iff_false]; omega
 have z0 : ((a0 : Int) < 0) = False := by simp only [eq_iff_iff, iff_false]; omega
 have z2 : wrap64 ((L : Int) - 1) = ((L - 1 : Nat) : Int) := (w64 (by omega) (by omega)).trans (by omega)
 go_enter Tryz.func167, Tryz.ntmps167
 go_wp2_with fail
 refine wp_scope_two (JF w R l (.slice (some ⟨g, 0, none⟩) L c)) (JB w R l (.slice (some ⟨g, 0, none⟩) L c)) rfl rfl ?pass1 ?pass0 ?first
 case first =>
  intro K0 K1 hp
  go_wp2_with fail
  rename_i K hK
  refine wp_label (hK _ _ (hp _ _ ⟨k, a0, none, 0, 0, [], undef, ⟨rfl, rfl, rfl, rfl, rfl, rfl, rfl, rfl, rfl⟩, ⟨HR.out, by omega, ⟨rfl, rfl, .inl ⟨rfl, rfl⟩⟩, Below.refl _ _⟩⟩))
 case pass1 =>
  clear z1 z2 z0 ha0 d0 d1 d2 d3 d4
  rintro K0 K1 n h0 h1 act wr ⟨a, A, cs, M, stk, nv, hF, hrun, hfew, hstk, hbel⟩
  obtain ⟨f, rfl⟩ := hF.out
  clear hF
  obtain _ | n := n
  ·cases hrun
  obtain _ | ⟨o, r⟩ := stk
  ·have hM : M = 0 := hstk.1.symm
   subst hM
   have HB := Hh hbel
   have hv := mach_top hrun
   subst hv
   clear hbel hstk hrun hfew h0 h1
   go_wp2_with fail
   refine two_ret ?_
   go_ret3
   exact ⟨rfl, HB.out⟩
  ·obtain ⟨m, hm⟩ : ∃ m, M = m + 1 := ⟨M - 1, by have := hstk.1; simp at this; omega⟩
   rw [hm] at hstk
   obtain ⟨g2, rfl, hg2, hMc, hcm⟩ := hstk.form
   obtain ⟨hop, hfz⟩ := hstk.top
   have hn0 : ((M : Int) == 0) = false := by rw [Bqf]; omega
   have hn1 : wrap64 ((M : Int) - 1) = (m : Int) := (w64 (by omega) (by omega)).trans (by omega)
   have hn2 : (m : Int) < (M : Int) := by omega
   have hn3 : (0 : Int) ≤ (m : Int) := by omega
   have hn4 : (m : Int) ≤ (cs : Int) := by omega
   obtain ⟨v, hv⟩ : ∃ v, reck 3 o.product nv = v := ⟨_, rfl⟩
   obtain ⟨t, ht, hcase⟩ := mach_beh hrun
   have a1 := at_lt HL.out ht
   have a0 : (0 : Int) ≤ (a : Int) := by omega
   have ap : wrap64 ((a : Int) + 1) = ((a + 1 : Nat) : Int) := (w64 (by omega) (by omega)).trans (by omega)
   have c3 := hop.c3
   have f3 := hfz (m * 4 + 3)
   have S1 := Hh (hstk.times nv v hv)
   have B1 := Hh (hbel.setCell (p := ⟨g2, m * 4 + 3, none⟩) hg2 (.int .i64 v))
   have HV := Hh hv
   have HT := Hh ht
   have HC := Hh hcase
   have HH0 := Hh h0
   have HH1 := Hh h1
   have HF := Hh hfew
   have HG := Hh hg2
   have HM := Hh hm
   have HK := Hh (Ai hMc hcm)
   clear hstk hbel hop hfz hrun hv ht hcase h0 h1 hfew hg2 hm hMc hcm
   go_wp2_with fail
   refine (times_v g2 (m * 4) o.product nv v HV.out wr c3 f3).mono ?_
   rintro e w1 ⟨rfl, rfl⟩
   clear c3 f3
   obtain ⟨d0, d1, d2, d3, d4⟩ := (HO.out.grow B1.out).cells a t HT.out
   go_wp2_with fail
   rcases HC.out with ⟨q1, hrun⟩ | ⟨q1, q2, hrun⟩ | ⟨q1, q2, q3, hrun⟩ | ⟨q1, q2, q3, q4, hrun⟩ | ⟨q1, q2, q3, q4, hrun⟩
   all_goals clear HC
   ·refine (is_v t ⟨#[41]⟩ true q1 _).mono ?_
    rintro e w2 ⟨rfl, hb⟩
    clear d0 d1 d2 d3 d4
    have S2 := Hh (S1.out.grow hb)
    have B2 := Hh (B1.out.trans (hb.mono B1.out.size))
    clear hb S1 B1
    obtain ⟨v2, hv2⟩ : ∃ v2, (o.times nv).closed = v2 := ⟨_, rfl⟩
    rw [hv2] at hrun
    have HRun := Hh hrun
    have HV2 := Hh hv2
    clear hrun hv2 q1
    go_wp2_with fail
    refine (closed_v g2 (m * 4) _ v2 HV2.out w2 S2.out.top.1).mono ?_
    rintro e w3 ⟨rfl, hb⟩
    have S3 := Hh (S2.out.grow hb).pop
    have B3 := Hh (B2.out.trans (hb.mono B2.out.size))
    clear hb S2 B2
    go_wp2_with fail
    refine wp_goto ?_
    refine Or.inr ⟨rfl, HH1.out _ _ ⟨n, Nat.lt_succ_self _, a + 1, some ⟨g2, 0, none⟩, cs, m, r, v2, ⟨rfl, rfl, rfl, rfl, rfl, rfl, rfl, rfl, rfl⟩, HRun.out, ?_, S3.out, B3.out⟩⟩
    have := HF.out
    have := HM.out
    omega
   ·refine (is_v t ⟨#[41]⟩ false q1 _).mono ?_
    rintro e w2 ⟨rfl, hb⟩
    clear d0 d1 d2 d3 d4
    have S2 := Hh (S1.out.grow hb)
    have B2 := Hh (B1.out.trans (hb.mono B1.out.size))
    clear hb S1 B1
    obtain ⟨d0, d1, d2, d3, d4⟩ := (HO.out.grow B2.out).cells a t HT.out
    go_wp2_with fail
    refine (is_v t ⟨#[42]⟩ true q2 _).mono ?_
    rintro e w3 ⟨rfl, hb⟩
    clear d0 d1 d2 d3 d4
    have S3 := Hh (S2.out.grow hb)
    have B3 := Hh (B2.out.trans (hb.mono B2.out.size))
    clear hb S2 B2
    have HRun := Hh hrun
    clear hrun q1 q2
    go_wp2_with fail
    have hS := S3.out
    rw [← HM.out] at hS
    refine wp_goto ?_
    refine Or.inl ⟨rfl, HH0.out _ _ ⟨n, Nat.lt_succ_self _, a + 1, some ⟨g2, 0, none⟩, cs, M, o.times nv :: r, _, ⟨rfl, rfl, rfl, rfl, rfl, rfl, rfl, rfl, rfl⟩, HRun.out, HF.out, hS, B3.out⟩⟩
   ·refine (is_v t ⟨#[41]⟩ false q1 _).mono ?_
    rintro e w2 ⟨rfl, hb⟩
    clear d0 d1 d2 d3 d4
    have S2 := Hh (S1.out.grow hb)
    have B2 := Hh (B1.out.trans (hb.mono B1.out.size))
    clear hb S1 B1
    obtain ⟨d0, d1, d2, d3, d4⟩ := (HO.out.grow B2.out).cells a t HT.out
    go_wp2_with fail
    refine (is_v t ⟨#[42]⟩ false q2 _).mono ?_
    rintro e w3 ⟨rfl, hb⟩
    clear d0 d1 d2 d3 d4
    have S3 := Hh (S2.out.grow hb)
    have B3 := Hh (B2.out.trans (hb.mono B2.out.size))
    clear hb S2 B2
    obtain ⟨d0, d1, d2, d3, d4⟩ := (HO.out.grow B3.out).cells a t HT.out
    go_wp2_with fail
    refine (is_v t ⟨#[43]⟩ true q3 _).mono ?_
    rintro e w4 ⟨rfl, hb⟩
    clear d0 d1 d2 d3 d4
    have S4 := Hh (S3.out.grow hb)
    have B4 := Hh (B3.out.trans (hb.mono B3.out.size))
    clear hb S3 B3
    have HRun := Hh hrun
    clear hrun q1 q2 q3
    obtain ⟨v2, hv2⟩ : ∃ v2, (o.times nv).all = v2 := ⟨_, rfl⟩
    have HV2 := Hh hv2
    clear hv2
    go_wp2_with fail
    refine (join_v g2 (m * 4) _ 1 v2 HV2.out w4 S4.out.top.1 (S4.out.top.2 _) (S4.out.top.2 _) (S4.out.top.2 _)).mono ?_
    rintro e w5 ⟨rfl, rfl⟩
    have hS := S4.out.join 1 v2 HV2.out
    have hB := ((((B4.out.setCell (p := ⟨g2, m * 4 + 1, none⟩) HG.out (.int .i64 v2)).setCell (p := ⟨g2, m * 4 + 2, none⟩) HG.out (.int .i64 1)).setCell (p := ⟨g2, m * 4 + 3, none⟩) HG.out (.int .i64 1))).drew
    rw [← HM.out] at hS
    have SJ := Hh hS
    have BJ := Hh hB
    clear hS hB S4 B4
    go_wp2_with fail
    refine wp_goto ?_
    refine Or.inl ⟨rfl, HH0.out _ _ ⟨n, Nat.lt_succ_self _, a + 1, some ⟨g2, 0, none⟩, cs, M, (o.times nv).join 1 :: r, _, ⟨rfl, rfl, rfl, rfl, rfl, rfl, rfl, rfl, rfl⟩, HRun.out, HF.out, SJ.out, BJ.out⟩⟩
   ·refine (is_v t ⟨#[41]⟩ false q1 _).mono ?_
    rintro e w2 ⟨rfl, hb⟩
    clear d0 d1 d2 d3 d4
    have S2 := Hh (S1.out.grow hb)
    have B2 := Hh (B1.out.trans (hb.mono B1.out.size))
    clear hb S1 B1
    obtain ⟨d0, d1, d2, d3, d4⟩ := (HO.out.grow B2.out).cells a t HT.out
    go_wp2_with fail
    refine (is_v t ⟨#[42]⟩ false q2 _).mono ?_
    rintro e w3 ⟨rfl, hb⟩
    clear d0 d1 d2 d3 d4
    have S3 := Hh (S2.out.grow hb)
    have B3 := Hh (B2.out.trans (hb.mono B2.out.size))
    clear hb S2 B2
    obtain ⟨d0, d1, d2, d3, d4⟩ := (HO.out.grow B3.out).cells a t HT.out
    go_wp2_with fail
    refine (is_v t ⟨#[43]⟩ false q3 _).mono ?_
    rintro e w4 ⟨rfl, hb⟩
    clear d0 d1 d2 d3 d4
    have S4 := Hh (S3.out.grow hb)
    have B4 := Hh (B3.out.trans (hb.mono B3.out.size))
    clear hb S3 B3
    obtain ⟨d0, d1, d2, d3, d4⟩ := (HO.out.grow B4.out).cells a t HT.out
    go_wp2_with fail
    refine (is_v t ⟨#[45]⟩ true q4 _).mono ?_
    rintro e w5 ⟨rfl, hb⟩
    clear d0 d1 d2 d3 d4
    have S5 := Hh (S4.out.grow hb)
    have B5 := Hh (B4.out.trans (hb.mono B4.out.size))
    clear hb S4 B4
    have HRun := Hh hrun
    clear hrun q1 q2 q3 q4
    obtain ⟨v2, hv2⟩ : ∃ v2, (o.times nv).all = v2 := ⟨_, rfl⟩
    have HV2 := Hh hv2
    clear hv2
    go_wp2_with fail
    refine (join_v g2 (m * 4) _ 2 v2 HV2.out w5 S5.out.top.1 (S5.out.top.2 _) (S5.out.top.2 _) (S5.out.top.2 _)).mono ?_
    rintro e w6 ⟨rfl, rfl⟩
    have hS := S5.out.join 2 v2 HV2.out
    have hB := ((((B5.out.setCell (p := ⟨g2, m * 4 + 1, none⟩) HG.out (.int .i64 v2)).setCell (p := ⟨g2, m * 4 + 2, none⟩) HG.out (.int .i64 2)).setCell (p := ⟨g2, m * 4 + 3, none⟩) HG.out (.int .i64 1))).drew
    rw [← HM.out] at hS
    have SJ := Hh hS
    have BJ := Hh hB
    clear hS hB S5 B5
    go_wp2_with fail
    refine wp_goto ?_
    refine Or.inl ⟨rfl, HH0.out _ _ ⟨n, Nat.lt_succ_self _, a + 1, some ⟨g2, 0, none⟩, cs, M, (o.times nv).join 2 :: r, _, ⟨rfl, rfl, rfl, rfl, rfl, rfl, rfl, rfl, rfl⟩, HRun.out, HF.out, SJ.out, BJ.out⟩⟩
   ·refine (is_v t ⟨#[41]⟩ false q1 _).mono ?_
    rintro e w2 ⟨rfl, hb⟩
    clear d0 d1 d2 d3 d4
    have S2 := Hh (S1.out.grow hb)
    have B2 := Hh (B1.out.trans (hb.mono B1.out.size))
    clear hb S1 B1
    obtain ⟨d0, d1, d2, d3, d4⟩ := (HO.out.grow B2.out).cells a t HT.out
    go_wp2_with fail
    refine (is_v t ⟨#[42]⟩ false q2 _).mono ?_
    rintro e w3 ⟨rfl, hb⟩
    clear d0 d1 d2 d3 d4
    have S3 := Hh (S2.out.grow hb)
    have B3 := Hh (B2.out.trans (hb.mono B2.out.size))
    clear hb S2 B2
    obtain ⟨d0, d1, d2, d3, d4⟩ := (HO.out.grow B3.out).cells a t HT.out
    go_wp2_with fail
    refine (is_v t ⟨#[43]⟩ false q3 _).mono ?_
    rintro e w4 ⟨rfl, hb⟩
    clear d0 d1 d2 d3 d4
    have S4 := Hh (S3.out.grow hb)
    have B4 := Hh (B3.out.trans (hb.mono B3.out.size))
    clear hb S3 B3
    obtain ⟨d0, d1, d2, d3, d4⟩ := (HO.out.grow B4.out).cells a t HT.out
    go_wp2_with fail
    refine (is_v t ⟨#[45]⟩ false q4 _).mono ?_
    rintro e w5 ⟨rfl, hb⟩
    clear d0 d1 d2 d3 d4
    have S5 := Hh (S4.out.grow hb)
    have B5 := Hh (B4.out.trans (hb.mono B4.out.size))
    clear hb S4 B4
    have HRun := Hh hrun
    clear hrun q1 q2 q3 q4
    go_wp2_with fail
    have hw := wrong_k l g c a 20 (by decide) t HT.out w5 (HO.out.grow B5.out)
    rw [HL.out] at hw
    refine hw.mono ?_
    rintro e w6 ⟨rfl, rfl⟩
    unfold Fau.bare
    go_wp2_with fail
    refine two_ret ?_
    go_ret3
    exact ⟨by rw [HRun.out]; rfl, B5.out⟩
 case pass0 =>
  clear z1 z2 z0 ha0 d0 d1 d2 d3 d4
  obtain ⟨i0, hi0, hz0, hz1, hz2⟩ := info_parts info55z
  have I0 := Hh (Ai hi0 (Ai hz0 (Ai hz1 hz2)))
  clear hi0 hz0 hz1 hz2
  rintro K0 K1 n h0 h1 act wr ⟨a, A, cs, M, stk, nv, hF, hrun, hfew, hstk, hbel⟩
  obtain ⟨f, rfl⟩ := hF.out
  clear hF
  obtain _ | n := n
  ·cases hrun
  obtain ⟨t0, t, ht0, hcase⟩ := mach_fac hrun
  have a1 := at_lt HL.out ht0
  have a0 : (0 : Int) ≤ (a : Int) := by omega
  have HM := Hh hstk.1
  have HT0 := Hh ht0
  have HC := Hh hcase
  have S1 := Hh hstk
  have B1 := Hh hbel
  have HH0 := Hh h0
  have HH1 := Hh h1
  have HF := Hh hfew
  clear hstk hbel hrun ht0 hcase h0 h1 hfew
  obtain ⟨d0, d1, d2, d3, d4⟩ := (HO.out.grow B1.out).cells a t0 HT0.out
  go_wp2_with fail
  rcases HC.out with ⟨hm, ht, hc⟩ | ⟨hm, ht, hc⟩
  all_goals clear HC
  ·refine (is_v t0 ⟨#[45]⟩ true hm _).mono ?_
   rintro e w2 ⟨rfl, hb⟩
   clear d0 d1 d2 d3 d4
   have S2 := Hh (S1.out.grow hb)
   have B2 := Hh (B1.out.trans (hb.mono B1.out.size))
   clear hb S1 B1
   unfold FacP at hc
   have HT := Hh ht
   obtain ⟨p, hp⟩ : ∃ p, a + 1 = p := ⟨_, rfl⟩
   rw [hp] at HT hc
   have p1 := at_lt HL.out HT.out
   have ap : (a : Int) + 1 = (p : Int) := by omega
   have p0 : (0 : Int) ≤ (p : Int) := by omega
   obtain ⟨p2, hp2⟩ : ∃ p2, p + 1 = p2 := ⟨_, rfl⟩
   rw [hp2] at hc
   have pp : (p : Int) + 1 = (p2 : Int) := by omega
   clear hp2 ht hm hp
   obtain ⟨d0, d1, d2, d3, d4⟩ := (HO.out.grow B2.out).cells p t HT.out
   go_wp2_with fail
   rcases hc with ⟨q1, q2, hrun⟩ | ⟨q1, q2, hrun⟩ | ⟨q1, n1, q2, hrun⟩ | ⟨q1, n1, c1, q2, q3, hrun⟩
   ·refine (is_v t ⟨#[40]⟩ true q1 _).mono ?_
    rintro e w3 ⟨rfl, hb⟩
    clear d0 d1 d2 d3 d4
    have S3 := Hh (S2.out.grow hb)
    have B3 := Hh (B2.out.trans (hb.mono B2.out.size))
    clear hb S2 B2
    rw [HM.out] at q2
    have HRun := Hh hrun
    have hM32 : M + 1 ≤ 32 := few_next HF.out q2
    have HQ := Hh q2
    clear hrun q1 q2
    go_wp2_with fail
    refine (may_v M true 0 HQ.out _).mono ?_
    rintro e w4 ⟨rfl, rfl⟩
    go_wp2_with fail
    refine (opened_v true _).mono ?_
    rintro e w4 ⟨rfl, hb⟩
    have S4 := Hh (S3.out.grow hb)
    have B4 := Hh (B3.out.trans (hb.mono B3.out.size))
    clear hb S3 B3
    have HA := Hh (Ai (S4.out.2.alloc (.cells #[.bool true, .int .i64 0, .int .i64 1, .int .i64 1] 241)) (Nat.le_trans B4.out.size (by simp) : w.heap.size ≤ (w4.alloc (.cells #[.bool true, .int .i64 0, .int .i64 1, .int .i64 1] 241)).heap.size))
    go_wp2_with (at_builtin; refine wpList_append_lies _ rfl (.tmp 58) (.tmp 61) 237 rfl w.heap.size 241 i0 (.agg #[.bool false, .int .i64 0, .int .i64 0, .int .i64 0]) 4 32 Tryz.underlying237 I0.out.1 I0.out.2.1 I0.out.2.2.1 I0.out.2.2.2 rfl (by decide) (.slice A M cs) M (ocs stk.reverse) rfl HA.out.1 ⟨w4.heap.size, 0, none⟩ 1 1 (ocl (opened true)) rfl rfl (news_new w4 _ 241 _ rfl) (ocl_cell _) (by decide) (by unfold maxLen; omega) (by omega) HA.out.2 _ rfl ?_)
    intro g' cap' w5 hown hgrow _ _
    have H5 := Hh (stk_step B4.out S4.out hown hgrow B4.out.size)
    clear hown hgrow
    go_wp2_with fail
    refine wp_goto ?_
    refine Or.inl ⟨rfl, HH0.out _ _ ⟨n, Nat.lt_succ_self _, p2, some ⟨g', 0, none⟩, cap', M + 1, opened true :: stk, _, ⟨rfl, rfl, rfl, rfl, rfl, rfl, rfl, rfl, rfl⟩, HRun.out, hM32, H5.out.2, H5.out.1⟩⟩
   ·refine (is_v t ⟨#[40]⟩ true q1 _).mono ?_
    rintro e w3 ⟨rfl, hb⟩
    clear d0 d1 d2 d3 d4
    have S3 := Hh (S2.out.grow hb)
    have B3 := Hh (B2.out.trans (hb.mono B2.out.size))
    clear hb S2 B2
    rw [HM.out] at q2 hrun
    obtain ⟨v2, hv2⟩ : ∃ v2, mayT M true = v2 := ⟨_, rfl⟩
    rw [hv2] at q2 hrun
    have HRun := Hh hrun
    have HV2 := Hh hv2
    have HQ := Hh q2
    have qz : (v2 == 0) = false := by rw [Bqf]; exact q2
    clear hrun q1 q2 hv2
    go_wp2_with fail
    refine (may_v M true v2 HV2.out _).mono ?_
    rintro e w4 ⟨rfl, rfl⟩
    go_wp2_with fail
    have hw := wrong_k l g c p v2 HQ.out t HT.out w3 (HO.out.grow B3.out)
    rw [HL.out] at hw
    refine hw.mono ?_
    rintro e w6 ⟨rfl, rfl⟩
    unfold Fau.bare
    go_wp2_with fail
    refine two_ret ?_
    go_ret3
    exact ⟨by rw [HRun.out]; rfl, B3.out⟩
   ·refine (is_v t ⟨#[40]⟩ false q1 _).mono ?_
    rintro e w3 ⟨rfl, hb⟩
    clear d0 d1 d2 d3 d4
    have S3 := Hh (S2.out.grow hb)
    have B3 := Hh (B2.out.trans (hb.mono B2.out.size))
    clear hb S2 B2
    obtain ⟨d0, d1, d2, d3, d4⟩ := (HO.out.grow B3.out).cells p t HT.out
    have HRun := Hh hrun
    have HQ := Hh q2
    clear hrun q1 q2
    go_wp2_with fail
    refine (num_v t true n1 0 HQ.out _).mono ?_
    rintro e w4 ⟨rfl, hb⟩
    clear d0 d1 d2 d3 d4
    have S4 := Hh (S3.out.grow hb)
    have B4 := Hh (B3.out.trans (hb.mono B3.out.size))
    clear hb S3 B3
    go_wp2_with fail
    rename_i K hK
    refine wp_label (hK _ _ (HH1.out _ _ ⟨n, Nat.lt_succ_self _, p2, A, cs, M, stk, n1, ⟨rfl, rfl, rfl, rfl, rfl, rfl, rfl, rfl, rfl⟩, HRun.out, HF.out, S4.out, B4.out⟩))
   ·refine (is_v t ⟨#[40]⟩ false q1 _).mono ?_
    rintro e w3 ⟨rfl, hb⟩
    clear d0 d1 d2 d3 d4
    have S3 := Hh (S2.out.grow hb)
    have B3 := Hh (B2.out.trans (hb.mono B2.out.size))
    clear hb S2 B2
    obtain ⟨d0, d1, d2, d3, d4⟩ := (HO.out.grow B3.out).cells p t HT.out
    have HRun := Hh hrun
    have HQ := Hh q2
    have HN := Hh q3
    have qz : (c1 == 0) = false := by rw [Bqf]; exact q3
    clear hrun q1 q2 q3
    go_wp2_with fail
    refine (num_v t true n1 c1 HQ.out _).mono ?_
    rintro e w4 ⟨rfl, hb⟩
    clear d0 d1 d2 d3 d4
    have B4 := Hh (B3.out.trans (hb.mono B3.out.size))
    clear hb S3 B3
    go_wp2_with fail
    have hw := wrong_k l g c p c1 HN.out t HT.out w4 (HO.out.grow B4.out)
    rw [HL.out] at hw
    refine hw.mono ?_
    rintro e w6 ⟨rfl, rfl⟩
    unfold Fau.bare
    go_wp2_with fail
    refine two_ret ?_
    go_ret3
    exact ⟨by rw [HRun.out]; rfl, B4.out⟩
  ·refine (is_v t0 ⟨#[45]⟩ false hm _).mono ?_
   rintro e w2 ⟨rfl, hb⟩
   clear d0 d1 d2 d3 d4
   have S2 := Hh (S1.out.grow hb)
   have B2 := Hh (B1.out.trans (hb.mono B1.out.size))
   clear hb S1 B1
   unfold FacP at hc
   have HT := Hh ht
   obtain ⟨p, hp⟩ : ∃ p, a = p := ⟨_, rfl⟩
   subst hp
   have p1 := at_lt HL.out HT.out
   have p0 : (0 : Int) ≤ (a : Int) := by omega
   obtain ⟨p2, hp2⟩ : ∃ p2, a + 1 = p2 := ⟨_, rfl⟩
   rw [hp2] at hc
   have pp : (a : Int) + 1 = (p2 : Int) := by omega
   clear hp2 ht hm
   obtain ⟨d0, d1, d2, d3, d4⟩ := (HO.out.grow B2.out).cells a t HT.out
   go_wp2_with fail
   rcases hc with ⟨q1, q2, hrun⟩ | ⟨q1, q2, hrun⟩ | ⟨q1, n1, q2, hrun⟩ | ⟨q1, n1, c1, q2, q3, hrun⟩
   ·refine (is_v t ⟨#[40]⟩ true q1 _).mono ?_
    rintro e w3 ⟨rfl, hb⟩
    clear d0 d1 d2 d3 d4
    have S3 := Hh (S2.out.grow hb)
    have B3 := Hh (B2.out.trans (hb.mono B2.out.size))
    clear hb S2 B2
    rw [HM.out] at q2
    have HRun := Hh hrun
    have hM32 : M + 1 ≤ 32 := few_next HF.out q2
    have HQ := Hh q2
    clear hrun q1 q2
    go_wp2_with fail
    refine (may_v M false 0 HQ.out _).mono ?_
    rintro e w4 ⟨rfl, rfl⟩
    go_wp2_with fail
    refine (opened_v false _).mono ?_
    rintro e w4 ⟨rfl, hb⟩
    have S4 := Hh (S3.out.grow hb)
    have B4 := Hh (B3.out.trans (hb.mono B3.out.size))
    clear hb S3 B3
    have HA := Hh (Ai (S4.out.2.alloc (.cells #[.bool false, .int .i64 0, .int .i64 1, .int .i64 1] 241)) (Nat.le_trans B4.out.size (by simp) : w.heap.size ≤ (w4.alloc (.cells #[.bool false, .int .i64 0, .int .i64 1, .int .i64 1] 241)).heap.size))
    go_wp2_with (at_builtin; refine wpList_append_lies _ rfl (.tmp 58) (.tmp 61) 237 rfl w.heap.size 241 i0 (.agg #[.bool false, .int .i64 0, .int .i64 0, .int .i64 0]) 4 32 Tryz.underlying237 I0.out.1 I0.out.2.1 I0.out.2.2.1 I0.out.2.2.2 rfl (by decide) (.slice A M cs) M (ocs stk.reverse) rfl HA.out.1 ⟨w4.heap.size, 0, none⟩ 1 1 (ocl (opened false)) rfl rfl (news_new w4 _ 241 _ rfl) (ocl_cell _) (by decide) (by unfold maxLen; omega) (by omega) HA.out.2 _ rfl ?_)
    intro g' cap' w5 hown hgrow _ _
    have H5 := Hh (stk_step B4.out S4.out hown hgrow B4.out.size)
    clear hown hgrow
    go_wp2_with fail
    refine wp_goto ?_
    refine Or.inl ⟨rfl, HH0.out _ _ ⟨n, Nat.lt_succ_self _, p2, some ⟨g', 0, none⟩, cap', M + 1, opened false :: stk, _, ⟨rfl, rfl, rfl, rfl, rfl, rfl, rfl, rfl, rfl⟩, HRun.out, hM32, H5.out.2, H5.out.1⟩⟩
   ·refine (is_v t ⟨#[40]⟩ true q1 _).mono ?_
    rintro e w3 ⟨rfl, hb⟩
    clear d0 d1 d2 d3 d4
    have S3 := Hh (S2.out.grow hb)
    have B3 := Hh (B2.out.trans (hb.mono B2.out.size))
    clear hb S2 B2
    rw [HM.out] at q2 hrun
    obtain ⟨v2, hv2⟩ : ∃ v2, mayT M false = v2 := ⟨_, rfl⟩
    rw [hv2] at q2 hrun
    have HRun := Hh hrun
    have HV2 := Hh hv2
    have HQ := Hh q2
    have qz : (v2 == 0) = false := by rw [Bqf]; exact q2
    clear hrun q1 q2 hv2
    go_wp2_with fail
    refine (may_v M false v2 HV2.out _).mono ?_
    rintro e w4 ⟨rfl, rfl⟩
    go_wp2_with fail
    have hw := wrong_k l g c a v2 HQ.out t HT.out w3 (HO.out.grow B3.out)
    rw [HL.out] at hw
    refine hw.mono ?_
    rintro e w6 ⟨rfl, rfl⟩
    unfold Fau.bare
    go_wp2_with fail
    refine two_ret ?_
    go_ret3
    exact ⟨by rw [HRun.out]; rfl, B3.out⟩
   ·refine (is_v t ⟨#[40]⟩ false q1 _).mono ?_
    rintro e w3 ⟨rfl, hb⟩
    clear d0 d1 d2 d3 d4
    have S3 := Hh (S2.out.grow hb)
    have B3 := Hh (B2.out.trans (hb.mono B2.out.size))
    clear hb S2 B2
    obtain ⟨d0, d1, d2, d3, d4⟩ := (HO.out.grow B3.out).cells a t HT.out
    have HRun := Hh hrun
    have HQ := Hh q2
    clear hrun q1 q2
    go_wp2_with fail
    refine (num_v t false n1 0 HQ.out _).mono ?_
    rintro e w4 ⟨rfl, hb⟩
    clear d0 d1 d2 d3 d4
    have S4 := Hh (S3.out.grow hb)
    have B4 := Hh (B3.out.trans (hb.mono B3.out.size))
    clear hb S3 B3
    go_wp2_with fail
    rename_i K hK
    refine wp_label (hK _ _ (HH1.out _ _ ⟨n, Nat.lt_succ_self _, p2, A, cs, M, stk, n1, ⟨rfl, rfl, rfl, rfl, rfl, rfl, rfl, rfl, rfl⟩, HRun.out, HF.out, S4.out, B4.out⟩))
   ·refine (is_v t ⟨#[40]⟩ false q1 _).mono ?_
    rintro e w3 ⟨rfl, hb⟩
    clear d0 d1 d2 d3 d4
    have S3 := Hh (S2.out.grow hb)
    have B3 := Hh (B2.out.trans (hb.mono B2.out.size))
    clear hb S2 B2
    obtain ⟨d0, d1, d2, d3, d4⟩ := (HO.out.grow B3.out).cells a t HT.out
    have HRun := Hh hrun
    have HQ := Hh q2
    have HN := Hh q3
    have qz : (c1 == 0) = false := by rw [Bqf]; exact q3
    clear hrun q1 q2 q3
    go_wp2_with fail
    refine (num_v t false n1 c1 HQ.out _).mono ?_
    rintro e w4 ⟨rfl, hb⟩
    clear d0 d1 d2 d3 d4
    have B4 := Hh (B3.out.trans (hb.mono B3.out.size))
    clear hb S3 B3
    go_wp2_with fail
    have hw := wrong_k l g c a c1 HN.out t HT.out w4 (HO.out.grow B4.out)
    rw [HL.out] at hw
    refine hw.mono ?_
    rintro e w6 ⟨rfl, rfl⟩
    unfold Fau.bare
    go_wp2_with fail
    refine two_ret ?_
    go_ret3
    exact ⟨by rw [HRun.out]; rfl, B4.out⟩
end Go.Proofs.YtbpichjmkllfaaaGreatDoor.Fol
