/- Packed texts of one proof. Conditions: none. -/
import Derived.Test.YtbpichjmkllfaaaGreatDoorPq10
import Derived.WalkMore
import Derived.Laws.StructEq
namespace Go.Proofs.YtbpichjmkllfaaaGreatDoor.Lex
open Go.ChangeShapes Go.WideShapes Go.RowKit
set_option linter.unusedVariables false
set_option maxRecDepth 20000
def tcl (t : Tok) : Array Value := tc t.kind ⟨t.text.toArray⟩ t.n t.cls t.at_
def tcs (l : List Tok) : List Value := l.flatMap fun t => (tcl t).toList
theorem tcs_append (l m : List Tok) : tcs (l ++ m) = tcs l ++ tcs m := List.flatMap_append
theorem tcs_one (t : Tok) : tcs [t] = (tcl t).toList := by unfold tcs; simp
theorem tcs_at (l : List Tok) (k j : Nat) (hk : k < l.length) (hj : j < 5) : (tcs l)[k * 5 + j]? = (tcl l[k])[j]? := by
 induction l generalizing k with
 | nil => cases hk
 | cons t l ih =>
  show (tcs ([t] ++ l))[k * 5 + j]? = _
  rw [tcs_append, tcs_one]
  have h5 : (tcl t).toList.length = 5 := rfl
  cases k with
  | zero =>
   rw [List.getElem?_append_left (by omega)]
   simp
  | succ k =>
   rw [List.getElem?_append_right (by omega), h5, show (k + 1) * 5 + j - 5 = k * 5 + j by omega, ih k (by simpa using hk)]
   simp
def OwnK (N : Nat) (w : World) (A : Option Addr) (c : Nat) (l : List Tok) : Prop := w.ownsRow N 72 5 (.slice A l.length c) l.length (tcs l)
theorem OwnK.lo {N : Nat} {w : World} {A : Option Addr} {c : Nat} {l : List Tok} (h : OwnK N w A c l) : ∀ k, Value.ownBlock (.slice A l.length c) = some k → N ≤ k ∧ k < w.heap.size := World.ownsRow.lt h
theorem below_grown {w w' : World} (h : Below w.heap.size w w') : w.grownBy w' none := ⟨h.os, h.tape, h.output, h.size, fun i hi _ => h.block i hi⟩
theorem OwnK.grow {N : Nat} {w w' : World} {A : Option Addr} {c : Nat} {l : List Tok} (h : OwnK N w A c l) (hb : Below w.heap.size w w') : OwnK N w' A c l := by
 refine World.ownsRow.kept h (below_grown hb) ?_
 cases e : Value.ownBlock (.slice A l.length c) with
 | none => exact .inl rfl
 | some k => exact .inr (by simp)
theorem info37z : (Tryz.prog.info? 72).map (fun i => (i.zero, i.size, i.bytes)) = some (some (.agg t0), 5, 48) := by kernel_rfl
def AllP (s : ByteArray) (w : World) (e : Ending) (w' : World) : Prop :=
 ∃ m code q, all s.data.toList = (m, code, q) ∧ Below w.heap.size w w' ∧
  ((code = 0 ∧ ∃ A c, e = .returned (.tuple #[.slice A m.length c, .nilIface]) ∧ OwnK w.heap.size w' A c m) ∨ (code ≠ 0 ∧ e = .returned (.tuple #[.slice none 0 0, Fau.bare code (q : Int)])))
theorem all_is_long (s : ByteArray) (h : 65536 < s.size) (w : World) : Calls Tryz.prog 24 #[.string s] w (AllP s w) := by
 have h1 : (65536 : Int) < (s.size : Int) := by omega
 have HA : Hid (all s.data.toList = ([], 3, 0)) := all_long (by rw [Nam.len_list]; exact h)
 clear h
 go_enter Tryz.func24, Tryz.ntmps24
 go_wp2_with fail
 go_step3
 go_wp2_with fail
 refine (Fau.new_v 3 0 (by decide) _).mono ?_
 rintro e w1 ⟨rfl, rfl⟩
 go_wp2_with fail
 rw [Exit.noGoto_ret]
 go_ret2
 exact ⟨[], 3, 0, HA.out, Below.refl _ _, .inr ⟨by decide, rfl⟩⟩
structure Sofar (s : ByteArray) (w wr : World) (n : Nat) (A : Option Addr) (c : Nat) (out : List Tok) : Prop where
 le : n ≤ s.size
 few : out.length ≤ n
 same : all s.data.toList = rest s.data.toList n out
 below : Below w.heap.size w wr
 own : OwnK w.heap.size wr A c out
theorem news_new (w : World) (cs : Array Value) (t : TypeId) (l : List Value) (hl : cs.toList = l) : ∀ j u, l[j]? = some u → (w.alloc (.cells cs t)).cell? ((⟨w.heap.size, 0, none⟩ : Addr).add j) = some u := Quo.news_new w cs t l hl
theorem two_news (w : World) (cs : Array Value) (l : List Value) (hl : cs.toList = l) : ∀ j u, l[j]? = some u → ((w.alloc (.cells cs 72)).alloc (.cells cs 72)).cell? ((⟨w.heap.size + 1, 0, none⟩ : Addr).add j) = some u := fun j u hj => by
 have := news_new (w.alloc (.cells cs 72)) cs 72 l hl j u hj
 simpa using this
theorem tok_step {w wr w2 w3 : World} {A : Option Addr} {c N g' cap' : Nat} {out : List Tok} {t : Tok} {C D : Obj} (hb : Below w.heap.size w wr) (ho : OwnK w.heap.size wr A c out) (hN : out.length = N) (h2 : Below wr.heap.size wr w2)
  (hown : w3.ownsRow w.heap.size 72 5 (.slice (some ⟨g', 0, none⟩) (N + 1) cap') (N + 1) (tcs out ++ tcs [t])) (hg : ((w2.alloc C).alloc D).grownBy w3 (Value.ownBlock (.slice A N c))) :
  Below w.heap.size w w3 ∧ OwnK w.heap.size w3 (some ⟨g', 0, none⟩) cap' (out ++ [t]) := by
 have hr : ∀ k, Value.ownBlock (.slice A N c) = some k → w.heap.size ≤ k := fun k e => (ho.lo k (by rw [hN]; exact e)).1
 have h3 : Below w.heap.size w w2 := hb.trans (h2.mono hb.size)
 refine ⟨((h3.alloc h3.size C).alloc (by have := h3.size; simp; omega) D).grown hg (by have := h3.size; simp; omega) hr, ?_⟩
 unfold OwnK
 have e1 : (out ++ [t]).length = N + 1 := by simp [hN]
 rw [e1, tcs_append]; exact hown
theorem tcs_cell (t : Tok) : ∀ u ∈ tcs [t], u.oneCell' = true := by
 rw [tcs_one]
 intro u hu
 unfold tcl tc at hu
 simp at hu
 rcases hu with rfl | rfl | rfl | rfl | rfl <;> rfl
set_option maxHeartbeats 2000000 in
theorem all_is (s : ByteArray) (h : s.size ≤ 65536) (w : World) : Calls Tryz.prog 24 #[.string s] w (AllP s w) := by
 obtain ⟨i0, hi0, hz0, hz1, hz2⟩ := info_parts info37z
 have I0 := Hh (Ai hi0 (Ai hz0 (Ai hz1 hz2)))
 have h1 : (s.size : Int) ≤ (65536 : Int) := by omega
 have HA : Hid (all s.data.toList = rest s.data.toList 0 []) := rest_start (by rw [Nam.len_list]; exact h)
 clear hi0 hz0 hz1 hz2
 go_enter Tryz.func24, Tryz.ntmps24
 go_wp2_with fail
 go_step3
 go_wp2_with fail
 go_step3
 go_wp2_with fail
 go_loopg [4, 5] (s.size + 1) (fun gk u x wr => ∃ (n : Nat) (A : Option Addr) (c N : Nat) (out : List Tok), u = .slice A N c ∧ x = .int .i64 (n : Int) ∧ gk = s.size + 1 - n ∧ n ≤ s.size ∧ N ≤ n ∧ Hid (Sofar s w wr n A c out ∧ out.length = N))
 case atStart => exact ⟨0, none, 0, 0, [], rfl, rfl, rfl, Nat.zero_le _, Nat.le_refl _, ⟨Nat.zero_le _, Nat.le_refl _, HA.out, Below.refl _ _, World.ownsRow_nil _ _ _ _⟩, rfl⟩
 case round =>
  obtain ⟨n, A, c, N, out, rfl, rfl, hk, hn, hN, HH⟩ := hrel
  go_wp2_with fail
  refine (bb_v s n hn (by omega) _).mono ?_
  rintro e w1 ⟨⟨b, rfl, hb⟩, rfl⟩
  have HB := Hh hb
  clear hb
  by_cases hbs : b = s.size
  ·subst hbs
   go_wp2_with fail
   refine (way_end s _).mono ?_
   rintro e w1 ⟨rfl, hb1⟩
   unfold rd
   go_wp2_with fail
   refine (end_v s s.size (Nat.le_refl _) _).mono ?_
   rintro e w2 ⟨rfl, hb2⟩
   have hb12 := hb1.trans (hb2.mono hb1.size)
   have ho : w2.ownsRow w.heap.size 72 5 (.slice A N c) N (tcs out) := by
    have h1 := HH.out.1.own.grow hb12
    unfold OwnK at h1
    rw [HH.out.2] at h1; exact h1
   have hba : w.heap.size ≤ ((w2.alloc (.cells (tcl ⟨0, [], 0, 0, s.size⟩) 72)).alloc (.cells (tcl ⟨0, [], 0, 0, s.size⟩) 72)).heap.size := by
    have h1 := HH.out.1.below.size
    have h2 := hb12.size
    simp; omega
   have HO := Hh (Ai hb12 (Ai ho hba))
   clear hb1 hb2 hb12 ho hba
   unfold good tk tc
   go_wp2_with (at_builtin; refine wpList_append_lies _ rfl (.tmp 39) (.tmp 41) 48 rfl w.heap.size 72 i0 (.agg t0) 5 48 Tryz.underlying48 I0.out.1 I0.out.2.1 I0.out.2.2.1 I0.out.2.2.2 rfl (by decide) (.slice A N c) N (tcs out) rfl ((HO.out.2.1.alloc _).alloc _) ⟨w2.heap.size + 1, 0, none⟩ 1 1 (tcs [⟨0, [], 0, 0, s.size⟩]) rfl rfl (two_news w2 _ _ rfl) (tcs_cell _) (by decide) (by unfold maxLen; omega) (by omega) HO.out.2.2 _ rfl ?_)
   intro g' cap' w3 hown hgrow _ _
   have H3 := Hh (tok_step HH.out.1.below HH.out.1.own HH.out.2 HO.out.1 hown hgrow)
   clear hown hgrow
   go_wp2_with fail
   rw [Exit.noGoto_ret]
   go_ret2
   refine ⟨out ++ [⟨0, [], 0, 0, s.size⟩], 0, 0, ?_, H3.out.1, .inl ⟨rfl, _, _, ?_, H3.out.2⟩⟩
   ·rw [HH.out.1.same, HB.out.same]; exact rest_end _ _
   ·simp [HH.out.2]
  ·have hlt : b < s.size := by have := HB.out.lt; rw [Nam.len_list] at this; omega
   have hnk : ∀ k, nx (s.data.toList.drop b) b ≠ .skip k := by
    rcases HB.out.stop with h | h
    ·rw [Nam.len_list] at h; exact absurd h hbs
    ·exact h
   obtain ⟨k, hcall, hk1, hk2⟩ := reads s b (by omega) hlt hnk
   have HD1 := Hh hk1
   have HD2 := Hh hk2
   have hle := HB.out.le
   clear hk1 hk2
   cases hx : nx (s.data.toList.drop b) b with
   | skip j => exact absurd hx (hnk j)
   | bad e p =>
    have hp0 := nx_bad_code hx
    have HX := Hh hx
    rw [hx] at HD2
    clear hx hnk
    go_wp2_with fail
    refine (HD1.out _).mono ?_
    rintro e1 w1 ⟨rfl, hb1⟩
    unfold rd
    go_wp2_with fail
    refine (HD2.out _).mono ?_
    rintro e1 w2 ⟨rfl, hb2⟩
    have HO := Hh (hb1.trans (hb2.mono hb1.size))
    clear hb1 hb2
    unfold ansE bad t0 tc Fau.bare
    go_wp2_with fail
    rw [Exit.noGoto_ret]
    go_ret2
    have h3 : Below w.heap.size w w2 := HH.out.1.below.trans (HO.out.mono HH.out.1.below.size)
    refine ⟨[], e, p, ?_, h3.alloc h3.size _, .inr ⟨hp0, rfl⟩⟩
    rw [HH.out.1.same, HB.out.same]; exact rest_bad _ (by rw [Nam.len_list]; exact hlt) HX.out
   | tok t j =>
    have hk0 := (nx_again hx).2
    have hr := rest_tok (s := s.data.toList) (at_ := b) out hx
    rw [Nam.len_list] at hr
    have HX := Hh hr
    rw [hx] at HD2
    obtain ⟨q, hq⟩ : ∃ q, b + j = q := ⟨_, rfl⟩
    rw [ansE_tok hq] at HD2
    have hqs : q ≤ s.size := by omega
    have hqb : b < q := by omega
    have HQ := Hh hq
    have hkk : ((t.kind : Int) == 0) = false := by rw [Bqf]; omega
    clear hx hnk hk0 hr hq
    go_wp2_with fail
    refine (HD1.out _).mono ?_
    rintro e1 w1 ⟨rfl, hb1⟩
    unfold rd
    go_wp2_with fail
    refine (HD2.out _).mono ?_
    rintro e1 w2 ⟨rfl, hb2⟩
    have hb12 := hb1.trans (hb2.mono hb1.size)
    have ho : w2.ownsRow w.heap.size 72 5 (.slice A N c) N (tcs out) := by
     have h1 := HH.out.1.own.grow hb12
     unfold OwnK at h1
     rw [HH.out.2] at h1; exact h1
    have hba : w.heap.size ≤ ((w2.alloc (.cells (tcl t) 72)).alloc (.cells (tcl t) 72)).heap.size := by
     have h1 := HH.out.1.below.size
     have h2 := hb12.size
     simp; omega
    have HO := Hh (Ai hb12 (Ai ho hba))
    clear hb1 hb2 hb12 ho hba
    unfold good tkv tk tc
    go_wp2_with (at_builtin; refine wpList_append_lies _ rfl (.tmp 26) (.tmp 28) 48 rfl w.heap.size 72 i0 (.agg t0) 5 48 Tryz.underlying48 I0.out.1 I0.out.2.1 I0.out.2.2.1 I0.out.2.2.2 rfl (by decide) (.slice A N c) N (tcs out) rfl ((HO.out.2.1.alloc _).alloc _) ⟨w2.heap.size + 1, 0, none⟩ 1 1 (tcs [t]) rfl rfl (two_news w2 (tcl t) _ (tcs_one t).symm) (tcs_cell _) (by decide) (by unfold maxLen; omega) (by omega) HO.out.2.2 _ rfl ?_)
    intro g' cap' w3 hown hgrow _ _
    have H3 := Hh (tok_step HH.out.1.below HH.out.1.own HH.out.2 HO.out.1 hown hgrow)
    clear hown hgrow
    go_wp2_with fail
    go_roundg (s.size + 1 - q)
    case measure => omega
    case rel =>
     refine ⟨q, _, _, N + 1, out ++ [t], rfl, rfl, rfl, hqs, by omega, ⟨hqs, ?_, ?_, H3.out.1, H3.out.2⟩, by simp [HH.out.2]⟩
     ·have := HH.out.2; simp; omega
     ·rw [HH.out.1.same, HB.out.same, HX.out.1, HQ.out]
theorem all_v (s : ByteArray) (w : World) : Calls Tryz.prog 24 #[.string s] w (AllP s w) := by
 by_cases h : s.size ≤ 65536
 ·exact all_is s h w
 ·exact all_is_long s (by omega) w
theorem OwnK.form {N : Nat} {w : World} {A : Option Addr} {c : Nat} {l : List Tok} (h : OwnK N w A c l) (hl : 0 < l.length) : ∃ g, A = some ⟨g, 0, none⟩ ∧ N ≤ g ∧ g < w.heap.size ∧ ∀ k j, (hk : k < l.length) → j < 5 → w.cell? ⟨g, k * 5 + j, none⟩ = (tcl l[k])[j]? := by
 obtain ⟨g, cap, e, hb, hlt⟩ := World.ownsRow.form h hl
 simp only [Value.slice.injEq, true_and] at e
 obtain ⟨rfl, rfl⟩ := e
 refine ⟨g, rfl, hb, hlt, fun k j hk hj => ?_⟩
 rw [World.ownsRow.cellAt h _ (by omega)]
 exact tcs_at l k j hk hj
end Go.Proofs.YtbpichjmkllfaaaGreatDoor.Lex
namespace Go.Proofs.YtbpichjmkllfaaaGreatDoor.Quo
open Go.ChangeShapes Go.WideShapes Go.RowKit
set_option linter.unusedVariables false
set_option maxRecDepth 20000
theorem one_convert (w : World) (c : UInt8) :
  (convert 148 9 (.slice (some ⟨w.heap.size, 0, none⟩) 1 1)).run Tryz.prog (w.alloc (.cells #[.int .u8 (c.toNat : Int)] 5)) = .ok (.string ⟨[c].toArray⟩) (w.alloc (.cells #[.int .u8 (c.toNat : Int)] 5)) := by
 refine run_convert_bytes_back _ 148 9 5 _ 1 [c] Tryz.underlying148 Tryz.underlying5 Tryz.underlying9 (fun j hj => ?_)
 simp at hj
 subst hj
 exact cell_one_new w _ 5 0 _ rfl
theorem below_drewN (B : Nat) (w : World) (n : Nat) : Below B w (w.drewN n) := ⟨rfl, rfl, rfl, Nat.le_refl _, fun _ _ => rfl⟩
end Go.Proofs.YtbpichjmkllfaaaGreatDoor.Quo
namespace Go.Proofs.YtbpichjmkllfaaaGreatDoor.Lex
open Go.ChangeShapes Go.WideShapes Go.RowKit
set_option linter.unusedVariables false
theorem add_run (a b c : ByteArray) (h : a.size + b.size ≤ 9223372036854775807) (hc : a ++ b = c) (W : World) : (Op.stringOp .add a b).run Tryz.prog W = .ok (.string c) W := by
 rw [run_string_add_sum W a b h, hc]
end Go.Proofs.YtbpichjmkllfaaaGreatDoor.Lex
namespace Go.Proofs.YtbpichjmkllfaaaGreatDoor.Nam
open Go.ChangeShapes Go.WideShapes Go.RowKit
set_option linter.unusedVariables false
theorem refscan_far (s : ByteArray) (z : Int) (h : z < 0 ∨ (s.size : Int) ≤ z) (w : World) : Calls Tryz.prog 72 #[.string s, .int .i64 z] w fun e w' => e = .returned (.int .i64 z) ∧ w = w' := by
 by_cases h0 : z < 0
 ·have h1 : decide (z < 0) = true := by rw [decide_eq_true_iff]; exact h0
  clear h
  go_enter Tryz.func72, Tryz.ntmps72
  go_wp2_with fail
  go_ret
  exact ⟨rfl, rfl⟩
 ·have h1 : (s.size : Int) ≤ z := by omega
  have h2 : 0 ≤ z := by omega
  clear h h0
  go_enter Tryz.func72, Tryz.ntmps72
  go_wp2_with fail
  go_ret
  exact ⟨rfl, rfl⟩
theorem refscan_no (s : ByteArray) (a : Nat) (h : a < s.size) (hc : letter s[a] = false) (w : World) : Calls Tryz.prog 72 #[.string s, .int .i64 (a : Int)] w fun e w' => e = .returned (.int .i64 (a : Int)) ∧ w = w' := by
 have HC := Hh hc
 have h1 : decide ((a : Int) < 0) = false := by rw [decide_eq_false_iff_not]; omega
 have h2 : decide (s.size ≤ a) = false := by rw [decide_eq_false_iff_not]; omega
 have h3 : (a : Int) < (s.size : Int) := by omega
 clear hc
 go_enter Tryz.func72, Tryz.ntmps72
 go_wp2_with fail
 refine (refletter_v s[a] _ HC.out _).mono ?_
 rintro e w1 ⟨rfl, rfl⟩
 go_wp2_with fail
 go_ret
 exact ⟨rfl, rfl⟩
theorem sign_digit {c : UInt8} (h : letter c = false) (h1 : 48 ≤ c.toNat) (h2 : c.toNat ≤ 57) : sign c = true := by unfold sign; rw [h, decide_eq_true ⟨h1, h2⟩]; rfl
theorem sign_low {c : UInt8} (h : letter c = false) (h1 : c.toNat < 48) : sign c = false := by unfold sign; rw [h, decide_eq_false (by omega)]; rfl
theorem sign_high {c : UInt8} (h : letter c = false) (h1 : 57 < c.toNat) : sign c = false := by unfold sign; rw [h, decide_eq_false (by omega)]; rfl
theorem run_stop' {l : List UInt8} {n y : Nat} (h : n < l.length) (hc : sign l[n] = false) (hy : n + run (l.drop n) = y) : n = y := by rw [run_stop l n h hc] at hy; exact hy
theorem run_at' {l : List UInt8} {n y : Nat} (h : n < l.length) (hc : sign l[n] = true) (hy : n + run (l.drop n) = y) : (n + 1) + run (l.drop (n + 1)) = y := by rw [run_at l n h hc] at hy; exact hy
set_option maxHeartbeats 400000 in
theorem refscan_yes (s : ByteArray) (a y : Nat) (hs : s.size ≤ 9223372036854775806) (h : a < s.size) (hc : letter s[a] = true) (hy : a + run (s.data.toList.drop a) = y) (w : World) : Calls Tryz.prog 72 #[.string s, .int .i64 (a : Int)] w fun e w' => e = .returned (.int .i64 (y : Int)) ∧ w = w' := by
 have HC := Hh hc
 have HY := Hh (run_at' (l := s.data.toList) (by rw [len_list]; exact h) (by rw [at_list s a h]; exact letter_sign hc) hy)
 have h1 : decide ((a : Int) < 0) = false := by rw [decide_eq_false_iff_not]; omega
 have h2 : decide (s.size ≤ a) = false := by rw [decide_eq_false_iff_not]; omega
 have h3 : (a : Int) < (s.size : Int) := by omega
 clear hc hy
 go_enter Tryz.func72, Tryz.ntmps72
 go_wp2_with fail
 refine (refletter_v s[a] _ HC.out _).mono ?_
 rintro e w1 ⟨rfl, rfl⟩
 go_wp2_with fail
 clear h1 h2
 go_loopg [5] (s.size - (a + 1)) (fun gk x wr => ∃ n : Nat, n ≤ s.size ∧ x = .int .i64 (n : Int) ∧ Hid (gk = s.size - n ∧ n + run (s.data.toList.drop n) = y ∧ w = wr))
 case atStart => exact ⟨a + 1, by omega, by go_num, rfl, HY.out, rfl⟩
 case round =>
  obtain ⟨n, hn, rfl, HH⟩ := hrel
  by_cases hl : n < s.size
  ·have hl' : (n : Int) < (s.size : Int) := by omega
   have HL : Hid (n < s.data.toList.length) := Hh (by rw [len_list]; exact hl)
   obtain ⟨b, hb⟩ : ∃ b, letter s[n] = b := ⟨_, rfl⟩
   have HB := Hh hb
   cases b
   ·by_cases d1 : 48 ≤ s[n].toNat
    ·by_cases d2 : s[n].toNat ≤ 57
     ·have HS := Hh (run_at' HL.out (by rw [at_list s n hl]; exact sign_digit hb d1 d2) HH.out.2.1)
      clear hb
      go_wp2_with fail
      refine (refletter_v s[n] _ HB.out _).mono ?_
      rintro e w1 ⟨rfl, rfl⟩
      go_wp2_with fail
      go_roundg (s.size - (n + 1))
      case measure => have := HH.out.1; omega
      case rel => exact ⟨n + 1, by omega, by go_num, rfl, HS.out, HH.out.2.2⟩
     ·have HS := Hh (run_stop' HL.out (by rw [at_list s n hl]; exact sign_high hb (by omega)) HH.out.2.1)
      have d3 : 57 < s[n].toNat := by omega
      clear hb d2
      go_wp2_with fail
      refine (refletter_v s[n] _ HB.out _).mono ?_
      rintro e w1 ⟨rfl, rfl⟩
      go_wp2_with fail
      go_ret
      exact ⟨ret_i (by have := HS.out; omega), HH.out.2.2⟩
    ·have HS := Hh (run_stop' HL.out (by rw [at_list s n hl]; exact sign_low hb (by omega)) HH.out.2.1)
     have d3 : s[n].toNat < 48 := by omega
     clear hb d1
     go_wp2_with fail
     refine (refletter_v s[n] _ HB.out _).mono ?_
     rintro e w1 ⟨rfl, rfl⟩
     go_wp2_with fail
     go_ret
     exact ⟨ret_i (by have := HS.out; omega), HH.out.2.2⟩
   ·have HS := Hh (run_at' HL.out (by rw [at_list s n hl]; exact letter_sign hb) HH.out.2.1)
    clear hb
    go_wp2_with fail
    refine (refletter_v s[n] _ HB.out _).mono ?_
    rintro e w1 ⟨rfl, rfl⟩
    go_wp2_with fail
    go_roundg (s.size - (n + 1))
    case measure => have := HH.out.1; omega
    case rel => exact ⟨n + 1, by omega, by go_num, rfl, HS.out, HH.out.2.2⟩
  ·obtain rfl : n = s.size := by omega
   clear hn
   go_wp2_with fail
   go_ret
   refine ⟨ret_i ?_, HH.out.2.2⟩
   have := HH.out.2.1
   rw [run_end _ _ (by rw [len_list]; exact Nat.le_refl _)] at this
   omega
theorem refscan_v (s : ByteArray) (z y : Int) (hs : s.size ≤ 9223372036854775806) (hy : scanZ s.data.toList z = y) (w : World) : Calls Tryz.prog 72 #[.string s, .int .i64 z] w fun e w' => e = .returned (.int .i64 y) ∧ w = w' := by
 subst hy
 unfold scanZ
 by_cases h0 : z < 0
 ·rw [if_pos h0]; exact refscan_far s z (.inl h0) w
 ·rw [if_neg h0]
  obtain ⟨a, rfl⟩ : ∃ a : Nat, z = a := ⟨z.toNat, by omega⟩
  rw [show ((a : Int)).toNat = a by omega]
  by_cases h1 : a < s.size
  ·have hl : a < s.data.toList.length := by rw [len_list]; exact h1
   cases hc : letter s[a]
   ·rw [scan_not _ a hl (by rw [at_list s a h1]; exact hc)]; exact refscan_no s a h1 hc w
   ·rw [scan_name _ a hl (by rw [at_list s a h1]; exact hc)]; exact refscan_yes s a _ hs h1 hc rfl w
  ·rw [scan_out _ a (by rw [len_list]; omega)]; exact refscan_far s a (.inr (by omega)) w
end Go.Proofs.YtbpichjmkllfaaaGreatDoor.Nam
namespace Go.Proofs.YtbpichjmkllfaaaGreatDoor.Par
open Go.ChangeShapes Go.WideShapes Go.RowKit
open Lex (Tok tcl tkv tk tc)
set_option linter.unusedVariables false
set_option maxRecDepth 20000
structure Wf (t : Tok) : Prop where
 word : t.kind = 1 → ∀ b ∈ t.text, Nam.sign b = true
 sgn : t.kind = 7 → ∀ b ∈ t.text, Nam.sign b = false
 fit : Fit64 t.n
 num : t.kind = 2 → 0 ≤ t.n ∨ t.n = -9223372036854775808
theorem isT_sign {t : Tok} (h : Wf t) {b : UInt8} (hb : Nam.sign b = false) : Fol.isT t [b] = (decide (t.kind = 7) && decide (t.text = [b])) := by
 unfold Fol.isT
 by_cases h7 : t.kind = 7
 ·simp [h7]
 ·by_cases h1 : t.kind = 1
  ·have : t.text ≠ [b] := fun e => by
    have := h.word h1 b (by rw [e]; simp)
    rw [hb] at this; cases this
   simp [h1, this]
  ·simp [h7, h1]
theorem isT_word {t : Tok} (h : Wf t) {s : List UInt8} (hs : s.any Nam.sign = true) (ht : Fol.isT t s = true) : t.kind = 1 := by
 unfold Fol.isT at ht
 simp only [Bool.and_eq_true, Bool.or_eq_true, decide_eq_true_eq] at ht
 rcases ht.1 with h1 | h1
 ·exact h1
 ·obtain ⟨b, hb, hs⟩ := List.any_eq_true.1 hs
  have := h.sgn h1 b (by rw [ht.2]; exact hb)
  rw [hs] at this
  cases this
theorem Ends.more {ts : List Tok} (h : Ends ts) {a : Nat} {t : Tok} (ht : ts[a]? = some t) (hk : t.kind ≠ 0) : a + 1 < ts.length := by
 obtain ⟨u, e, rfl, he⟩ := h
 obtain ⟨h1, h2⟩ := List.getElem?_eq_some_iff.1 ht
 rw [List.length_append, List.length_singleton] at *
 by_cases hu : a = u.length
 ·subst hu
  rw [List.getElem_append_right (Nat.le_refl _)] at h2
  simp at h2
  rw [h2] at he
  exact absurd he hk
 ·omega
theorem Ends.drop {ts : List Tok} (h : Ends ts) {a : Nat} (ha : a < ts.length) : Ends (ts.drop a) := by
 obtain ⟨u, e, rfl, he⟩ := h
 rw [List.length_append, List.length_singleton] at ha
 exact ⟨u.drop a, e, by rw [List.drop_append_of_le_length (by omega)], he⟩
def IsToks (w : World) (A : Option Addr) (n : Nat) (ts : List Tok) : Prop :=
 ts.length = n ∧ n ≤ 1000000 ∧ (ts = [] ∨ ∃ b o, A = some ⟨b, o, none⟩ ∧ b < w.heap.size ∧ ∀ k (h : k < ts.length), ∀ j, j < 5 → w.cell? ⟨b, o + k * 5 + j, none⟩ = (tcl ts[k])[j]?)
theorem IsToks.agree {S : Nat → Prop} {w w' : World} {A : Option Addr} {n : Nat} {ts : List Tok} (h : IsToks w A n ts) (k : Agree S w w') (hs : ∀ b o, A = some ⟨b, o, none⟩ → S b) : IsToks w' A n ts := by
 obtain ⟨h1, h2, h | ⟨b, o, rfl, h3, h4⟩⟩ := h
 ·exact ⟨h1, h2, .inl h⟩
 ·refine ⟨h1, h2, .inr ⟨b, o, rfl, Nat.lt_of_lt_of_le h3 k.1, fun i hi j hj => ?_⟩⟩
  have := h4 i hi j hj
  rw [← this]
  exact World.cell?_of_block (k.2 b h3 (hs b o rfl))
theorem IsToks.below {w w' : World} {A : Option Addr} {n : Nat} {ts : List Tok} (h : IsToks w A n ts) (k : Below w.heap.size w w') : IsToks w' A n ts := by
 obtain ⟨h1, h2, h | ⟨b, o, rfl, h3, h4⟩⟩ := h
 ·exact ⟨h1, h2, .inl h⟩
 ·exact ⟨h1, h2, .inr ⟨b, o, rfl, Nat.lt_of_lt_of_le h3 k.size, fun i hi j hj => (k.cell h3).trans (h4 i hi j hj)⟩⟩
theorem IsToks.at {w : World} {A : Option Addr} {n : Nat} {ts : List Tok} (h : IsToks w A n ts) {k : Nat} {t : Tok} (ht : ts[k]? = some t) : ∃ b o, A = some ⟨b, o, none⟩ ∧ b < w.heap.size ∧
  w.cell? ⟨b, o + k * 5, none⟩ = some (.int .i64 t.kind) ∧ w.cell? ⟨b, o + k * 5 + 1, none⟩ = some (.string ⟨t.text.toArray⟩) ∧ w.cell? ⟨b, o + k * 5 + 2, none⟩ = some (.int .i64 t.n) ∧ w.cell? ⟨b, o + k * 5 + 3, none⟩ = some (.int .i64 t.cls) ∧ w.cell? ⟨b, o + k * 5 + 4, none⟩ = some (.int .i64 t.at_) := by
 obtain ⟨h1, h2, h | ⟨b, o, rfl, h3, h4⟩⟩ := h
 ·rw [h] at ht; cases ht
 ·obtain ⟨hk, rfl⟩ := List.getElem?_eq_some_iff.1 ht
  exact ⟨b, o, rfl, h3, h4 k hk 0 (by decide), h4 k hk 1 (by decide), h4 k hk 2 (by decide), h4 k hk 3 (by decide), h4 k hk 4 (by decide)⟩
theorem toks_of_own {N : Nat} {w : World} {A : Option Addr} {c : Nat} {l : List Tok} (h : Lex.OwnK N w A c l) (hl : l.length ≤ 1000000) : IsToks w A l.length l := by
 refine ⟨rfl, hl, ?_⟩
 cases l with
 | nil => exact .inl rfl
 | cons t r =>
  obtain ⟨g, rfl, _, h2, h3⟩ := h.form (by simp)
  exact .inr ⟨g, 0, rfl, h2, fun k hk j hj => by rw [Nat.zero_add]; exact h3 k j hk hj⟩
structure Rd (w : World) (p : Nat) (A : Option Addr) (n cp : Nat) (ts : List Tok) (s : St) : Prop where
 box : w.heap[p]? = some (.cells #[.slice A n cp, .int .i64 (s.at_ : Int), .int .i64 s.code, .int .i64 (s.pos : Int)] 57 (0, 0))
 toks : IsToks w A n ts
 lt : s.at_ < n
 sep : ∀ b o, A = some ⟨b, o, none⟩ → b ≠ p
 ends : Ends ts
 wf : ∀ t ∈ ts, Wf t
theorem Rd.len {w : World} {p : Nat} {A : Option Addr} {n cp : Nat} {ts : List Tok} {s : St} (h : Rd w p A n cp ts s) : ts.length = n := h.toks.1
theorem Rd.few {w : World} {p : Nat} {A : Option Addr} {n cp : Nat} {ts : List Tok} {s : St} (h : Rd w p A n cp ts s) : n ≤ 1000000 := h.toks.2.1
theorem Rd.plt {w : World} {p : Nat} {A : Option Addr} {n cp : Nat} {ts : List Tok} {s : St} (h : Rd w p A n cp ts s) : p < w.heap.size := (Array.getElem?_eq_some_iff.1 h.box).1
theorem Rd.tok {w : World} {p : Nat} {A : Option Addr} {n cp : Nat} {ts : List Tok} {s : St} (h : Rd w p A n cp ts s) : ∃ t, ts[s.at_]? = some t ∧ Wf t := by
 have hl : s.at_ < ts.length := by rw [h.len]; exact h.lt
 exact ⟨ts[s.at_], List.getElem?_eq_getElem hl, h.wf _ (List.getElem_mem hl)⟩
theorem Rd.cells {w : World} {p : Nat} {A : Option Addr} {n cp : Nat} {ts : List Tok} {s : St} (h : Rd w p A n cp ts s) :
  w.cell? ⟨p, 0, none⟩ = some (.slice A n cp) ∧ w.cell? ⟨p, 1, none⟩ = some (.int .i64 (s.at_ : Int)) ∧ w.cell? ⟨p, 2, none⟩ = some (.int .i64 s.code) ∧ w.cell? ⟨p, 3, none⟩ = some (.int .i64 (s.pos : Int)) :=
 ⟨cell_in h.box 0, cell_in h.box 1, cell_in h.box 2, cell_in h.box 3⟩
theorem Rd.below {w w' : World} {p : Nat} {A : Option Addr} {n cp : Nat} {ts : List Tok} {s : St} (h : Rd w p A n cp ts s) (k : Below w.heap.size w w') : Rd w' p A n cp ts s :=
 ⟨kept_box h.box k, h.toks.below k, h.lt, h.sep, h.ends, h.wf⟩
theorem Rd.agree {S : Nat → Prop} {w w' : World} {p : Nat} {A : Option Addr} {n cp : Nat} {ts : List Tok} {s : St} (h : Rd w p A n cp ts s) (k : Agree S w w') (hp : S p) (hs : ∀ b o, A = some ⟨b, o, none⟩ → S b) : Rd w' p A n cp ts s :=
 ⟨(k.2 p h.plt hp).trans h.box, h.toks.agree k hs, h.lt, h.sep, h.ends, h.wf⟩
theorem Rd.keep {w0 w w' : World} {p : Nat} {A : Option Addr} {n cp : Nat} {ts : List Tok} {s s0 : St} (h : Rd w p A n cp ts s) (h0 : Rd w0 p A n cp ts s0) (k : Agree (fun k => k < w0.heap.size) w w') : Rd w' p A n cp ts s := by
 refine h.agree k h0.plt fun b o e => ?_
 rcases h0.toks.2.2 with g | ⟨b', o', e', hlt, _⟩
 ·have := h0.lt
  have := h0.len
  rw [g] at this
  simp at this
  omega
 ·rw [e] at e'
  injection e' with e'
  injection e' with e1 _
  rw [e1]; exact hlt
theorem Rd.set {w w' : World} {p : Nat} {A : Option Addr} {n cp : Nat} {ts : List Tok} {s s' : St} (h : Rd w p A n cp ts s) (k : Agree (fun k => k ≠ p) w w') (hl : s'.at_ < n)
  (hb : w'.heap[p]? = some (.cells #[.slice A n cp, .int .i64 (s'.at_ : Int), .int .i64 s'.code, .int .i64 (s'.pos : Int)] 57 (0, 0))) : Rd w' p A n cp ts s' :=
 ⟨hb, h.toks.agree k (fun b o e => h.sep b o e), hl, h.sep, h.ends, h.wf⟩
theorem set_agree (w : World) (p o : Nat) (v : Value) : Agree (fun k => k ≠ p) w (w.setCell ⟨p, o, none⟩ v) := ⟨by simp [World.setCell], fun k _ hk => Below.heap_setCell _ _ _ _ hk⟩
theorem set_box {w : World} {p : Nat} {a b c d : Value} {T : TypeId} (h : w.heap[p]? = some (.cells #[a, b, c, d] T (0, 0))) :
  (∀ v, (w.setCell ⟨p, 1, none⟩ v).heap[p]? = some (.cells #[a, v, c, d] T (0, 0))) ∧ (∀ v, (w.setCell ⟨p, 2, none⟩ v).heap[p]? = some (.cells #[a, b, v, d] T (0, 0))) ∧ (∀ v, (w.setCell ⟨p, 3, none⟩ v).heap[p]? = some (.cells #[a, b, c, v] T (0, 0))) := by
 refine ⟨fun v => ?_, fun v => ?_, fun v => ?_⟩ <;> simp [World.setCell, Array.getElem?_modify, h]
end Go.Proofs.YtbpichjmkllfaaaGreatDoor.Par
namespace Go.Proofs.YtbpichjmkllfaaaGreatDoor
open Go.RowKit
theorem B_toNat (a : Int) : ((B a).toNat : Int) = IntKind.u64.wrap a := by
 rw [IntKind.wrap_u64, B, BitVec.toNat_ofInt]
 omega
end Go.Proofs.YtbpichjmkllfaaaGreatDoor
