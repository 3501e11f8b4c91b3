/- What All answers: a text's tokens, or what is wrong. -/
import Derived.Test.YtbpichjmkllfaaaGreatDoorPk11
import Derived.OwnWalk
import Derived.WalkMore
import Derived.Laws.OwnMore
import Derived.Deep.AppendLies
import Derived.Maps.AppendAt
import Derived.Laws.StructEq
import Derived.Test.YtbpichjmkllfaaaGreatDoorPk08
import Derived.Deep.QuietTactic
import Derived.BigQuiet
import Derived.Test.YtbpichjmkllfaaaGreatDoorPk01
import Derived.Test.YtbpichjmkllfaaaGreatDoorPk05
import Derived.Test.YtbpichjmkllfaaaGreatDoorPk06
import Derived.Laws.ResultCell
namespace Go.Proofs.YtbpichjmkllfaaaGreatDoor.Lex
open Go.ChangeShapes Go.WideShapes Go.RowKit
set_option linter.unusedVariables false
set_option maxRecDepth 20000

/-- Tokens as cells. -/
def tcl (t : Tok) : Array Value := tc t.kind ⟨t.text.toArray⟩ t.n t.cls t.at_
def tcs (l : List Tok) : List Value := l.flatMap fun t => (tcl t).toList
theorem tcs_append (l m : List Tok) : tcs (l ++ m) = tcs l ++ tcs m := List.flatMap_append
theorem tcs_one (t : Tok) : tcs [t] = (tcl t).toList := by unfold tcs; simp
theorem tcs_len (l : List Tok) : (tcs l).length = l.length * 5 := by
  induction l with
  | nil => rfl
  | cons t l ih => show (tcs ([t] ++ l)).length = _; rw [tcs_append, List.length_append, ih, tcs_one, List.length_cons]; show 5 + _ = _; omega
theorem tcs_at (l : List Tok) (k j : Nat) (hk : k < l.length) (hj : j < 5) : (tcs l)[k * 5 + j]? = (tcl l[k])[j]? := by
  induction l generalizing k with
  | nil => cases hk
  | cons t l ih =>
    show (tcs ([t] ++ l))[k * 5 + j]? = _
    rw [tcs_append, tcs_one]
    have h5 : (tcl t).toList.length = 5 := rfl
    cases k with
    | zero =>
      rw [List.getElem?_append_left (by omega)]
      simp
    | succ k =>
      rw [List.getElem?_append_right (by omega), h5, show (k + 1) * 5 + j - 5 = k * 5 + j by omega, ih k (by simpa using hk)]
      simp
def OwnK (N : Nat) (w : World) (A : Option Addr) (c : Nat) (l : List Tok) : Prop := w.ownsRow N 72 5 (.slice A l.length c) l.length (tcs l)
theorem OwnK.lo {N : Nat} {w : World} {A : Option Addr} {c : Nat} {l : List Tok} (h : OwnK N w A c l) : ∀ k, Value.ownBlock (.slice A l.length c) = some k → N ≤ k ∧ k < w.heap.size := World.ownsRow.lt h
theorem below_grown {w w' : World} (h : Below w.heap.size w w') : w.grownBy w' none := ⟨h.os, h.tape, h.output, h.size, fun i hi _ => h.block i hi⟩
theorem OwnK.grow {N : Nat} {w w' : World} {A : Option Addr} {c : Nat} {l : List Tok} (h : OwnK N w A c l) (hb : Below w.heap.size w w') : OwnK N w' A c l := by
  refine World.ownsRow.kept h (below_grown hb) ?_
  cases e : Value.ownBlock (.slice A l.length c) with
  | none => exact .inl rfl
  | some k => exact .inr (by simp)
theorem info37z : (Tryz.prog.info? 72).map (fun i => (i.zero, i.size, i.bytes)) = some (some (.agg t0), 5, 48) := by kernel_rfl
/-- What All hands back. -/
def AllP (s : ByteArray) (w : World) (e : Ending) (w' : World) : Prop :=
  ∃ m code q, all s.data.toList = (m, code, q) ∧ Below w.heap.size w w' ∧
    ((code = 0 ∧ ∃ A c, e = .returned (.tuple #[.slice A m.length c, .nilIface]) ∧ OwnK w.heap.size w' A c m) ∨ (code ≠ 0 ∧ e = .returned (.tuple #[.slice none 0 0, Fau.bare code (q : Int)])))
theorem all_is_long (s : ByteArray) (h : 65536 < s.size) (w : World) : Calls Tryz.prog 24 #[.string s] w (AllP s w) := by
  have h1 : (65536 : Int) < (s.size : Int) := by omega
  have HA : Hid (all s.data.toList = ([], 3, 0)) := all_long (by rw [Nam.len_list]; exact h)
  clear h
  go_enter Tryz.func24, Tryz.ntmps24
  go_wp2_with fail
  go_step3
  go_wp2_with fail
  refine (Fau.new_v 3 0 (by decide) _).mono ?_
  rintro e w1 ⟨rfl, rfl⟩
  go_wp2_with fail
  rw [Exit.noGoto_ret]
  go_ret2
  exact ⟨[], 3, 0, HA.out, Below.refl _ _, .inr ⟨by decide, rfl⟩⟩
structure Sofar (s : ByteArray) (w wr : World) (n : Nat) (A : Option Addr) (c : Nat) (out : List Tok) : Prop where
  le : n ≤ s.size
  few : out.length ≤ n
  same : all s.data.toList = rest s.data.toList n out
  below : Below w.heap.size w wr
  own : OwnK w.heap.size wr A c out
theorem news_new (w : World) (cs : Array Value) (t : TypeId) (l : List Value) (hl : cs.toList = l) : ∀ j u, l[j]? = some u → (w.alloc (.cells cs t)).cell? ((⟨w.heap.size, 0, none⟩ : Addr).add j) = some u := Quo.news_new w cs t l hl
theorem two_news (w : World) (cs : Array Value) (l : List Value) (hl : cs.toList = l) : ∀ j u, l[j]? = some u → ((w.alloc (.cells cs 72)).alloc (.cells cs 72)).cell? ((⟨w.heap.size + 1, 0, none⟩ : Addr).add j) = some u := fun j u hj => by
  have := news_new (w.alloc (.cells cs 72)) cs 72 l hl j u hj
  simpa using this
theorem tok_step {w wr w2 w3 : World} {A : Option Addr} {c N g' cap' : Nat} {out : List Tok} {t : Tok} {C D : Obj} (hb : Below w.heap.size w wr) (ho : OwnK w.heap.size wr A c out) (hN : out.length = N) (h2 : Below wr.heap.size wr w2)
    (hown : w3.ownsRow w.heap.size 72 5 (.slice (some ⟨g', 0, none⟩) (N + 1) cap') (N + 1) (tcs out ++ tcs [t])) (hg : ((w2.alloc C).alloc D).grownBy w3 (Value.ownBlock (.slice A N c))) :
    Below w.heap.size w w3 ∧ OwnK w.heap.size w3 (some ⟨g', 0, none⟩) cap' (out ++ [t]) := by
  have hr : ∀ k, Value.ownBlock (.slice A N c) = some k → w.heap.size ≤ k := fun k e => (ho.lo k (by rw [hN]; exact e)).1
  have h3 : Below w.heap.size w w2 := hb.trans (h2.mono hb.size)
  refine ⟨((h3.alloc h3.size C).alloc (by have := h3.size; simp; omega) D).grown hg (by have := h3.size; simp; omega) hr, ?_⟩
  unfold OwnK
  have e1 : (out ++ [t]).length = N + 1 := by simp [hN]
  rw [e1, tcs_append]; exact hown
theorem tcs_cell (t : Tok) : ∀ u ∈ tcs [t], u.oneCell' = true := by
  rw [tcs_one]
  intro u hu
  unfold tcl tc at hu
  simp at hu
  rcases hu with rfl | rfl | rfl | rfl | rfl <;> rfl
set_option maxHeartbeats 2000000 in
theorem all_is (s : ByteArray) (h : s.size ≤ 65536) (w : World) : Calls Tryz.prog 24 #[.string s] w (AllP s w) := by
  obtain ⟨i0, hi0, hz0, hz1, hz2⟩ := info_parts info37z
  have I0 := Lib.hid (And.intro hi0 (And.intro hz0 (And.intro hz1 hz2)))
  have h1 : (s.size : Int) ≤ (65536 : Int) := by omega
  have HA : Hid (all s.data.toList = rest s.data.toList 0 []) := rest_start (by rw [Nam.len_list]; exact h)
  clear hi0 hz0 hz1 hz2
  go_enter Tryz.func24, Tryz.ntmps24
  go_wp2_with fail
  go_step3
  go_wp2_with fail
  go_step3
  go_wp2_with fail
  go_loopg [4, 5] (s.size + 1) (fun gk u x wr => ∃ (n : Nat) (A : Option Addr) (c N : Nat) (out : List Tok), u = .slice A N c ∧ x = .int .i64 (n : Int) ∧ gk = s.size + 1 - n ∧ n ≤ s.size ∧ N ≤ n ∧ Hid (Sofar s w wr n A c out ∧ out.length = N))
  case atStart => exact ⟨0, none, 0, 0, [], rfl, rfl, rfl, Nat.zero_le _, Nat.le_refl _, ⟨Nat.zero_le _, Nat.le_refl _, HA.out, Below.refl _ _, World.ownsRow_nil _ _ _ _⟩, rfl⟩
  case round =>
    obtain ⟨n, A, c, N, out, rfl, rfl, hk, hn, hN, HH⟩ := hrel
    go_wp2_with fail
    refine (bb_v s n hn (by omega) _).mono ?_
    rintro e w1 ⟨⟨b, rfl, hb⟩, rfl⟩
    have HB := Lib.hid hb
    clear hb
    by_cases hbs : b = s.size
    · subst hbs
      go_wp2_with fail
      refine (way_end s _).mono ?_
      rintro e w1 ⟨rfl, hb1⟩
      unfold rd
      go_wp2_with fail
      refine (end_v s s.size (Nat.le_refl _) _).mono ?_
      rintro e w2 ⟨rfl, hb2⟩
      have hb12 := hb1.trans (hb2.mono hb1.size)
      have ho : w2.ownsRow w.heap.size 72 5 (.slice A N c) N (tcs out) := by
        have h1 := HH.out.1.own.grow hb12
        unfold OwnK at h1
        rw [HH.out.2] at h1; exact h1
      have hba : w.heap.size ≤ ((w2.alloc (.cells (tcl ⟨0, [], 0, 0, s.size⟩) 72)).alloc (.cells (tcl ⟨0, [], 0, 0, s.size⟩) 72)).heap.size := by
        have h1 := HH.out.1.below.size
        have h2 := hb12.size
        simp; omega
      have HO := Lib.hid (And.intro hb12 (And.intro ho hba))
      clear hb1 hb2 hb12 ho hba
      unfold good tk tc
      go_wp2_with (at_builtin; refine wpList_append_lies _ rfl (.tmp 39) (.tmp 41) 48 rfl w.heap.size 72 i0 (.agg t0) 5 48 Tryz.underlying48 I0.out.1 I0.out.2.1 I0.out.2.2.1 I0.out.2.2.2 rfl (by decide) (.slice A N c) N (tcs out) rfl ((HO.out.2.1.alloc _).alloc _) ⟨w2.heap.size + 1, 0, none⟩ 1 1 (tcs [⟨0, [], 0, 0, s.size⟩]) rfl rfl (two_news w2 _ _ rfl) (tcs_cell _) (by decide) (by unfold maxLen; omega) (by omega) HO.out.2.2 _ rfl ?_)
      intro g' cap' w3 hown hgrow _ _
      have H3 := Lib.hid (tok_step HH.out.1.below HH.out.1.own HH.out.2 HO.out.1 hown hgrow)
      clear hown hgrow
      go_wp2_with fail
      rw [Exit.noGoto_ret]
      go_ret2
      refine ⟨out ++ [⟨0, [], 0, 0, s.size⟩], 0, 0, ?_, H3.out.1, .inl ⟨rfl, _, _, ?_, H3.out.2⟩⟩
      · rw [HH.out.1.same, HB.out.same]; exact rest_end _ _
      · simp [HH.out.2]
    · have hlt : b < s.size := by have := HB.out.lt; rw [Nam.len_list] at this; omega
      have hnk : ∀ k, nx (s.data.toList.drop b) b ≠ .skip k := by
        rcases HB.out.stop with h | h
        · rw [Nam.len_list] at h; exact absurd h hbs
        · exact h
      obtain ⟨k, hcall, hk1, hk2⟩ := reads s b (by omega) hlt hnk
      have HD1 := Lib.hid hk1
      have HD2 := Lib.hid hk2
      have hle := HB.out.le
      clear hk1 hk2
      cases hx : nx (s.data.toList.drop b) b with
      | skip j => exact absurd hx (hnk j)
      | bad e p =>
        have hp0 := nx_bad_code hx
        have HX := Lib.hid hx
        rw [hx] at HD2
        clear hx hnk
        go_wp2_with fail
        refine (HD1.out _).mono ?_
        rintro e1 w1 ⟨rfl, hb1⟩
        unfold rd
        go_wp2_with fail
        refine (HD2.out _).mono ?_
        rintro e1 w2 ⟨rfl, hb2⟩
        have HO := Lib.hid (hb1.trans (hb2.mono hb1.size))
        clear hb1 hb2
        unfold ansE bad t0 tc Fau.bare
        go_wp2_with fail
        rw [Exit.noGoto_ret]
        go_ret2
        have h3 : Below w.heap.size w w2 := HH.out.1.below.trans (HO.out.mono HH.out.1.below.size)
        refine ⟨[], e, p, ?_, h3.alloc h3.size _, .inr ⟨hp0, rfl⟩⟩
        rw [HH.out.1.same, HB.out.same]; exact rest_bad _ (by rw [Nam.len_list]; exact hlt) HX.out
      | tok t j =>
        have hk0 := (nx_again hx).2
        have hr := rest_tok (s := s.data.toList) (at_ := b) out hx
        rw [Nam.len_list] at hr
        have HX := Lib.hid hr
        rw [hx] at HD2
        obtain ⟨q, hq⟩ : ∃ q, b + j = q := ⟨_, rfl⟩
        rw [ansE_tok hq] at HD2
        have hqs : q ≤ s.size := by omega
        have hqb : b < q := by omega
        have HQ := Lib.hid hq
        have hkk : ((t.kind : Int) == 0) = false := by rw [beq_eq_false_iff_ne]; omega
        clear hx hnk hk0 hr hq
        go_wp2_with fail
        refine (HD1.out _).mono ?_
        rintro e1 w1 ⟨rfl, hb1⟩
        unfold rd
        go_wp2_with fail
        refine (HD2.out _).mono ?_
        rintro e1 w2 ⟨rfl, hb2⟩
        have hb12 := hb1.trans (hb2.mono hb1.size)
        have ho : w2.ownsRow w.heap.size 72 5 (.slice A N c) N (tcs out) := by
          have h1 := HH.out.1.own.grow hb12
          unfold OwnK at h1
          rw [HH.out.2] at h1; exact h1
        have hba : w.heap.size ≤ ((w2.alloc (.cells (tcl t) 72)).alloc (.cells (tcl t) 72)).heap.size := by
          have h1 := HH.out.1.below.size
          have h2 := hb12.size
          simp; omega
        have HO := Lib.hid (And.intro hb12 (And.intro ho hba))
        clear hb1 hb2 hb12 ho hba
        unfold good tkv tk tc
        go_wp2_with (at_builtin; refine wpList_append_lies _ rfl (.tmp 26) (.tmp 28) 48 rfl w.heap.size 72 i0 (.agg t0) 5 48 Tryz.underlying48 I0.out.1 I0.out.2.1 I0.out.2.2.1 I0.out.2.2.2 rfl (by decide) (.slice A N c) N (tcs out) rfl ((HO.out.2.1.alloc _).alloc _) ⟨w2.heap.size + 1, 0, none⟩ 1 1 (tcs [t]) rfl rfl (two_news w2 (tcl t) _ (tcs_one t).symm) (tcs_cell _) (by decide) (by unfold maxLen; omega) (by omega) HO.out.2.2 _ rfl ?_)
        intro g' cap' w3 hown hgrow _ _
        have H3 := Lib.hid (tok_step HH.out.1.below HH.out.1.own HH.out.2 HO.out.1 hown hgrow)
        clear hown hgrow
        go_wp2_with fail
        go_roundg (s.size + 1 - q)
        case measure => omega
        case rel =>
          refine ⟨q, _, _, N + 1, out ++ [t], rfl, rfl, rfl, hqs, by omega, ⟨hqs, ?_, ?_, H3.out.1, H3.out.2⟩, by simp [HH.out.2]⟩
          · have := HH.out.2; simp; omega
          · rw [HH.out.1.same, HB.out.same, HX.out.1, HQ.out]
/-- All, of any text. -/
theorem all_v (s : ByteArray) (w : World) : Calls Tryz.prog 24 #[.string s] w (AllP s w) := by
  by_cases h : s.size ≤ 65536
  · exact all_is s h w
  · exact all_is_long s (by omega) w
end Go.Proofs.YtbpichjmkllfaaaGreatDoor.Lex

/- Two tokens compared; what Is answers; how All's answer is read. -/
namespace Go.Proofs.YtbpichjmkllfaaaGreatDoor.Lex
open Go.ChangeShapes Go.WideShapes Go.RowKit
set_option linter.unusedVariables false
set_option maxRecDepth 20000

theorem fields37 : Tryz.prog.underlying 72 = some (.struct (Tryz.prog.fieldsOf 72)) := by kernel_rfl
theorem held37 : Tryz.prog.stoodInHeld 72 = false := by kernel_rfl
theorem part0 (k : Int) (s : ByteArray) (n c a : Int) (w : World) : (part 3 (tc k s n c a) 0).run Tryz.prog w = .ok (.int .i64 k) w := by kernel_rfl
theorem part1 (k : Int) (s : ByteArray) (n c a : Int) (w : World) : (part 9 (tc k s n c a) 1).run Tryz.prog w = .ok (.string s) w := by kernel_rfl
theorem part2 (k : Int) (s : ByteArray) (n c a : Int) (w : World) : (part 3 (tc k s n c a) 2).run Tryz.prog w = .ok (.int .i64 n) w := by kernel_rfl
theorem part3 (k : Int) (s : ByteArray) (n c a : Int) (w : World) : (part 3 (tc k s n c a) 3).run Tryz.prog w = .ok (.int .i64 c) w := by kernel_rfl
theorem part4 (k : Int) (s : ByteArray) (n c a : Int) (w : World) : (part 3 (tc k s n c a) 4).run Tryz.prog w = .ok (.int .i64 a) w := by kernel_rfl
theorem names37 : (Tryz.prog.fieldsOf 72).toList.map (fun f => (f.name, f.type, f.offset)) = [("Kind", 3, 0), ("Text", 9, 1), ("N", 3, 2), ("Class", 3, 3), ("At", 3, 4)] := by kernel_rfl
def teq (k : Int) (s : ByteArray) (n c a : Int) (k' : Int) (s' : ByteArray) (n' c' a' : Int) : Bool := (k == k') && ((s.toList == s'.toList) && ((n == n') && ((c == c') && (a == a'))))
theorem eqf (k : Int) (s : ByteArray) (n c a : Int) (k' : Int) (s' : ByteArray) (n' c' a' : Int) (w : World) (d : Nat) (fs : List Field) (h : fs.map (fun f => (f.name, f.type, f.offset)) = [("Kind", 3, 0), ("Text", 9, 1), ("N", 3, 2), ("Class", 3, 3), ("At", 3, 4)]) :
    (Op.eqFields (d + 1) (tc k s n c a) (tc k' s' n' c' a') fs).run Tryz.prog w = .ok (teq k s n c a k' s' n' c' a') w := by
  obtain ⟨f0, f1, f2, f3, f4, rfl⟩ : ∃ f0 f1 f2 f3 f4, fs = [f0, f1, f2, f3, f4] := by
    have hl : fs.length = 5 := by have := congrArg List.length h; simpa using this
    match fs, hl with
    | [f0, f1, f2, f3, f4], _ => exact ⟨f0, f1, f2, f3, f4, rfl⟩
  simp only [List.map_cons, List.map_nil, List.cons.injEq, Prod.mk.injEq] at h
  obtain ⟨⟨a1, a2, a3⟩, ⟨b1, b2, b3⟩, ⟨c1, c2, c3⟩, ⟨d1, d2, d3⟩, ⟨e1, e2, e3⟩, _⟩ := h
  simp [Op.eqFields, a1, a2, a3, b1, b2, b3, c1, c2, c3, d1, d2, d3, e1, e2, e3, part0, part1, part2, part3, part4, run_equalIn_int _ _ _ _ _ _ _ Tryz.underlying3, run_equalIn_string _ _ _ _ _ Tryz.underlying9, Result.andThen]
  clear a1 a2 a3 b1 b2 b3 c1 c2 c3 d1 d2 d3 e1 e2 e3
  unfold teq
  cases h1 : k == k' <;> cases h2 : s.toList == s'.toList <;> cases h3 : n == n' <;> cases h4 : c == c' <;> cases h5 : a == a' <;> simp_all
theorem eqIn37 (k : Int) (s : ByteArray) (n c a : Int) (k' : Int) (s' : ByteArray) (n' c' a' : Int) (r : Bool) (hr : teq k s n c a k' s' n' c' a' = r) (W : World) : (Op.equalIn 10000 72 (.agg (tc k s n c a)) (.agg (tc k' s' n' c' a'))).run Tryz.prog W = .ok r W := by
  rw [run_equalIn_struct W (P := Tryz.prog) 9999 72 _ _ fields37 held37, eqf k s n c a k' s' n' c' a' W 9998 _ names37, hr]
theorem eql37 (k : Int) (s : ByteArray) (n c a : Int) (k' : Int) (s' : ByteArray) (n' c' a' : Int) (r : Bool) (hr : teq k s n c a k' s' n' c' a' = r) (W : World) : (binOp .eql 72 (.agg (tc k s n c a)) (.agg (tc k' s' n' c' a'))).run Tryz.prog W = .ok (.bool r) W := by
  rw [run_eql_struct, eqIn37 _ _ _ _ _ _ _ _ _ _ r hr W]; rfl
theorem neq37 (k : Int) (s : ByteArray) (n c a : Int) (k' : Int) (s' : ByteArray) (n' c' a' : Int) (r : Bool) (hr : teq k s n c a k' s' n' c' a' = !r) (W : World) : (binOp .neq 72 (.agg (tc k s n c a)) (.agg (tc k' s' n' c' a'))).run Tryz.prog W = .ok (.bool r) W := by
  rw [run_neq_struct, eqIn37 _ _ _ _ _ _ _ _ _ _ _ hr W]; cases r <;> rfl
theorem is_word (s t : ByteArray) (n c a : Int) (h : (s.toList == t.toList) = true) (w : World) : Calls Tryz.prog 137 #[tk 1 s n c a, .string t] w fun e w' => e = .returned (.bool true) ∧ Below w.heap.size w w' := by
  have hb := Lib.hid ((Below.refl _ w).alloc (Nat.le_refl _) (.cells (tc 1 s n c a) 72))
  unfold tk tc
  go_enter Tryz.func137, Tryz.ntmps137
  go_wp2_with fail
  go_ret
  exact ⟨rfl, hb.out⟩
theorem is_text (s t : ByteArray) (n c a : Int) (w : World) : Calls Tryz.prog 137 #[tk 3 s n c a, .string t] w fun e w' => e = .returned (.bool false) ∧ Below w.heap.size w w' := by
  have hb := Lib.hid ((Below.refl _ w).alloc (Nat.le_refl _) (.cells (tc 3 s n c a) 72))
  unfold tk tc
  go_enter Tryz.func137, Tryz.ntmps137
  go_wp2_with fail
  go_ret
  exact ⟨rfl, hb.out⟩
theorem AllP.good {s : ByteArray} {w w' : World} {e : Ending} {m : List Tok} {q : Nat} (h : AllP s w e w') (hm : all s.data.toList = (m, 0, q)) :
    ∃ A c, e = .returned (.tuple #[.slice A m.length c, .nilIface]) ∧ OwnK w.heap.size w' A c m ∧ Below w.heap.size w w' := by
  obtain ⟨m', code, q', h1, h2, h3⟩ := h
  rw [hm] at h1
  injection h1 with e1 e2
  injection e2 with e2 e3
  subst e1 e2 e3
  rcases h3 with ⟨_, A, c, h4, h5⟩ | ⟨h4, _⟩
  · exact ⟨A, c, h4, h5, h2⟩
  · exact absurd rfl h4
theorem AllP.bad {s : ByteArray} {w w' : World} {e : Ending} {m : List Tok} {code : Int} {q : Nat} (h : AllP s w e w') (hm : all s.data.toList = (m, code, q)) (hc : code ≠ 0) :
    e = .returned (.tuple #[.slice none 0 0, Fau.bare code (q : Int)]) ∧ Below w.heap.size w w' := by
  obtain ⟨m', code', q', h1, h2, h3⟩ := h
  rw [hm] at h1
  injection h1 with e1 e2
  injection e2 with e2 e3
  subst e1 e2 e3
  rcases h3 with ⟨h4, _⟩ | ⟨_, h4⟩
  · exact absurd h4 hc
  · exact ⟨h4, h2⟩
/-- The cells of an own slice's tokens. -/
theorem OwnK.form {N : Nat} {w : World} {A : Option Addr} {c : Nat} {l : List Tok} (h : OwnK N w A c l) (hl : 0 < l.length) : ∃ g, A = some ⟨g, 0, none⟩ ∧ N ≤ g ∧ g < w.heap.size ∧ ∀ k j, (hk : k < l.length) → j < 5 → w.cell? ⟨g, k * 5 + j, none⟩ = (tcl l[k])[j]? := by
  obtain ⟨g, cap, e, hb, hlt⟩ := World.ownsRow.form h hl
  simp only [Value.slice.injEq, true_and] at e
  obtain ⟨rfl, rfl⟩ := e
  refine ⟨g, rfl, hb, hlt, fun k j hk hj => ?_⟩
  rw [World.ownsRow.cellAt h _ (by omega)]
  exact tcs_at l k j hk hj
end Go.Proofs.YtbpichjmkllfaaaGreatDoor.Lex

/- What the document's own Put answers: a text between quotes. -/
namespace Go.Proofs.YtbpichjmkllfaaaGreatDoor.Quo
open Go.ChangeShapes Go.WideShapes Go.RowKit
set_option linter.unusedVariables false
set_option maxRecDepth 20000

theorem one_convert (w : World) (c : UInt8) :
    (convert 148 9 (.slice (some ⟨w.heap.size, 0, none⟩) 1 1)).run Tryz.prog (w.alloc (.cells #[.int .u8 (c.toNat : Int)] 5)) = .ok (.string ⟨[c].toArray⟩) (w.alloc (.cells #[.int .u8 (c.toNat : Int)] 5)) := by
  refine run_convert_bytes_back _ 148 9 5 _ 1 [c] Tryz.underlying148 Tryz.underlying5 Tryz.underlying9 (fun j hj => ?_)
  simp at hj
  subst hj
  exact cell_one_new w _ 5 0 _ rfl
theorem tab_cut : ∀ k : Nat, k < 16 → (⟨#[48, 49, 50, 51, 52, 53, 54, 55, 56, 57, 97, 98, 99, 100, 101, 102]⟩ : ByteArray).extract k (k + 1) = ⟨#[hexd k]⟩ := by decide +kernel
theorem cut_run (z z1 : Int) (k : Nat) (hz : z = (k : Int)) (hz1 : z1 = z + 1) (hk : k < 16) (W : World) :
    (Instr.slice 9 (.string ⟨#[48, 49, 50, 51, 52, 53, 54, 55, 56, 57, 97, 98, 99, 100, 101, 102]⟩) (some (.int .u8 z)) (some (.int .u8 z1)) none).run Tryz.prog W = .ok (.string ⟨#[hexd k]⟩) W := by
  subst hz1 hz
  have hs : (⟨#[48, 49, 50, 51, 52, 53, 54, 55, 56, 57, 97, 98, 99, 100, 101, 102]⟩ : ByteArray).size = 16 := rfl
  rw [run_slice_string W 9 _ .u8 .u8 _ _ Tryz.underlying9 (by omega) (by omega) (by rw [hs]; omega)]
  rw [show ((k : Int) + 1).toNat = k + 1 by omega, show ((k : Int)).toNat = k by omega, tab_cut k hk]
theorem refone_plain (b : UInt8) (w : World) (h1 : b.toNat ≠ 34) (h2 : b.toNat ≠ 92) (h3 : b.toNat ≠ 10) (h4 : b.toNat ≠ 9) (h5 : 32 ≤ b.toNat) (h6 : b.toNat ≤ 126) :
    Calls Tryz.prog 111 #[.int .u8 (b.toNat : Int)] w fun e w' => e = .returned (.string ⟨[b].toArray⟩) ∧ Below w.heap.size w w' := by
  have c1 : ((b.toNat : Int) == 34) = false := nat_bne h1
  have c2 : ((b.toNat : Int) == 92) = false := nat_bne h2
  have c3 : ((b.toNat : Int) == 10) = false := nat_bne h3
  have c4 : ((b.toNat : Int) == 9) = false := nat_bne h4
  have hcv := one_convert w b
  clear h1 h2 h3 h4
  go_enter Tryz.func111, Tryz.ntmps111
  go_wp2_with fail
  go_ret
  exact ⟨rfl, (Below.refl _ _).alloc (Nat.le_refl _) _⟩
theorem refone_34 (w : World) : Calls Tryz.prog 111 #[.int .u8 34] w fun e w' => e = .returned (.string ⟨#[92, 34]⟩) ∧ Below w.heap.size w w' := by
  go_enter Tryz.func111, Tryz.ntmps111
  go_wp2_with fail
  go_ret
  exact ⟨rfl, Below.refl _ _⟩
theorem refone_92 (w : World) : Calls Tryz.prog 111 #[.int .u8 92] w fun e w' => e = .returned (.string ⟨#[92, 92]⟩) ∧ Below w.heap.size w w' := by
  go_enter Tryz.func111, Tryz.ntmps111
  go_wp2_with fail
  go_ret
  exact ⟨rfl, Below.refl _ _⟩
theorem refone_10 (w : World) : Calls Tryz.prog 111 #[.int .u8 10] w fun e w' => e = .returned (.string ⟨#[92, 110]⟩) ∧ Below w.heap.size w w' := by
  go_enter Tryz.func111, Tryz.ntmps111
  go_wp2_with fail
  go_ret
  exact ⟨rfl, Below.refl _ _⟩
theorem refone_9 (w : World) : Calls Tryz.prog 111 #[.int .u8 9] w fun e w' => e = .returned (.string ⟨#[92, 116]⟩) ∧ Below w.heap.size w w' := by
  go_enter Tryz.func111, Tryz.ntmps111
  go_wp2_with fail
  go_ret
  exact ⟨rfl, Below.refl _ _⟩
theorem below_drewN (B : Nat) (w : World) (n : Nat) : Below B w (w.drewN n) := ⟨rfl, rfl, rfl, Nat.le_refl _, fun _ _ => rfl⟩
theorem ret_hex (y1 y2 : UInt8) : Ending.returned (.string (ByteArray.mk #[92, 120] ++ ByteArray.mk #[y1] ++ ByteArray.mk #[y2])) = .returned (.string ⟨[92, 120, y1, y2].toArray⟩) := rfl
theorem refone_hex (b : UInt8) (w : World) (h1 : b.toNat ≠ 34) (h2 : b.toNat ≠ 92) (h3 : b.toNat ≠ 10) (h4 : b.toNat ≠ 9) (h5 : ¬ (32 ≤ b.toNat ∧ b.toNat ≤ 126)) :
    Calls Tryz.prog 111 #[.int .u8 (b.toNat : Int)] w fun e w' => e = .returned (.string ⟨[92, 120, hexd (b.toNat / 16), hexd (b.toNat % 16)].toArray⟩) ∧ Below w.heap.size w w' := by
  have c1 : ((b.toNat : Int) == 34) = false := nat_bne h1
  have c2 : ((b.toNat : Int) == 92) = false := nat_bne h2
  have c3 : ((b.toNat : Int) == 10) = false := nat_bne h3
  have c4 : ((b.toNat : Int) == 9) = false := nat_bne h4
  have hbl := b.toNat_lt
  have ways : b.toNat < 32 ∨ 126 < b.toNat := by omega
  have x1 := cut_run ((b.toNat : Int) / 16) ((b.toNat : Int) / 16 + 1) (b.toNat / 16) (by omega) rfl (by omega)
  have x2 := cut_run ((b.toNat : Int) % 16) ((b.toNat : Int) % 16 + 1) (b.toNat % 16) (by omega) rfl (by omega)
  have d1 : (b.toNat : Int).tdiv 16 = (b.toNat : Int) / 16 := Int.tdiv_eq_ediv_of_nonneg (by omega)
  have d2 : (b.toNat : Int).tmod 16 = (b.toNat : Int) % 16 := Int.tmod_eq_emod_of_nonneg (by omega)
  have e1 : IntKind.u8.wrap ((b.toNat : Int) / 16 + 1) = (b.toNat : Int) / 16 + 1 := by
    have hb : (2 : Int) ^ IntKind.u8.bits = 256 := by decide
    have hs : IntKind.u8.signed = false := rfl
    simp only [IntKind.wrap, hb, hs, Bool.false_and]
    simp only [Bool.false_eq_true, if_false]
    omega
  have e2 : IntKind.u8.wrap ((b.toNat : Int) % 16 + 1) = (b.toNat : Int) % 16 + 1 := by
    have hb : (2 : Int) ^ IntKind.u8.bits = 256 := by decide
    have hs : IntKind.u8.signed = false := rfl
    simp only [IntKind.wrap, hb, hs, Bool.false_and]
    simp only [Bool.false_eq_true, if_false]
    omega
  generalize hexd (b.toNat / 16) = y1 at *
  generalize hexd (b.toNat % 16) = y2 at *
  clear h1 h2 h3 h4 h5
  rcases ways with h | h
  · go_enter Tryz.func111, Tryz.ntmps111
    go_wp2_with fail
    go_quiet (fail)
    go_wp2_with fail
    go_ret
    exact ⟨ret_hex y1 y2, below_drewN _ _ _⟩
  · have h6 : 32 ≤ b.toNat := by omega
    go_enter Tryz.func111, Tryz.ntmps111
    go_wp2_with fail
    go_quiet (fail)
    go_wp2_with fail
    go_ret
    exact ⟨ret_hex y1 y2, below_drewN _ _ _⟩
theorem refone_v (b : UInt8) (l : List UInt8) (hl : one b = l) (w : World) : Calls Tryz.prog 111 #[.int .u8 (b.toNat : Int)] w fun e w' => e = .returned (.string ⟨l.toArray⟩) ∧ Below w.heap.size w w' := by
  subst hl
  unfold one
  by_cases k1 : b = 34
  · rw [if_pos (.inl k1)]; subst k1; exact refone_34 w
  · by_cases k2 : b = 92
    · rw [if_pos (.inr k2)]; subst k2; exact refone_92 w
    · rw [if_neg (fun k => k.elim k1 k2)]
      by_cases k3 : b = 10
      · rw [if_pos k3]; subst k3; exact refone_10 w
      · rw [if_neg k3]
        by_cases k4 : b = 9
        · rw [if_pos k4]; subst k4; exact refone_9 w
        · rw [if_neg k4]
          have n1 : b.toNat ≠ 34 := fun k => k1 ((byte_is _ 34 (by decide)).2 k)
          have n2 : b.toNat ≠ 92 := fun k => k2 ((byte_is _ 92 (by decide)).2 k)
          have n3 : b.toNat ≠ 10 := fun k => k3 ((byte_is _ 10 (by decide)).2 k)
          have n4 : b.toNat ≠ 9 := fun k => k4 ((byte_is _ 9 (by decide)).2 k)
          by_cases k5 : 32 ≤ b.toNat ∧ b.toNat ≤ 126
          · rw [if_pos k5]; exact refone_plain b w n1 n2 n3 n4 k5.1 k5.2
          · rw [if_neg k5]; exact refone_hex b w n1 n2 n3 n4 k5
theorem ret_str {a b : List UInt8} (h : a = b) : Ending.returned (.string ⟨a.toArray⟩) = .returned (.string ⟨b.toArray⟩) := by rw [h]
theorem ret_cat (x l y : List UInt8) (h : x ++ l = y) : Ending.returned (.string (ByteArray.mk x.toArray ++ ByteArray.mk l.toArray)) = .returned (.string ⟨y.toArray⟩) := by rw [ByteArray.mk_append_mk, ← h]
set_option maxHeartbeats 400000 in
theorem refput_v (s : ByteArray) (l : List UInt8) (hl : put s.data.toList = l) (hs : s.size ≤ 20000000) (w : World) :
    Calls Tryz.prog 69 #[.string s] w fun e w' => e = .returned (.string ⟨l.toArray⟩) ∧ Below w.heap.size w w' := by
  have HL := Lib.hid hl
  clear hl
  go_enter Tryz.func69, Tryz.ntmps69
  go_wp2_with fail
  go_loopg [3, 4] s.size (fun gk v i wr => ∃ (k : Nat) (t : List UInt8), k + gk = s.size ∧ i = .int .i64 (k : Int) ∧ v = .string ⟨t.toArray⟩ ∧
    Hid (t = 34 :: body (s.data.toList.take k) ∧ Below w.heap.size w wr))
  case atStart => exact ⟨0, [34], by omega, rfl, rfl, rfl, Below.refl _ _⟩
  case round =>
    obtain ⟨k, t, hk, rfl, rfl, HH⟩ := hrel
    have htl : t.length ≤ 80000001 := by
      rw [HH.out.1, List.length_cons]
      have h1 := body_len (s.data.toList.take k)
      have h2 : (s.data.toList.take k).length ≤ k := List.length_take_le _ _
      omega
    by_cases hg : gk = 0
    · subst hg
      obtain rfl : k = s.size := by omega
      have hf : t ++ [34] = l := by
        rw [← HL.out, HH.out.1, List.take_of_length_le (by rw [len_list]; omega)]; rfl
      have HF := Lib.hid hf
      clear hf hk
      go_wp2_with fail
      go_ret
      exact ⟨ret_cat t [34] l HF.out, HH.out.2⟩
    · obtain ⟨q, rfl⟩ : ∃ q, gk = q + 1 := ⟨gk - 1, by omega⟩
      have hlt : k < s.size := by omega
      obtain ⟨o, ho⟩ : ∃ o, one s[k] = o := ⟨_, rfl⟩
      have hol : o.length ≤ 4 := by rw [← ho]; exact (one_len _).2
      have hnx : t ++ o = 34 :: body (s.data.toList.take (k + 1)) := by
        rw [HH.out.1, take_snoc s k hlt, body_snoc, ho]; rfl
      have HX := Lib.hid (And.intro ho hnx)
      have HK := Lib.hid hk
      clear ho hnx hg hk
      go_wp2_with fail
      refine (refone_v s[k] o HX.out.1 _).mono ?_
      rintro e w3 ⟨rfl, hb⟩
      have H3 := Lib.hid (HH.out.2.trans (hb.mono HH.out.2.size))
      clear hb
      go_wp2_with fail
      go_roundg q
      case measure => omega
      case rel => exact ⟨k + 1, t ++ o, by have := HK.out; omega, by go_num, by rw [← ByteArray.mk_append_mk], HX.out.2, H3.out⟩
end Go.Proofs.YtbpichjmkllfaaaGreatDoor.Quo

/- Two texts joined; what a step keeps. -/
namespace Go.Proofs.YtbpichjmkllfaaaGreatDoor.Lex
open Go.ChangeShapes Go.WideShapes Go.RowKit
set_option linter.unusedVariables false

theorem add_run (a b c : ByteArray) (h : a.size + b.size ≤ 9223372036854775807) (hc : a ++ b = c) (W : World) : (Op.stringOp .add a b).run Tryz.prog W = .ok (.string c) W := by
  rw [run_string_add_sum W a b h, hc]
theorem stepS {w wr w1 : World} {b k : Nat} {v : Value} (h : wr.cell? ⟨b, k, none⟩ = some v ∧ Below w.heap.size w wr) (hb : Below wr.heap.size wr w1) : Hid (w1.cell? ⟨b, k, none⟩ = some v ∧ Below w.heap.size w w1) :=
  ⟨(hb.cell (p := ⟨b, k, none⟩) (World.block_lt_of_cell? _ _ h.1)).trans h.1, h.2.trans (hb.mono h.2.size)⟩
theorem teq_refl (k : Int) (s : ByteArray) (n c a : Int) : teq k s n c a k s n c a = true := by unfold teq; simp
end Go.Proofs.YtbpichjmkllfaaaGreatDoor.Lex

/- Tokens in memory, wherever they stand, and the document's reader of them. -/
namespace Go.Proofs.YtbpichjmkllfaaaGreatDoor.Par
open Go.ChangeShapes Go.WideShapes Go.RowKit
open Lex (Tok tcl tkv tk tc)
set_option linter.unusedVariables false
set_option maxRecDepth 20000

/-- Such tokens as a text has. -/
structure Wf (t : Tok) : Prop where
  word : t.kind = 1 → ∀ b ∈ t.text, Nam.sign b = true
  sgn : t.kind = 7 → ∀ b ∈ t.text, Nam.sign b = false
  fit : Fit64 t.n
  num : t.kind = 2 → 0 ≤ t.n ∨ t.n = -9223372036854775808
theorem isT_sign {t : Tok} (h : Wf t) {b : UInt8} (hb : Nam.sign b = false) : Fol.isT t [b] = (decide (t.kind = 7) && decide (t.text = [b])) := by
  unfold Fol.isT
  by_cases h7 : t.kind = 7
  · simp [h7]
  · by_cases h1 : t.kind = 1
    · have : t.text ≠ [b] := fun e => by
        have := h.word h1 b (by rw [e]; simp)
        rw [hb] at this; cases this
      simp [h1, this]
    · simp [h7, h1]
/-- A long word is no sign. -/
theorem isT_word {t : Tok} (h : Wf t) {s : List UInt8} (hs : s.any Nam.sign = true) (ht : Fol.isT t s = true) : t.kind = 1 := by
  unfold Fol.isT at ht
  simp only [Bool.and_eq_true, Bool.or_eq_true, decide_eq_true_eq] at ht
  rcases ht.1 with h1 | h1
  · exact h1
  · obtain ⟨b, hb, hs⟩ := List.any_eq_true.1 hs
    have := h.sgn h1 b (by rw [ht.2]; exact hb)
    rw [hs] at this
    cases this
theorem Ends.more {ts : List Tok} (h : Ends ts) {a : Nat} {t : Tok} (ht : ts[a]? = some t) (hk : t.kind ≠ 0) : a + 1 < ts.length := by
  obtain ⟨u, e, rfl, he⟩ := h
  obtain ⟨h1, h2⟩ := List.getElem?_eq_some_iff.1 ht
  rw [List.length_append, List.length_singleton] at *
  by_cases hu : a = u.length
  · subst hu
    rw [List.getElem_append_right (Nat.le_refl _)] at h2
    simp at h2
    rw [h2] at he
    exact absurd he hk
  · omega
theorem Ends.drop {ts : List Tok} (h : Ends ts) {a : Nat} (ha : a < ts.length) : Ends (ts.drop a) := by
  obtain ⟨u, e, rfl, he⟩ := h
  rw [List.length_append, List.length_singleton] at ha
  exact ⟨u.drop a, e, by rw [List.drop_append_of_le_length (by omega)], he⟩
/-- Tokens in memory. -/
def IsToks (w : World) (A : Option Addr) (n : Nat) (ts : List Tok) : Prop :=
  ts.length = n ∧ n ≤ 1000000 ∧ (ts = [] ∨ ∃ b o, A = some ⟨b, o, none⟩ ∧ b < w.heap.size ∧ ∀ k (h : k < ts.length), ∀ j, j < 5 → w.cell? ⟨b, o + k * 5 + j, none⟩ = (tcl ts[k])[j]?)
theorem IsToks.agree {S : Nat → Prop} {w w' : World} {A : Option Addr} {n : Nat} {ts : List Tok} (h : IsToks w A n ts) (k : Agree S w w') (hs : ∀ b o, A = some ⟨b, o, none⟩ → S b) : IsToks w' A n ts := by
  obtain ⟨h1, h2, h | ⟨b, o, rfl, h3, h4⟩⟩ := h
  · exact ⟨h1, h2, .inl h⟩
  · refine ⟨h1, h2, .inr ⟨b, o, rfl, Nat.lt_of_lt_of_le h3 k.1, fun i hi j hj => ?_⟩⟩
    have := h4 i hi j hj
    rw [← this]
    exact World.cell?_of_block (k.2 b h3 (hs b o rfl))
theorem IsToks.below {w w' : World} {A : Option Addr} {n : Nat} {ts : List Tok} (h : IsToks w A n ts) (k : Below w.heap.size w w') : IsToks w' A n ts := by
  obtain ⟨h1, h2, h | ⟨b, o, rfl, h3, h4⟩⟩ := h
  · exact ⟨h1, h2, .inl h⟩
  · exact ⟨h1, h2, .inr ⟨b, o, rfl, Nat.lt_of_lt_of_le h3 k.size, fun i hi j hj => (k.cell h3).trans (h4 i hi j hj)⟩⟩
theorem IsToks.at {w : World} {A : Option Addr} {n : Nat} {ts : List Tok} (h : IsToks w A n ts) {k : Nat} {t : Tok} (ht : ts[k]? = some t) : ∃ b o, A = some ⟨b, o, none⟩ ∧ b < w.heap.size ∧
    w.cell? ⟨b, o + k * 5, none⟩ = some (.int .i64 t.kind) ∧ w.cell? ⟨b, o + k * 5 + 1, none⟩ = some (.string ⟨t.text.toArray⟩) ∧ w.cell? ⟨b, o + k * 5 + 2, none⟩ = some (.int .i64 t.n) ∧ w.cell? ⟨b, o + k * 5 + 3, none⟩ = some (.int .i64 t.cls) ∧ w.cell? ⟨b, o + k * 5 + 4, none⟩ = some (.int .i64 t.at_) := by
  obtain ⟨h1, h2, h | ⟨b, o, rfl, h3, h4⟩⟩ := h
  · rw [h] at ht; cases ht
  · obtain ⟨hk, rfl⟩ := List.getElem?_eq_some_iff.1 ht
    exact ⟨b, o, rfl, h3, h4 k hk 0 (by decide), h4 k hk 1 (by decide), h4 k hk 2 (by decide), h4 k hk 3 (by decide), h4 k hk 4 (by decide)⟩
/-- What the call of a text's tokens made. -/
theorem toks_of_own {N : Nat} {w : World} {A : Option Addr} {c : Nat} {l : List Tok} (h : Lex.OwnK N w A c l) (hl : l.length ≤ 1000000) : IsToks w A l.length l := by
  refine ⟨rfl, hl, ?_⟩
  cases l with
  | nil => exact .inl rfl
  | cons t r =>
    obtain ⟨g, rfl, _, h2, h3⟩ := h.form (by simp)
    exact .inr ⟨g, 0, rfl, h2, fun k hk j hj => by rw [Nat.zero_add]; exact h3 k j hk hj⟩
/-- From a place on. -/
theorem IsToks.drop {w : World} {b o n : Nat} {ts : List Tok} (h : IsToks w (some ⟨b, o, none⟩) n ts) {a : Nat} (ha : a ≤ n) : IsToks w (some ⟨b, o + a * 5, none⟩) (n - a) (ts.drop a) := by
  obtain ⟨h1, h2, h3⟩ := h
  refine ⟨by rw [List.length_drop, h1], by omega, ?_⟩
  rcases h3 with h3 | ⟨b', o', e, h3, h4⟩
  · left; rw [h3]; simp
  · injection e with e
    injection e with e1 e2
    subst e1; subst e2
    refine .inr ⟨b, o + a * 5, rfl, h3, fun k hk j hj => ?_⟩
    rw [List.length_drop] at hk
    rw [List.getElem_drop, ← h4 (a + k) (by omega) j hj, show o + a * 5 + k * 5 + j = o + (a + k) * 5 + j by rw [Nat.add_mul]; omega]
/-- The document's reader, in memory. -/
structure Rd (w : World) (p : Nat) (A : Option Addr) (n cp : Nat) (ts : List Tok) (s : St) : Prop where
  box : w.heap[p]? = some (.cells #[.slice A n cp, .int .i64 (s.at_ : Int), .int .i64 s.code, .int .i64 (s.pos : Int)] 57 (0, 0))
  toks : IsToks w A n ts
  lt : s.at_ < n
  sep : ∀ b o, A = some ⟨b, o, none⟩ → b ≠ p
  ends : Ends ts
  wf : ∀ t ∈ ts, Wf t
theorem Rd.len {w : World} {p : Nat} {A : Option Addr} {n cp : Nat} {ts : List Tok} {s : St} (h : Rd w p A n cp ts s) : ts.length = n := h.toks.1
theorem Rd.few {w : World} {p : Nat} {A : Option Addr} {n cp : Nat} {ts : List Tok} {s : St} (h : Rd w p A n cp ts s) : n ≤ 1000000 := h.toks.2.1
theorem Rd.plt {w : World} {p : Nat} {A : Option Addr} {n cp : Nat} {ts : List Tok} {s : St} (h : Rd w p A n cp ts s) : p < w.heap.size := (Array.getElem?_eq_some_iff.1 h.box).1
theorem Rd.tok {w : World} {p : Nat} {A : Option Addr} {n cp : Nat} {ts : List Tok} {s : St} (h : Rd w p A n cp ts s) : ∃ t, ts[s.at_]? = some t ∧ Wf t := by
  have hl : s.at_ < ts.length := by rw [h.len]; exact h.lt
  exact ⟨ts[s.at_], List.getElem?_eq_getElem hl, h.wf _ (List.getElem_mem hl)⟩
theorem Rd.cells {w : World} {p : Nat} {A : Option Addr} {n cp : Nat} {ts : List Tok} {s : St} (h : Rd w p A n cp ts s) :
    w.cell? ⟨p, 0, none⟩ = some (.slice A n cp) ∧ w.cell? ⟨p, 1, none⟩ = some (.int .i64 (s.at_ : Int)) ∧ w.cell? ⟨p, 2, none⟩ = some (.int .i64 s.code) ∧ w.cell? ⟨p, 3, none⟩ = some (.int .i64 (s.pos : Int)) :=
  ⟨cell_in h.box 0, cell_in h.box 1, cell_in h.box 2, cell_in h.box 3⟩
theorem Rd.below {w w' : World} {p : Nat} {A : Option Addr} {n cp : Nat} {ts : List Tok} {s : St} (h : Rd w p A n cp ts s) (k : Below w.heap.size w w') : Rd w' p A n cp ts s :=
  ⟨kept_box h.box k, h.toks.below k, h.lt, h.sep, h.ends, h.wf⟩
theorem Rd.agree {S : Nat → Prop} {w w' : World} {p : Nat} {A : Option Addr} {n cp : Nat} {ts : List Tok} {s : St} (h : Rd w p A n cp ts s) (k : Agree S w w') (hp : S p) (hs : ∀ b o, A = some ⟨b, o, none⟩ → S b) : Rd w' p A n cp ts s :=
  ⟨(k.2 p h.plt hp).trans h.box, h.toks.agree k hs, h.lt, h.sep, h.ends, h.wf⟩
/-- All that was there before stays, but the reader. -/
theorem Rd.keep {w0 w w' : World} {p : Nat} {A : Option Addr} {n cp : Nat} {ts : List Tok} {s s0 : St} (h : Rd w p A n cp ts s) (h0 : Rd w0 p A n cp ts s0) (k : Agree (fun k => k < w0.heap.size) w w') : Rd w' p A n cp ts s := by
  refine h.agree k h0.plt fun b o e => ?_
  rcases h0.toks.2.2 with g | ⟨b', o', e', hlt, _⟩
  · have := h0.lt
    have := h0.len
    rw [g] at this
    simp at this
    omega
  · rw [e] at e'
    injection e' with e'
    injection e' with e1 _
    rw [e1]; exact hlt
/-- The reader's cells laid anew. -/
theorem Rd.set {w w' : World} {p : Nat} {A : Option Addr} {n cp : Nat} {ts : List Tok} {s s' : St} (h : Rd w p A n cp ts s) (k : Agree (fun k => k ≠ p) w w') (hl : s'.at_ < n)
    (hb : w'.heap[p]? = some (.cells #[.slice A n cp, .int .i64 (s'.at_ : Int), .int .i64 s'.code, .int .i64 (s'.pos : Int)] 57 (0, 0))) : Rd w' p A n cp ts s' :=
  ⟨hb, h.toks.agree k (fun b o e => h.sep b o e), hl, h.sep, h.ends, h.wf⟩
theorem set_agree (w : World) (p o : Nat) (v : Value) : Agree (fun k => k ≠ p) w (w.setCell ⟨p, o, none⟩ v) := ⟨by simp [World.setCell], fun k _ hk => Below.heap_setCell _ _ _ _ hk⟩
theorem set_box {w : World} {p : Nat} {a b c d : Value} {T : TypeId} (h : w.heap[p]? = some (.cells #[a, b, c, d] T (0, 0))) :
    (∀ v, (w.setCell ⟨p, 1, none⟩ v).heap[p]? = some (.cells #[a, v, c, d] T (0, 0))) ∧ (∀ v, (w.setCell ⟨p, 2, none⟩ v).heap[p]? = some (.cells #[a, b, v, d] T (0, 0))) ∧ (∀ v, (w.setCell ⟨p, 3, none⟩ v).heap[p]? = some (.cells #[a, b, c, v] T (0, 0))) := by
  refine ⟨fun v => ?_, fun v => ?_, fun v => ?_⟩ <;> simp [World.setCell, Array.getElem?_modify, h]
end Go.Proofs.YtbpichjmkllfaaaGreatDoor.Par

/- The document's values: its signs, what is wrong; what a value comes to, in cells. -/
namespace Go.Proofs.YtbpichjmkllfaaaGreatDoor.Par
open Go.ChangeShapes Go.WideShapes Go.RowKit
open Lex (Tok tcl tkv tk tc)
set_option linter.unusedVariables false
set_option maxRecDepth 20000

theorem sg_yes (s t : ByteArray) (n c a : Int) (b : Bool) (h : (s.toList == t.toList) = b) (w : World) : Calls Tryz.prog 160 #[tk 7 s n c a, .string t] w fun e w' => e = .returned (.bool b) ∧ Below w.heap.size w w' := by
  have b0 := (Below.refl w.heap.size w).alloc (Nat.le_refl _) (.cells (tc 7 s n c a) 72)
  unfold tc at b0
  have B0 := Lib.hid b0
  clear b0
  cases b
  all_goals
    go_enter Tryz.func160, Tryz.ntmps160
    unfold tk tc
    go_wp2_with fail
    go_ret
    exact ⟨rfl, B0.out⟩
theorem sg_no (k : Int) (s t : ByteArray) (n c a : Int) (h7 : (k == 7) = false) (w : World) : Calls Tryz.prog 160 #[tk k s n c a, .string t] w fun e w' => e = .returned (.bool false) ∧ Below w.heap.size w w' := by
  have b0 := (Below.refl w.heap.size w).alloc (Nat.le_refl _) (.cells (tc k s n c a) 72)
  unfold tc at b0
  have B0 := Lib.hid b0
  clear b0
  go_enter Tryz.func160, Tryz.ntmps160
  unfold tk tc
  go_wp2_with fail
  go_ret
  exact ⟨rfl, B0.out⟩
/-- Is a token that sign? -/
theorem sg_v {t : Tok} (hw : Wf t) (b : UInt8) (hb : Nam.sign b = false) (r : Bool) (h : Fol.isT t [b] = r) (w : World) : Calls Tryz.prog 160 #[tkv t, .string ⟨#[b]⟩] w fun e w' => e = .returned (.bool r) ∧ Below w.heap.size w w' := by
  rw [isT_sign hw hb] at h
  unfold tkv
  by_cases hk : t.kind = 7
  · rw [hk]
    refine sg_yes _ _ _ _ _ r ?_ w
    rw [← h, hk]
    simp only [decide_true, Bool.true_and]
    rw [Bool.eq_iff_iff, beq_iff_eq, decide_eq_true_iff, ByteArray.toList_eq, ByteArray.toList_eq]
  · have : r = false := by rw [← h]; simp [hk]
    subst this
    exact sg_no _ _ _ _ _ _ (by rw [beq_eq_false_iff_ne]; omega) w
/-! Four cells. -/
def four (w : World) (b : Nat) (x0 x1 x2 x3 : Value) : World := (((w.setCell ⟨b, 0, none⟩ x0).setCell ⟨b, 1, none⟩ x1).setCell ⟨b, 2, none⟩ x2).setCell ⟨b, 3, none⟩ x3
theorem four_heap {w : World} {b : Nat} {x0 x1 x2 x3 y0 y1 y2 y3 : Value} {T : TypeId} (h : w.heap[b]? = some (.cells #[y0, y1, y2, y3] T (0, 0))) : (four w b x0 x1 x2 x3).heap[b]? = some (.cells #[x0, x1, x2, x3] T (0, 0)) := by
  unfold four
  simp [World.setCell, Array.getElem?_modify, h]
theorem four_below {B : Nat} {w w1 : World} {b : Nat} {x0 x1 x2 x3 : Value} (h : Below B w w1) (hb : B ≤ b) : Below B w (four w1 b x0 x1 x2 x3) :=
  (((h.setCell (p := ⟨b, 0, none⟩) hb _).setCell (p := ⟨b, 1, none⟩) hb _).setCell (p := ⟨b, 2, none⟩) hb _).setCell (p := ⟨b, 3, none⟩) hb _
theorem four_far {w : World} {b g : Nat} {x0 x1 x2 x3 : Value} (h : g ≠ b) : (four w b x0 x1 x2 x3).heap[g]? = w.heap[g]? := by
  unfold four
  simp [World.setCell, Array.getElem?_modify, Ne.symm h]
theorem four_size {w : World} {b : Nat} {x0 x1 x2 x3 : Value} : (four w b x0 x1 x2 x3).heap.size = w.heap.size := by
  unfold four
  simp [World.setCell]
theorem sizeOut : (Tryz.prog.info? 213).map (·.size) = some 4 := by kernel_rfl
theorem fin_out {fn : Func} {p : Tmp} (h : fn.results = #[.cell p 213]) {act : Act} {w : World} {g : Nat} {x0 x1 x2 x3 : Value} {R : Ending → World → Prop}
    (hp : act.tmps.getD p undef = .pointer (some ⟨g, 0, none⟩)) (hg : w.heap[g]? = some (.cells #[x0, x1, x2, x3] 213 (0, 0))) (hd : act.defers = [])
    (hR : R (.returned (.agg #[x0, x1, x2, x3])) w) : bodyPost Tryz.prog fn R .ret act w :=
  bodyPost_ret (results_cell_row h _ _ g 213 _ (0, 0) _ hp hg Tryz.underlying213 rfl sizeOut) hd hR
/-- A value in cells. -/
def outA (n a c p : Int) : Array Value := #[.int .i64 n, .int .i64 a, .int .i64 c, .int .i64 p]
theorem rbad_v (code : Int) (t : Tok) (w : World) : Calls Tryz.prog 172 #[.int .i64 code, tkv t] w fun e w' => e = .returned (.agg (outA 0 0 code t.at_)) ∧ Below w.heap.size w w' := by
  unfold tkv tk tc
  go_enter Tryz.func172, Tryz.ntmps172
  go_wp2_with fail

  refine fin_out (fn := Tryz.f172) rfl rfl (heap_alloc2_new w _ _) rfl ?_
  exact ⟨rfl, ((Below.refl _ w).alloc (Nat.le_refl _) _).alloc (by simp) _⟩
end Go.Proofs.YtbpichjmkllfaaaGreatDoor.Par
