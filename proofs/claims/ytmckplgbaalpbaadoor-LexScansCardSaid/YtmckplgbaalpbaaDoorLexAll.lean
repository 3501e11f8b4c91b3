/- What All answers: a text's tokens, or what is wrong. -/
import Derived.Test.YtmckplgbaalpbaaDoorLexTok
import Derived.OwnWalk
import Derived.WalkMore
import Derived.Laws.OwnMore
import Derived.Deep.AppendLies
import Derived.Maps.AppendAt
namespace Go.Proofs.YtmckplgbaalpbaaDoor.Lex
open Go.ChangeShapes Go.WideShapes Go.RowKit
set_option linter.unusedVariables false
set_option maxRecDepth 20000

/-- Tokens as cells. -/
def tcl (t : Tok) : Array Value := tc t.kind ⟨t.text.toArray⟩ t.n t.cls t.at_
def tcs (l : List Tok) : List Value := l.flatMap fun t => (tcl t).toList
theorem tcs_append (l m : List Tok) : tcs (l ++ m) = tcs l ++ tcs m := List.flatMap_append
theorem tcs_one (t : Tok) : tcs [t] = (tcl t).toList := by unfold tcs; simp
theorem tcs_len (l : List Tok) : (tcs l).length = l.length * 5 := by
  induction l with
  | nil => rfl
  | cons t l ih => show (tcs ([t] ++ l)).length = _; rw [tcs_append, List.length_append, ih, tcs_one, List.length_cons]; show 5 + _ = _; omega
theorem tcs_at (l : List Tok) (k j : Nat) (hk : k < l.length) (hj : j < 5) : (tcs l)[k * 5 + j]? = (tcl l[k])[j]? := by
  induction l generalizing k with
  | nil => cases hk
  | cons t l ih =>
    show (tcs ([t] ++ l))[k * 5 + j]? = _
    rw [tcs_append, tcs_one]
    have h5 : (tcl t).toList.length = 5 := rfl
    cases k with
    | zero =>
      rw [List.getElem?_append_left (by omega)]
      simp
    | succ k =>
      rw [List.getElem?_append_right (by omega), h5, show (k + 1) * 5 + j - 5 = k * 5 + j by omega, ih k (by simpa using hk)]
      simp
def OwnK (N : Nat) (w : World) (A : Option Addr) (c : Nat) (l : List Tok) : Prop := w.ownsRow N 37 5 (.slice A l.length c) l.length (tcs l)
theorem OwnK.lo {N : Nat} {w : World} {A : Option Addr} {c : Nat} {l : List Tok} (h : OwnK N w A c l) : ∀ k, Value.ownBlock (.slice A l.length c) = some k → N ≤ k ∧ k < w.heap.size := World.ownsRow.lt h
theorem below_grown {w w' : World} (h : Below w.heap.size w w') : w.grownBy w' none := ⟨h.os, h.tape, h.output, h.size, fun i hi _ => h.block i hi⟩
theorem OwnK.grow {N : Nat} {w w' : World} {A : Option Addr} {c : Nat} {l : List Tok} (h : OwnK N w A c l) (hb : Below w.heap.size w w') : OwnK N w' A c l := by
  refine World.ownsRow.kept h (below_grown hb) ?_
  cases e : Value.ownBlock (.slice A l.length c) with
  | none => exact .inl rfl
  | some k => exact .inr (by simp)
theorem info37z : (Tryd.prog.info? 37).map (fun i => (i.zero, i.size, i.bytes)) = some (some (.agg t0), 5, 48) := by kernel_rfl
/-- What All hands back. -/
def AllP (s : ByteArray) (w : World) (e : Ending) (w' : World) : Prop :=
  ∃ m code q, all s.data.toList = (m, code, q) ∧ Below w.heap.size w w' ∧
    ((code = 0 ∧ ∃ A c, e = .returned (.tuple #[.slice A m.length c, .nilIface]) ∧ OwnK w.heap.size w' A c m) ∨ (code ≠ 0 ∧ e = .returned (.tuple #[.slice none 0 0, Fau.bare code (q : Int)])))
theorem all_is_long (s : ByteArray) (h : 65536 < s.size) (w : World) : Calls Tryd.prog 7 #[.string s] w (AllP s w) := by
  have h1 : (65536 : Int) < (s.size : Int) := by omega
  have HA : Hid (all s.data.toList = ([], 3, 0)) := all_long (by rw [Nam.len_list]; exact h)
  clear h
  go_enter Tryd.func7, Tryd.ntmps7
  go_wp2_with fail
  go_step3
  go_wp2_with fail
  refine (Fau.new_v 3 0 (by decide) _).mono ?_
  rintro e w1 ⟨rfl, rfl⟩
  go_wp2_with fail
  rw [Exit.noGoto_ret]
  go_ret2
  exact ⟨[], 3, 0, HA.out, Below.refl _ _, .inr ⟨by decide, rfl⟩⟩
structure Sofar (s : ByteArray) (w wr : World) (n : Nat) (A : Option Addr) (c : Nat) (out : List Tok) : Prop where
  le : n ≤ s.size
  few : out.length ≤ n
  same : all s.data.toList = rest s.data.toList n out
  below : Below w.heap.size w wr
  own : OwnK w.heap.size wr A c out
theorem news_new (w : World) (cs : Array Value) (t : TypeId) (l : List Value) (hl : cs.toList = l) : ∀ j u, l[j]? = some u → (w.alloc (.cells cs t)).cell? ((⟨w.heap.size, 0, none⟩ : Addr).add j) = some u := Quo.news_new w cs t l hl
theorem two_news (w : World) (cs : Array Value) (l : List Value) (hl : cs.toList = l) : ∀ j u, l[j]? = some u → ((w.alloc (.cells cs 37)).alloc (.cells cs 37)).cell? ((⟨w.heap.size + 1, 0, none⟩ : Addr).add j) = some u := fun j u hj => by
  have := news_new (w.alloc (.cells cs 37)) cs 37 l hl j u hj
  simpa using this
theorem tok_step {w wr w2 w3 : World} {A : Option Addr} {c N g' cap' : Nat} {out : List Tok} {t : Tok} {C D : Obj} (hb : Below w.heap.size w wr) (ho : OwnK w.heap.size wr A c out) (hN : out.length = N) (h2 : Below wr.heap.size wr w2)
    (hown : w3.ownsRow w.heap.size 37 5 (.slice (some ⟨g', 0, none⟩) (N + 1) cap') (N + 1) (tcs out ++ tcs [t])) (hg : ((w2.alloc C).alloc D).grownBy w3 (Value.ownBlock (.slice A N c))) :
    Below w.heap.size w w3 ∧ OwnK w.heap.size w3 (some ⟨g', 0, none⟩) cap' (out ++ [t]) := by
  have hr : ∀ k, Value.ownBlock (.slice A N c) = some k → w.heap.size ≤ k := fun k e => (ho.lo k (by rw [hN]; exact e)).1
  have h3 : Below w.heap.size w w2 := hb.trans (h2.mono hb.size)
  refine ⟨((h3.alloc h3.size C).alloc (by have := h3.size; simp; omega) D).grown hg (by have := h3.size; simp; omega) hr, ?_⟩
  unfold OwnK
  have e1 : (out ++ [t]).length = N + 1 := by simp [hN]
  rw [e1, tcs_append]; exact hown
theorem tcs_cell (t : Tok) : ∀ u ∈ tcs [t], u.oneCell' = true := by
  rw [tcs_one]
  intro u hu
  unfold tcl tc at hu
  simp at hu
  rcases hu with rfl | rfl | rfl | rfl | rfl <;> rfl
set_option maxHeartbeats 2000000 in
theorem all_is (s : ByteArray) (h : s.size ≤ 65536) (w : World) : Calls Tryd.prog 7 #[.string s] w (AllP s w) := by
  obtain ⟨i0, hi0, hz0, hz1, hz2⟩ := info_parts info37z
  have I0 := Lib.hid (And.intro hi0 (And.intro hz0 (And.intro hz1 hz2)))
  have h1 : (s.size : Int) ≤ (65536 : Int) := by omega
  have HA : Hid (all s.data.toList = rest s.data.toList 0 []) := rest_start (by rw [Nam.len_list]; exact h)
  clear hi0 hz0 hz1 hz2
  go_enter Tryd.func7, Tryd.ntmps7
  go_wp2_with fail
  go_step3
  go_wp2_with fail
  go_step3
  go_wp2_with fail
  go_loopg [4, 5] (s.size + 1) (fun gk u x wr => ∃ (n : Nat) (A : Option Addr) (c N : Nat) (out : List Tok), u = .slice A N c ∧ x = .int .i64 (n : Int) ∧ gk = s.size + 1 - n ∧ n ≤ s.size ∧ N ≤ n ∧ Hid (Sofar s w wr n A c out ∧ out.length = N))
  case atStart => exact ⟨0, none, 0, 0, [], rfl, rfl, rfl, Nat.zero_le _, Nat.le_refl _, ⟨Nat.zero_le _, Nat.le_refl _, HA.out, Below.refl _ _, World.ownsRow_nil _ _ _ _⟩, rfl⟩
  case round =>
    obtain ⟨n, A, c, N, out, rfl, rfl, hk, hn, hN, HH⟩ := hrel
    go_wp2_with fail
    refine (bb_v s n hn (by omega) _).mono ?_
    rintro e w1 ⟨⟨b, rfl, hb⟩, rfl⟩
    have HB := Lib.hid hb
    clear hb
    by_cases hbs : b = s.size
    · subst hbs
      go_wp2_with fail
      refine (way_end s _).mono ?_
      rintro e w1 ⟨rfl, hb1⟩
      unfold rd
      go_wp2_with fail
      refine (end_v s s.size (Nat.le_refl _) _).mono ?_
      rintro e w2 ⟨rfl, hb2⟩
      have hb12 := hb1.trans (hb2.mono hb1.size)
      have ho : w2.ownsRow w.heap.size 37 5 (.slice A N c) N (tcs out) := by
        have h1 := HH.out.1.own.grow hb12
        unfold OwnK at h1
        rw [HH.out.2] at h1; exact h1
      have hba : w.heap.size ≤ ((w2.alloc (.cells (tcl ⟨0, [], 0, 0, s.size⟩) 37)).alloc (.cells (tcl ⟨0, [], 0, 0, s.size⟩) 37)).heap.size := by
        have h1 := HH.out.1.below.size
        have h2 := hb12.size
        simp; omega
      have HO := Lib.hid (And.intro hb12 (And.intro ho hba))
      clear hb1 hb2 hb12 ho hba
      unfold good tk tc
      go_wp2_with (at_builtin; refine wpList_append_lies _ rfl (.tmp 39) (.tmp 41) 23 rfl w.heap.size 37 i0 (.agg t0) 5 48 Tryd.underlying23 I0.out.1 I0.out.2.1 I0.out.2.2.1 I0.out.2.2.2 rfl (by decide) (.slice A N c) N (tcs out) rfl ((HO.out.2.1.alloc _).alloc _) ⟨w2.heap.size + 1, 0, none⟩ 1 1 (tcs [⟨0, [], 0, 0, s.size⟩]) rfl rfl (two_news w2 _ _ rfl) (tcs_cell _) (by decide) (by unfold maxLen; omega) (by omega) HO.out.2.2 _ rfl ?_)
      intro g' cap' w3 hown hgrow _ _
      have H3 := Lib.hid (tok_step HH.out.1.below HH.out.1.own HH.out.2 HO.out.1 hown hgrow)
      clear hown hgrow
      go_wp2_with fail
      rw [Exit.noGoto_ret]
      go_ret2
      refine ⟨out ++ [⟨0, [], 0, 0, s.size⟩], 0, 0, ?_, H3.out.1, .inl ⟨rfl, _, _, ?_, H3.out.2⟩⟩
      · rw [HH.out.1.same, HB.out.same]; exact rest_end _ _
      · simp [HH.out.2]
    · have hlt : b < s.size := by have := HB.out.lt; rw [Nam.len_list] at this; omega
      have hnk : ∀ k, nx (s.data.toList.drop b) b ≠ .skip k := by
        rcases HB.out.stop with h | h
        · rw [Nam.len_list] at h; exact absurd h hbs
        · exact h
      obtain ⟨k, hcall, hk1, hk2⟩ := reads s b (by omega) hlt hnk
      have HD1 := Lib.hid hk1
      have HD2 := Lib.hid hk2
      have hle := HB.out.le
      clear hk1 hk2
      cases hx : nx (s.data.toList.drop b) b with
      | skip j => exact absurd hx (hnk j)
      | bad e p =>
        have hp0 := nx_bad_code hx
        have HX := Lib.hid hx
        rw [hx] at HD2
        clear hx hnk
        go_wp2_with fail
        refine (HD1.out _).mono ?_
        rintro e1 w1 ⟨rfl, hb1⟩
        unfold rd
        go_wp2_with fail
        refine (HD2.out _).mono ?_
        rintro e1 w2 ⟨rfl, hb2⟩
        have HO := Lib.hid (hb1.trans (hb2.mono hb1.size))
        clear hb1 hb2
        unfold ansE bad t0 tc Fau.bare
        go_wp2_with fail
        rw [Exit.noGoto_ret]
        go_ret2
        have h3 : Below w.heap.size w w2 := HH.out.1.below.trans (HO.out.mono HH.out.1.below.size)
        refine ⟨[], e, p, ?_, h3.alloc h3.size _, .inr ⟨hp0, rfl⟩⟩
        rw [HH.out.1.same, HB.out.same]; exact rest_bad _ (by rw [Nam.len_list]; exact hlt) HX.out
      | tok t j =>
        have hk0 := (nx_again hx).2
        have hr := rest_tok (s := s.data.toList) (at_ := b) out hx
        rw [Nam.len_list] at hr
        have HX := Lib.hid hr
        rw [hx] at HD2
        obtain ⟨q, hq⟩ : ∃ q, b + j = q := ⟨_, rfl⟩
        rw [ansE_tok hq] at HD2
        have hqs : q ≤ s.size := by omega
        have hqb : b < q := by omega
        have HQ := Lib.hid hq
        have hkk : ((t.kind : Int) == 0) = false := by rw [beq_eq_false_iff_ne]; omega
        clear hx hnk hk0 hr hq
        go_wp2_with fail
        refine (HD1.out _).mono ?_
        rintro e1 w1 ⟨rfl, hb1⟩
        unfold rd
        go_wp2_with fail
        refine (HD2.out _).mono ?_
        rintro e1 w2 ⟨rfl, hb2⟩
        have hb12 := hb1.trans (hb2.mono hb1.size)
        have ho : w2.ownsRow w.heap.size 37 5 (.slice A N c) N (tcs out) := by
          have h1 := HH.out.1.own.grow hb12
          unfold OwnK at h1
          rw [HH.out.2] at h1; exact h1
        have hba : w.heap.size ≤ ((w2.alloc (.cells (tcl t) 37)).alloc (.cells (tcl t) 37)).heap.size := by
          have h1 := HH.out.1.below.size
          have h2 := hb12.size
          simp; omega
        have HO := Lib.hid (And.intro hb12 (And.intro ho hba))
        clear hb1 hb2 hb12 ho hba
        unfold good tkv tk tc
        go_wp2_with (at_builtin; refine wpList_append_lies _ rfl (.tmp 26) (.tmp 28) 23 rfl w.heap.size 37 i0 (.agg t0) 5 48 Tryd.underlying23 I0.out.1 I0.out.2.1 I0.out.2.2.1 I0.out.2.2.2 rfl (by decide) (.slice A N c) N (tcs out) rfl ((HO.out.2.1.alloc _).alloc _) ⟨w2.heap.size + 1, 0, none⟩ 1 1 (tcs [t]) rfl rfl (two_news w2 (tcl t) _ (tcs_one t).symm) (tcs_cell _) (by decide) (by unfold maxLen; omega) (by omega) HO.out.2.2 _ rfl ?_)
        intro g' cap' w3 hown hgrow _ _
        have H3 := Lib.hid (tok_step HH.out.1.below HH.out.1.own HH.out.2 HO.out.1 hown hgrow)
        clear hown hgrow
        go_wp2_with fail
        go_roundg (s.size + 1 - q)
        case measure => omega
        case rel =>
          refine ⟨q, _, _, N + 1, out ++ [t], rfl, rfl, rfl, hqs, by omega, ⟨hqs, ?_, ?_, H3.out.1, H3.out.2⟩, by simp [HH.out.2]⟩
          · have := HH.out.2; simp; omega
          · rw [HH.out.1.same, HB.out.same, HX.out.1, HQ.out]
/-- All, of any text. -/
theorem all_v (s : ByteArray) (w : World) : Calls Tryd.prog 7 #[.string s] w (AllP s w) := by
  by_cases h : s.size ≤ 65536
  · exact all_is s h w
  · exact all_is_long s (by omega) w
end Go.Proofs.YtmckplgbaalpbaaDoor.Lex
