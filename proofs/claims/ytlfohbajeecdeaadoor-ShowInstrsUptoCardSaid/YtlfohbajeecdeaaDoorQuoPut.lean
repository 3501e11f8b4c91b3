
/- What the program's Put answers: a text between quotes. -/
import Derived.Test.YtlfohbajeecdeaaDoorQuoToldB
import Derived.Lib.BufferRead
namespace Go.Proofs.YtlfohbajeecdeaaDoor.Quo
open Go.ChangeShapes Go.WideShapes Go.RowKit
set_option linter.unusedVariables false

theorem own_convert {base : Nat} {w : World} {A : Option Addr} {c : Nat} {t : List UInt8} (h : Own base w A c t) :
    (convert 45 9 (.slice A t.length c)).run Tryd.prog w = .ok (.string ⟨t.toArray⟩) w := by
  rcases h.2 with ⟨hv, h0⟩ | ⟨g, cap, cur, hv, _, hh, _⟩
  · have : t = [] := List.eq_nil_of_length_eq_zero h0
    subst this
    injection hv with h1 h2 h3
    subst h1 h3
    exact Lib.run_convert_nil_bytes w 45 9 5 0 Tryd.underlying45 Tryd.underlying5 Tryd.underlying9
  · injection hv with h1 h2 h3
    subst h1 h3
    refine run_convert_bytes_back w 45 9 5 _ c t Tryd.underlying45 Tryd.underlying5 Tryd.underlying9 (fun j hj => ?_)
    have k : w.ownsRow base 5 1 (.slice (some ⟨g, 0, none⟩) t.length c) t.length (cellsOf t) := h
    have e : (⟨g, 0, none⟩ : Addr).add j = ⟨g, j, none⟩ := by unfold Addr.add; split <;> simp_all
    rw [e, k.cellAt j (by omega)]
    simp [cellsOf, hj]
theorem take_snoc (s : ByteArray) (k : Nat) (h : k < s.size) : s.data.toList.take (k + 1) = s.data.toList.take k ++ [s[k]] := by
  rw [List.take_succ_eq_append_getElem (by rw [len_list]; exact h)]; rfl
theorem told_any (base n : Nat) (A : Option Addr) (c : Nat) (t x : List UInt8) (b : UInt8) (w : World) (h : Own base w A c t) (hn : t.length = n) (hx : t ++ one b = x) (hl : t.length ≤ 100000000) (hB : base ≤ w.heap.size) :
    Calls Tryd.prog 58 #[.slice A n c, .int .u8 (b.toNat : Int)] w (ToldP base x w) := by
  subst hn hx; exact told_v base A c t b w h hl hB
set_option maxHeartbeats 1000000 in
theorem put_v (s : ByteArray) (l : List UInt8) (hl : put s.data.toList = l) (hs : s.size ≤ 20000000) (w : World) :
    Calls Tryd.prog 52 #[.string s] w fun e w' => e = .returned (.string ⟨l.toArray⟩) ∧ Below w.heap.size w w' := by
  obtain ⟨i0, hi0, hz0, hz1, hz2⟩ := info_parts info5
  have I0 := Lib.hid (And.intro hi0 (And.intro hz0 (And.intro hz1 hz2)))
  have HL := Lib.hid hl
  clear hi0 hz0 hz1 hz2 hl
  go_enter Tryd.func52, Tryd.ntmps52
  go_wp2_with (at_make; refine wpList_make_own _ rfl _ _ 45 rfl w.heap.size 5 i0 (.int .u8 0) 1 Tryd.underlying45 I0.out.1 I0.out.2.1 I0.out.2.2.1 _ _ _ (s.size + 2) rfl rfl (by omega) (by rw [I0.out.2.2.2]; omega) (by unfold maxLen; omega) (Nat.le_refl _) ?_)
  intro w1 hown1 hgrow1
  have B1 : Below w.heap.size w w1 := (Below.refl _ _).grown hgrow1 (Nat.le_refl _) (fun k hk => by cases hk)
  have H1 := Lib.hid (And.intro hown1 B1)
  clear hown1 hgrow1 B1
  go_wp2_with (at_builtin; refine wpList_append_own _ rfl _ _ 45 rfl w.heap.size 5 i0 (.int .u8 0) 1 1 Tryd.underlying45 I0.out.1 I0.out.2.1 I0.out.2.2.1 I0.out.2.2.2 rfl (by decide) _ _ _ rfl (H1.out.1.alloc _) ⟨w1.heap.size, 0, none⟩ 1 1 _ rfl rfl (news_new _ _ _ _ rfl) (by intro x hx; simp at hx; subst hx; rfl) (by unfold maxLen; omega) (by omega) (by have := H1.out.2.size; simp; omega) ?_)
  intro v' w2 hown' hgrow _
  obtain ⟨A', c', rfl, h2, h3⟩ := own_next (m := 1) (t := []) (x := [34]) hown' rfl rfl (by omega) hgrow H1.out.1 H1.out.2 H1.out.2.size
  have H2 := Lib.hid (And.intro h2 h3)
  clear hown' hgrow h2 h3 H1
  go_wp2_with fail
  go_loopg [3, 14] s.size (fun gk v i wr => ∃ (k : Nat) (A : Option Addr) (c : Nat) (t : List UInt8), k + gk = s.size ∧ i = .int .i64 (k : Int) ∧ v = .slice A t.length c ∧
    Hid (t = 34 :: body (s.data.toList.take k) ∧ Own w.heap.size wr A c t ∧ Below w.heap.size w wr))
  case atStart => exact ⟨0, A', c', [34], by omega, rfl, rfl, rfl, H2.out.1, H2.out.2⟩
  case round =>
    obtain ⟨k, A, c, t, hk, rfl, rfl, HH⟩ := hrel
    have htl : t.length ≤ 80000001 := by
      rw [HH.out.1, List.length_cons]
      have h1 := body_len (s.data.toList.take k)
      have h2 : (s.data.toList.take k).length ≤ k := List.length_take_le _ _
      omega
    have HT := Lib.hid htl
    by_cases hg : gk = 0
    · subst hg
      obtain rfl : k = s.size := by omega
      have hf : t ++ [34] = l := by
        rw [← HL.out, HH.out.1, List.take_of_length_le (by rw [len_list]; omega)]; rfl
      have HF := Lib.hid hf
      clear hf hk
      go_wp2_with (at_builtin; refine wpList_append_own _ rfl _ _ 45 rfl w.heap.size 5 i0 (.int .u8 0) 1 1 Tryd.underlying45 I0.out.1 I0.out.2.1 I0.out.2.2.1 I0.out.2.2.2 rfl (by decide) _ _ _ rfl (HH.out.2.1.alloc _) ⟨wr.heap.size, 0, none⟩ 1 1 _ rfl rfl (news_new _ _ _ _ rfl) (by intro x hx; simp at hx; subst hx; rfl) (by unfold maxLen; omega) (by omega) (by have := HH.out.2.2.size; simp; omega) ?_)
      intro v' w3 hown' hgrow _
      obtain ⟨A3, c3, rfl, h2, h3⟩ := own_next (m := 1) (x := [34]) hown' rfl rfl (by omega) hgrow HH.out.2.1 HH.out.2.2 HH.out.2.2.size
      rw [HF.out] at h2 ⊢
      have hconv := own_convert h2
      have H3 := Lib.hid h3
      clear hown' hgrow h2 h3
      go_wp2_with fail
      go_ret
      exact ⟨rfl, H3.out⟩
    · obtain ⟨q, rfl⟩ : ∃ q, gk = q + 1 := ⟨gk - 1, by omega⟩
      have hlt : k < s.size := by omega
      have hnx : t ++ one s[k] = 34 :: body (s.data.toList.take (k + 1)) := by
        rw [HH.out.1, take_snoc s k hlt, body_snoc]; rfl
      obtain ⟨x, hx⟩ : ∃ x, t ++ one s[k] = x := ⟨_, rfl⟩
      rw [hx] at hnx
      have HX := Lib.hid (And.intro hx hnx)
      clear hx hnx hg
      have HK := Lib.hid hk
      clear hk htl
      go_wp2_with fail
      refine (told_any w.heap.size _ A c t x s[k] _ HH.out.2.1 rfl HX.out.1 (by have := HT.out; omega) HH.out.2.2.size).mono ?_
      rintro e w3 ⟨A3, c3, rfl, ho, hb⟩
      have H3 := Lib.hid (And.intro ho (HH.out.2.2.trans hb))
      clear ho hb
      go_wp2_with fail
      go_roundg q
      case measure => omega
      case rel => exact ⟨k + 1, A3, c3, x, by have := HK.out; omega, by go_num, rfl, HX.out.2, H3.out.1, H3.out.2⟩
end Go.Proofs.YtlfohbajeecdeaaDoor.Quo
