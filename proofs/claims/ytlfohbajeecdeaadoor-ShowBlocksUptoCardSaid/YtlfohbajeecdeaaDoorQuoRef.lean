
/- What the document's own Put answers: a text between quotes. -/
import Derived.Test.YtlfohbajeecdeaaDoorQuoPut
import Derived.Deep.QuietTactic
import Derived.BigQuiet
namespace Go.Proofs.YtlfohbajeecdeaaDoor.Quo
open Go.ChangeShapes Go.WideShapes Go.RowKit
set_option linter.unusedVariables false

theorem one_convert (w : World) (c : UInt8) :
    (convert 45 9 (.slice (some ⟨w.heap.size, 0, none⟩) 1 1)).run Tryd.prog (w.alloc (.cells #[.int .u8 (c.toNat : Int)] 5)) = .ok (.string ⟨[c].toArray⟩) (w.alloc (.cells #[.int .u8 (c.toNat : Int)] 5)) := by
  refine run_convert_bytes_back _ 45 9 5 _ 1 [c] Tryd.underlying45 Tryd.underlying5 Tryd.underlying9 (fun j hj => ?_)
  simp at hj
  subst hj
  exact cell_one_new w _ 5 0 _ rfl
theorem tab_cut : ∀ k : Nat, k < 16 → (⟨#[48, 49, 50, 51, 52, 53, 54, 55, 56, 57, 97, 98, 99, 100, 101, 102]⟩ : ByteArray).extract k (k + 1) = ⟨#[hexd k]⟩ := by decide +kernel
theorem cut_run (z z1 : Int) (k : Nat) (hz : z = (k : Int)) (hz1 : z1 = z + 1) (hk : k < 16) (W : World) :
    (Instr.slice 9 (.string ⟨#[48, 49, 50, 51, 52, 53, 54, 55, 56, 57, 97, 98, 99, 100, 101, 102]⟩) (some (.int .u8 z)) (some (.int .u8 z1)) none).run Tryd.prog W = .ok (.string ⟨#[hexd k]⟩) W := by
  subst hz1 hz
  have hs : (⟨#[48, 49, 50, 51, 52, 53, 54, 55, 56, 57, 97, 98, 99, 100, 101, 102]⟩ : ByteArray).size = 16 := rfl
  rw [run_slice_string W 9 _ .u8 .u8 _ _ Tryd.underlying9 (by omega) (by omega) (by rw [hs]; omega)]
  rw [show ((k : Int) + 1).toNat = k + 1 by omega, show ((k : Int)).toNat = k by omega, tab_cut k hk]
theorem refone_plain (b : UInt8) (w : World) (h1 : b.toNat ≠ 34) (h2 : b.toNat ≠ 92) (h3 : b.toNat ≠ 10) (h4 : b.toNat ≠ 9) (h5 : 32 ≤ b.toNat) (h6 : b.toNat ≤ 126) :
    Calls Tryd.prog 43 #[.int .u8 (b.toNat : Int)] w fun e w' => e = .returned (.string ⟨[b].toArray⟩) ∧ Below w.heap.size w w' := by
  have c1 : ((b.toNat : Int) == 34) = false := nat_bne h1
  have c2 : ((b.toNat : Int) == 92) = false := nat_bne h2
  have c3 : ((b.toNat : Int) == 10) = false := nat_bne h3
  have c4 : ((b.toNat : Int) == 9) = false := nat_bne h4
  have hcv := one_convert w b
  clear h1 h2 h3 h4
  go_enter Tryd.func43, Tryd.ntmps43
  go_wp2_with fail
  go_ret
  exact ⟨rfl, (Below.refl _ _).alloc (Nat.le_refl _) _⟩
theorem refone_34 (w : World) : Calls Tryd.prog 43 #[.int .u8 34] w fun e w' => e = .returned (.string ⟨#[92, 34]⟩) ∧ Below w.heap.size w w' := by
  go_enter Tryd.func43, Tryd.ntmps43
  go_wp2_with fail
  go_ret
  exact ⟨rfl, Below.refl _ _⟩
theorem refone_92 (w : World) : Calls Tryd.prog 43 #[.int .u8 92] w fun e w' => e = .returned (.string ⟨#[92, 92]⟩) ∧ Below w.heap.size w w' := by
  go_enter Tryd.func43, Tryd.ntmps43
  go_wp2_with fail
  go_ret
  exact ⟨rfl, Below.refl _ _⟩
theorem refone_10 (w : World) : Calls Tryd.prog 43 #[.int .u8 10] w fun e w' => e = .returned (.string ⟨#[92, 110]⟩) ∧ Below w.heap.size w w' := by
  go_enter Tryd.func43, Tryd.ntmps43
  go_wp2_with fail
  go_ret
  exact ⟨rfl, Below.refl _ _⟩
theorem refone_9 (w : World) : Calls Tryd.prog 43 #[.int .u8 9] w fun e w' => e = .returned (.string ⟨#[92, 116]⟩) ∧ Below w.heap.size w w' := by
  go_enter Tryd.func43, Tryd.ntmps43
  go_wp2_with fail
  go_ret
  exact ⟨rfl, Below.refl _ _⟩
theorem below_drewN (B : Nat) (w : World) (n : Nat) : Below B w (w.drewN n) := ⟨rfl, rfl, rfl, Nat.le_refl _, fun _ _ => rfl⟩
theorem ret_hex (y1 y2 : UInt8) : Ending.returned (.string (ByteArray.mk #[92, 120] ++ ByteArray.mk #[y1] ++ ByteArray.mk #[y2])) = .returned (.string ⟨[92, 120, y1, y2].toArray⟩) := rfl
theorem refone_hex (b : UInt8) (w : World) (h1 : b.toNat ≠ 34) (h2 : b.toNat ≠ 92) (h3 : b.toNat ≠ 10) (h4 : b.toNat ≠ 9) (h5 : ¬ (32 ≤ b.toNat ∧ b.toNat ≤ 126)) :
    Calls Tryd.prog 43 #[.int .u8 (b.toNat : Int)] w fun e w' => e = .returned (.string ⟨[92, 120, hexd (b.toNat / 16), hexd (b.toNat % 16)].toArray⟩) ∧ Below w.heap.size w w' := by
  have c1 : ((b.toNat : Int) == 34) = false := nat_bne h1
  have c2 : ((b.toNat : Int) == 92) = false := nat_bne h2
  have c3 : ((b.toNat : Int) == 10) = false := nat_bne h3
  have c4 : ((b.toNat : Int) == 9) = false := nat_bne h4
  have hbl := b.toNat_lt
  have ways : b.toNat < 32 ∨ 126 < b.toNat := by omega
  have x1 := cut_run ((b.toNat : Int) / 16) ((b.toNat : Int) / 16 + 1) (b.toNat / 16) (by omega) rfl (by omega)
  have x2 := cut_run ((b.toNat : Int) % 16) ((b.toNat : Int) % 16 + 1) (b.toNat % 16) (by omega) rfl (by omega)
  have d1 : (b.toNat : Int).tdiv 16 = (b.toNat : Int) / 16 := Int.tdiv_eq_ediv_of_nonneg (by omega)
  have d2 : (b.toNat : Int).tmod 16 = (b.toNat : Int) % 16 := Int.tmod_eq_emod_of_nonneg (by omega)
  have e1 : IntKind.u8.wrap ((b.toNat : Int) / 16 + 1) = (b.toNat : Int) / 16 + 1 := by
    have hb : (2 : Int) ^ IntKind.u8.bits = 256 := by decide
    have hs : IntKind.u8.signed = false := rfl
    simp only [IntKind.wrap, hb, hs, Bool.false_and]
    simp only [Bool.false_eq_true, if_false]
    omega
  have e2 : IntKind.u8.wrap ((b.toNat : Int) % 16 + 1) = (b.toNat : Int) % 16 + 1 := by
    have hb : (2 : Int) ^ IntKind.u8.bits = 256 := by decide
    have hs : IntKind.u8.signed = false := rfl
    simp only [IntKind.wrap, hb, hs, Bool.false_and]
    simp only [Bool.false_eq_true, if_false]
    omega
  generalize hexd (b.toNat / 16) = y1 at *
  generalize hexd (b.toNat % 16) = y2 at *
  clear h1 h2 h3 h4 h5
  rcases ways with h | h
  · go_enter Tryd.func43, Tryd.ntmps43
    go_wp2_with fail
    go_quiet (fail)
    go_wp2_with fail
    go_ret
    exact ⟨ret_hex y1 y2, below_drewN _ _ _⟩
  · have h6 : 32 ≤ b.toNat := by omega
    go_enter Tryd.func43, Tryd.ntmps43
    go_wp2_with fail
    go_quiet (fail)
    go_wp2_with fail
    go_ret
    exact ⟨ret_hex y1 y2, below_drewN _ _ _⟩
theorem refone_v (b : UInt8) (l : List UInt8) (hl : one b = l) (w : World) : Calls Tryd.prog 43 #[.int .u8 (b.toNat : Int)] w fun e w' => e = .returned (.string ⟨l.toArray⟩) ∧ Below w.heap.size w w' := by
  subst hl
  unfold one
  by_cases k1 : b = 34
  · rw [if_pos (.inl k1)]; subst k1; exact refone_34 w
  · by_cases k2 : b = 92
    · rw [if_pos (.inr k2)]; subst k2; exact refone_92 w
    · rw [if_neg (fun k => k.elim k1 k2)]
      by_cases k3 : b = 10
      · rw [if_pos k3]; subst k3; exact refone_10 w
      · rw [if_neg k3]
        by_cases k4 : b = 9
        · rw [if_pos k4]; subst k4; exact refone_9 w
        · rw [if_neg k4]
          have n1 : b.toNat ≠ 34 := fun k => k1 ((byte_is _ 34 (by decide)).2 k)
          have n2 : b.toNat ≠ 92 := fun k => k2 ((byte_is _ 92 (by decide)).2 k)
          have n3 : b.toNat ≠ 10 := fun k => k3 ((byte_is _ 10 (by decide)).2 k)
          have n4 : b.toNat ≠ 9 := fun k => k4 ((byte_is _ 9 (by decide)).2 k)
          by_cases k5 : 32 ≤ b.toNat ∧ b.toNat ≤ 126
          · rw [if_pos k5]; exact refone_plain b w n1 n2 n3 n4 k5.1 k5.2
          · rw [if_neg k5]; exact refone_hex b w n1 n2 n3 n4 k5
theorem ret_str {a b : List UInt8} (h : a = b) : Ending.returned (.string ⟨a.toArray⟩) = .returned (.string ⟨b.toArray⟩) := by rw [h]
theorem ret_cat (x l y : List UInt8) (h : x ++ l = y) : Ending.returned (.string (ByteArray.mk x.toArray ++ ByteArray.mk l.toArray)) = .returned (.string ⟨y.toArray⟩) := by rw [ByteArray.mk_append_mk, ← h]
set_option maxHeartbeats 400000 in
theorem refput_v (s : ByteArray) (l : List UInt8) (hl : put s.data.toList = l) (hs : s.size ≤ 20000000) (w : World) :
    Calls Tryd.prog 25 #[.string s] w fun e w' => e = .returned (.string ⟨l.toArray⟩) ∧ Below w.heap.size w w' := by
  have HL := Lib.hid hl
  clear hl
  go_enter Tryd.func25, Tryd.ntmps25
  go_wp2_with fail
  go_loopg [3, 4] s.size (fun gk v i wr => ∃ (k : Nat) (t : List UInt8), k + gk = s.size ∧ i = .int .i64 (k : Int) ∧ v = .string ⟨t.toArray⟩ ∧
    Hid (t = 34 :: body (s.data.toList.take k) ∧ Below w.heap.size w wr))
  case atStart => exact ⟨0, [34], by omega, rfl, rfl, rfl, Below.refl _ _⟩
  case round =>
    obtain ⟨k, t, hk, rfl, rfl, HH⟩ := hrel
    have htl : t.length ≤ 80000001 := by
      rw [HH.out.1, List.length_cons]
      have h1 := body_len (s.data.toList.take k)
      have h2 : (s.data.toList.take k).length ≤ k := List.length_take_le _ _
      omega
    by_cases hg : gk = 0
    · subst hg
      obtain rfl : k = s.size := by omega
      have hf : t ++ [34] = l := by
        rw [← HL.out, HH.out.1, List.take_of_length_le (by rw [len_list]; omega)]; rfl
      have HF := Lib.hid hf
      clear hf hk
      go_wp2_with fail
      go_ret
      exact ⟨ret_cat t [34] l HF.out, HH.out.2⟩
    · obtain ⟨q, rfl⟩ : ∃ q, gk = q + 1 := ⟨gk - 1, by omega⟩
      have hlt : k < s.size := by omega
      obtain ⟨o, ho⟩ : ∃ o, one s[k] = o := ⟨_, rfl⟩
      have hol : o.length ≤ 4 := by rw [← ho]; exact (one_len _).2
      have hnx : t ++ o = 34 :: body (s.data.toList.take (k + 1)) := by
        rw [HH.out.1, take_snoc s k hlt, body_snoc, ho]; rfl
      have HX := Lib.hid (And.intro ho hnx)
      have HK := Lib.hid hk
      clear ho hnx hg hk
      go_wp2_with fail
      refine (refone_v s[k] o HX.out.1 _).mono ?_
      rintro e w3 ⟨rfl, hb⟩
      have H3 := Lib.hid (HH.out.2.trans (hb.mono HH.out.2.size))
      clear hb
      go_wp2_with fail
      go_roundg q
      case measure => omega
      case rel => exact ⟨k + 1, t ++ o, by have := HK.out; omega, by go_num, by rw [← ByteArray.mk_append_mk], HX.out.2, H3.out⟩
end Go.Proofs.YtlfohbajeecdeaaDoor.Quo
