/- What the document's own Pad answers. -/
import Derived.Test.YtncdppdlklffpaaRefPut
namespace Go.Proofs.Ytncdppdlklffpaa
open Go.ChangeShapes Go.WideShapes Go.RowKit
set_option linter.unusedVariables false

theorem rep_blank (a : Nat) (l : List UInt8) : [32] ++ (List.replicate a 32 ++ l) = List.replicate (a + 1) 32 ++ l := by
  rw [List.replicate_succ]; rfl
theorem refpad_v (n wide : Int) (l : List UInt8) (hl : txt n = l) (h : fit n) (hw2 : wide ≤ 300) (w : World) :
    Calls Try.prog 10 #[.int .i64 n, .int .i64 wide] w fun e w' => e = .returned (.string ⟨(pad l wide).toArray⟩) ∧ Below w.heap.size w w' := by
  have hlen : l.length ≤ 20 := by rw [← hl]; exact txt_len n h.1 h.2
  obtain ⟨M, hM⟩ : ∃ M, max wide.toNat l.length = M := ⟨_, rfl⟩
  have hM2 : M ≤ 300 := by omega
  have HL := Lib.hid hl
  have HF := Lib.hid h
  have HM := Lib.hid hM
  clear hl h hM
  go_enter Try.func10, Try.ntmps10
  go_wp2_with fail
  refine (refput_v n l HL.out HF.out _).mono ?_
  rintro e w1 ⟨rfl, hb⟩
  have HB := Lib.hid hb
  clear hb
  go_wp2_with fail
  go_loopg [5, 6] (M - l.length) (fun gk s i wr => ∃ (k : Nat) (t : List UInt8), k + gk = M ∧ l.length ≤ k ∧ i = .int .i64 (k : Int) ∧ s = .string ⟨t.toArray⟩ ∧ Hid (t = List.replicate (k - l.length) 32 ++ l ∧ Below w.heap.size w wr))
  case atStart => exact ⟨l.length, l, by have := HM.out; omega, Nat.le_refl _, rfl, rfl, by simp, HB.out⟩
  case round =>
    obtain ⟨k, t, hk, hlk, rfl, rfl, HH⟩ := hrel
    have htl : t.length ≤ 320 := by rw [HH.out.1]; simp; omega
    by_cases hlt : (k : Int) < wide
    · have hkb : k ≤ 300 := by omega
      have hn : [32] ++ t = List.replicate (k + 1 - l.length) 32 ++ l := by
        rw [HH.out.1, rep_blank, show k + 1 - l.length = k - l.length + 1 by omega]
      have HN := Lib.hid hn
      have HK := Lib.hid hk
      clear hn hk
      go_wp2_with fail
      go_roundg (gk - 1)
      case measure => have := HK.out; have := HM.out; omega
      case rel => exact ⟨k + 1, [32] ++ t, by have := HK.out; have := HM.out; omega, by omega, by go_num, by rw [← ByteArray.mk_append_mk], HN.out, HH.out.2⟩
    · have hn : t = pad l wide := by
        rw [HH.out.1]; unfold pad
        have := HM.out
        rw [show k - l.length = wide.toNat - l.length by omega]
      have HN := Lib.hid hn
      clear hn hk
      go_wp2_with fail
      go_ret
      exact ⟨ret_str HN.out, HH.out.2⟩
end Go.Proofs.Ytncdppdlklffpaa
