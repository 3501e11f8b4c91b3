/- What the document's Fresh answers. -/
import Derived.Test.YtpdodiloddkabaaDoorFresh
import Derived.Test.YtpdodiloddkabaaDoorRefRight
import Derived.Test.YtpdodiloddkabaaDoorRefPut
namespace Go.Proofs.YtpdodiloddkabaaDoor
open Go.ChangeShapes Go.WideShapes Go.RowKit
set_option linter.unusedVariables false

theorem mem_step (ss : List ByteArray) (j : Nat) (t M : ByteArray) (h : ss[j]? = some t) : decide (M.data.toList ∈ bs (ss.take (j + 1))) = (decide (M.data.toList ∈ bs (ss.take j)) || (t.toList == M.toList)) := by
  rw [bs_step ss j t h, Lib.toList_data, Lib.toList_data]
  by_cases h1 : M.data.toList ∈ bs (ss.take j)
  · simp [h1]
  · by_cases h2 : t.data.toList = M.data.toList
    · simp [h2]
    · have h3 : ¬ M.data.toList = t.data.toList := fun k => h2 k.symm
      have h4 : (t.data.toList == M.data.toList) = false := by rw [beq_eq_false_iff_ne]; exact h2
      rw [h4, decide_eq_false h1, decide_eq_false (by simp [h1, h3])]; rfl
theorem cell_at {w wr : World} {A : Option Addr} {ss : List ByteArray} (h : Strs w A ss) (hb : Below w.heap.size w wr) (j : Nat) (hj : j < ss.length) :
    ∃ b off t, A = some ⟨b, off, none⟩ ∧ ss[j]? = some t ∧ wr.cell? ⟨b, off + j, none⟩ = some (.string t) := by
  rcases h.2 with rfl | ⟨b, off, h1, h2, h3⟩
  · simp at hj
  · exact ⟨b, off, ss[j], h1, List.getElem?_eq_getElem hj, (hb.cell (by exact h2)).trans (h3 j hj)⟩
set_option maxHeartbeats 1000000 in
theorem reffresh_v (w : World) (s : ByteArray) (A : Option Addr) (cap : Nat) (ss : List ByteArray) (r : List UInt8) (hs : s.size ≤ 60) (hl : ss.length ≤ 60) (h : Strs w A ss) (hr : fresh s.data.toList (bs ss) (ss.length + 1) 0 = r) :
    Calls Tryd.prog 16 #[.string s, .slice A ss.length cap] w fun e w' => e = .returned (.string ⟨r.toArray⟩) ∧ Below w.heap.size w w' := by
  have HR := Lib.hid hr
  have HS := Lib.hid h
  clear hr h
  obtain ⟨N, hN⟩ : ∃ N, ss.length = N := ⟨_, rfl⟩
  have HN := Lib.hid hN
  rw [hN] at hl ⊢
  clear hN
  go_enter Tryd.func16, Tryd.ntmps16
  go_wp2_with fail
  go_loopg [5] N (fun gk i wr => ∃ k : Nat, k ≤ N ∧ i = .int .i64 (k : Int) ∧ Hid (Seek s.data.toList (bs ss) r gk k ∧ Below w.heap.size w wr))
  case atStart => exact ⟨0, by omega, rfl, ⟨by rw [bs_len, HN.out]; omega, fun i hi => by omega, by rw [← HN.out]; exact HR.out⟩, Below.refl _ _⟩
  case round =>
    obtain ⟨k, hk, rfl, HH⟩ := hrel
    obtain ⟨l, hn⟩ : ∃ l, num k = l := ⟨_, rfl⟩
    have hll : l.length ≤ 2 := by rw [← hn]; exact num_le k
    have hkN : (k : Int) ≤ (N : Int) := by omega
    have hsz : (ByteArray.mk l.toArray).size ≤ 2 := by simpa [ByteArray.size] using hll
    obtain ⟨M, hM⟩ : ∃ M, s ++ ByteArray.mk l.toArray = M := ⟨_, rfl⟩
    have hMl : M.data.toList = s.data.toList ++ l := by rw [← hM]; exact cat_list s l
    obtain ⟨x, hx⟩ : ∃ x, right M.data.toList = x := ⟨_, rfl⟩
    have HX := Lib.hid (And.intro hn (And.intro hx hMl))
    clear hn hx hll hMl
    cases x
    · go_wp2_with fail
      refine (Deci.refput_v k l HX.out.1 (by omega) _).mono ?_
      rintro e w2 ⟨rfl, hb⟩
      have B := Lib.hid hb
      clear hb
      go_wp2_with fail
      refine (refright_v M false HX.out.2.1 _).mono ?_
      rintro e w3 ⟨rfl, rfl⟩
      go_wp2_with fail
      go_ret
      have hf := HH.out.1.bad (by rw [HX.out.1, ← HX.out.2.2]; exact HX.out.2.1)
      refine ⟨?_, HH.out.2.trans (B.out.mono HH.out.2.size)⟩
      show Ending.returned (.string ⟨#[]⟩) = _
      rw [← hf]
    · go_wp2_with fail
      refine (Deci.refput_v k l HX.out.1 (by omega) _).mono ?_
      rintro e w2 ⟨rfl, hb⟩
      have B := Lib.hid (HH.out.2.trans (hb.mono HH.out.2.size))
      clear hb
      go_wp2_with fail
      refine (refright_v M true HX.out.2.1 _).mono ?_
      rintro e w3 ⟨rfl, rfl⟩
      go_wp2_with fail
      go_loopg [7, 8] N (fun gk f i wr => ∃ (j : Nat) (b : Bool), j + gk = N ∧ f = .bool b ∧ i = .int .i64 (j : Int) ∧ Hid (decide (M.data.toList ∈ bs (ss.take j)) = b ∧ w2 = wr))
      case atStart => exact ⟨0, false, by omega, rfl, rfl, by simp [bs], rfl⟩
      case round =>
        obtain ⟨j, b, hj, rfl, rfl, HI⟩ := hrel
        obtain rfl := HI.out.2
        by_cases hg : gk = 0
        · subst hg
          obtain rfl : j = N := by omega
          have HM : Hid (decide (M.data.toList ∈ bs ss) = b) := by
            refine Lib.hid ?_
            have := HI.out.1
            rw [List.take_of_length_le (by rw [HN.out]; exact Nat.le_refl _)] at this
            exact this
          clear hj
          cases b
          · go_wp2_with fail
            go_ret
            have hf := HH.out.1.free (by rw [HX.out.1, ← HX.out.2.2]; exact HX.out.2.1) (by rw [HX.out.1, ← HX.out.2.2]; exact HM.out)
            rw [HX.out.1, ← HX.out.2.2] at hf
            refine ⟨?_, B.out⟩
            show Ending.returned (.string M) = _
            exact ret_s hf
          · obtain ⟨q, rfl, hq⟩ := HH.out.1.next (by rw [bs_len, HN.out]; exact hl) (by rw [HX.out.1, ← HX.out.2.2]; exact HX.out.2.1) (by rw [HX.out.1, ← HX.out.2.2]; exact HM.out)
            have HQ := Lib.hid hq
            clear hq
            go_wp2_with fail
            go_roundg q
            case measure => omega
            case rel => exact ⟨k + 1, by have := HQ.out.1; rw [bs_len, HN.out] at this; omega, by go_num, HQ.out, B.out⟩
        · obtain ⟨q, rfl⟩ : ∃ q, gk = q + 1 := ⟨gk - 1, by omega⟩
          have hjN : (j : Int) < (N : Int) := by omega
          have hjN' : j < N := by omega
          obtain ⟨bb, off, t, hA, ht, hc⟩ := cell_at HS.out B.out j (by rw [HN.out]; exact hjN')
          have hst := mem_step ss j t M ht
          rw [HI.out.1] at hst
          have HJ := Lib.hid hj
          clear hg hj ht
          cases b
          · obtain ⟨y, hy⟩ : ∃ y, (t.toList == M.toList) = y := ⟨_, rfl⟩
            rw [hy] at hst
            have HT := Lib.hid hst
            clear hst
            subst hA
            go_wp2_with fail
            go_roundg q
            case measure => omega
            case rel => exact ⟨j + 1, y, by have := HJ.out; omega, rfl, by go_num, HT.out.trans (Bool.false_or y), rfl⟩
          · have HT := Lib.hid hst
            clear hst hc hA
            go_wp2_with fail
            go_roundg q
            case measure => omega
            case rel => exact ⟨j + 1, true, by have := HJ.out; omega, rfl, by go_num, HT.out.trans (Bool.true_or _), rfl⟩
end Go.Proofs.YtpdodiloddkabaaDoor
