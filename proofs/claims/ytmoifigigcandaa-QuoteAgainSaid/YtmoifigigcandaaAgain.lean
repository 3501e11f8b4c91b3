/- The walk of the statement QuoteAgain: what is read is read again of what is put of it; what is put has bytes from 32 to 126 alone, and no two texts are put alike. -/
import Derived.Test.YtmoifigigcandaaWorks
namespace Go.Proofs.Ytmoifigigcandaa
open Go.ChangeShapes Go.WideShapes Go.RowKit
set_option linter.unusedVariables false

theorem mkl (B : ByteArray) : (⟨B.data.toList.toArray⟩ : ByteArray) = B := by cases B; simp
theorem put_b (S P : ByteArray) (hP : put S.data.toList = P.data.toList) (hs : S.size ≤ 10000) (w : World) :
    Calls Try.prog 6 #[.string S] w fun e w' => e = .returned (.string P) ∧ Below w.heap.size w w' := by
  have k := put_v S _ hP hs w
  rw [mkl] at k
  exact k
theorem get_outB (S : ByteArray) (hs : S.size ≤ 100000) : ∃ (X : ByteArray) (c : Int),
    (∀ w : World, Calls Try.prog 9 #[.string S] w fun e1 w' => e1 = .returned (.tuple #[.string X, .int .i64 c]) ∧ Below w.heap.size w w') ∧ X.size ≤ 64 ∧ (c ≠ 0 → X = ⟨#[]⟩) := by
  obtain ⟨x, c, h1, h2, h3⟩ := get_out S hs
  refine ⟨⟨x.toArray⟩, c, h1, ?_, fun h => by rw [h3 h]⟩
  show x.toArray.size ≤ 64
  simpa using h2
theorem get_putB (X P : ByteArray) (hP : put X.data.toList = P.data.toList) (hX : X.size ≤ 64) (w : World) :
    Calls Try.prog 9 #[.string P] w fun e1 w' => e1 = .returned (.tuple #[.string X, .int .i64 0]) ∧ Below w.heap.size w w' := by
  have k := get_put X.data.toList _ hP (by rw [len_list]; exact hX) w
  rw [mkl, mkl] at k
  exact k
/-- A text's Put, as bytes. -/
def putB (S : ByteArray) : ByteArray := ⟨(put S.data.toList).toArray⟩
theorem putB_list (S : ByteArray) : put S.data.toList = (putB S).data.toList := by unfold putB; simp
theorem putB_inj (S T : ByteArray) (h : putB S = putB T) : S = T := by
  have h1 := congrArg (fun b => b.data.toList) h
  have h2 : put S.data.toList = put T.data.toList := by rw [putB_list, putB_list]; exact h1
  have h3 := (put_inj _ _).1 h2
  rw [← mkl S, ← mkl T, h3]
theorem putB_size (S : ByteArray) : (putB S).size ≤ 4 * S.size + 2 := by
  rw [← len_list, ← putB_list, ← len_list S]; exact put_len _
theorem putB_range (S : ByteArray) (k : Nat) (h : k < (putB S).size) : 32 ≤ (putB S)[k].toNat ∧ (putB S)[k].toNat ≤ 126 := by
  refine put_range S.data.toList _ ?_
  rw [putB_list]
  exact List.getElem_mem (by rw [len_list]; exact h)
theorem again_w1 (S T : ByteArray) (h : (300 : Int) < (S.size : Int)) (w : World) : Calls Try.prog 4 #[.string S, .string T] w fun e w' => e = .returned (.bool true) ∧ Below w.heap.size w w' := by
  go_enter Try.func4, Try.ntmps4
  go_wp2_with fail
  refine (works_is _).mono ?_
  rintro e w3 ⟨rfl, hb3⟩
  go_wp2_with fail
  go_ret
  exact ⟨rfl, hb3⟩
theorem again_w2 (S T : ByteArray) (h : (S.size : Int) ≤ 300) (h2 : (300 : Int) < (T.size : Int)) (w : World) : Calls Try.prog 4 #[.string S, .string T] w fun e w' => e = .returned (.bool true) ∧ Below w.heap.size w w' := by
  go_enter Try.func4, Try.ntmps4
  go_wp2_with fail
  refine (works_is _).mono ?_
  rintro e w3 ⟨rfl, hb3⟩
  go_wp2_with fail
  go_ret
  exact ⟨rfl, hb3⟩
theorem same_true {S T : ByteArray} (h : S = T) : (S.toList == T.toList) = true := by subst h; simp
theorem same_false {S T : ByteArray} (h : ¬ S = T) : (S.toList == T.toList) = false := by
  rw [beq_eq_false_iff_ne, ByteArray.toList_eq, ByteArray.toList_eq]
  intro k
  exact h (by rw [← mkl S, ← mkl T, k])
set_option maxHeartbeats 1000000 in
theorem again_main (S T P Q : ByteArray) (b : Bool) (h : (S.size : Int) ≤ 300) (h2 : (T.size : Int) ≤ 300) (hP : put S.data.toList = P.data.toList) (hQ : put T.data.toList = Q.data.toList) (e1 : (S.toList == T.toList) = b) (e2 : (P.toList == Q.toList) = b)
    (hPs : P.size ≤ 1202) (hr : ∀ k (h : k < P.size), 32 ≤ P[k].toNat ∧ P[k].toNat ≤ 126) (w : World) : Calls Try.prog 4 #[.string S, .string T] w fun e w' => e = .returned (.bool true) ∧ Below w.heap.size w w' := by
  obtain ⟨X, c, k1, k2, k3⟩ := get_outB S (by omega)
  have HP := Lib.hid (And.intro hP hQ)
  have K1 := Lib.hid k1
  have K2 := Lib.hid k2
  have K3 := Lib.hid k3
  have HR := Lib.hid hr
  clear k1 k2 k3 hP hQ hr
  go_enter Try.func4, Try.ntmps4
  go_wp2_with fail
  refine (put_b S P HP.out.1 (by omega) _).mono ?_
  rintro e w1 ⟨rfl, hb⟩
  have B1 := Lib.hid hb
  clear hb
  go_wp2_with fail
  refine (put_b T Q HP.out.2 (by omega) _).mono ?_
  rintro e w2 ⟨rfl, hb⟩
  have B2 := Lib.hid (B1.out.trans (hb.mono B1.out.size))
  clear hb B1
  go_wp2_with fail
  go_loopg [7] P.size (fun gk i wr => ∃ (k : Nat), k + gk = P.size ∧ i = .int .i64 (k : Int) ∧ Hid (Below w.heap.size w wr))
  case atStart => exact ⟨0, by omega, rfl, B2.out⟩
  case round =>
    obtain ⟨k, hk, rfl, HH⟩ := hrel
    by_cases hg : gk = 0
    · subst hg
      obtain rfl : k = P.size := by omega
      clear hk
      by_cases hc : c = 0
      · subst hc
        clear K3
        go_wp2_with fail
        refine (K1.out _).mono ?_
        rintro e w3 ⟨rfl, hb⟩
        have B3 := Lib.hid (HH.out.trans (hb.mono HH.out.size))
        clear hb
        go_wp2_with fail
        refine (put_b X (putB X) (putB_list X) (by have := K2.out; omega) _).mono ?_
        rintro e w4 ⟨rfl, hb⟩
        have B4 := Lib.hid (B3.out.trans (hb.mono B3.out.size))
        clear hb B3
        go_wp2_with fail
        refine (get_putB X (putB X) (putB_list X) K2.out _).mono ?_
        rintro e w5 ⟨rfl, hb⟩
        have B5 := Lib.hid (B4.out.trans (hb.mono B4.out.size))
        clear hb B4
        go_wp2_with fail
        refine (works_is _).mono ?_
        rintro e w6 ⟨rfl, hb⟩
        have B6 := Lib.hid (B5.out.trans (hb.mono B5.out.size))
        clear hb B5
        go_wp2_with fail
        go_ret
        exact ⟨rfl, B6.out⟩
      · obtain rfl := K3.out hc
        have c1 : (c == 0) = false := by rw [beq_eq_false_iff_ne]; exact hc
        have c2 : (c != 0) = true := by rw [bne, c1]; rfl
        clear hc K3
        go_wp2_with fail
        refine (K1.out _).mono ?_
        rintro e w3 ⟨rfl, hb⟩
        have B3 := Lib.hid (HH.out.trans (hb.mono HH.out.size))
        clear hb
        go_wp2_with fail
        refine (works_is _).mono ?_
        rintro e w6 ⟨rfl, hb⟩
        have B6 := Lib.hid (B3.out.trans (hb.mono B3.out.size))
        clear hb B3
        go_wp2_with fail
        go_ret
        exact ⟨rfl, B6.out⟩
    · obtain ⟨q, rfl⟩ : ∃ q, gk = q + 1 := ⟨gk - 1, by omega⟩
      have hlt : k < P.size := by omega
      obtain ⟨r1, r2⟩ := HR.out k hlt
      have HK := Lib.hid hk
      clear hk hg
      go_wp2_with fail
      go_roundg q
      case measure => omega
      case rel => exact ⟨k + 1, by have := HK.out; omega, by go_num, HH.out⟩
theorem again_walk (S T : ByteArray) (w : World) : Calls Try.prog 4 #[.string S, .string T] w fun e w' => e = .returned (.bool true) ∧ Below w.heap.size w w' := by
  by_cases h1 : (S.size : Int) ≤ 300
  · by_cases h2 : (T.size : Int) ≤ 300
    · have hs := putB_size S
      by_cases hST : S = T
      · exact again_main S T (putB S) (putB T) true h1 h2 (putB_list S) (putB_list T) (same_true hST) (same_true (by rw [hST])) (by omega) (putB_range S) w
      · exact again_main S T (putB S) (putB T) false h1 h2 (putB_list S) (putB_list T) (same_false hST) (same_false (fun k => hST (putB_inj S T k))) (by omega) (putB_range S) w
    · exact again_w2 S T h1 (by omega) w
  · exact again_w1 S T (by omega) w
end Go.Proofs.Ytmoifigigcandaa
