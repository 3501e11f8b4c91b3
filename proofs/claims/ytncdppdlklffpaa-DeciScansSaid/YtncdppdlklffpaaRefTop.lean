/- What the document's own Scan and Get answer, taken together. -/
import Derived.Test.YtncdppdlklffpaaRefScan
namespace Go.Proofs.Ytncdppdlklffpaa
open Go.ChangeShapes Go.WideShapes Go.RowKit
set_option linter.unusedVariables false

theorem dgs_head (s : ByteArray) (fr fin : Nat) (hf : fin ≤ s.size) (h : fr < fin) (h2 : fr < s.size) : (dgs s fr fin).head? = some s[fr] := by
  have hl := dgs_len s fr fin hf
  have h0 : 0 < (dgs s fr fin).length := by omega
  rw [List.head?_eq_getElem?, List.getElem?_eq_getElem h0, dgs_get s fr fin 0 h0 (by omega)]
  simp
theorem refscan_is (s : ByteArray) (a : Nat) (m : Bool) (fr fin : Nat) (hs : s.size ≤ 9223372036854775807) (h : Scn s a m fr fin) (w : World) :
    Calls Try.prog 13 #[.string s, .int .i64 (a : Int)] w fun e w' => e = E3 (scanT (dgs s fr fin) m fin) ∧ w = w' := by
  have hfin := h.hfin
  have hle := h.hle
  have hlen := dgs_len s fr fin hfin
  by_cases he : fin = fr
  · have hw : ¬ well (dgs s fr fin) m := by
      intro hw; apply hw.1; apply List.eq_nil_of_length_eq_zero; omega
    rw [scanT_bad hw]
    cases m
    · by_cases hlt : a < s.size
      · exact refscan_false_empty s a fr fin hs h hlt he w
      · exact refscan_end_empty s a fr fin hs h hlt he w
    · exact refscan_true_empty s a fr fin hs h he w
  · have hlt : fr < fin := by omega
    have hfs : fr < s.size := by omega
    have hne : dgs s fr fin ≠ [] := by intro h0; rw [h0] at hlen; simp at hlen; omega
    have hhd := dgs_head s fr fin hfin hlt hfs
    have has : m = false → a < s.size := by intro hm; have h2 := h.hfr; subst hm; simp at h2; omega
    by_cases h48 : s[fr].toNat = 48
    · by_cases h2 : fr + 1 < fin
      · have hw : ¬ well (dgs s fr fin) m := by
          intro hw; have := (hw.2 _ hhd h48).1; omega
        rw [scanT_bad hw]
        cases m
        · exact refscan_false_two s a fr fin hs h (has rfl) h2 (fun _ => h48) w
        · exact refscan_true_two s a fr fin hs h h2 (fun _ => h48) w
      · cases m
        · have hw : well (dgs s fr fin) false := ⟨hne, fun c hc h48 => ⟨by omega, rfl⟩⟩
          by_cases hv : val (dgs s fr fin) ≤ top false
          · rw [scanT_ok hw hv]; exact refscan_false_ok s a fr fin hs h (has rfl) hlt (fun _ _ => by omega) hv w
          · rw [scanT_range hw hv]; exact refscan_false_range s a fr fin hs h (has rfl) hlt (fun _ _ => by omega) hv w
        · have hw : ¬ well (dgs s fr fin) true := by
            intro hw; have := (hw.2 _ hhd h48).2; cases this
          rw [scanT_bad hw]
          exact refscan_true_minus s a fr fin hs h (by omega) (fun _ => h48) w
    · have hw : well (dgs s fr fin) m := ⟨hne, fun c hc h => by rw [hhd] at hc; simp at hc; subst hc; exact absurd h h48⟩
      by_cases hv : val (dgs s fr fin) ≤ top m
      · rw [scanT_ok hw hv]
        cases m
        · exact refscan_false_ok s a fr fin hs h (has rfl) hlt (fun _ h => absurd h h48) hv w
        · exact refscan_true_ok s a fr fin hs h hlt (fun _ h => absurd h h48) hv w
      · rw [scanT_range hw hv]
        cases m
        · exact refscan_false_range s a fr fin hs h (has rfl) hlt (fun _ h => absurd h h48) hv w
        · exact refscan_true_range s a fr fin hs h hlt (fun _ h => absurd h h48) hv w
theorem refscan_v (s : ByteArray) (a : Nat) (m : Bool) (fr fin : Nat) (x y z : Int) (hs : s.size ≤ 9223372036854775807) (h : Scn s a m fr fin) (ht : scanT (dgs s fr fin) m fin = (x, y, z)) (w : World) :
    Calls Try.prog 13 #[.string s, .int .i64 (a : Int)] w fun e w' => e = .returned (.tuple #[.int .i64 x, .int .i64 y, .int .i64 z]) ∧ w = w' := by
  have k := refscan_is s a m fr fin hs h w
  rw [ht] at k; exact k
theorem scanT_zero {l : List UInt8} {m : Bool} {fin : Nat} {x y z : Int} (h : scanT l m fin = (x, y, z)) (hz : z ≠ 0) : x = 0 := by
  unfold scanT at h
  split at h
  · split at h
    · injection h with h1 h2; injection h2 with h2 h3; exact absurd h3.symm hz
    · injection h with h1 h2; exact h1.symm
  · injection h with h1 h2; exact h1.symm
theorem refget_is (s : ByteArray) (m : Bool) (fr fin : Nat) (x y z : Int) (hs : s.size ≤ 9223372036854775807) (h : Scn s 0 m fr fin) (ht : scanT (dgs s fr fin) m fin = (x, y, z)) (w : World) :
    Calls Try.prog 15 #[.string s] w fun e w' => e = E2 (getT s.size (x, y, z)) ∧ w = w' := by
  have HH := Lib.hid h
  have HT := Lib.hid ht
  clear h ht
  by_cases hz : z = 0
  · subst hz
    by_cases hy : y < (s.size : Int)
    · have he : E2 (getT s.size (x, y, 0)) = .returned (.tuple #[.int .i64 0, .int .i64 12]) := by unfold getT; rw [if_pos rfl, if_pos hy]; rfl
      rw [he]; clear he
      go_enter Try.func15, Try.ntmps15
      go_wp2_with fail
      refine (refscan_v s 0 m fr fin x y 0 hs HH.out HT.out _).mono ?_
      rintro e w' ⟨rfl, rfl⟩
      go_wp2_with fail
      go_ret2
      exact ⟨rfl, rfl⟩
    · have he : E2 (getT s.size (x, y, 0)) = .returned (.tuple #[.int .i64 x, .int .i64 0]) := by unfold getT; rw [if_pos rfl, if_neg hy]; rfl
      rw [he]; clear he
      have hy' : (s.size : Int) ≤ y := by omega
      go_enter Try.func15, Try.ntmps15
      go_wp2_with fail
      refine (refscan_v s 0 m fr fin x y 0 hs HH.out HT.out _).mono ?_
      rintro e w' ⟨rfl, rfl⟩
      go_wp2_with fail
      go_ret2
      exact ⟨rfl, rfl⟩
  · have he : E2 (getT s.size (x, y, z)) = .returned (.tuple #[.int .i64 0, .int .i64 z]) := by unfold getT; rw [if_neg hz]; rfl
    have hx0 : x = 0 := scanT_zero HT.out hz
    subst hx0
    rw [he]; clear he
    have hz2 : (z == 0) = false := by rw [beq_eq_false_iff_ne]; exact hz
    go_enter Try.func15, Try.ntmps15
    go_wp2_with fail
    refine (refscan_v s 0 m fr fin 0 y z hs HH.out HT.out _).mono ?_
    rintro e w' ⟨rfl, rfl⟩
    go_wp2_with fail
    go_ret2
    exact ⟨rfl, rfl⟩
theorem refget_v (s : ByteArray) (m : Bool) (fr fin : Nat) (x y z c g : Int) (hs : s.size ≤ 9223372036854775807) (h : Scn s 0 m fr fin) (ht : scanT (dgs s fr fin) m fin = (x, y, z)) (hg : getT s.size (x, y, z) = (c, g)) (w : World) :
    Calls Try.prog 15 #[.string s] w fun e w' => e = .returned (.tuple #[.int .i64 c, .int .i64 g]) ∧ w = w' := by
  have k := refget_is s m fr fin x y z hs h ht w
  rw [hg] at k; exact k
end Go.Proofs.Ytncdppdlklffpaa
