/- What the statements' own made answers; what the document's own Text answers. -/
import Derived.Test.YtnpdmcgfhieepaaDoorText
import Derived.Test.YtnpdmcgfhieepaaDoorHas
import Derived.Test.YtnpdmcgfhieepaaDoorDeciRef
namespace Go.Proofs.YtnpdmcgfhieepaaDoor
open Go.RowKit Go.Extern.Stop Go.Stop Go.Extern
set_option linter.unusedVariables false

/-- What is told of a slice of texts. -/
def Strs (w : World) (A : Option Addr) (ss : List ByteArray) : Prop :=
  (∀ s ∈ ss, s.size ≤ maxLen) ∧ (ss = [] ∨ ∃ b off, A = some ⟨b, off, none⟩ ∧ b < w.heap.size ∧ ∀ j (h : j < ss.length), w.cell? ⟨b, off + j, none⟩ = some (.string ss[j]))
theorem Strs.below {w w' : World} {A : Option Addr} {ss : List ByteArray} (h : Strs w A ss) (hb : Below w.heap.size w w') : Strs w' A ss := by
  refine ⟨h.1, h.2.imp id ?_⟩
  rintro ⟨b, off, h1, h2, h3⟩
  exact ⟨b, off, h1, Nat.lt_of_lt_of_le h2 hb.size, fun j hj => (hb.cell (by exact h2)).trans (h3 j hj)⟩
theorem Strs.at {w : World} {A : Option Addr} {ss : List ByteArray} (h : Strs w A ss) (j : Nat) (hj : j < ss.length) : ∃ b off t, A = some ⟨b, off, none⟩ ∧ ss[j] = t ∧ w.cell? ⟨b, off + j, none⟩ = some (.string t) := by
  rcases h.2 with rfl | ⟨b, off, h1, h2, h3⟩
  · cases hj
  · exact ⟨b, off, ss[j], h1, rfl, h3 j hj⟩
theorem drop_at (ss : List ByteArray) (j : Nat) (h : j < ss.length) : ss[j] :: ss.drop (j + 1) = ss.drop j := (List.drop_eq_getElem_cons h).symm
set_option maxHeartbeats 1000000 in
theorem made_v (code place : Int) (hc : ¬ code = 0) (A : Option Addr) (cap N : Nat) (ss : List ByteArray) (hN : ss.length = N) (hl : N ≤ 1000) (w : World) (h : Strs w A ss) :
    Calls Tryd.prog 7 #[.int .i64 code, .int .i64 place, .slice A N cap] w fun e w' => e = .returned (err code place ss) ∧ w = w' := by
  have HN := Lib.hid (And.intro hN (And.intro h hc))
  clear hN h hc
  go_enter Tryd.func7, Tryd.ntmps7
  go_wp2_with fail
  refine (new_v code place HN.out.2.2 _).mono ?_
  rintro e w1 ⟨rfl, rfl⟩
  go_wp2_with fail
  go_loopg [7, 8] N (fun gk v i wr => ∃ (z : Int) (r : List ByteArray), z + 1 = gk ∧ gk ≤ N ∧ i = .int .i64 z ∧ v = err code place r ∧ w = wr ∧ Hid (r = ss.drop gk))
  case atStart => exact ⟨(N : Int) - 1, [], by omega, Nat.le_refl _, by go_num, rfl, rfl, by show [] = _; rw [List.drop_of_length_le (by rw [HN.out.1]; exact Nat.le_refl _)]⟩
  case round =>
    obtain ⟨z, r, hz, hgk, rfl, rfl, rfl, HR⟩ := hrel
    by_cases hk : gk = 0
    · subst hk
      obtain rfl : z = -1 := by omega
      have HF : Hid (r = ss) := by have := HR.out; rw [List.drop_zero] at this; exact this
      clear hz
      go_wp2_with fail
      go_ret
      exact ⟨by rw [← HF.out]; rfl, rfl⟩
    · obtain ⟨q, rfl⟩ : ∃ q, gk = q + 1 := ⟨gk - 1, by omega⟩
      obtain rfl : z = q := by omega
      have hq : q < ss.length := by rw [HN.out.1]; omega
      obtain ⟨b, off, t, hA, ht, hcell⟩ := HN.out.2.1.at q hq
      have hnx : t :: r = ss.drop q := by rw [HR.out, ← ht, drop_at ss q hq]
      have HX := Lib.hid hnx
      have hqN : q < N := by omega
      have hqN' : (q : Int) < (N : Int) := by omega
      clear ht hnx hz hk hq
      subst hA
      go_wp2_with fail
      refine (in_v t code place r _).mono ?_
      rintro e w1 ⟨rfl, rfl⟩
      go_wp2_with fail
      go_roundg q
      case measure => omega
      case rel => exact ⟨(q : Int) - 1, t :: r, by omega, by omega, by go_num, rfl, rfl, HX.out⟩
set_option maxHeartbeats 1000000 in
theorem made_nil (place : Int) (A : Option Addr) (cap N : Nat) (ss : List ByteArray) (hN : ss.length = N) (hl : N ≤ 1000) (w : World) (h : Strs w A ss) :
    Calls Tryd.prog 7 #[.int .i64 0, .int .i64 place, .slice A N cap] w fun e w' => e = .returned .nilIface ∧ w = w' := by
  have HN := Lib.hid (And.intro hN h)
  clear hN h
  go_enter Tryd.func7, Tryd.ntmps7
  go_wp2_with fail
  refine (new_ok place _).mono ?_
  rintro e w1 ⟨rfl, rfl⟩
  go_wp2_with fail
  go_loopg [7, 8] N (fun gk v i wr => ∃ (z : Int), z + 1 = gk ∧ gk ≤ N ∧ i = .int .i64 z ∧ v = .nilIface ∧ w = wr)
  case atStart => exact ⟨(N : Int) - 1, by omega, Nat.le_refl _, by go_num, rfl, rfl⟩
  case round =>
    obtain ⟨z, hz, hgk, rfl, rfl, rfl⟩ := hrel
    by_cases hk : gk = 0
    · subst hk
      obtain rfl : z = -1 := by omega
      clear hz
      go_wp2_with fail
      go_ret
      exact ⟨rfl, rfl⟩
    · obtain ⟨q, rfl⟩ : ∃ q, gk = q + 1 := ⟨gk - 1, by omega⟩
      obtain rfl : z = q := by omega
      have hq : q < ss.length := by rw [HN.out.1]; omega
      obtain ⟨b, off, t, hA, ht, hcell⟩ := HN.out.2.at q hq
      have hqN : q < N := by omega
      have hqN' : (q : Int) < (N : Int) := by omega
      clear ht hz hk hq
      subst hA
      go_wp2_with fail
      refine (in_nil t _).mono ?_
      rintro e w1 ⟨rfl, rfl⟩
      go_wp2_with fail
      go_roundg q
      case measure => omega
      case rel => exact ⟨(q : Int) - 1, by omega, by omega, by go_num, rfl, rfl⟩
end Go.Proofs.YtnpdmcgfhieepaaDoor
