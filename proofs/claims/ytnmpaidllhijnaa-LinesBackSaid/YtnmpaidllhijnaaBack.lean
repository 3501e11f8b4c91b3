/- The walk of the statement LinesBack: each place has a line and a column, that are the place's again. -/
import Derived.Test.YtnmpaidllhijnaaWorks
namespace Go.Proofs.Ytnmpaidllhijnaa
open Go.ChangeShapes Go.WideShapes Go.RowKit
set_option linter.unusedVariables false

/-- The place q stands on this line, at this column. -/
def SpotIs (l : List UInt8) (line col : Int) (q : Nat) : Prop := ∃ I r, Cut (l.take q) I r ∧ line = I.length + 1 ∧ col = r.length + 1
/-- What has been found ahead of the place p: a place, or none. -/
def Found (l : List UInt8) (line col : Int) (p : Nat) (fd : Int) : Prop := (fd = -1 ∧ ∀ q, q < p → ¬ SpotIs l line col q) ∨ ∃ q, q < p ∧ fd = (q : Int) ∧ SpotIs l line col q
theorem Found.hit {l : List UInt8} {line col : Int} {p : Nat} {fd : Int} (h : SpotIs l line col p) : Found l line col (p + 1) (p : Int) := .inr ⟨p, by omega, rfl, h⟩
theorem Found.miss {l : List UInt8} {line col : Int} {p : Nat} {fd : Int} (h : Found l line col p fd) (hn : ¬ SpotIs l line col p) : Found l line col (p + 1) fd := by
  rcases h with ⟨h1, h2⟩ | ⟨q, h1, h2, h3⟩
  · refine .inl ⟨h1, fun q hq => ?_⟩
    by_cases e : q = p
    · subst e; exact hn
    · exact h2 q (by omega)
  · exact .inr ⟨q, by omega, h2, h3⟩
theorem spotIs_iff {l : List UInt8} {line col : Int} {p : Nat} {I : List (List UInt8)} {r : List UInt8} (h : Cut (l.take p) I r) : SpotIs l line col p ↔ ((I.length + 1 : Nat) : Int) = line ∧ ((r.length + 1 : Nat) : Int) = col := by
  constructor
  · rintro ⟨J, q, hc, h1, h2⟩
    obtain ⟨rfl, rfl⟩ := h.uniq hc
    exact ⟨by omega, by omega⟩
  · rintro ⟨h1, h2⟩
    exact ⟨I, r, h, by omega, by omega⟩
/-- What At answers at the end. -/
theorem found_end {l : List UInt8} {line col : Int} {fd : Int} (h : Found l line col (l.length + 1) fd) : (∃ q : Nat, fd = q ∧ atOf (rows l) line col = ((q : Int), true)) ∨ (fd = -1 ∧ atOf (rows l) line col = (0, false)) := by
  rcases h with ⟨h1, h2⟩ | ⟨q, h1, h2, I, r, hc, h3, h4⟩
  · right
    refine ⟨h1, ?_⟩
    obtain ⟨v, c, hv⟩ : ∃ v c, atOf (rows l) line col = (v, c) := ⟨_, _, rfl⟩
    cases c with
    | false => rw [hv, atOf_false _ _ _ _ hv]
    | true =>
      obtain ⟨k, _, hk, I, r, hcut, e1, e2⟩ := spot_atOf l line col v hv
      exact absurd ⟨I, r, hcut, e1, e2⟩ (h2 k (by omega))
  · left
    refine ⟨q, h2, ?_⟩
    have := atOf_spot l q (by omega) I r hc
    rw [h3, h4]; exact this
theorem int_bne {x y : Int} (h : ¬ x = y) : (x != y) = true := by rw [bne_iff_ne]; exact h
set_option maxRecDepth 100000 in
set_option maxHeartbeats 4000000 in
theorem back_small (s : ByteArray) (line col : Int) (hs : s.size ≤ 200) (w : World) :
    Calls Try.prog 4 #[.string s, .int .i64 line, .int .i64 col] w fun e w' => e = .returned (.bool true) ∧ Below w.heap.size w w' := by
  have t0 : decide ((200 : Int) < (s.size : Int)) = false := by simp; omega
  have t0' : decide (200 < s.size) = false := by simp; omega
  have hs' : s.size ≤ 1000000 := by omega
  have HS := Lib.hid hs'
  clear hs'
  go_enter Try.func4, Try.ntmps4
  go_wp2_with fail
  go_loopg [7, 8] (s.size + 1) (fun gk u v wr => ∃ (p : Nat) (fd : Int), u = .int .i64 fd ∧ v = .int .i64 (p : Int) ∧ p ≤ s.size + 1 ∧
    Hid (gk = s.size + 1 - p ∧ Below w.heap.size w wr ∧ Found s.data.toList line col p fd))
  case atStart => exact ⟨0, -1, rfl, rfl, by omega, by omega, Below.refl _ _, .inl ⟨rfl, fun q hq => by omega⟩⟩
  case round =>
    obtain ⟨p, fd, rfl, rfl, hp, HH⟩ := hrel
    by_cases hle : p ≤ s.size
    · have t1 : decide (p ≤ s.size) = true := by simpa using hle
      have t2 : decide ((p : Int) ≤ (s.size : Int)) = true := by simpa using hle
      obtain ⟨I, r, hcut⟩ := cut_of (s.data.toList.take p)
      obtain ⟨a, ha⟩ : ∃ a, I.length + 1 = a := ⟨_, rfl⟩
      obtain ⟨b, hb⟩ : ∃ b, r.length + 1 = b := ⟨_, rfl⟩
      have hat := atOf_spot s.data.toList p (by rw [size_list]; exact hle) I r hcut
      rw [show (I.length : Int) + 1 = (a : Int) by omega, show (r.length : Int) + 1 = (b : Int) by omega] at hat
      have hiff := spotIs_iff (line := line) (col := col) hcut
      rw [ha, hb] at hiff
      have pp : ((p : Int) != (p : Int)) = false := by simp
      have HC := Lib.hid (And.intro hcut (And.intro ha (And.intro hb (And.intro hat hiff))))
      clear hcut ha hb hat hiff
      by_cases h1 : (a : Int) = line
      · have c1 : ((a : Int) == line) = true := by rw [beq_iff_eq]; exact h1
        by_cases h2 : (b : Int) = col
        · have c2 : ((b : Int) == col) = true := by rw [beq_iff_eq]; exact h2
          have HF := Lib.hid (Found.hit (fd := fd) (HC.out.2.2.2.2.2 ⟨h1, h2⟩))
          clear h1 h2
          go_wp2_with fail
          refine (spot_v s p a b I r hle HS.out HC.out.1 HC.out.2.1 HC.out.2.2.1 wr).mono ?_
          rintro e w1 ⟨rfl, hb1⟩
          have B1 := Lib.hid (step_B HH.out.2.1 hb1)
          clear hb1
          go_wp2_with fail
          refine (at_v s a b p true HS.out HC.out.2.2.2.1 w1).mono ?_
          rintro e w2 ⟨rfl, hb2⟩
          have B2 := Lib.hid (step_B B1.out hb2)
          clear hb2
          go_wp2_with fail
          go_roundg (s.size + 1 - (p + 1))
          case measure => have := HH.out.1; omega
          case rel => exact ⟨p + 1, p, rfl, rfl, by omega, rfl, B2.out, HF.out⟩
        · have c2 : ((b : Int) == col) = false := by rw [beq_eq_false_iff_ne]; exact h2
          have HF := Lib.hid (HH.out.2.2.miss (fun h => h2 (HC.out.2.2.2.2.1 h).2))
          clear h1 h2
          go_wp2_with fail
          refine (spot_v s p a b I r hle HS.out HC.out.1 HC.out.2.1 HC.out.2.2.1 wr).mono ?_
          rintro e w1 ⟨rfl, hb1⟩
          have B1 := Lib.hid (step_B HH.out.2.1 hb1)
          clear hb1
          go_wp2_with fail
          refine (at_v s a b p true HS.out HC.out.2.2.2.1 w1).mono ?_
          rintro e w2 ⟨rfl, hb2⟩
          have B2 := Lib.hid (step_B B1.out hb2)
          clear hb2
          go_wp2_with fail
          go_roundg (s.size + 1 - (p + 1))
          case measure => have := HH.out.1; omega
          case rel => exact ⟨p + 1, fd, rfl, rfl, by omega, rfl, B2.out, HF.out⟩
      · have c1 : ((a : Int) == line) = false := by rw [beq_eq_false_iff_ne]; exact h1
        have HF := Lib.hid (HH.out.2.2.miss (fun h => h1 (HC.out.2.2.2.2.1 h).1))
        clear h1
        go_wp2_with fail
        refine (spot_v s p a b I r hle HS.out HC.out.1 HC.out.2.1 HC.out.2.2.1 wr).mono ?_
        rintro e w1 ⟨rfl, hb1⟩
        have B1 := Lib.hid (step_B HH.out.2.1 hb1)
        clear hb1
        go_wp2_with fail
        refine (at_v s a b p true HS.out HC.out.2.2.2.1 w1).mono ?_
        rintro e w2 ⟨rfl, hb2⟩
        have B2 := Lib.hid (step_B B1.out hb2)
        clear hb2
        go_wp2_with fail
        go_roundg (s.size + 1 - (p + 1))
        case measure => have := HH.out.1; omega
        case rel => exact ⟨p + 1, fd, rfl, rfl, by omega, rfl, B2.out, HF.out⟩
    · have t1 : decide (p ≤ s.size) = false := by simpa using hle
      have t2 : decide ((p : Int) ≤ (s.size : Int)) = false := by simp; omega
      have hend := found_end (l := s.data.toList) (line := line) (col := col) (fd := fd) (by rw [size_list, show s.size + 1 = p by omega]; exact HH.out.2.2)
      rcases hend with ⟨q, rfl, hat⟩ | ⟨rfl, hat⟩
      · have HA := Lib.hid hat
        have q0 : (0 : Int) ≤ (q : Int) := by omega
        clear hat
        go_wp2_with fail
        refine (at_v s line col q true HS.out HA.out wr).mono ?_
        rintro e w1 ⟨rfl, hb1⟩
        have B1 := Lib.hid (step_B HH.out.2.1 hb1)
        clear hb1
        go_wp2_with fail
        refine (works_v w1).mono ?_
        rintro e w2 ⟨rfl, hb2⟩
        have B2 := Lib.hid (step_B B1.out hb2)
        clear hb2
        go_wp2_with fail
        go_ret
        exact ⟨rfl, B2.out⟩
      · have HA := Lib.hid hat
        clear hat
        go_wp2_with fail
        refine (at_v s line col 0 false HS.out HA.out wr).mono ?_
        rintro e w1 ⟨rfl, hb1⟩
        have B1 := Lib.hid (step_B HH.out.2.1 hb1)
        clear hb1
        go_wp2_with fail
        refine (works_v w1).mono ?_
        rintro e w2 ⟨rfl, hb2⟩
        have B2 := Lib.hid (step_B B1.out hb2)
        clear hb2
        go_wp2_with fail
        go_ret
        exact ⟨rfl, B2.out⟩
set_option maxRecDepth 100000 in
theorem back_walk (s : ByteArray) (line col : Int) (w : World) :
    Calls Try.prog 4 #[.string s, .int .i64 line, .int .i64 col] w fun e w' => e = .returned (.bool true) ∧ Below w.heap.size w w' := by
  by_cases hs : s.size ≤ 200
  · exact back_small s line col hs w
  · have t0 : decide ((200 : Int) < (s.size : Int)) = true := by simp; omega
    have t0' : decide (200 < s.size) = true := by simp; omega
    clear hs
    go_enter Try.func4, Try.ntmps4
    go_wp2_with fail
    refine (works_v w).mono ?_
    rintro e w2 ⟨rfl, hb2⟩
    have B2 := Lib.hid hb2
    clear hb2
    go_wp2_with fail
    go_ret
    exact ⟨rfl, B2.out⟩
end Go.Proofs.Ytnmpaidllhijnaa
