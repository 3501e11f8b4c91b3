/- What behindBlanks answers: the place behind all blanks and remarks. -/
import Derived.Test.YtmckplgbaalpbaaDoorLexSmall
namespace Go.Proofs.YtmckplgbaalpbaaDoor.Lex
open Go.ChangeShapes Go.WideShapes Go.RowKit
set_option linter.unusedVariables false
set_option maxRecDepth 20000

/-- From a on there are only blanks and remarks up to b; at b the text ends, or something else stands there. -/
structure Skp (l : List UInt8) (a b : Nat) : Prop where
  le : a ≤ b
  lt : b ≤ l.length
  same : ∀ out, rest l a out = rest l b out
  stop : b = l.length ∨ ∀ k, nx (l.drop b) b ≠ .skip k
def BB (s : ByteArray) (a : Nat) (e : Ending) : Prop := ∃ b : Nat, e = .returned (.int .i64 (b : Int)) ∧ Skp s.data.toList a b
theorem nx_blank {c : UInt8} {r : List UInt8} {p : Nat} (h : blank c = true) : nx (c :: r) p = .skip 1 := by rw [nx_cons, if_pos h]
theorem nx_rem {c : UInt8} {r : List UInt8} {p : Nat} (h : blank c = false) (h2 : c = 47 ∧ r.head? = some 47) : nx (c :: r) p = .skip ((c :: r).takeWhile (· != 10)).length := by
  rw [nx_cons, if_neg (by rw [h]; decide), if_pos h2]
theorem nx_else {c : UInt8} {r : List UInt8} {p : Nat} (h : blank c = false) (h2 : ¬ (c = 47 ∧ r.head? = some 47)) (k : Nat) : nx (c :: r) p ≠ .skip k := by
  rw [nx_cons, if_neg (by rw [h]; decide), if_neg h2]
  split
  · split <;> simp
  · exact plain_skip
theorem pre_rem (c : UInt8) (r : List UInt8) : [47, 47].isPrefixOf (c :: r) = decide (c = 47 ∧ r.head? = some 47) := by
  cases r with
  | nil => simp [List.isPrefixOf]
  | cons d r =>
    rw [Bool.eq_iff_iff]
    simp [List.isPrefixOf]
    constructor <;> rintro ⟨h1, h2⟩ <;> exact ⟨h1.symm, h2.symm⟩
set_option maxHeartbeats 1000000 in
theorem bb_v (s : ByteArray) (a : Nat) (ha : a ≤ s.size) (hs : s.size ≤ 100000) (w : World) :
    Calls Tryd.prog 16 #[.string s, .int .i64 (a : Int)] w fun e w' => BB s a e ∧ w = w' := by
  go_enter Tryd.func16, Tryd.ntmps16
  go_wp2_with fail
  go_loopg [1] (s.size - a) (fun gk x wr => ∃ n : Nat, n ≤ s.size ∧ x = .int .i64 (n : Int) ∧ Hid (gk = s.size - n ∧ (a ≤ n ∧ ∀ out, rest s.data.toList a out = rest s.data.toList n out) ∧ w = wr))
  case atStart => exact ⟨a, ha, rfl, rfl, ⟨Nat.le_refl _, fun _ => rfl⟩, rfl⟩
  case round =>
    obtain ⟨n, hn, rfl, HH⟩ := hrel
    by_cases hl : n < s.size
    · have hl' : (n : Int) < (s.size : Int) := by omega
      have hd := Quo.drop_cons s n hl
      obtain ⟨b, hb⟩ : ∃ b, blank s[n] = b := ⟨_, rfl⟩
      have HB := Lib.hid hb
      have HD := Lib.hid hd
      clear hd
      cases b
      · clear hb
        have hf := Quo.from_run s n hn
        obtain ⟨q, hq⟩ : ∃ q, [47, 47].isPrefixOf (s.data.toList.drop n) = q := ⟨_, rfl⟩
        have HQ : Hid ((⟨#[47, 47]⟩ : ByteArray).data.toList.isPrefixOf (s.extract n s.size).data.toList = q) := by unfold Hid; rw [Quo.extract_list]; exact hq
        rw [HD.out, pre_rem] at hq
        have HQ2 := Lib.hid hq
        clear hq
        cases q
        · go_wp2_with fail
          refine (blank_v s[n] _ HB.out _).mono ?_
          rintro e w1 ⟨rfl, rfl⟩
          go_wp2_with fail
          refine (prefix_v _ _ _ HQ.out _).mono ?_
          rintro e w1 ⟨rfl, rfl⟩
          go_wp2_with fail
          go_ret
          refine ⟨⟨n, rfl, HH.out.2.1.1, hn, HH.out.2.1.2, .inr ?_⟩, HH.out.2.2⟩
          rw [HD.out]
          exact nx_else HB.out (of_decide_eq_false HQ2.out)
        · obtain ⟨m, hm⟩ : ∃ m, n + ((s.data.toList.drop n).takeWhile (· != 10)).length = m := ⟨_, rfl⟩
          have hsk : nx (s.data.toList.drop n) n = .skip ((s.data.toList.drop n).takeWhile (· != 10)).length := by
            rw [HD.out]; exact nx_rem HB.out (of_decide_eq_true HQ2.out)
          have HR := Lib.hid (fun out => rest_skip (s := s.data.toList) (at_ := n) out hsk)
          have HM := Lib.hid hm
          have hms : m ≤ s.size := by have := (HR.out []).2.2; rw [Nam.len_list] at this; omega
          clear hsk hm
          go_wp2_with fail
          refine (blank_v s[n] _ HB.out _).mono ?_
          rintro e w1 ⟨rfl, rfl⟩
          go_wp2_with fail
          refine (prefix_v _ _ _ HQ.out _).mono ?_
          rintro e w1 ⟨rfl, rfl⟩
          go_wp2_with fail
          refine (line_v s n m hn hs HM.out _).mono ?_
          rintro e w1 ⟨rfl, rfl⟩
          go_wp2_with fail
          go_roundg (s.size - m)
          case measure => have := HH.out.1; have := (HR.out []).2; have := HM.out; omega
          case rel =>
            refine ⟨m, hms, rfl, rfl, ⟨?_, fun out => ?_⟩, HH.out.2.2⟩
            · have := HH.out.2.1.1; have := HM.out; omega
            · rw [HH.out.2.1.2 out, (HR.out out).1, HM.out]
      · clear hb
        go_wp2_with fail
        refine (blank_v s[n] _ HB.out _).mono ?_
        rintro e w1 ⟨rfl, rfl⟩
        go_wp2_with fail
        go_roundg (s.size - (n + 1))
        case measure => have := HH.out.1; omega
        case rel =>
          refine ⟨n + 1, by omega, by go_num, rfl, ⟨?_, fun out => ?_⟩, HH.out.2.2⟩
          · have := HH.out.2.1.1; omega
          · rw [HH.out.2.1.2 out]
            exact (rest_skip out (by rw [HD.out]; exact nx_blank HB.out)).1
    · obtain rfl : n = s.size := by omega
      clear hn
      go_wp2_with fail
      go_ret
      exact ⟨⟨s.size, rfl, HH.out.2.1.1, Nat.le_refl _, HH.out.2.1.2, .inl rfl⟩, HH.out.2.2⟩
end Go.Proofs.YtmckplgbaalpbaaDoor.Lex
