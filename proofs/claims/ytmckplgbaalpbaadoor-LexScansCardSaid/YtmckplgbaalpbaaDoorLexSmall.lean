/- What the small functions of lex answer: blanks, digits, prefixes, where a line ends, where digits end, classes. -/
import Derived.Test.YtmckplgbaalpbaaDoorLexBase
import Derived.Lib.Bytealg
import Derived.Lib.Strings
import Derived.Lib.Slices
import Derived.Lib.Walk
namespace Go.Proofs.YtmckplgbaalpbaaDoor.Lex
open Go.ChangeShapes Go.WideShapes Go.RowKit
set_option linter.unusedVariables false
set_option maxRecDepth 20000

theorem u8_eq {c : UInt8} {n : Nat} (hn : n < 256) : c = UInt8.ofNat n ↔ c.toNat = n := by
  constructor
  · intro e; rw [e]; simp; omega
  · intro e; rw [← e]; simp
theorem blank_iff (c : UInt8) : blank c = (decide (c.toNat = 32) || decide (c.toNat = 9) || decide (c.toNat = 13) || decide (c.toNat = 10)) := by
  unfold blank
  have h1 : decide (c = 32) = decide (c.toNat = 32) := decide_eq_decide.2 (u8_eq (n := 32) (by omega))
  have h2 : decide (c = 9) = decide (c.toNat = 9) := decide_eq_decide.2 (u8_eq (n := 9) (by omega))
  have h3 : decide (c = 13) = decide (c.toNat = 13) := decide_eq_decide.2 (u8_eq (n := 13) (by omega))
  have h4 : decide (c = 10) = decide (c.toNat = 10) := decide_eq_decide.2 (u8_eq (n := 10) (by omega))
  rw [h1, h2, h3, h4]
theorem blank_v (c : UInt8) (b : Bool) (hb : blank c = b) (w : World) : Calls Tryd.prog 23 #[.int .u8 (c.toNat : Int)] w fun e w' => e = .returned (.bool b) ∧ w = w' := by
  rw [blank_iff] at hb
  by_cases h1 : c.toNat = 32
  · obtain rfl : true = b := by rw [← hb]; simp [h1]
    have c1 : ((c.toNat : Int) == 32) = true := by rw [beq_iff_eq]; omega
    clear h1 hb
    go_enter Tryd.func23, Tryd.ntmps23
    go_wp2
    go_ret
    exact ⟨rfl, rfl⟩
  · have c1 : ((c.toNat : Int) == 32) = false := by rw [beq_eq_false_iff_ne]; omega
    by_cases h2 : c.toNat = 9
    · obtain rfl : true = b := by rw [← hb]; simp [h2]
      have c2 : ((c.toNat : Int) == 9) = true := by rw [beq_iff_eq]; omega
      clear h1 h2 hb
      go_enter Tryd.func23, Tryd.ntmps23
      go_wp2
      go_ret
      exact ⟨rfl, rfl⟩
    · have c2 : ((c.toNat : Int) == 9) = false := by rw [beq_eq_false_iff_ne]; omega
      by_cases h3 : c.toNat = 13
      · obtain rfl : true = b := by rw [← hb]; simp [h3]
        have c3 : ((c.toNat : Int) == 13) = true := by rw [beq_iff_eq]; omega
        clear h1 h2 h3 hb
        go_enter Tryd.func23, Tryd.ntmps23
        go_wp2
        go_ret
        exact ⟨rfl, rfl⟩
      · have c3 : ((c.toNat : Int) == 13) = false := by rw [beq_eq_false_iff_ne]; omega
        have c4 : ((c.toNat : Int) == 10) = b := by
          rw [← hb]; simp [h1, h2, h3]
          by_cases h4 : c.toNat = 10
          · simp [h4]
          · rw [decide_eq_false h4, beq_eq_false_iff_ne]; omega
        clear h1 h2 h3 hb
        go_enter Tryd.func23, Tryd.ntmps23
        go_wp2
        go_ret
        exact ⟨rfl, rfl⟩
theorem digit_v (c : UInt8) (b : Bool) (hb : dgt c = b) (w : World) : Calls Tryd.prog 29 #[.int .u8 (c.toNat : Int)] w fun e w' => e = .returned (.bool b) ∧ w = w' := by
  unfold dgt at hb
  by_cases h1 : 48 ≤ c.toNat
  · have h2 : decide ((c.toNat : Int) ≤ 57) = b := by
      rw [← hb, decide_eq_true h1, Bool.true_and]; exact decide_eq_decide.2 (by omega)
    clear hb
    go_enter Tryd.func29, Tryd.ntmps29
    go_wp2
    go_ret
    exact ⟨rfl, rfl⟩
  · obtain rfl : false = b := by rw [← hb]; simp [h1]
    have h1' : c.toNat < 48 := by omega
    clear hb h1
    go_enter Tryd.func29, Tryd.ntmps29
    go_wp2
    go_ret
    exact ⟨rfl, rfl⟩
theorem to_run (t P : ByteArray) (h : P.size ≤ t.size) (W : World) :
    (Instr.slice 9 (.string t) none (some (.int .i64 (P.size : Int))) none).run Tryd.prog W = .ok (.string (t.extract 0 P.size)) W := by
  rw [run_slice_string_to_if W 9 t .i64 _ Tryd.underlying9, if_pos (by omega), show ((P.size : Int)).toNat = P.size by omega]
theorem prefix2_v (t P : ByteArray) (b : Bool) (hb : P.data.toList.isPrefixOf t.data.toList = b) (w : World) : Calls Tryd.prog 45 #[.string t, .string P] w fun e w' => e = .returned (.bool b) ∧ w = w' := by
  by_cases h : P.size ≤ t.size
  · have hr := to_run t P h
    have hq : ((t.extract 0 P.size).toList == P.toList) = b := by
      rw [← hb, Bool.eq_iff_iff, beq_iff_eq, List.isPrefixOf_iff_prefix, Lib.toList_data, Lib.toList_data]
      have e : (t.extract 0 P.size).data.toList = t.data.toList.take P.data.toList.length := by
        rw [ByteArray.data_extract]; simp
      rw [e, List.prefix_iff_eq_take]
      exact eq_comm
    have h' : (P.size : Int) ≤ (t.size : Int) := by omega
    clear hb
    go_enter Tryd.func45, Tryd.ntmps45
    go_wp2_with fail
    go_ret
    exact ⟨rfl, rfl⟩
  · obtain rfl : false = b := by
      rw [← hb]
      symm
      rw [Bool.eq_false_iff]
      intro k
      rw [List.isPrefixOf_iff_prefix] at k
      have := k.length_le
      rw [Nam.len_list, Nam.len_list] at this
      exact h this
    have h' : (t.size : Int) < (P.size : Int) := by omega
    clear hb h
    go_enter Tryd.func45, Tryd.ntmps45
    go_wp2_with fail
    go_ret
    exact ⟨rfl, rfl⟩
theorem prefix_v (t P : ByteArray) (b : Bool) (hb : P.data.toList.isPrefixOf t.data.toList = b) (w : World) : Calls Tryd.prog 24 #[.string t, .string P] w fun e w' => e = .returned (.bool b) ∧ w = w' := by
  go_enter Tryd.func24, Tryd.ntmps24
  go_wp2_with fail
  refine (prefix2_v t P b hb _).mono ?_
  rintro e w1 ⟨rfl, rfl⟩
  go_wp2_with fail
  go_ret
  exact ⟨rfl, rfl⟩
theorem u8_back (b : UInt8) : ((b.toNat : Int)).toNat.toUInt8 = b := by simp
theorem index2_v (s : ByteArray) (b : UInt8) (z : Int) (hz : Lib.indexByte s.data.toList b = z) (w : World) : Calls Tryd.prog 51 #[.string s, .int .u8 (b.toNat : Int)] w fun e w' => e = .returned (.int .i64 z) ∧ w = w' := by
  have HZ := Lib.hid hz
  clear hz
  go_enter Tryd.func51, Tryd.ntmps51
  go_wp2
  rw [run_callFunc_extern Tryd.func62 (by kernel_rfl) (by kernel_rfl) (by kernel_rfl) (e := Extern.BytealgIndexByte.indexByte) (by kernel_rfl), Lib.run_indexByteString]
  simp only [Result.andThen]
  rw [Oper.upon_value]
  go_wp2
  go_ret
  refine ⟨Nam.ret_i ?_, rfl⟩
  exact HZ.out
theorem index_v (s : ByteArray) (b : UInt8) (z : Int) (hz : Lib.indexByte s.data.toList b = z) (w : World) : Calls Tryd.prog 31 #[.string s, .int .u8 (b.toNat : Int)] w fun e w' => e = .returned (.int .i64 z) ∧ w = w' := by
  go_enter Tryd.func31, Tryd.ntmps31
  go_wp2_with fail
  refine (index2_v s b z hz _).mono ?_
  rintro e w1 ⟨rfl, rfl⟩
  go_wp2_with fail
  go_ret
  exact ⟨rfl, rfl⟩
theorem idx_ways (c : UInt8) : ∀ l : List UInt8, (Lib.indexByte l c = -1 ∧ (l.takeWhile (· != c)).length = l.length) ∨ Lib.indexByte l c = ((l.takeWhile (· != c)).length : Int)
  | [] => .inl ⟨rfl, rfl⟩
  | b :: l => by
    unfold Lib.indexByte
    by_cases h : b = c
    · subst h
      right
      rw [if_pos (by simp), List.takeWhile_cons_of_neg (by simp)]; rfl
    · have h1 : (b == c) = false := by rw [beq_eq_false_iff_ne]; exact h
      have h2 : (b != c) = true := by rw [bne_iff_ne]; exact h
      rw [h1, List.takeWhile_cons_of_pos (p := (· != c)) h2]
      rcases idx_ways c l with ⟨e1, e2⟩ | e1
      · left
        rw [e1]; simp [e2]
      · right
        rw [e1]
        have h3 : (((l.takeWhile (· != c)).length : Int) == -1) = false := by rw [beq_eq_false_iff_ne]; omega
        rw [h3]; simp
theorem line_v (s : ByteArray) (a e : Nat) (ha : a ≤ s.size) (hs : s.size ≤ 100000) (he : a + ((s.data.toList.drop a).takeWhile (· != 10)).length = e) (w : World) :
    Calls Tryd.prog 25 #[.string s, .int .i64 (a : Int)] w fun e1 w' => e1 = .returned (.int .i64 (e : Int)) ∧ w = w' := by
  have hf := Quo.from_run s a ha
  rcases idx_ways 10 (s.data.toList.drop a) with ⟨e1, e2⟩ | e1
  · obtain rfl : e = s.size := by rw [e2, List.length_drop, Nam.len_list] at he; omega
    have HI : Hid (Lib.indexByte (s.extract a s.size).data.toList 10 = -1) := by unfold Hid; rw [Quo.extract_list]; exact e1
    clear he e1 e2
    go_enter Tryd.func25, Tryd.ntmps25
    go_wp2_with fail
    refine (index_v _ 10 (-1) HI.out _).mono ?_
    rintro e w1 ⟨rfl, rfl⟩
    go_wp2_with fail
    go_ret
    exact ⟨rfl, rfl⟩
  · obtain ⟨k, hk⟩ : ∃ k, ((s.data.toList.drop a).takeWhile (· != 10)).length = k := ⟨_, rfl⟩
    have hkl : k ≤ s.size - a := by
      rw [← hk, ← Nam.len_list, ← List.length_drop]; exact List.Sublist.length_le (List.takeWhile_sublist _)
    rw [hk] at e1 he
    have HI : Hid (Lib.indexByte (s.extract a s.size).data.toList 10 = (k : Int)) := by unfold Hid; rw [Quo.extract_list]; exact e1
    have h1 : (a : Int) + (k : Int) = (e : Int) := by omega
    have h2 : decide ((k : Int) < 0) = false := by rw [decide_eq_false_iff_not]; omega
    have h3 : (e : Int) ≤ 100000 := by omega
    have h4 : 0 ≤ (k : Int) := by omega
    clear he e1 hk
    go_enter Tryd.func25, Tryd.ntmps25
    go_wp2_with fail
    refine (index_v _ 10 (k : Int) HI.out _).mono ?_
    rintro e w1 ⟨rfl, rfl⟩
    go_wp2_with fail
    go_ret
    exact ⟨Nam.ret_i (by first | rfl | omega), rfl⟩
theorem dg_stop (l : List UInt8) (n : Nat) (h : n < l.length) (hd : dgt l[n] = false) : dg (l.drop n) = [] := by
  rw [List.drop_eq_getElem_cons h]; unfold dg; rw [List.takeWhile_cons_of_neg (by simp [hd])]
theorem dg_step (l : List UInt8) (n : Nat) (h : n < l.length) (hd : dgt l[n] = true) : (dg (l.drop n)).length = (dg (l.drop (n + 1))).length + 1 := by
  rw [List.drop_eq_getElem_cons h]; unfold dg; rw [List.takeWhile_cons_of_pos hd]; simp
theorem dg_end (l : List UInt8) (n : Nat) (h : l.length ≤ n) : dg (l.drop n) = [] := by rw [List.drop_eq_nil_of_le h]; rfl
set_option maxHeartbeats 400000 in
theorem behind_v (s : ByteArray) (a e : Nat) (ha : a ≤ s.size) (hs : s.size ≤ 100000) (he : a + (dg (s.data.toList.drop a)).length = e) (w : World) :
    Calls Tryd.prog 49 #[.string s, .int .i64 (a : Int)] w fun e1 w' => e1 = .returned (.int .i64 (e : Int)) ∧ w = w' := by
  have HE := Lib.hid he
  clear he
  go_enter Tryd.func49, Tryd.ntmps49
  go_wp2_with fail
  go_loopg [1] (s.size - a) (fun gk x wr => ∃ n : Nat, n ≤ s.size ∧ x = .int .i64 (n : Int) ∧ Hid (gk = s.size - n ∧ n + (dg (s.data.toList.drop n)).length = e ∧ w = wr))
  case atStart => exact ⟨a, ha, rfl, rfl, HE.out, rfl⟩
  case round =>
    obtain ⟨n, hn, rfl, HH⟩ := hrel
    by_cases hl : n < s.size
    · have hl' : (n : Int) < (s.size : Int) := by omega
      obtain ⟨b, hb⟩ : ∃ b, dgt s[n] = b := ⟨_, rfl⟩
      have HB := Lib.hid hb
      cases b
      · clear hb
        go_wp2_with fail
        refine (digit_v s[n] _ HB.out _).mono ?_
        rintro e w1 ⟨rfl, rfl⟩
        go_wp2_with fail
        go_ret
        refine ⟨Nam.ret_i ?_, HH.out.2.2⟩
        have := HH.out.2.1
        rw [dg_stop _ n (by rw [Nam.len_list]; exact hl) (by rw [Nam.at_list s n hl]; exact HB.out)] at this
        simp at this; omega
      · clear hb
        go_wp2_with fail
        refine (digit_v s[n] _ HB.out _).mono ?_
        rintro e w1 ⟨rfl, rfl⟩
        go_wp2_with fail
        go_roundg (s.size - (n + 1))
        case measure => have := HH.out.1; omega
        case rel =>
          refine ⟨n + 1, by omega, by go_num, rfl, ?_, HH.out.2.2⟩
          have := HH.out.2.1
          rw [dg_step _ n (by rw [Nam.len_list]; exact hl) (by rw [Nam.at_list s n hl]; exact HB.out)] at this
          omega
    · obtain rfl : n = s.size := by omega
      clear hn
      go_wp2_with fail
      go_ret
      refine ⟨Nam.ret_i ?_, HH.out.2.2⟩
      have := HH.out.2.1
      rw [dg_end _ _ (by rw [Nam.len_list]; exact Nat.le_refl _)] at this
      simp at this; omega
/-- The class whose letter stands at a text's beginning. -/
def clsOf : List UInt8 → Int × Bool
  | [] => (0, false)
  | d :: _ => if d.toNat = 103 then (0, true) else if d.toNat = 120 then (1, true) else (0, false)
theorem class_v (s : ByteArray) (a : Nat) (ha : a ≤ s.size) (hs : s.size ≤ 100000) (c : Int) (b : Bool) (hc : clsOf (s.data.toList.drop a) = (c, b)) (w : World) :
    Calls Tryd.prog 54 #[.string s, .int .i64 (a : Int)] w fun e1 w' => e1 = .returned (.tuple #[.int .i64 c, .bool b]) ∧ w = w' := by
  by_cases hl : a < s.size
  · have hl' : (a : Int) < (s.size : Int) := by omega
    have hl2 : decide (s.size ≤ a) = false := by rw [decide_eq_false_iff_not]; omega
    rw [Quo.drop_cons s a hl] at hc
    replace hc : (if s[a].toNat = 103 then ((0 : Int), true) else if s[a].toNat = 120 then (1, true) else (0, false)) = (c, b) := hc
    by_cases h1 : s[a].toNat = 103
    · have c1 : ((s[a].toNat : Int) == 103) = true := by rw [beq_iff_eq]; omega
      rw [if_pos h1] at hc
      injection hc with e1 e2
      subst e1 e2
      clear h1
      go_enter Tryd.func54, Tryd.ntmps54
      go_wp2_with fail
      go_ret2
      exact ⟨rfl, rfl⟩
    · have c1 : ((s[a].toNat : Int) == 103) = false := by rw [beq_eq_false_iff_ne]; omega
      by_cases h2 : s[a].toNat = 120
      · have c2 : ((s[a].toNat : Int) == 120) = true := by rw [beq_iff_eq]; omega
        rw [if_neg h1, if_pos h2] at hc
        injection hc with e1 e2
        subst e1 e2
        clear h1 h2
        go_enter Tryd.func54, Tryd.ntmps54
        go_wp2_with fail
        go_ret2
        exact ⟨rfl, rfl⟩
      · have c2 : ((s[a].toNat : Int) == 120) = false := by rw [beq_eq_false_iff_ne]; omega
        rw [if_neg h1, if_neg h2] at hc
        injection hc with e1 e2
        subst e1 e2
        clear h1 h2
        go_enter Tryd.func54, Tryd.ntmps54
        go_wp2_with fail
        go_ret2
        exact ⟨rfl, rfl⟩
  · have hl' : (s.size : Int) ≤ (a : Int) := by omega
    have hl2 : decide (s.size ≤ a) = true := by rw [decide_eq_true_iff]; omega
    rw [List.drop_eq_nil_of_le (by rw [Nam.len_list]; omega)] at hc
    injection hc with e1 e2
    subst e1 e2
    clear hl
    go_enter Tryd.func54, Tryd.ntmps54
    go_wp2_with fail
    go_ret2
    exact ⟨rfl, rfl⟩
end Go.Proofs.YtmckplgbaalpbaaDoor.Lex
