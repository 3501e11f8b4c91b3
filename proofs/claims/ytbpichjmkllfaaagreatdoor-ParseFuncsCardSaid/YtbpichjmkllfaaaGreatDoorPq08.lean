/- Packed texts of one proof. Conditions: none. -/
import Derived.Test.YtbpichjmkllfaaaGreatDoorPq07
import Derived.Lib.Bytealg
import Derived.Lib.Strings
import Derived.Lib.Slices
import Derived.Lib.Walk
namespace Go.Proofs.YtbpichjmkllfaaaGreatDoor.Lex
open Go.ChangeShapes Go.WideShapes Go.RowKit
set_option linter.unusedVariables false
set_option maxRecDepth 20000
theorem u8_eq {c : UInt8} {n : Nat} (hn : n < 256) : c = UInt8.ofNat n ↔ c.toNat = n := by
 constructor
 ·intro e; rw [e]; simp; omega
 ·intro e; rw [← e]; simp
theorem blank_iff (c : UInt8) : blank c = (decide (c.toNat = 32) || decide (c.toNat = 9) || decide (c.toNat = 13) || decide (c.toNat = 10)) := by
 unfold blank
 have h1 : decide (c = 32) = decide (c.toNat = 32) := decide_eq_decide.2 (u8_eq (n := 32) (by omega))
 have h2 : decide (c = 9) = decide (c.toNat = 9) := decide_eq_decide.2 (u8_eq (n := 9) (by omega))
 have h3 : decide (c = 13) = decide (c.toNat = 13) := decide_eq_decide.2 (u8_eq (n := 13) (by omega))
 have h4 : decide (c = 10) = decide (c.toNat = 10) := decide_eq_decide.2 (u8_eq (n := 10) (by omega))
 rw [h1, h2, h3, h4]
theorem blank_v (c : UInt8) (b : Bool) (hb : blank c = b) (w : World) : Calls Tryz.prog 87 #[.int .u8 (c.toNat : Int)] w fun e w' => e = .returned (.bool b) ∧ w = w' := by
 rw [blank_iff] at hb
 by_cases h1 : c.toNat = 32
 ·obtain rfl : true = b := by rw [← hb]; simp [h1]
  have c1 : ((c.toNat : Int) == 32) = true := by rw [beq_iff_eq]; omega
  clear h1 hb
  go_enter Tryz.func87, Tryz.ntmps87
  go_wp2
  go_ret
  exact ⟨rfl, rfl⟩
 ·have c1 : ((c.toNat : Int) == 32) = false := by rw [Bqf]; omega
  by_cases h2 : c.toNat = 9
  ·obtain rfl : true = b := by rw [← hb]; simp [h2]
   have c2 : ((c.toNat : Int) == 9) = true := by rw [beq_iff_eq]; omega
   clear h1 h2 hb
   go_enter Tryz.func87, Tryz.ntmps87
   go_wp2
   go_ret
   exact ⟨rfl, rfl⟩
  ·have c2 : ((c.toNat : Int) == 9) = false := by rw [Bqf]; omega
   by_cases h3 : c.toNat = 13
   ·obtain rfl : true = b := by rw [← hb]; simp [h3]
    have c3 : ((c.toNat : Int) == 13) = true := by rw [beq_iff_eq]; omega
    clear h1 h2 h3 hb
    go_enter Tryz.func87, Tryz.ntmps87
    go_wp2
    go_ret
    exact ⟨rfl, rfl⟩
   ·have c3 : ((c.toNat : Int) == 13) = false := by rw [Bqf]; omega
    have c4 : ((c.toNat : Int) == 10) = b := by
     rw [← hb]; simp [h1, h2, h3]
     by_cases h4 : c.toNat = 10
     ·simp [h4]
     ·rw [decide_eq_false h4, Bqf]; omega
    clear h1 h2 h3 hb
    go_enter Tryz.func87, Tryz.ntmps87
    go_wp2
    go_ret
    exact ⟨rfl, rfl⟩
theorem digit_v (c : UInt8) (b : Bool) (hb : dgt c = b) (w : World) : Calls Tryz.prog 93 #[.int .u8 (c.toNat : Int)] w fun e w' => e = .returned (.bool b) ∧ w = w' := by
 unfold dgt at hb
 by_cases h1 : 48 ≤ c.toNat
 ·have h2 : decide ((c.toNat : Int) ≤ 57) = b := by
   rw [← hb, decide_eq_true h1, Bool.true_and]; exact decide_eq_decide.2 (by omega)
  clear hb
  go_enter Tryz.func93, Tryz.ntmps93
  go_wp2
  go_ret
  exact ⟨rfl, rfl⟩
 ·obtain rfl : false = b := by rw [← hb]; simp [h1]
  have h1' : c.toNat < 48 := by omega
  clear hb h1
  go_enter Tryz.func93, Tryz.ntmps93
  go_wp2
  go_ret
  exact ⟨rfl, rfl⟩
theorem to_run (t P : ByteArray) (h : P.size ≤ t.size) (W : World) :
  (Instr.slice 9 (.string t) none (some (.int .i64 (P.size : Int))) none).run Tryz.prog W = .ok (.string (t.extract 0 P.size)) W := by
 rw [run_slice_string_to_if W 9 t .i64 _ Tryz.underlying9, if_pos (by omega), show ((P.size : Int)).toNat = P.size by omega]
theorem prefix2_v (t P : ByteArray) (b : Bool) (hb : P.data.toList.isPrefixOf t.data.toList = b) (w : World) : Calls Tryz.prog 127 #[.string t, .string P] w fun e w' => e = .returned (.bool b) ∧ w = w' := by
 by_cases h : P.size ≤ t.size
 ·have hr := to_run t P h
  have hq : ((t.extract 0 P.size).toList == P.toList) = b := by
   rw [← hb, Bool.eq_iff_iff, beq_iff_eq, List.isPrefixOf_iff_prefix, Lib.toList_data, Lib.toList_data]
   have e : (t.extract 0 P.size).data.toList = t.data.toList.take P.data.toList.length := by
    rw [ByteArray.data_extract]; simp
   rw [e, List.prefix_iff_eq_take]
   exact eq_comm
  have h' : (P.size : Int) ≤ (t.size : Int) := by omega
  clear hb
  go_enter Tryz.func127, Tryz.ntmps127
  go_wp2_with fail
  go_ret
  exact ⟨rfl, rfl⟩
 ·obtain rfl : false = b := by
   rw [← hb]
   symm
   rw [Bool.eq_false_iff]
   intro k
   rw [List.isPrefixOf_iff_prefix] at k
   have := k.length_le
   rw [Nam.len_list, Nam.len_list] at this
   exact h this
  have h' : (t.size : Int) < (P.size : Int) := by omega
  clear hb h
  go_enter Tryz.func127, Tryz.ntmps127
  go_wp2_with fail
  go_ret
  exact ⟨rfl, rfl⟩
theorem prefix_v (t P : ByteArray) (b : Bool) (hb : P.data.toList.isPrefixOf t.data.toList = b) (w : World) : Calls Tryz.prog 88 #[.string t, .string P] w fun e w' => e = .returned (.bool b) ∧ w = w' := by
 go_enter Tryz.func88, Tryz.ntmps88
 go_wp2_with fail
 refine (prefix2_v t P b hb _).mono ?_
 rintro e w1 ⟨rfl, rfl⟩
 go_wp2_with fail
 go_ret
 exact ⟨rfl, rfl⟩
theorem index2_v (s : ByteArray) (b : UInt8) (z : Int) (hz : Lib.indexByte s.data.toList b = z) (w : World) : Calls Tryz.prog 133 #[.string s, .int .u8 (b.toNat : Int)] w fun e w' => e = .returned (.int .i64 z) ∧ w = w' := by
 have HZ := Hh hz
 clear hz
 go_enter Tryz.func133, Tryz.ntmps133
 go_wp2
 rw [run_callFunc_extern Tryz.func151 (by kernel_rfl) (by kernel_rfl) (by kernel_rfl) (e := Extern.BytealgIndexByte.indexByte) (by kernel_rfl), Lib.run_indexByteString]
 simp only [Result.andThen]
 rw [Oper.upon_value]
 go_wp2
 go_ret
 refine ⟨Nam.ret_i ?_, rfl⟩
 exact HZ.out
theorem index_v (s : ByteArray) (b : UInt8) (z : Int) (hz : Lib.indexByte s.data.toList b = z) (w : World) : Calls Tryz.prog 95 #[.string s, .int .u8 (b.toNat : Int)] w fun e w' => e = .returned (.int .i64 z) ∧ w = w' := by
 go_enter Tryz.func95, Tryz.ntmps95
 go_wp2_with fail
 refine (index2_v s b z hz _).mono ?_
 rintro e w1 ⟨rfl, rfl⟩
 go_wp2_with fail
 go_ret
 exact ⟨rfl, rfl⟩
theorem idx_ways (c : UInt8) : ∀ l : List UInt8, (Lib.indexByte l c = -1 ∧ (l.takeWhile (· != c)).length = l.length) ∨ Lib.indexByte l c = ((l.takeWhile (· != c)).length : Int)
 | [] => .inl ⟨rfl, rfl⟩
 | b :: l => by
  unfold Lib.indexByte
  by_cases h : b = c
  ·subst h
   right
   rw [if_pos (by simp), List.takeWhile_cons_of_neg (by simp)]; rfl
  ·have h1 : (b == c) = false := by rw [Bqf]; exact h
   have h2 : (b != c) = true := by rw [bne_iff_ne]; exact h
   rw [h1, List.takeWhile_cons_of_pos (p := (· != c)) h2]
   rcases idx_ways c l with ⟨e1, e2⟩ | e1
   ·left
    rw [e1]; simp [e2]
   ·right
    rw [e1]
    have h3 : (((l.takeWhile (· != c)).length : Int) == -1) = false := by rw [Bqf]; omega
    rw [h3]; simp
theorem line_v (s : ByteArray) (a e : Nat) (ha : a ≤ s.size) (hs : s.size ≤ 100000) (he : a + ((s.data.toList.drop a).takeWhile (· != 10)).length = e) (w : World) :
  Calls Tryz.prog 89 #[.string s, .int .i64 (a : Int)] w fun e1 w' => e1 = .returned (.int .i64 (e : Int)) ∧ w = w' := by
 have hf := Quo.from_run s a ha
 rcases idx_ways 10 (s.data.toList.drop a) with ⟨e1, e2⟩ | e1
 ·obtain rfl : e = s.size := by rw [e2, List.length_drop, Nam.len_list] at he; omega
  have HI : Hid (Lib.indexByte (s.extract a s.size).data.toList 10 = -1) := by unfold Hid; rw [Quo.extract_list]; exact e1
  clear he e1 e2
  go_enter Tryz.func89, Tryz.ntmps89
  go_wp2_with fail
  refine (index_v _ 10 (-1) HI.out _).mono ?_
  rintro e w1 ⟨rfl, rfl⟩
  go_wp2_with fail
  go_ret
  exact ⟨rfl, rfl⟩
 ·obtain ⟨k, hk⟩ : ∃ k, ((s.data.toList.drop a).takeWhile (· != 10)).length = k := ⟨_, rfl⟩
  have hkl : k ≤ s.size - a := by
   rw [← hk, ← Nam.len_list, ← List.length_drop]; exact List.Sublist.length_le (List.takeWhile_sublist _)
  rw [hk] at e1 he
  have HI : Hid (Lib.indexByte (s.extract a s.size).data.toList 10 = (k : Int)) := by unfold Hid; rw [Quo.extract_list]; exact e1
  have h1 : (a : Int) + (k : Int) = (e : Int) := by omega
  have h2 : decide ((k : Int) < 0) = false := by rw [decide_eq_false_iff_not]; omega
  have h3 : (e : Int) ≤ 100000 := by omega
  have h4 : 0 ≤ (k : Int) := by omega
  clear he e1 hk
  go_enter Tryz.func89, Tryz.ntmps89
  go_wp2_with fail
  refine (index_v _ 10 (k : Int) HI.out _).mono ?_
  rintro e w1 ⟨rfl, rfl⟩
  go_wp2_with fail
  go_ret
  exact ⟨Nam.ret_i (by first | rfl | omega), rfl⟩
theorem dg_stop (l : List UInt8) (n : Nat) (h : n < l.length) (hd : dgt l[n] = false) : dg (l.drop n) = [] := by
 rw [List.drop_eq_getElem_cons h]; unfold dg; rw [List.takeWhile_cons_of_neg (by simp [hd])]
theorem dg_step (l : List UInt8) (n : Nat) (h : n < l.length) (hd : dgt l[n] = true) : (dg (l.drop n)).length = (dg (l.drop (n + 1))).length + 1 := by
 rw [List.drop_eq_getElem_cons h]; unfold dg; rw [List.takeWhile_cons_of_pos hd]; simp
theorem dg_end (l : List UInt8) (n : Nat) (h : l.length ≤ n) : dg (l.drop n) = [] := by rw [List.drop_eq_nil_of_le h]; rfl
set_option maxHeartbeats 400000 in
theorem behind_v (s : ByteArray) (a e : Nat) (ha : a ≤ s.size) (hs : s.size ≤ 100000) (he : a + (dg (s.data.toList.drop a)).length = e) (w : World) :
  Calls Tryz.prog 131 #[.string s, .int .i64 (a : Int)] w fun e1 w' => e1 = .returned (.int .i64 (e : Int)) ∧ w = w' := by
 have HE := Hh he
 clear he
 go_enter Tryz.func131, Tryz.ntmps131
 go_wp2_with fail
 go_loopg [1] (s.size - a) (fun gk x wr => ∃ n : Nat, n ≤ s.size ∧ x = .int .i64 (n : Int) ∧ Hid (gk = s.size - n ∧ n + (dg (s.data.toList.drop n)).length = e ∧ w = wr))
 case atStart => exact ⟨a, ha, rfl, rfl, HE.out, rfl⟩
 case round =>
  obtain ⟨n, hn, rfl, HH⟩ := hrel
  by_cases hl : n < s.size
  ·have hl' : (n : Int) < (s.size : Int) := by omega
   obtain ⟨b, hb⟩ : ∃ b, dgt s[n] = b := ⟨_, rfl⟩
   have HB := Hh hb
   cases b
   ·clear hb
    go_wp2_with fail
    refine (digit_v s[n] _ HB.out _).mono ?_
    rintro e w1 ⟨rfl, rfl⟩
    go_wp2_with fail
    go_ret
    refine ⟨Nam.ret_i ?_, HH.out.2.2⟩
    have := HH.out.2.1
    rw [dg_stop _ n (by rw [Nam.len_list]; exact hl) (by rw [Nam.at_list s n hl]; exact HB.out)] at this
    simp at this; omega
   ·clear hb
    go_wp2_with fail
    refine (digit_v s[n] _ HB.out _).mono ?_
    rintro e w1 ⟨rfl, rfl⟩
    go_wp2_with fail
    go_roundg (s.size - (n + 1))
    case measure => have := HH.out.1; omega
    case rel =>
     refine ⟨n + 1, by omega, by go_num, rfl, ?_, HH.out.2.2⟩
     have := HH.out.2.1
     rw [dg_step _ n (by rw [Nam.len_list]; exact hl) (by rw [Nam.at_list s n hl]; exact HB.out)] at this
     omega
  ·obtain rfl : n = s.size := by omega
   clear hn
   go_wp2_with fail
   go_ret
   refine ⟨Nam.ret_i ?_, HH.out.2.2⟩
   have := HH.out.2.1
   rw [dg_end _ _ (by rw [Nam.len_list]; exact Nat.le_refl _)] at this
   simp at this; omega
def clsOf : List UInt8 → Int × Bool
 | [] => (0, false)
 | d :: _ => if d.toNat = 103 then (0, true) else if d.toNat = 120 then (1, true) else (0, false)
theorem class_v (s : ByteArray) (a : Nat) (ha : a ≤ s.size) (hs : s.size ≤ 100000) (c : Int) (b : Bool) (hc : clsOf (s.data.toList.drop a) = (c, b)) (w : World) :
  Calls Tryz.prog 136 #[.string s, .int .i64 (a : Int)] w fun e1 w' => e1 = .returned (.tuple #[.int .i64 c, .bool b]) ∧ w = w' := by
 by_cases hl : a < s.size
 ·have hl' : (a : Int) < (s.size : Int) := by omega
  have hl2 : decide (s.size ≤ a) = false := by rw [decide_eq_false_iff_not]; omega
  rw [Quo.drop_cons s a hl] at hc
  replace hc : (if s[a].toNat = 103 then ((0 : Int), true) else if s[a].toNat = 120 then (1, true) else (0, false)) = (c, b) := hc
  by_cases h1 : s[a].toNat = 103
  ·have c1 : ((s[a].toNat : Int) == 103) = true := by rw [beq_iff_eq]; omega
   rw [if_pos h1] at hc
   injection hc with e1 e2
   subst e1 e2
   clear h1
   go_enter Tryz.func136, Tryz.ntmps136
   go_wp2_with fail
   go_ret2
   exact ⟨rfl, rfl⟩
  ·have c1 : ((s[a].toNat : Int) == 103) = false := by rw [Bqf]; omega
   by_cases h2 : s[a].toNat = 120
   ·have c2 : ((s[a].toNat : Int) == 120) = true := by rw [beq_iff_eq]; omega
    rw [if_neg h1, if_pos h2] at hc
    injection hc with e1 e2
    subst e1 e2
    clear h1 h2
    go_enter Tryz.func136, Tryz.ntmps136
    go_wp2_with fail
    go_ret2
    exact ⟨rfl, rfl⟩
   ·have c2 : ((s[a].toNat : Int) == 120) = false := by rw [Bqf]; omega
    rw [if_neg h1, if_neg h2] at hc
    injection hc with e1 e2
    subst e1 e2
    clear h1 h2
    go_enter Tryz.func136, Tryz.ntmps136
    go_wp2_with fail
    go_ret2
    exact ⟨rfl, rfl⟩
 ·have hl' : (s.size : Int) ≤ (a : Int) := by omega
  have hl2 : decide (s.size ≤ a) = true := by rw [decide_eq_true_iff]; omega
  rw [List.drop_eq_nil_of_le (by rw [Nam.len_list]; omega)] at hc
  injection hc with e1 e2
  subst e1 e2
  clear hl
  go_enter Tryz.func136, Tryz.ntmps136
  go_wp2_with fail
  go_ret2
  exact ⟨rfl, rfl⟩
structure Skp (l : List UInt8) (a b : Nat) : Prop where
 le : a ≤ b
 lt : b ≤ l.length
 same : ∀ out, rest l a out = rest l b out
 stop : b = l.length ∨ ∀ k, nx (l.drop b) b ≠ .skip k
def BB (s : ByteArray) (a : Nat) (e : Ending) : Prop := ∃ b : Nat, e = .returned (.int .i64 (b : Int)) ∧ Skp s.data.toList a b
theorem nx_blank {c : UInt8} {r : List UInt8} {p : Nat} (h : blank c = true) : nx (c :: r) p = .skip 1 := by rw [nx_cons, if_pos h]
theorem nx_rem {c : UInt8} {r : List UInt8} {p : Nat} (h : blank c = false) (h2 : c = 47 ∧ r.head? = some 47) : nx (c :: r) p = .skip ((c :: r).takeWhile (· != 10)).length := by
 rw [nx_cons, if_neg (by rw [h]; decide), if_pos h2]
theorem nx_else {c : UInt8} {r : List UInt8} {p : Nat} (h : blank c = false) (h2 : ¬ (c = 47 ∧ r.head? = some 47)) (k : Nat) : nx (c :: r) p ≠ .skip k := by
 rw [nx_cons, if_neg (by rw [h]; decide), if_neg h2]
 split
 ·split <;> simp
 ·exact plain_skip
theorem pre_rem (c : UInt8) (r : List UInt8) : [47, 47].isPrefixOf (c :: r) = decide (c = 47 ∧ r.head? = some 47) := by
 cases r with
 | nil => simp [List.isPrefixOf]
 | cons d r =>
  rw [Bool.eq_iff_iff]
  simp [List.isPrefixOf]
  constructor <;> rintro ⟨h1, h2⟩ <;> exact ⟨h1.symm, h2.symm⟩
set_option maxHeartbeats 1000000 in
theorem bb_v (s : ByteArray) (a : Nat) (ha : a ≤ s.size) (hs : s.size ≤ 100000) (w : World) :
  Calls Tryz.prog 53 #[.string s, .int .i64 (a : Int)] w fun e w' => BB s a e ∧ w = w' := by
 go_enter Tryz.func53, Tryz.ntmps53
 go_wp2_with fail
 go_loopg [1] (s.size - a) (fun gk x wr => ∃ n : Nat, n ≤ s.size ∧ x = .int .i64 (n : Int) ∧ Hid (gk = s.size - n ∧ (a ≤ n ∧ ∀ out, rest s.data.toList a out = rest s.data.toList n out) ∧ w = wr))
 case atStart => exact ⟨a, ha, rfl, rfl, ⟨Nat.le_refl _, fun _ => rfl⟩, rfl⟩
 case round =>
  obtain ⟨n, hn, rfl, HH⟩ := hrel
  by_cases hl : n < s.size
  ·have hl' : (n : Int) < (s.size : Int) := by omega
   have hd := Quo.drop_cons s n hl
   obtain ⟨b, hb⟩ : ∃ b, blank s[n] = b := ⟨_, rfl⟩
   have HB := Hh hb
   have HD := Hh hd
   clear hd
   cases b
   ·clear hb
    have hf := Quo.from_run s n hn
    obtain ⟨q, hq⟩ : ∃ q, [47, 47].isPrefixOf (s.data.toList.drop n) = q := ⟨_, rfl⟩
    have HQ : Hid ((⟨#[47, 47]⟩ : ByteArray).data.toList.isPrefixOf (s.extract n s.size).data.toList = q) := by unfold Hid; rw [Quo.extract_list]; exact hq
    rw [HD.out, pre_rem] at hq
    have HQ2 := Hh hq
    clear hq
    cases q
    ·go_wp2_with fail
     refine (blank_v s[n] _ HB.out _).mono ?_
     rintro e w1 ⟨rfl, rfl⟩
     go_wp2_with fail
     refine (prefix_v _ _ _ HQ.out _).mono ?_
     rintro e w1 ⟨rfl, rfl⟩
     go_wp2_with fail
     go_ret
     refine ⟨⟨n, rfl, HH.out.2.1.1, hn, HH.out.2.1.2, .inr ?_⟩, HH.out.2.2⟩
     rw [HD.out]
     exact nx_else HB.out (of_decide_eq_false HQ2.out)
    ·obtain ⟨m, hm⟩ : ∃ m, n + ((s.data.toList.drop n).takeWhile (· != 10)).length = m := ⟨_, rfl⟩
     have hsk : nx (s.data.toList.drop n) n = .skip ((s.data.toList.drop n).takeWhile (· != 10)).length := by
      rw [HD.out]; exact nx_rem HB.out (of_decide_eq_true HQ2.out)
     have HR := Hh (fun out => rest_skip (s := s.data.toList) (at_ := n) out hsk)
     have HM := Hh hm
     have hms : m ≤ s.size := by have := (HR.out []).2.2; rw [Nam.len_list] at this; omega
     clear hsk hm
     go_wp2_with fail
     refine (blank_v s[n] _ HB.out _).mono ?_
     rintro e w1 ⟨rfl, rfl⟩
     go_wp2_with fail
     refine (prefix_v _ _ _ HQ.out _).mono ?_
     rintro e w1 ⟨rfl, rfl⟩
     go_wp2_with fail
     refine (line_v s n m hn hs HM.out _).mono ?_
     rintro e w1 ⟨rfl, rfl⟩
     go_wp2_with fail
     go_roundg (s.size - m)
     case measure => have := HH.out.1; have := (HR.out []).2; have := HM.out; omega
     case rel =>
      refine ⟨m, hms, rfl, rfl, ⟨?_, fun out => ?_⟩, HH.out.2.2⟩
      ·have := HH.out.2.1.1; have := HM.out; omega
      ·rw [HH.out.2.1.2 out, (HR.out out).1, HM.out]
   ·clear hb
    go_wp2_with fail
    refine (blank_v s[n] _ HB.out _).mono ?_
    rintro e w1 ⟨rfl, rfl⟩
    go_wp2_with fail
    go_roundg (s.size - (n + 1))
    case measure => have := HH.out.1; omega
    case rel =>
     refine ⟨n + 1, by omega, by go_num, rfl, ⟨?_, fun out => ?_⟩, HH.out.2.2⟩
     ·have := HH.out.2.1.1; omega
     ·rw [HH.out.2.1.2 out]
      exact (rest_skip out (by rw [HD.out]; exact nx_blank HB.out)).1
  ·obtain rfl : n = s.size := by omega
   clear hn
   go_wp2_with fail
   go_ret
   exact ⟨⟨s.size, rfl, HH.out.2.1.1, Nat.le_refl _, HH.out.2.1.2, .inl rfl⟩, HH.out.2.2⟩
structure Res (w w1 : World) (g : Nat) : Prop where
 below : Below w.heap.size w w1
 ge : w.heap.size ≤ g
 z : w1.heap[g]? = some (.cells t0 72 (0, 0))
theorem res2 (w : World) (A : Obj) : Res w ((w.alloc A).alloc (.cells t0 72)) (w.heap.size + 1) := ⟨((Below.refl _ w).alloc (Nat.le_refl _) _).alloc (by simp) _, Nat.le_succ _, heap_alloc2_new w _ _⟩
theorem res3 (w : World) (A B : Obj) : Res w (((w.alloc A).alloc B).alloc (.cells t0 72)) (w.heap.size + 1 + 1) := ⟨(((Below.refl _ w).alloc (Nat.le_refl _) _).alloc (by simp) _).alloc (by simp; omega) _, by omega, heap_alloc3_new w _ _ _⟩
theorem Res.next {w w1 w2 : World} {g : Nat} (h : Res w w1 g) (hb : Below w1.heap.size w1 w2) : Res w w2 g :=
 ⟨h.below.trans (hb.mono h.below.size), h.ge, (hb.block _ (Fau.fresh0 h.z)).trans h.z⟩
theorem Res.cells {w w1 : World} {g : Nat} (h : Res w w1 g) :
  w1.cell? ⟨g, 0, none⟩ = some (.int .i64 0) ∧ w1.cell? ⟨g, 1, none⟩ = some (.string ⟨#[]⟩) ∧ w1.cell? ⟨g, 2, none⟩ = some (.int .i64 0) ∧ w1.cell? ⟨g, 3, none⟩ = some (.int .i64 0) ∧ w1.cell? ⟨g, 4, none⟩ = some (.int .i64 0) := by
 refine ⟨?_, ?_, ?_, ?_, ?_⟩ <;> (rw [Lib.cell_of_heap h.z]; rfl)
theorem Res.frozen {w w1 : World} {g : Nat} (h : Res w w1 g) : w1.frozen? ⟨g, 0, none⟩ = false ∧ w1.frozen? ⟨g, 1, none⟩ = false ∧ w1.frozen? ⟨g, 2, none⟩ = false ∧ w1.frozen? ⟨g, 3, none⟩ = false ∧ w1.frozen? ⟨g, 4, none⟩ = false :=
 ⟨Lib.frozen_of_heap h.z 0, Lib.frozen_of_heap h.z 1, Lib.frozen_of_heap h.z 2, Lib.frozen_of_heap h.z 3, Lib.frozen_of_heap h.z 4⟩
theorem Res.five {w w1 : World} {g : Nat} (h : Res w w1 g) (x0 x1 x2 x3 x4 : Value) : (Lex.five w1 g x0 x1 x2 x3 x4).heap[g]? = some (.cells #[x0, x1, x2, x3, x4] 72 (0, 0)) ∧ Below w.heap.size w (Lex.five w1 g x0 x1 x2 x3 x4) :=
 ⟨five_heap h.z, five_below h.below h.ge⟩
def tkv (t : Tok) : Value := tk t.kind ⟨t.text.toArray⟩ t.n t.cls t.at_
def good (t : Value) (e : Nat) : Ending := .returned (.tuple #[t, .int .i64 (e : Int), .nilIface])
def bad (c : Int) (a : Int) : Ending := .returned (.tuple #[.agg t0, .int .i64 0, Fau.bare c a])
theorem none_v (s : ByteArray) (a : Nat) (w : World) :
  Calls Tryz.prog 102 #[sp s a] w fun e1 w' => e1 = bad 10 a ∧ Below w.heap.size w w' := by
 have M0 := Hh (res2 w (.cells #[.string s, .int .i64 (a : Int)] 123))
 unfold sp
 go_enter Tryz.func102, Tryz.ntmps102
 go_wp2_with fail
 refine (wrong_v s a 10 (by decide) _).mono ?_
 rintro e1 w1 ⟨rfl, hb⟩
 have M1 := Hh (M0.out.next hb)
 obtain ⟨z0, z1, z2, z3, z4⟩ := M1.out.cells
 obtain ⟨f0, f1, f2, f3, f4⟩ := M1.out.frozen
 clear hb
 unfold t0 tc
 go_wp2_with fail
 refine fin3 (fn := Tryz.f102) rfl rfl (M1.out.five _ _ _ _ _).1 rfl ?_
 exact ⟨rfl, (M1.out.five _ _ _ _ _).2⟩
theorem end_v (s : ByteArray) (a : Nat) (ha : a ≤ s.size) (w : World) :
  Calls Tryz.prog 90 #[sp s a] w fun e1 w' => e1 = good (tk 0 ByteArray.empty 0 0 a) a ∧ Below w.heap.size w w' := by
 have M0 := Hh (res2 w (.cells #[.string s, .int .i64 (a : Int)] 123))
 unfold sp
 go_enter Tryz.func90, Tryz.ntmps90
 go_wp2_with fail
 refine (right_v s a a (Nat.le_refl _) ha 0 0 0 0 ⟨#[]⟩ _).mono ?_
 rintro e1 w1 ⟨rfl, hb⟩
 have M1 := Hh (M0.out.next hb)
 obtain ⟨z0, z1, z2, z3, z4⟩ := M1.out.cells
 obtain ⟨f0, f1, f2, f3, f4⟩ := M1.out.frozen
 clear hb
 unfold tk tc
 go_wp2_with fail
 refine fin3 (fn := Tryz.f90) rfl rfl (M1.out.five _ _ _ _ _).1 rfl ?_
 exact ⟨rfl, (M1.out.five _ _ _ _ _).2⟩
theorem word_long (s : ByteArray) (a y : Nat) (hs : s.size ≤ 100000) (hys : y ≤ s.size) (hy : Nam.scanZ s.data.toList (a : Int) = (y : Int)) (h : a + 24 < y) (w : World) :
  Calls Tryz.prog 92 #[sp s a] w fun e1 w' => e1 = bad 3 a ∧ Below w.heap.size w w' := by
 have HY := Hh hy
 have h1 : decide ((y : Int) - (a : Int) > 24) = true := by rw [decide_eq_true_iff]; omega
 have h2 : 24 < (y : Int) - (a : Int) := by omega
 have h3 : (y : Int) - (a : Int) ≤ 100000 := by omega
 clear hy
 have M0 := Hh (res2 w (.cells #[.string s, .int .i64 (a : Int)] 123))
 unfold sp
 go_enter Tryz.func92, Tryz.ntmps92
 go_wp2_with fail
 refine (Nam.scan_v s (a : Int) (y : Int) (by omega) HY.out _).mono ?_
 rintro e1 w1 ⟨rfl, rfl⟩
 go_wp2_with fail
 refine (wrong_v s a 3 (by decide) _).mono ?_
 rintro e1 w1 ⟨rfl, hb⟩
 have M1 := Hh (M0.out.next hb)
 obtain ⟨z0, z1, z2, z3, z4⟩ := M1.out.cells
 obtain ⟨f0, f1, f2, f3, f4⟩ := M1.out.frozen
 clear hb
 unfold t0 tc
 go_wp2_with fail
 refine fin3 (fn := Tryz.f92) rfl rfl (M1.out.five _ _ _ _ _).1 rfl ?_
 exact ⟨rfl, (M1.out.five _ _ _ _ _).2⟩
theorem word_right (s : ByteArray) (a y : Nat) (hs : s.size ≤ 100000) (hay : a ≤ y) (hys : y ≤ s.size) (hy : Nam.scanZ s.data.toList (a : Int) = (y : Int)) (h : y ≤ a + 24) (w : World) :
  Calls Tryz.prog 92 #[sp s a] w fun e1 w' => e1 = good (tk 1 (s.extract a y) 0 0 a) y ∧ Below w.heap.size w w' := by
 have HY := Hh hy
 have h1 : decide ((y : Int) - (a : Int) > 24) = false := by rw [decide_eq_false_iff_not]; omega
 have h2 : (y : Int) - (a : Int) ≤ 24 := by omega
 have h3 : 0 ≤ (y : Int) - (a : Int) := by omega
 clear hy
 have M0 := Hh (res2 w (.cells #[.string s, .int .i64 (a : Int)] 123))
 unfold sp
 go_enter Tryz.func92, Tryz.ntmps92
 go_wp2_with fail
 refine (Nam.scan_v s (a : Int) (y : Int) (by omega) HY.out _).mono ?_
 rintro e1 w1 ⟨rfl, rfl⟩
 go_wp2_with fail
 refine (right_v s a y hay hys 1 0 0 0 ⟨#[]⟩ _).mono ?_
 rintro e1 w1 ⟨rfl, hb⟩
 have M1 := Hh (M0.out.next hb)
 obtain ⟨z0, z1, z2, z3, z4⟩ := M1.out.cells
 obtain ⟨f0, f1, f2, f3, f4⟩ := M1.out.frozen
 clear hb
 unfold tk tc
 go_wp2_with fail
 refine fin3 (fn := Tryz.f92) rfl rfl (M1.out.five _ _ _ _ _).1 rfl ?_
 exact ⟨rfl, (M1.out.five _ _ _ _ _).2⟩
theorem points_two (s : ByteArray) (a e : Nat) (ha : a ≤ s.size) (hs : s.size ≤ 100000) (hae : a + 2 = e) (hes : e ≤ s.size) (hp : [46, 46].isPrefixOf (s.data.toList.drop a) = true) (w : World) :
  Calls Tryz.prog 101 #[sp s a] w fun e1 w' => e1 = good (tk 7 (s.extract a e) 0 0 a) e ∧ Below w.heap.size w w' := by
 have hf := Quo.from_run s a ha
 have HP : Hid ((⟨#[46, 46]⟩ : ByteArray).data.toList.isPrefixOf (s.extract a s.size).data.toList = true) := by unfold Hid; rw [Quo.extract_list]; exact hp
 have he : (a : Int) + 2 = (e : Int) := by omega
 have hae' : a ≤ e := by omega
 clear hp hae
 have M0 := Hh (res2 w (.cells #[.string s, .int .i64 (a : Int)] 123))
 unfold sp
 go_enter Tryz.func101, Tryz.ntmps101
 go_wp2_with fail
 refine (prefix_v _ _ _ HP.out _).mono ?_
 rintro e1 w1 ⟨rfl, rfl⟩
 go_wp2_with fail
 refine (right_v s a e hae' hes 7 0 0 0 ⟨#[]⟩ _).mono ?_
 rintro e1 w1 ⟨rfl, hb⟩
 have M1 := Hh (M0.out.next hb)
 obtain ⟨z0, z1, z2, z3, z4⟩ := M1.out.cells
 obtain ⟨f0, f1, f2, f3, f4⟩ := M1.out.frozen
 clear hb
 unfold tk tc
 go_wp2_with fail
 refine fin3 (fn := Tryz.f101) rfl rfl (M1.out.five _ _ _ _ _).1 rfl ?_
 exact ⟨rfl, (M1.out.five _ _ _ _ _).2⟩
theorem points_one (s : ByteArray) (a e : Nat) (ha : a ≤ s.size) (hs : s.size ≤ 100000) (hae : a + 1 = e) (hes : e ≤ s.size) (hp : [46, 46].isPrefixOf (s.data.toList.drop a) = false) (w : World) :
  Calls Tryz.prog 101 #[sp s a] w fun e1 w' => e1 = good (tk 7 (s.extract a e) 0 0 a) e ∧ Below w.heap.size w w' := by
 have hf := Quo.from_run s a ha
 have HP : Hid ((⟨#[46, 46]⟩ : ByteArray).data.toList.isPrefixOf (s.extract a s.size).data.toList = false) := by unfold Hid; rw [Quo.extract_list]; exact hp
 have he : (a : Int) + 1 = (e : Int) := by omega
 have hae' : a ≤ e := by omega
 clear hp hae
 have M0 := Hh (res2 w (.cells #[.string s, .int .i64 (a : Int)] 123))
 unfold sp
 go_enter Tryz.func101, Tryz.ntmps101
 go_wp2_with fail
 refine (prefix_v _ _ _ HP.out _).mono ?_
 rintro e1 w1 ⟨rfl, rfl⟩
 go_wp2_with fail
 refine (right_v s a e hae' hes 7 0 0 0 ⟨#[]⟩ _).mono ?_
 rintro e1 w1 ⟨rfl, hb⟩
 have M1 := Hh (M0.out.next hb)
 obtain ⟨z0, z1, z2, z3, z4⟩ := M1.out.cells
 obtain ⟨f0, f1, f2, f3, f4⟩ := M1.out.frozen
 clear hb
 unfold tk tc
 go_wp2_with fail
 refine fin3 (fn := Tryz.f101) rfl rfl (M1.out.five _ _ _ _ _).1 rfl ?_
 exact ⟨rfl, (M1.out.five _ _ _ _ _).2⟩
end Go.Proofs.YtbpichjmkllfaaaGreatDoor.Lex
