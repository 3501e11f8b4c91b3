/- The walk of the statement LinesMarks: the lines that mark a place are three; the sign in the last one stands below the place. -/
import Derived.Test.YtnmpaidllhijnaaWorks
import Derived.Test.YtnmpaidllhijnaaRefAll
import Derived.WalkSmall
namespace Go.Proofs.Ytnmpaidllhijnaa
open Go.ChangeShapes Go.WideShapes Go.RowKit
set_option linter.unusedVariables false

theorem txt_ten (n : Nat) : (10 : UInt8) ∉ Deci.txt (n : Int) := by
  unfold Deci.txt
  rw [if_neg (by omega)]
  intro h
  have := (Deci.digs_all _ _ h).1
  revert this; decide
theorem index_run (s : ByteArray) (i : Nat) (h : i < s.size) (v : Int) (hv : ((s[i]'h).toNat : Int) = v) (W : World) : (Instr.index 9 (.string s) (.int .i64 (i : Int))).run Try.prog W = .ok (.int .u8 v) W := by
  rw [run_index_string W 9 s .i64 (i : Int) Try.underlying9, dif_pos ⟨by omega, by omega⟩, ← hv]; rfl
theorem OwnT.drewN {base : Nat} {w : World} {g c N : Nat} {L : List (List UInt8)} (h : OwnT base w g c N L) (n : Nat) : OwnT base (w.drewN n) g c N L := h
/-- What is known of the place ahead of the walk. -/
theorem place_of (l : List UInt8) (p : Nat) : ∃ I r x J, Cut (l.take p) I r ∧ rows l = I ++ x :: J ∧ x.take r.length = r ∧ r.length ≤ x.length ∧ (10 : UInt8) ∉ x := by
  obtain ⟨I, r, h⟩ := cut_of (l.take p)
  obtain ⟨q, J, e, _⟩ := h.on (l.drop p)
  rw [List.take_append_drop] at e
  obtain ⟨t, _, _, hx⟩ := rows_glue l I _ J e
  exact ⟨I, r, r ++ q, J, h, e, by simp, by simp, hx⟩
theorem fill_at {r x : List UInt8} (hr : x.take r.length = r) (i : Nat) (h : i < r.length) (hx : i < x.length) (h' : i < (blank r ++ [94]).length) : (blank r ++ [94])[i] = if x[i] = 9 then 9 else 32 := by
  have e : r[i] = x[i] := by
    have : r[i]? = x[i]? := by
      conv => lhs; rw [← hr]
      rw [List.getElem?_take, if_pos h]
    rw [List.getElem?_eq_getElem h, List.getElem?_eq_getElem hx] at this
    exact Option.some.inj this
  rw [List.getElem_append_left (by rw [blank_len]; exact h)]
  unfold blank
  rw [List.getElem_map, e]
set_option maxRecDepth 100000 in
set_option maxHeartbeats 4000000 in
theorem marks_in (s : ByteArray) (p : Nat) (hs : s.size ≤ 300) (hp : p ≤ s.size) (w : World) :
    Calls Try.prog 5 #[.string s, .int .i64 (p : Int)] w fun e w' => e = .returned (.bool true) ∧ Below w.heap.size w w' := by
  have t0 : decide ((300 : Int) < (s.size : Int)) = false := by simp; omega
  have t0' : decide (300 < s.size) = false := by simp; omega
  have t1 : decide ((p : Int) < 0) = false := by simp
  have t2 : decide (s.size < p) = false := by simp; omega
  have t4 : decide ((s.size : Int) < (p : Int)) = false := by simp; omega
  obtain ⟨I, r, x, J, hcut, hx, hr, hrl, hxt⟩ := place_of s.data.toList p
  obtain ⟨a, ha⟩ : ∃ a, I.length + 1 = a := ⟨_, rfl⟩
  obtain ⟨b, hb⟩ : ∃ b, r.length + 1 = b := ⟨_, rfl⟩
  obtain ⟨n, hn⟩ : ∃ n, r.length = n := ⟨_, rfl⟩
  obtain ⟨R, hR⟩ : ∃ R : ByteArray, markOf (Deci.txt (a : Int)) (Deci.txt (b : Int)) x (blank r) = R.data.toList := ⟨⟨_⟩, rfl⟩
  have hxl : x.length ≤ 300 ∧ I.length ≤ 300 := by
    obtain ⟨t, ht, _, _⟩ := rows_glue _ I x J hx
    have h1 := congrArg List.length ht
    have h2 := hcut.count
    rw [size_list] at h1
    simp only [List.length_append] at h1
    omega
  have la : (Deci.txt (a : Int)).length ≤ 20 := Deci.txt_len _ (by omega) (by omega)
  have lb : (Deci.txt (b : Int)).length ≤ 20 := Deci.txt_len _ (by omega) (by omega)
  have hRs : R.size ≤ 1000000 := by
    rw [← size_list, ← hR, markOf_len, blank_len]; omega
  have hrows : rows R.data.toList = [Deci.txt (a : Int) ++ [58] ++ Deci.txt (b : Int), x, blank r ++ [94], []] := by
    rw [← hR]; exact markOf_rows _ _ _ _ (txt_ten a) (txt_ten b) hxt (blank_ten r)
  obtain ⟨y, hy⟩ : ∃ y, ByteArray.mk x.toArray = y := ⟨_, rfl⟩
  obtain ⟨U, hU⟩ : ∃ U, ByteArray.mk (blank r ++ [94]).toArray = U := ⟨_, rfl⟩
  have hUs : U.size = b := by rw [← hU, size_mk, List.length_append, blank_len]; exact hb
  have hsl : ∀ W, (Instr.slice 9 (.string U) (some (.int .i64 (n : Int))) none none).run Try.prog W = .ok (.string ⟨#[94]⟩) W := by
    intro W
    rw [slice_from U n (by omega) W, ← hU]
    have : (blank r ++ [94]).drop n = [94] := by rw [← hn, ← blank_len r]; simp
    show Result.ok (Value.string ⟨((blank r ++ [94]).drop n).toArray⟩) W = _
    rw [this]
  have e1 : (b : Int) - 1 = (n : Int) := by omega
  have b0 : ((b : Int) != (b : Int)) = false := by simp
  have b1 : n ≤ 300 := by omega
  have HS := Lib.hid (show s.size ≤ 1000000 by omega)
  have HQ := Lib.hid (And.intro hcut (And.intro ha (And.intro hb (And.intro hx (And.intro hr (And.intro hR (And.intro hRs (And.intro hrows (And.intro hy (And.intro hU (And.intro hn (And.intro hxl hrl))))))))))))
  have HUS := Lib.hid hUs
  clear hcut ha hb hx hr hR hRs hrows hy hU hn hxl hrl hxt la lb hs hUs
  go_enter Try.func5, Try.ntmps5
  go_wp2_with fail
  refine (mark_v s p a b I r x J R hp HS.out HQ.out.1 HQ.out.2.2.2.1 HQ.out.2.2.2.2.1 HQ.out.2.1 HQ.out.2.2.1 HQ.out.2.2.2.2.2.1 w).mono ?_
  rintro e w1 ⟨rfl, hb1⟩
  have B1 := Lib.hid hb1
  clear hb1
  go_wp2_with fail
  refine (spot_v s p a b I r hp HS.out HQ.out.1 HQ.out.2.1 HQ.out.2.2.1 w1).mono ?_
  rintro e w2 ⟨rfl, hb2⟩
  have B2 := Lib.hid (step_B B1.out hb2)
  clear hb2
  go_wp2_with fail
  refine (all_v R _ 4 HQ.out.2.2.2.2.2.2.1 HQ.out.2.2.2.2.2.2.2.1 rfl w2).mono ?_
  rintro e w3 ⟨g, c, rfl, ho, hb3⟩
  have d1 : w3.cell? ⟨g, 1, none⟩ = some (.string y) := by rw [ho.at 1 (by simp), ← HQ.out.2.2.2.2.2.2.2.2.1]; rfl
  have d2 : w3.cell? ⟨g, 2, none⟩ = some (.string U) := by rw [ho.at 2 (by simp), ← HQ.out.2.2.2.2.2.2.2.2.2.1]; rfl
  have d3 : w3.cell? ⟨g, 3, none⟩ = some (.string ⟨#[]⟩) := by rw [ho.at 3 (by simp)]; rfl
  have B3 := Lib.hid (And.intro (step_B B2.out hb3) ho)
  clear hb3 ho
  have hUs := HUS.out
  go_wp2_with fail
  clear d1 d2 d3 hUs
  go_loopg [9] n (fun gk v wr => ∃ (i : Nat), v = .int .i64 (i : Int) ∧ i ≤ n ∧
    Hid (gk = n - i ∧ Below w.heap.size w wr ∧ OwnT w2.heap.size wr g c 4 [Deci.txt (a : Int) ++ [58] ++ Deci.txt (b : Int), x, blank r ++ [94], []]))
  case atStart => exact ⟨0, rfl, by omega, rfl, B3.out.1, B3.out.2⟩
  case round =>
    obtain ⟨i, rfl, hi, HH⟩ := hrel
    have d1 : wr.cell? ⟨g, 1, none⟩ = some (.string y) := by rw [HH.out.2.2.at 1 (by simp), ← HQ.out.2.2.2.2.2.2.2.2.1]; rfl
    have d2 : wr.cell? ⟨g, 2, none⟩ = some (.string U) := by rw [HH.out.2.2.at 2 (by simp), ← HQ.out.2.2.2.2.2.2.2.2.2.1]; rfl
    by_cases hlt : i < n
    · have t5 : decide (i < n) = true := by simpa using hlt
      have t6 : decide ((i : Int) < (n : Int)) = true := by simpa using hlt
      have hn := HQ.out.2.2.2.2.2.2.2.2.2.2.1
      have hir : i < r.length := by omega
      have hrl := HQ.out.2.2.2.2.2.2.2.2.2.2.2.2
      have hix : i < x.length := by omega
      have hiU : i < U.size := by rw [HUS.out, ← HQ.out.2.2.1]; omega
      have hiy : i < y.size := by rw [← HQ.out.2.2.2.2.2.2.2.2.1, size_mk]; exact hix
      have hyi : (y[i]'hiy) = x[i] := by
        have hy := HQ.out.2.2.2.2.2.2.2.2.1
        have : y.data.toList = x := by rw [← hy]
        rw [at_nat y i hiy]; simp [this]
      have hUi : (U[i]'hiU) = if x[i] = 9 then 9 else 32 := by
        have hU := HQ.out.2.2.2.2.2.2.2.2.2.1
        have : U.data.toList = blank r ++ [94] := by rw [← hU]
        rw [at_nat U i hiU]; simp only [this]
        exact fill_at HQ.out.2.2.2.2.1 i hir hix _
      clear hn hrl
      by_cases h9 : x[i] = 9
      · rw [if_pos h9] at hUi
        have q1 := index_run U i hiU 9 (by rw [hUi]; rfl)
        have q2 := index_run y i hiy 9 (by rw [hyi, h9]; rfl)
        clear hUi hyi h9 hiU hiy hir hix
        go_wp2_with fail
        go_quiet (fail)
        go_wp2_with fail
        go_roundg (n - (i + 1))
        case measure => have := HH.out.1; omega
        case rel => exact ⟨i + 1, rfl, by omega, rfl, below_drewN HH.out.2.1 _, HH.out.2.2.drewN _⟩
      · rw [if_neg h9] at hUi
        have q1 := index_run U i hiU 32 (by rw [hUi]; rfl)
        obtain ⟨v, hv⟩ : ∃ v : Int, ((y[i]'hiy).toNat : Int) = v := ⟨_, rfl⟩
        have q2 := index_run y i hiy v hv
        have c1 : (v == 9) = false := by
          apply int_beq; rw [← hv, hyi]; intro e; apply h9; apply UInt8.toNat_inj.1; show _ = 9; omega
        have c2 : ¬ v = 9 := by rw [beq_eq_false_iff_ne] at c1; exact c1
        clear hUi hyi h9 hv hiU hiy hir hix
        go_wp2_with fail
        go_quiet (fail)
        go_wp2_with fail
        go_roundg (n - (i + 1))
        case measure => have := HH.out.1; omega
        case rel => exact ⟨i + 1, rfl, by omega, rfl, below_drewN HH.out.2.1 _, HH.out.2.2.drewN _⟩
    · have t5 : decide (i < n) = false := by simpa using hlt
      have t6 : decide ((i : Int) < (n : Int)) = false := by simp; omega
      go_wp2_with fail
      refine (works_v wr).mono ?_
      rintro e w4 ⟨rfl, hb4⟩
      have B4 := Lib.hid (step_B HH.out.2.1 hb4)
      clear hb4
      go_wp2_with fail
      go_ret
      exact ⟨rfl, B4.out⟩
set_option maxRecDepth 100000 in
theorem marks_out (s : ByteArray) (p : Int) (hs : s.size ≤ 300) (hp : p < 0 ∨ (s.size : Int) < p) (w : World) :
    Calls Try.prog 5 #[.string s, .int .i64 p] w fun e w' => e = .returned (.bool true) ∧ Below w.heap.size w w' := by
  have t0 : decide ((300 : Int) < (s.size : Int)) = false := by simp; omega
  have t0' : decide (300 < s.size) = false := by simp; omega
  have HP := Lib.hid (And.intro hp (show s.size ≤ 1000000 by omega))
  by_cases h : p < 0
  · have t1 : decide (p < 0) = true := by simpa using h
    clear hp
    go_enter Try.func5, Try.ntmps5
    go_wp2_with fail
    refine (mark_none s p HP.out.2 HP.out.1 w).mono ?_
    rintro e w1 ⟨rfl, hb1⟩
    have B1 := Lib.hid hb1
    clear hb1
    go_wp2_with fail
    refine (spot_none s p HP.out.1 w1).mono ?_
    rintro e w2 ⟨rfl, rfl⟩
    go_wp2_with fail
    refine (works_v w1).mono ?_
    rintro e w2 ⟨rfl, hb2⟩
    have B2 := Lib.hid (step_B B1.out hb2)
    clear hb2
    go_wp2_with fail
    go_ret
    exact ⟨rfl, B2.out⟩
  · have t1 : decide (p < 0) = false := by simpa using h
    have t2 : decide ((s.size : Int) < p) = true := by simp; omega
    clear hp
    go_enter Try.func5, Try.ntmps5
    go_wp2_with fail
    refine (mark_none s p HP.out.2 HP.out.1 w).mono ?_
    rintro e w1 ⟨rfl, hb1⟩
    have B1 := Lib.hid hb1
    clear hb1
    go_wp2_with fail
    refine (spot_none s p HP.out.1 w1).mono ?_
    rintro e w2 ⟨rfl, rfl⟩
    go_wp2_with fail
    refine (works_v w1).mono ?_
    rintro e w2 ⟨rfl, hb2⟩
    have B2 := Lib.hid (step_B B1.out hb2)
    clear hb2
    go_wp2_with fail
    go_ret
    exact ⟨rfl, B2.out⟩
set_option maxRecDepth 100000 in
theorem marks_walk (s : ByteArray) (p : Int) (w : World) :
    Calls Try.prog 5 #[.string s, .int .i64 p] w fun e w' => e = .returned (.bool true) ∧ Below w.heap.size w w' := by
  by_cases hs : s.size ≤ 300
  · by_cases hp : p < 0 ∨ (s.size : Int) < p
    · exact marks_out s p hs hp w
    · obtain ⟨k, rfl⟩ : ∃ k : Nat, p = k := ⟨p.toNat, by omega⟩
      exact marks_in s k hs (by omega) w
  · have t0 : decide ((300 : Int) < (s.size : Int)) = true := by simp; omega
    have t0' : decide (300 < s.size) = true := by simp; omega
    clear hs
    go_enter Try.func5, Try.ntmps5
    go_wp2_with fail
    refine (works_v w).mono ?_
    rintro e w2 ⟨rfl, hb2⟩
    have B2 := Lib.hid hb2
    clear hb2
    go_wp2_with fail
    go_ret
    exact ⟨rfl, B2.out⟩
end Go.Proofs.Ytnmpaidllhijnaa
