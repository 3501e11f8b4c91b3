/- What the program's Same, Full and All answer. -/
import Derived.Test.YtgckoiepclgofaaDoorMerge
namespace Go.Proofs.YtgckoiepclgofaaDoor
open Go.ChangeShapes Go.WideShapes Go.RowKit
set_option linter.unusedVariables false

theorem all_func (p : Nat) (w : World) :
    Calls Tryd.prog 18 #[.pointer (some ⟨p, 0, none⟩)] w fun e w' => e = .returned (.func (.func 34) #[.pointer (some ⟨p, 0, none⟩)] #[]) ∧ w' = w := by
  have hmf : ∀ (fn : Fn) (first cap : Array Value) (w : World), (Instr.makeFunc fn first cap).run Tryd.prog w = .ok (.func fn first cap) w := fun _ _ _ _ => rfl
  go_enter Tryd.func18, Tryd.ntmps18
  go_wp2
  go_ret
  exact ⟨rfl, rfl⟩
theorem word_eq {bs cs : List Bool} (h : ∀ i, has bs i = has cs i) (k : Nat) : word bs k = word cs k :=
  word_is (word_lt _ _) fun j hj => by rw [word_bit, h]; simp [hj]
set_option maxRecDepth 100000 in
set_option maxHeartbeats 1000000 in
theorem same_v (B p g p' g' : Nat) (bs cs : List Bool) (m : Nat) (hsame : ∀ i, has bs i = has cs i) (hm : words bs.length = m) (hm' : words cs.length = m) (w : World) (h : SetAt B w p g bs) (h' : SetAt B w p' g' cs) :
    Calls Tryd.prog 19 #[.pointer (some ⟨p, 0, none⟩), .pointer (some ⟨p', 0, none⟩)] w fun e w' => e = .returned (.bool true) ∧ w' = w := by
  have hm5 : m ≤ 5 := by rw [← hm]; exact words_le h.small
  have HQ := Lib.hid (And.intro h (And.intro h' (And.intro hm (And.intro hm' hsame))))
  clear h h' hm hm' hsame
  have hlt0 : ¬ m < m := by omega
  go_enter Tryd.func19, Tryd.ntmps19
  go_wp2_with fail
  refine (laid_v B p g bs m HQ.out.2.2.1 _ HQ.out.1).mono ?_
  rintro e w1 ⟨rfl, rfl⟩
  go_wp2_with fail
  refine (laid_v B p' g' cs m HQ.out.2.2.2.1 _ HQ.out.2.1).mono ?_
  rintro e w2 ⟨rfl, rfl⟩
  go_wp2_with fail
  go_loopg [13] m (fun gk u wr => ∃ k : Nat, k + gk = m ∧ u = .int .i64 (k : Int) ∧ Hid (wr = w2))
  case atStart => exact ⟨0, by omega, rfl, rfl⟩
  case round =>
    obtain ⟨k, hk, rfl, HH⟩ := hrel
    obtain rfl : wr = w2 := HH.out
    by_cases hlt : k < m
    · obtain ⟨z, hz⟩ : ∃ z, word bs k = z := ⟨_, rfl⟩
      have hz' : word cs k = z := by rw [← word_eq HQ.out.2.2.2.2 k]; exact hz
      have H1 := Lib.hid (And.intro hz hz')
      have hne : ((z : Int) != (z : Int)) = false := by simp
      clear hz hz'
      go_wp2_with fail
      refine (word_v k B p g bs z H1.out.1 _ HQ.out.1).mono ?_
      rintro e w3 ⟨rfl, rfl⟩
      go_wp2_with fail
      refine (word_v k B p' g' cs z H1.out.2 _ HQ.out.2.1).mono ?_
      rintro e w4 ⟨rfl, rfl⟩
      go_wp2_with fail
      go_roundg (gk - 1)
      case measure => omega
      case rel => exact ⟨k + 1, by omega, by go_num, rfl⟩
    · obtain rfl : k = m := by omega
      have hge : ¬ (k : Int) < (k : Int) := by omega
      go_wp2_with fail
      go_ret
      exact ⟨rfl, rfl⟩
set_option maxRecDepth 100000 in
set_option maxHeartbeats 1000000 in
theorem full_v (N : Nat) (hN : N ≤ 300) (w : World) : Calls Tryd.prog 20 #[.int .i64 (N : Int)] w (NewP (List.replicate N true) w) := by
  obtain ⟨m, hm⟩ : ∃ m, words N = m := ⟨_, rfl⟩
  have hm5 : m ≤ 5 := by rw [← hm]; exact words_le hN
  have hl : (List.replicate N true).length = (List.replicate N false).length := by simp
  have hl2 : words (List.replicate N false).length = m := by simp [hm]
  have HL := Lib.hid (And.intro hl hl2)
  clear hm hl hl2
  go_enter Tryd.func20, Tryd.ntmps20
  go_wp2_with fail
  refine (new_nat N hN _).mono ?_
  rintro e w1 ⟨p, g, rfl, hs, hg⟩
  have c0 := hs.slice
  rw [HL.out.2] at c0
  have H1 := Lib.hid (And.intro hs hg)
  clear hs hg
  go_wp2_with fail
  clear c0
  go_loopg [12] m (fun gk u wr => ∃ k : Nat, k + gk = m ∧ u = .int .i64 (k : Int) ∧ Hid (SetAt w.heap.size wr p g (mix (List.replicate N true) (List.replicate N false) k) ∧ w.grownBy wr none))
  case atStart => exact ⟨0, by omega, rfl, by rw [mix_zero]; exact H1.out.1, H1.out.2⟩
  case round =>
    obtain ⟨k, hk, rfl, HH⟩ := hrel
    by_cases hlt : k < m
    · obtain ⟨hs, hg⟩ := HH.out
      obtain ⟨hl, hl2⟩ := HL.out
      obtain ⟨z, hz⟩ : ∃ z, word (List.replicate N true) k = z := ⟨_, rfl⟩
      have d0 := hs.slice
      have d1 := hs.row.cell k (by rw [mix_len, hl2]; exact hlt)
      have f1 := hs.row.free k
      rw [mix_len, hl2] at d0
      have km : (k : Int) < (m : Int) := by omega
      have k0 : (0 : Int) ≤ (k : Int) := by omega
      have C36 := room_v k w.heap.size p g _ z (by rw [mix_len, hl2]; exact hlt) (by rw [mix_len, ← hz, ← room_full]; simp) wr.drew hs.drew
      have hs2 := hs.mixed hl (by rw [hl2]; exact hlt) hz
      have H2 := Lib.hid (And.intro C36 (And.intro hs2 (gnew hg (gset wr g k (.int .u64 (z : Int))) hs.log)))
      clear hs hg hl hl2 hz C36 hs2
      go_wp2_with fail
      refine wp_region_still_tail 9 (by kernel_rfl) (by kernel_rfl) ?_
      simp only [List.take_succ_cons, List.take_zero, List.drop_succ_cons, List.drop_zero]
      repeat still_step
      still_call H2.out.1
      repeat still_step
      refine wpStill_nil ?_
      go_wp2_with fail
      go_roundg (gk - 1)
      case measure => omega
      case rel => exact ⟨k + 1, by omega, by go_num, H2.out.2.1.drew, gtrans H2.out.2.2 (gdrew _ _)⟩
    · obtain rfl : k = m := by omega
      have hge : ¬ (k : Int) < (k : Int) := by omega
      go_wp2_with fail
      go_ret
      obtain ⟨h1, h2⟩ := HH.out
      rw [mix_all HL.out.1 HL.out.2] at h1
      exact ⟨p, g, rfl, h1, h2⟩
end Go.Proofs.YtgckoiepclgofaaDoor
