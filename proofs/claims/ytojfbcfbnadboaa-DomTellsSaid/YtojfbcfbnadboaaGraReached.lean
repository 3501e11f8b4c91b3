
/- The set of the blocks that are reached: the program's Reached. -/
import Derived.Test.YtojfbcfbnadboaaGraOrW
namespace Go.Proofs.Ytojfbcfbnadboaa.Gra
open Go.ChangeShapes Go.WideShapes Go.RowKit
set_option linter.unusedVariables false
set_option maxRecDepth 20000
set_option maxHeartbeats 2000000

theorem puts_at : ∀ (l : List Nat) (bs : List Bool) (k : Nat), at_ (Bit.puts bs (nn l)) k = true ↔ at_ bs k = true ∨ (k ∈ l ∧ k < bs.length)
  | [], bs, k => by show at_ bs k = true ↔ _; simp
  | x :: l, bs, k => by
    show at_ (Bit.puts (Bit.wth bs (x : Int) true) (nn l)) k = true ↔ _
    rw [puts_at l _ k, Bit.wth_len]
    unfold Bit.wth
    by_cases hx : x < bs.length
    · rw [if_pos ⟨by omega, by simpa using hx⟩]
      have e : ((x : Int)).toNat = x := by omega
      rw [e, at_set bs x k hx, Bool.or_eq_true, decide_eq_true_eq, List.mem_cons]
      constructor
      · rintro ((rfl | h) | h)
        · exact .inr ⟨.inl rfl, hx⟩
        · exact .inl h
        · exact .inr ⟨.inr h.1, h.2⟩
      · rintro (h | ⟨rfl | h, h2⟩)
        · exact .inl (.inr h)
        · exact .inl (.inl rfl)
        · exact .inr ⟨h, h2⟩
    · rw [if_neg (by simp; omega), List.mem_cons]
      constructor
      · rintro (h | h)
        · exact .inl h
        · exact .inr ⟨.inr h.1, h.2⟩
      · rintro (h | ⟨rfl | h, h2⟩)
        · exact .inl h
        · omega
        · exact .inr ⟨h, h2⟩
theorem bints {w : World} {A : Option Addr} {n : Nat} {l : List Int} (h : IsInts w A n l) : Bit.Ints w A l := h.2.2
theorem reached_v (P : Nat) (q : GV) (s t : Gr) (R : List Nat) (w : World) (h : IsG w P q s t) (hs : Ok s) (hn : q.n ≤ 300) (hR : IsLeft s R) :
    Calls Try.prog 19 #[.pointer (some ⟨P, 0, none⟩)] w fun e w' => (∃ p, e = .returned (.pointer (some ⟨p, 0, none⟩)) ∧ ∃ g sn, Bit.SetAt w.heap.size w' p g sn ∧ sn.length = q.n ∧ ∀ k, at_ sn k = true ↔ k ∈ R) ∧ Below w.heap.size w w' := by
  have H := Lib.hid (And.intro h (And.intro hs (And.intro hn hR)))
  have HO := Lib.hid (gorder_v P q s t R w h hs hn hR)
  clear h hs hR
  go_enter Try.func19, Try.ntmps19
  go_wp2_with fail
  refine (glen_v P q s t w H.out.1).mono ?_
  rintro e w1 ⟨rfl, rfl⟩
  go_wp2_with fail
  refine HO.out.mono ?_
  rintro e w2 ⟨⟨B, m, d, rfl, hl, ho, hmq⟩, hb⟩
  have HI := Lib.hid (And.intro ho (And.intro hb hl))
  have hin : IsInts w2 B m (nn R.reverse) := by
    have h1 := ho.ints
    rw [nn_len, List.length_reverse, hl] at h1
    exact h1
  have HC := Lib.hid (Bit.of_v (q.n : Int) q.n (by omega) (by omega) B m d (nn R.reverse) (by rw [nn_len, List.length_reverse]; exact hl) (by omega) w2 (bints hin))
  clear ho hb hl hin
  go_wp2_with fail
  refine HC.out.mono ?_
  rintro e w3 ⟨p, g, rfl, hset, hg⟩
  have H3 := Lib.hid (And.intro (hset.mono HI.out.2.1.size) (HI.out.2.1.trans ((⟨hg.os, hg.tape, hg.output, hg.size, fun k hk => hg.block k hk (by simp)⟩ : Below w2.heap.size w2 w3).mono HI.out.2.1.size)))
  clear hset hg
  go_wp2_with fail
  go_ret
  refine ⟨⟨p, rfl, g, _, H3.out.1, by rw [Bit.puts_len]; simp, fun k => ?_⟩, H3.out.2⟩
  rw [puts_at, at_rep, List.length_replicate, List.mem_reverse]
  refine ⟨fun h => h.elim (fun h => by cases h) (fun h => h.1), fun h => .inr ⟨h, ?_⟩⟩
  have h1 := ((IsLeft.mem H.out.2.1 H.out.2.2.2 k).1 h).lt H.out.2.1
  rw [H.out.1.su.1] at h1
  exact h1
end Go.Proofs.Ytojfbcfbnadboaa.Gra
