/- How deeds lie in memory, and what few answers of them. -/
import Derived.Test.YtgckoiepclgofaaDoorRefB
namespace Go.Proofs.YtgckoiepclgofaaDoor
open Go.ChangeShapes Go.WideShapes Go.RowKit
set_option linter.unusedVariables false

/-- What is done with a set: a kind, a number, and some numbers in a slice. -/
structure Dd where
  kind : Nat
  n : Int
  a : Option Addr
  c : Nat
  l : List Int
/-- The deeds are those of a slice. -/
def Deeds (w : World) (A : Option Addr) (ds : List Dd) : Prop := ds = [] ∨ ∃ b o, A = some ⟨b, o, none⟩ ∧ b < w.heap.size ∧ ∀ k (h : k < ds.length),
  w.cell? ⟨b, o + k * 3, none⟩ = some (.int .u8 (ds[k].kind : Int)) ∧ w.cell? ⟨b, o + k * 3 + 1, none⟩ = some (.int .i64 ds[k].n) ∧
  w.cell? ⟨b, o + k * 3 + 2, none⟩ = some (.slice ds[k].a ds[k].l.length ds[k].c) ∧ Ints w ds[k].a ds[k].l ∧ ds[k].kind ≤ 255
theorem Deeds.grow {w w' : World} {A : Option Addr} {ds : List Dd} (h : Deeds w A ds) (hg : w.grownBy w' none) : Deeds w' A ds := by
  rcases h with h | ⟨b, o, rfl, hb, hc⟩
  · exact .inl h
  · refine .inr ⟨b, o, rfl, Nat.lt_of_lt_of_le hb hg.size, fun k hk => ?_⟩
    obtain ⟨h1, h2, h3, h4, h5⟩ := hc k hk
    exact ⟨(hg.cell_far ⟨b, _, none⟩ hb (by simp)).trans h1, (hg.cell_far ⟨b, _, none⟩ hb (by simp)).trans h2, (hg.cell_far ⟨b, _, none⟩ hb (by simp)).trans h3, h4.kept hg (by simp), h5⟩
/-- Few, and small. -/
def Few (n : Int) (ds : List Dd) : Prop := n ≤ 300 ∧ ds.length ≤ 40 ∧ ∀ k (h : k < ds.length), (ds[k].kind ≤ 1 ∨ ds[k].n ≤ 300) ∧ ds[k].l.length ≤ 40
/-- What few hands back. -/
def FewP (n : Int) (ds : List Dd) (w : World) (e : Ending) (w' : World) : Prop := (∃ b, e = .returned (.bool b) ∧ (b = true ↔ Few n ds)) ∧ w' = w
set_option maxRecDepth 100000 in
set_option maxHeartbeats 2000000 in
theorem few_v (n : Int) (A : Option Addr) (M c : Nat) (ds : List Dd) (hM : ds.length = M) (hmax : M ≤ 9223372036854775807) (w : World) (h : Deeds w A ds) :
    Calls Tryd.prog 5 #[.int .i64 n, .slice A M c] w (FewP n ds w) := by
  have HQ := Lib.hid (And.intro hM h)
  clear hM h
  by_cases h1 : n ≤ 300
  · by_cases h2 : M ≤ 40
    · have d1 : decide (300 < n) = false := by simp; omega
      have d2 : decide ((40 : Int) < (M : Int)) = false := by simp; omega
      have d3 : decide (40 < M) = false := by simp; omega
      go_enter Tryd.func5, Tryd.ntmps5
      go_wp2_with fail
      go_loopg [5] M (fun gk u wr => ∃ k : Nat, k + gk = M ∧ u = .int .i64 (k : Int) ∧ Hid (wr = w ∧ ∀ j (h : j < ds.length), j < k → (ds[j].kind ≤ 1 ∨ ds[j].n ≤ 300) ∧ ds[j].l.length ≤ 40))
      case atStart => exact ⟨0, by omega, rfl, rfl, fun j _ h => by omega⟩
      case round =>
        obtain ⟨k, hk, rfl, HH⟩ := hrel
        obtain rfl : wr = w := HH.out.1
        by_cases hlt : k < M
        · obtain ⟨hM, hd⟩ := HQ.out
          have hkl : k < ds.length := by omega
          rcases hd with h0 | ⟨b, o, rfl, hb, hc⟩
          · rw [h0] at hkl; cases hkl
          obtain ⟨c0, c1, c2, hzz, hk8⟩ := hc k hkl
          obtain ⟨kd, hkd⟩ : ∃ x, ds[k].kind = x := ⟨_, rfl⟩
          obtain ⟨nn, hnn⟩ : ∃ x, ds[k].n = x := ⟨_, rfl⟩
          obtain ⟨ll, hll⟩ : ∃ x, ds[k].l.length = x := ⟨_, rfl⟩
          obtain ⟨aa, haa⟩ : ∃ x, ds[k].a = x := ⟨_, rfl⟩
          obtain ⟨cc, hcc⟩ : ∃ x, ds[k].c = x := ⟨_, rfl⟩
          rw [hkd] at c0 hk8
          rw [hnn] at c1
          rw [hll, haa, hcc] at c2
          have HD := Lib.hid (show ∃ h : k < ds.length, ds[k].kind = kd ∧ ds[k].n = nn ∧ ds[k].l.length = ll from ⟨hkl, hkd, hnn, hll⟩)
          clear hc hkd hnn hll haa hcc hM hb hzz hkl
          have kM : (k : Int) < (M : Int) := by omega
          by_cases g1 : kd ≤ 1
          · have e1 : decide ((1 : Int) < (kd : Int)) = false := by simp; omega
            have e2 : decide (1 < kd) = false := by simp; omega
            by_cases g2 : ll ≤ 40
            · have e3 : decide ((40 : Int) < (ll : Int)) = false := by simp; omega
              have e4 : decide (40 < ll) = false := by simp; omega
              go_wp2_with fail
              go_roundg (gk - 1)
              case measure => omega
              case rel =>
                refine ⟨k + 1, by omega, by go_num, rfl, fun j hj hjk => ?_⟩
                by_cases e : j < k
                · exact HH.out.2 j hj e
                · obtain rfl : j = k := by omega
                  obtain ⟨_, q1, q2, q3⟩ := HD.out
                  rw [q1, q2, q3]; exact ⟨.inl g1, by omega⟩
            · have e3 : decide ((40 : Int) < (ll : Int)) = true := by simp; omega
              have e4 : decide (40 < ll) = true := by simp; omega
              go_wp2_with fail
              go_ret
              exact ⟨⟨false, rfl, (fun h => by cases h), (fun hF => by obtain ⟨q0, q1, q2, q3⟩ := HD.out; have q4 := hF.2.2 k q0; rw [q1, q2, q3] at q4; omega)⟩, rfl⟩
          · have e1 : decide ((1 : Int) < (kd : Int)) = true := by simp; omega
            have e2 : decide (1 < kd) = true := by simp; omega
            by_cases g3 : nn ≤ 300
            · have e5 : decide ((300 : Int) < nn) = false := by simp; omega
              by_cases g2 : ll ≤ 40
              · have e3 : decide ((40 : Int) < (ll : Int)) = false := by simp; omega
                have e4 : decide (40 < ll) = false := by simp; omega
                go_wp2_with fail
                go_roundg (gk - 1)
                case measure => omega
                case rel =>
                  refine ⟨k + 1, by omega, by go_num, rfl, fun j hj hjk => ?_⟩
                  by_cases e : j < k
                  · exact HH.out.2 j hj e
                  · obtain rfl : j = k := by omega
                    obtain ⟨_, q1, q2, q3⟩ := HD.out
                    rw [q1, q2, q3]; exact ⟨.inr g3, by omega⟩
              · have e3 : decide ((40 : Int) < (ll : Int)) = true := by simp; omega
                have e4 : decide (40 < ll) = true := by simp; omega
                go_wp2_with fail
                go_ret
                exact ⟨⟨false, rfl, (fun h => by cases h), (fun hF => by obtain ⟨q0, q1, q2, q3⟩ := HD.out; have q4 := hF.2.2 k q0; rw [q1, q2, q3] at q4; omega)⟩, rfl⟩
            · have e5 : decide ((300 : Int) < nn) = true := by simp; omega
              go_wp2_with fail
              go_ret
              exact ⟨⟨false, rfl, (fun h => by cases h), (fun hF => by obtain ⟨q0, q1, q2, q3⟩ := HD.out; have q4 := hF.2.2 k q0; rw [q1, q2, q3] at q4; omega)⟩, rfl⟩
        · obtain rfl : k = M := by omega
          have hge : ¬ (k : Int) < (k : Int) := by omega
          go_wp2_with fail
          go_ret
          refine ⟨⟨true, rfl, fun _ => ⟨h1, by rw [HQ.out.1]; exact h2, fun j hj => HH.out.2 j hj (by rw [← HQ.out.1]; exact hj)⟩, (fun _ => rfl)⟩, rfl⟩
    · have d1 : decide (300 < n) = false := by simp; omega
      have d2 : decide ((40 : Int) < (M : Int)) = true := by simp; omega
      have d3 : decide (40 < M) = true := by simp; omega
      go_enter Tryd.func5, Tryd.ntmps5
      go_wp2_with fail
      go_ret
      exact ⟨⟨false, rfl, (fun h => by cases h), (fun hF => by have q4 := hF.2.1; rw [HQ.out.1] at q4; omega)⟩, rfl⟩
  · have d1 : decide (300 < n) = true := by simp; omega
    go_enter Tryd.func5, Tryd.ntmps5
    go_wp2_with fail
    go_ret
    exact ⟨⟨false, rfl, (fun h => by cases h), (fun hF => by have q4 := hF.1; omega)⟩, rfl⟩
end Go.Proofs.YtgckoiepclgofaaDoor
