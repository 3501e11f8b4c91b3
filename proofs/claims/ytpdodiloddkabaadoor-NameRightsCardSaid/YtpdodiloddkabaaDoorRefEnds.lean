/- What the document's Ends answers. -/
import Derived.Test.YtpdodiloddkabaaDoorCut
import Derived.Test.YtpdodiloddkabaaDoorRefRight
namespace Go.Proofs.YtpdodiloddkabaaDoor
open Go.ChangeShapes Go.WideShapes Go.RowKit
set_option linter.unusedVariables false

/-- No point ahead of a place parts the text into two names. -/
def NoPart (l : List UInt8) (n : Nat) : Prop := ∀ i (hi : i < l.length), i < n → l[i] = 46 → ¬ (right (l.take i) = true ∧ right (l.drop (i + 1)) = true)
theorem NoPart.zero (l : List UInt8) : NoPart l 0 := fun i _ h => by omega
theorem NoPart.step {l : List UInt8} {n : Nat} (h : NoPart l n) (hn : n < l.length) (hh : l[n] = 46 → ¬ (right (l.take n) = true ∧ right (l.drop (n + 1)) = true)) : NoPart l (n + 1) := by
  intro i hi hin hp
  by_cases e : i = n
  · subst e; exact hh hp
  · exact h i hi (by omega) hp
theorem NoPart.done {l : List UInt8} {n : Nat} (h : NoPart l n) (hn : l.length ≤ n) : ends l = ([], [], false) := ends_not fun i hi hp => h i hi (by omega) hp
theorem byte_46 {c : UInt8} : c = 46 ↔ c.toNat = 46 := by
  constructor
  · rintro rfl; rfl
  · intro h
    have : UInt8.ofNat c.toNat = UInt8.ofNat 46 := by rw [h]
    rw [UInt8.ofNat_toNat] at this; exact this
set_option maxHeartbeats 1000000 in
theorem refends_v (s : ByteArray) (a b : List UInt8) (x : Bool) (hs : s.size ≤ 9223372036854775806) (he : ends s.data.toList = (a, b, x)) (w : World) : Calls Tryd.prog 8 #[.string s] w fun e w' => e = E3 a b x ∧ Below w.heap.size w w' := by
  have HE := Lib.hid he
  clear he
  go_enter Tryd.func8, Tryd.ntmps8
  go_wp2_with fail
  go_loopg [5] s.size (fun gk x wr => ∃ n : Nat, n ≤ s.size ∧ x = .int .i64 (n : Int) ∧ Hid (gk = s.size - n ∧ NoPart s.data.toList n ∧ w = wr))
  case atStart => exact ⟨0, by omega, rfl, by omega, NoPart.zero _, rfl⟩
  case round =>
    obtain ⟨n, hn, rfl, HH⟩ := hrel
    by_cases hl : n < s.size
    · have hl' : (n : Int) < (s.size : Int) := by omega
      have HL : Hid (n < s.data.toList.length) := Lib.hid (by rw [len_list]; exact hl)
      by_cases d : s[n].toNat = 46
      · have c1 : (s[n].toNat : Int) = 46 := by omega
        have HD : Hid (s.data.toList[n]'HL.out = 46) := Lib.hid (by rw [at_list s n hl]; exact byte_46.2 d)
        have h1 := to_run s n hn
        have h2 := from_run s (n + 1) ((n : Int) + 1) (by omega) (by omega)
        have h3 : IntKind.i64.wrap ((n : Int) + 1) = (n : Int) + 1 := IntWalk.i64_in _ (by omega)
        obtain ⟨A, hA⟩ : ∃ A, s.data.toList.take n = A := ⟨_, rfl⟩
        obtain ⟨B, hB⟩ : ∃ B, s.data.toList.drop (n + 1) = B := ⟨_, rfl⟩
        have HA := Lib.hid (And.intro hA hB)
        rw [hA] at h1
        rw [hB] at h2
        obtain ⟨p, hp⟩ : ∃ p, right A = p := ⟨_, rfl⟩
        obtain ⟨q, hq⟩ : ∃ q, right B = q := ⟨_, rfl⟩
        have HP := Lib.hid hp
        have HQ := Lib.hid hq
        clear hA hB hp hq d
        cases p
        · go_wp2_with fail
          refine (refright_v ⟨A.toArray⟩ false (by rw [list_mk]; exact HP.out) _).mono ?_
          rintro e w1 ⟨rfl, rfl⟩
          go_wp2_with fail
          go_roundg (s.size - (n + 1))
          case measure => have := HH.out.1; omega
          case rel => exact ⟨n + 1, by omega, by go_num, rfl, HH.out.2.1.step HL.out (fun _ k => by rw [HA.out.1, HP.out] at k; exact absurd k.1 (by decide)), HH.out.2.2⟩
        · cases q
          · go_wp2_with fail
            refine (refright_v ⟨A.toArray⟩ true (by rw [list_mk]; exact HP.out) _).mono ?_
            rintro e w1 ⟨rfl, rfl⟩
            go_wp2_with fail
            refine (refright_v ⟨B.toArray⟩ false (by rw [list_mk]; exact HQ.out) _).mono ?_
            rintro e w1 ⟨rfl, rfl⟩
            go_wp2_with fail
            go_roundg (s.size - (n + 1))
            case measure => have := HH.out.1; omega
            case rel => exact ⟨n + 1, by omega, by go_num, rfl, HH.out.2.1.step HL.out (fun _ k => by rw [HA.out.2, HQ.out] at k; exact absurd k.2 (by decide)), HH.out.2.2⟩
          · go_wp2_with fail
            refine (refright_v ⟨A.toArray⟩ true (by rw [list_mk]; exact HP.out) _).mono ?_
            rintro e w1 ⟨rfl, rfl⟩
            go_wp2_with fail
            refine (refright_v ⟨B.toArray⟩ true (by rw [list_mk]; exact HQ.out) _).mono ?_
            rintro e w1 ⟨rfl, rfl⟩
            go_wp2_with fail
            go_quiet (fail)
            go_wp2_with fail
            go_ret3
            obtain ⟨rfl, rfl, rfl⟩ : A = a ∧ B = b ∧ true = x := by
              have h := ends_at n HL.out HD.out (by rw [HA.out.1]; exact HP.out) (by rw [HA.out.2]; exact HQ.out)
              rw [HE.out, HA.out.1, HA.out.2] at h
              simp at h
              exact ⟨h.1.symm, h.2.1.symm, h.2.2.symm⟩
            obtain rfl := HH.out.2.2
            exact ⟨rfl, below_drewN _ _ _⟩
      · have c1 : ((s[n].toNat : Int) == 46) = false := nat_bne d
        have c2 : ¬ (s[n].toNat : Int) = 46 := by omega
        have HD : Hid (s.data.toList[n]'HL.out ≠ 46) := Lib.hid (by rw [at_list s n hl]; exact fun k => d (byte_46.1 k))
        clear d
        go_wp2_with fail
        go_roundg (s.size - (n + 1))
        case measure => have := HH.out.1; omega
        case rel => exact ⟨n + 1, by omega, by go_num, rfl, HH.out.2.1.step HL.out (fun k => absurd k HD.out), HH.out.2.2⟩
    · obtain rfl : n = s.size := by omega
      clear hn
      go_wp2_with fail
      go_ret3
      obtain ⟨rfl, rfl, rfl⟩ : [] = a ∧ [] = b ∧ false = x := by
        have h := HH.out.2.1.done (by rw [len_list]; exact Nat.le_refl _)
        rw [HE.out] at h
        simp at h
        exact ⟨h.1.symm, h.2.1.symm, h.2.2.symm⟩
      obtain rfl := HH.out.2.2
      exact ⟨rfl, Below.refl _ _⟩
end Go.Proofs.YtpdodiloddkabaaDoor
