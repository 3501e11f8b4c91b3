/- The number at a place of a text, as plain mathematics: where its digits are, and what is answered. -/
import Derived.Test.YtmckplgbaalpbaaDoorDeciMath
namespace Go.Proofs.YtmckplgbaalpbaaDoor.Deci
set_option linter.unusedVariables false

def isDig (c : UInt8) : Prop := 48 ≤ c.toNat ∧ c.toNat ≤ 57
/-- From place a of s on: a minus or none, digits from fr to fin, and no more. -/
structure Scn (s : ByteArray) (a : Nat) (m : Bool) (fr fin : Nat) : Prop where
  ha : a ≤ s.size
  hy : m = true → ∃ h : a < s.size, s[a].toNat = 45
  hn : m = false → ∀ h : a < s.size, s[a].toNat ≠ 45
  hfr : fr = if m then a + 1 else a
  hle : fr ≤ fin
  hfin : fin ≤ s.size
  dig : ∀ i (h : i < s.size), fr ≤ i → i < fin → isDig s[i]
  stop : ∀ h : fin < s.size, ¬ isDig s[fin]
theorem run_exists (s : ByteArray) (k : Nat) : ∀ fr, fr + k = s.size → ∃ fin, fr ≤ fin ∧ fin ≤ s.size ∧ (∀ i (h : i < s.size), fr ≤ i → i < fin → isDig s[i]) ∧ ∀ h : fin < s.size, ¬ isDig s[fin] := by
  induction k with
  | zero => intro fr h; exact ⟨fr, Nat.le_refl _, by omega, fun i _ h1 h2 => by omega, fun h => by omega⟩
  | succ k ih =>
    intro fr h
    by_cases hd : isDig (s[fr]'(by omega))
    · obtain ⟨fin, h1, h2, h3, h4⟩ := ih (fr + 1) (by omega)
      refine ⟨fin, by omega, h2, fun i hi hge hlt => ?_, h4⟩
      by_cases e : i = fr
      · subst e; exact hd
      · exact h3 i hi (by omega) hlt
    · exact ⟨fr, Nat.le_refl _, by omega, fun i _ h1 h2 => by omega, fun _ => hd⟩
theorem Scn.exists (s : ByteArray) (a : Nat) (ha : a ≤ s.size) : ∃ m fr fin, Scn s a m fr fin := by
  by_cases h : ∃ h : a < s.size, s[a].toNat = 45
  · obtain ⟨hlt, h45⟩ := h
    obtain ⟨fin, h1, h2, h3, h4⟩ := run_exists s (s.size - (a + 1)) (a + 1) (by omega)
    exact ⟨true, a + 1, fin, ha, fun _ => ⟨hlt, h45⟩, (fun h => by cases h), rfl, h1, h2, h3, h4⟩
  · obtain ⟨fin, h1, h2, h3, h4⟩ := run_exists s (s.size - a) a (by omega)
    exact ⟨false, a, fin, ha, (fun h => by cases h), fun _ hlt e => h ⟨hlt, e⟩, rfl, h1, h2, h3, h4⟩

/-- The digits of it. -/
def dgs (s : ByteArray) (fr fin : Nat) : List UInt8 := (s.extract fr fin).data.toList
theorem dgs_len (s : ByteArray) (fr fin : Nat) (h : fin ≤ s.size) : (dgs s fr fin).length = fin - fr := by
  unfold dgs
  have := @ByteArray.size_extract s fr fin
  rw [Array.length_toList]; show (s.extract fr fin).size = _; rw [this]; omega
theorem dgs_get (s : ByteArray) (fr fin j : Nat) (h : j < (dgs s fr fin).length) (h2 : fr + j < s.size) : (dgs s fr fin)[j] = s[fr + j] := by
  have h3 : j < (s.extract fr fin).size := by unfold dgs at h; rw [Array.length_toList] at h; exact h
  have := @ByteArray.getElem_extract j s fr fin h3
  rw [← this]; rfl
theorem Scn.digs {s : ByteArray} {a : Nat} {m : Bool} {fr fin : Nat} (h : Scn s a m fr fin) : ∀ c ∈ dgs s fr fin, isDig c := by
  intro c hc
  obtain ⟨j, hj, rfl⟩ := List.getElem_of_mem hc
  have hl := dgs_len s fr fin h.hfin
  have h2 : fr + j < s.size := by have := h.hfin; omega
  rw [dgs_get s fr fin j hj h2]
  exact h.dig _ h2 (by omega) (by omega)

/-- The digits stand as in some number's text. -/
def well (l : List UInt8) (m : Bool) : Prop := l ≠ [] ∧ ∀ c, l.head? = some c → c.toNat = 48 → l.length = 1 ∧ m = false
/-- How far from 0 a number may be. -/
def top (m : Bool) : Nat := if m then 9223372036854775808 else 9223372036854775807
def sgn (m : Bool) (u : Nat) : Int := if m then -(u : Int) else (u : Int)
open Classical in
/-- What is answered: the number, the place behind it, the code. -/
noncomputable def scanT (l : List UInt8) (m : Bool) (fin : Nat) : Int × Int × Int :=
  if well l m then (if val l ≤ top m then (sgn m (val l), (fin : Int), 0) else (0, 0, 2)) else (0, 0, 12)
theorem scanT_bad {l : List UInt8} {m : Bool} {fin : Nat} (h : ¬ well l m) : scanT l m fin = (0, 0, 12) := by unfold scanT; rw [if_neg h]
theorem scanT_range {l : List UInt8} {m : Bool} {fin : Nat} (h : well l m) (h2 : ¬ val l ≤ top m) : scanT l m fin = (0, 0, 2) := by unfold scanT; rw [if_pos h, if_neg h2]
theorem scanT_ok {l : List UInt8} {m : Bool} {fin : Nat} (h : well l m) (h2 : val l ≤ top m) : scanT l m fin = (sgn m (val l), (fin : Int), 0) := by unfold scanT; rw [if_pos h, if_pos h2]
end Go.Proofs.YtmckplgbaalpbaaDoor.Deci
