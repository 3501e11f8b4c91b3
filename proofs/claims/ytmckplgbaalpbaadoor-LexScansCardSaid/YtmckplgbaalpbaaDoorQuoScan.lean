/- What the program's Scan answers. -/
import Derived.Test.YtmckplgbaalpbaaDoorQuoPut
namespace Go.Proofs.YtmckplgbaalpbaaDoor.Quo
open Go.ChangeShapes Go.WideShapes Go.RowKit
set_option linter.unusedVariables false

/-- A text, a place and a code handed back. -/
def E3 (x : List UInt8) (y : Nat) (c : Int) : Ending := .returned (.tuple #[.string ⟨x.toArray⟩, .int .i64 (y : Int), .int .i64 c])
theorem ret_E3 {x x' : List UInt8} {y : Nat} {z c c' : Int} (h1 : x = x') (h2 : z = (y : Int)) (h3 : c = c') : Ending.returned (.tuple #[.string ⟨x.toArray⟩, .int .i64 z, .int .i64 c]) = E3 x' y c' := by
  subst h1 h2 h3; rfl
theorem from_run (s : ByteArray) (n : Nat) (h : n ≤ s.size) (W : World) :
    (Instr.slice 9 (.string s) (some (.int .i64 (n : Int))) none none).run Tryd.prog W = .ok (.string (s.extract n s.size)) W := by
  rw [run_slice_string_from_if W 9 s .i64 _ Tryd.underlying9, if_pos (by omega), show ((n : Int)).toNat = n by omega]
theorem extract_list (s : ByteArray) (n : Nat) : (s.extract n s.size).data.toList = s.data.toList.drop n := by
  rw [ByteArray.data_extract]; simp
  rw [List.take_of_length_le]; rw [List.length_drop]; exact Nat.le_refl _
theorem extract_size (s : ByteArray) (n : Nat) : (s.extract n s.size).size = s.size - n := by
  rw [ByteArray.size_extract]; omega
theorem piece_z (s : ByteArray) (n : Nat) (z : Int) (h0 : n < s.size) (b : UInt8) (m : Nat) (hz : (m : Int) = z) (hp : piece (s.data.toList.drop n) = (b, m)) (w : World) :
    Calls Tryd.prog 63 #[.string (s.extract n s.size)] w fun e w' => e = .returned (.tuple #[.int .u8 (b.toNat : Int), .int .i64 z]) ∧ w = w' := by
  subst hz
  exact piece_v _ (by rw [extract_size]; omega) b m (by rw [extract_list]; exact hp) w
theorem scan_arg (s : ByteArray) (a : Nat) (hs : s.size ≤ 100000) (h : ∀ h : a < s.size, s[a].toNat ≠ 34) (w : World) :
    Calls Tryd.prog 52 #[.string s, .int .i64 (a : Int)] w fun e w' => e = E3 [] 0 1 ∧ w = w' := by
  by_cases h0 : a < s.size
  · have h1 : ((s[a].toNat : Int) == 34) = false := nat_bne (h h0)
    have h2 : ((s[a].toNat : Int) != 34) = true := by rw [bne, h1]; rfl
    have h3 : (a : Int) < (s.size : Int) := by omega
    have h4 : decide ((s.size : Int) ≤ (a : Int)) = false := by rw [decide_eq_false_iff_not]; omega
    clear h
    go_enter Tryd.func52, Tryd.ntmps52
    go_wp2_with fail
    go_ret3
    exact ⟨rfl, rfl⟩
  · have h3 : (s.size : Int) ≤ (a : Int) := by omega
    have h4 : s.size ≤ a := by omega
    clear h h0
    go_enter Tryd.func52, Tryd.ntmps52
    go_wp2_with fail
    go_ret3
    exact ⟨rfl, rfl⟩
theorem is34 {c : UInt8} (h : c.toNat = 34) : c = 34 := (byte_is _ 34 (by decide)).2 h
theorem is10 {c : UInt8} (h : c.toNat = 10) : c = 10 := (byte_is _ 10 (by decide)).2 h
theorem not34 {c : UInt8} (h : c.toNat ≠ 34) : ¬ c = 34 := fun k => h ((byte_is _ 34 (by decide)).1 k)
theorem not10 {c : UInt8} (h : c.toNat ≠ 10) : ¬ c = 10 := fun k => h ((byte_is _ 10 (by decide)).1 k)
/-- What holds at a round's head. -/
def Sc (s : ByteArray) (w wr : World) (n : Nat) (A : Option Addr) (c : Nat) (t x : List UInt8) (y : Nat) (e : Int) : Prop :=
  (∃ f, s.size ≤ n + f ∧ scan f (s.data.toList.drop n) n t = (x, y, e)) ∧ Own w.heap.size wr A c t ∧ Below w.heap.size w wr
theorem Sc.fin {s : ByteArray} {w wr : World} {A : Option Addr} {c : Nat} {t x : List UInt8} {y : Nat} {e : Int} (h : Sc s w wr s.size A c t x y e) : x = [] ∧ y = s.size ∧ e = 11 := by
  obtain ⟨⟨f, _, h⟩, _⟩ := h
  rw [List.drop_eq_nil_of_le (by rw [len_list]; omega)] at h
  cases f with
  | zero => simp [scan] at h; obtain ⟨h1, h2, h3⟩ := h; exact ⟨h1, h2.symm, h3.symm⟩
  | succ f => simp [scan] at h; obtain ⟨h1, h2, h3⟩ := h; exact ⟨h1, h2.symm, h3.symm⟩
theorem Sc.open {s : ByteArray} {w wr : World} {n : Nat} {A : Option Addr} {c : Nat} {t x : List UInt8} {y : Nat} {e : Int} (h : Sc s w wr n A c t x y e) (hn : n < s.size) :
    ∃ f, s.size ≤ n + (f + 1) ∧ scan (f + 1) (s[n] :: s.data.toList.drop (n + 1)) n t = (x, y, e) := by
  obtain ⟨⟨f, h1, h⟩, _⟩ := h
  obtain ⟨g, rfl⟩ : ∃ g, f = g + 1 := ⟨f - 1, by omega⟩
  rw [drop_cons s n hn] at h
  exact ⟨g, h1, h⟩
theorem Sc.quote {s : ByteArray} {w wr : World} {n : Nat} {A : Option Addr} {c : Nat} {t x : List UInt8} {y : Nat} {e : Int} (h : Sc s w wr n A c t x y e) (hn : n < s.size) (hq : s[n].toNat = 34) :
    t = x ∧ n + 1 = y ∧ 0 = e := by
  obtain ⟨f, _, h⟩ := h.open hn
  rw [scan, if_pos (is34 hq)] at h
  injection h with h1 h; injection h with h2 h3; exact ⟨h1, h2, h3⟩
theorem Sc.line {s : ByteArray} {w wr : World} {n : Nat} {A : Option Addr} {c : Nat} {t x : List UInt8} {y : Nat} {e : Int} (h : Sc s w wr n A c t x y e) (hn : n < s.size) (hq : s[n].toNat = 10) :
    [] = x ∧ n = y ∧ 11 = e := by
  obtain ⟨f, _, h⟩ := h.open hn
  have e1 : s[n] = 10 := is10 hq
  rw [scan, if_neg (by rw [e1]; decide), if_pos e1] at h
  injection h with h1 h; injection h with h2 h3; exact ⟨h1, h2, h3⟩
theorem Sc.long {s : ByteArray} {w wr : World} {n : Nat} {A : Option Addr} {c : Nat} {t x : List UInt8} {y : Nat} {e : Int} (h : Sc s w wr n A c t x y e) (hn : n < s.size) (h1 : s[n].toNat ≠ 34) (h2 : s[n].toNat ≠ 10) (h3 : t.length = 64) :
    [] = x ∧ n = y ∧ 3 = e := by
  obtain ⟨f, _, h⟩ := h.open hn
  rw [scan, if_neg (not34 h1), if_neg (not10 h2), if_pos h3] at h
  injection h with h1 h; injection h with h2 h3; exact ⟨h1, h2, h3⟩
theorem Sc.bad {s : ByteArray} {w wr : World} {n : Nat} {A : Option Addr} {c : Nat} {t x : List UInt8} {y : Nat} {e : Int} (h : Sc s w wr n A c t x y e) (hn : n < s.size) (h1 : s[n].toNat ≠ 34) (h2 : s[n].toNat ≠ 10) (h3 : t.length ≠ 64)
    {b : UInt8} (hp : piece (s.data.toList.drop n) = (b, 0)) : [] = x ∧ n = y ∧ 11 = e := by
  obtain ⟨f, _, h⟩ := h.open hn
  rw [drop_cons s n hn] at hp
  rw [scan, if_neg (not34 h1), if_neg (not10 h2), if_neg h3, hp, if_pos rfl] at h
  injection h with h1 h; injection h with h2 h3; exact ⟨h1, h2, h3⟩
theorem Sc.step {s : ByteArray} {w wr w' : World} {n : Nat} {A A' : Option Addr} {c c' : Nat} {t t' x : List UInt8} {y : Nat} {e : Int} (h : Sc s w wr n A c t x y e) (hn : n < s.size) (h1 : s[n].toNat ≠ 34) (h2 : s[n].toNat ≠ 10) (h3 : t.length ≠ 64)
    {b : UInt8} {m n' : Nat} (hp : piece (s.data.toList.drop n) = (b, m)) (hm : m ≠ 0) (hn' : n' = n + m) (ht : t' = t ++ [b]) (ho : Own w.heap.size w' A' c' t') (hb : Below w.heap.size w w') : Sc s w w' n' A' c' t' x y e := by
  subst hn' ht
  obtain ⟨f, hf, h⟩ := h.open hn
  rw [drop_cons s n hn] at hp
  rw [scan_step f _ _ n t (not34 h1) (not10 h2) h3 b m hp hm, ← drop_cons s n hn, List.drop_drop] at h
  exact ⟨⟨f, by omega, h⟩, ho, hb⟩
end Go.Proofs.YtmckplgbaalpbaaDoor.Quo
