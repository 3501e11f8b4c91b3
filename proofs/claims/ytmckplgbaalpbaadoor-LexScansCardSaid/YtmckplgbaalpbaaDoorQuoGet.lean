/- What the program's Scan at any place, and Get, answer. -/
import Derived.Test.YtmckplgbaalpbaaDoorQuoScanB
namespace Go.Proofs.YtmckplgbaalpbaaDoor.Quo
open Go.ChangeShapes Go.WideShapes Go.RowKit
set_option linter.unusedVariables false

/-- What stands between the quotes that begin at a place. -/
def scanL (n a : Nat) : List UInt8 → List UInt8 × Nat × Int
  | [] => ([], 0, 1)
  | c :: r => if c = 34 then scan n r (a + 1) [] else ([], 0, 1)
def scanAt (s : ByteArray) (a : Nat) : List UInt8 × Nat × Int := scanL s.size a (s.data.toList.drop a)
theorem scan_any (s : ByteArray) (a : Nat) (x : List UInt8) (y : Nat) (e : Int) (hs : s.size ≤ 100000) (hR : scanAt s a = (x, y, e)) (w : World) :
    Calls Tryd.prog 52 #[.string s, .int .i64 (a : Int)] w fun e1 w' => e1 = .returned (.tuple #[.string ⟨x.toArray⟩, .int .i64 (y : Int), .int .i64 e]) ∧ Below w.heap.size w w' := by
  unfold scanAt at hR
  by_cases ha : a < s.size
  · rw [drop_cons s a ha] at hR
    unfold scanL at hR
    by_cases hq : s[a] = 34
    · simp only [hq, if_true] at hR
      exact scan_v s a x y e hs ha (by rw [hq]; rfl) hR w
    · simp only [hq, if_false] at hR
      injection hR with h1 hR; injection hR with h2 h3; subst h1 h2 h3
      exact (scan_arg s a hs (fun _ k => hq (is34 k)) w).mono (fun e1 w' ⟨h, k⟩ => ⟨h, k ▸ Below.refl _ _⟩)
  · rw [List.drop_eq_nil_of_le (by rw [len_list]; omega)] at hR
    unfold scanL at hR
    injection hR with h1 hR; injection hR with h2 h3; subst h1 h2 h3
    exact (scan_arg s a hs (fun h => absurd h ha) w).mono (fun e1 w' ⟨h, k⟩ => ⟨h, k ▸ Below.refl _ _⟩)
theorem scan_z (s : ByteArray) (a : Nat) (z : Int) (hz : (a : Int) = z) (x : List UInt8) (y : Nat) (e : Int) (hs : s.size ≤ 100000) (hR : scanAt s a = (x, y, e)) (w : World) :
    Calls Tryd.prog 52 #[.string s, .int .i64 z] w fun e1 w' => e1 = .returned (.tuple #[.string ⟨x.toArray⟩, .int .i64 (y : Int), .int .i64 e]) ∧ Below w.heap.size w w' := by
  subst hz; exact scan_any s a x y e hs hR w
/-- What Get makes of that. -/
def getT (n : Nat) (t : List UInt8 × Nat × Int) : List UInt8 × Int := if t.2.2 = 0 then (if t.2.1 < n then ([], 11) else (t.1, 0)) else ([], t.2.2)
theorem scanL_out (n a : Nat) (l : List UInt8) (x : List UInt8) (y : Nat) (c : Int) (h : scanL n a l = (x, y, c)) : x.length ≤ 64 ∧ (c ≠ 0 → x = []) := by
  unfold scanL at h
  split at h
  · injection h with h1 h; subst h1; simp
  · split at h
    · exact scan_out _ _ _ _ _ _ _ (by simp) h
    · injection h with h1 h; subst h1; simp
/-- What is put stands somewhere. -/
theorem scanAt_put (s : ByteArray) (A B : List UInt8) (l : List UInt8) (hs : s.data.toList = A ++ (put l ++ B)) (hl : l.length ≤ 64) : scanAt s A.length = (l, A.length + (put l).length, 0) := by
  have hsz : s.size = A.length + ((put l).length + B.length) := by rw [← len_list, hs, List.length_append, List.length_append]
  have hb : l.length ≤ (body l).length := by
    clear hs hsz hl
    induction l with
    | nil => simp
    | cons c l ih => have := one_len c; unfold body at ih ⊢; rw [List.flatMap_cons, List.length_append, List.length_cons]; omega
  have hp : (put l).length = (body l).length + 2 := by unfold put; simp
  unfold scanAt
  rw [hs, List.drop_left]
  show scanL s.size A.length (34 :: (body l ++ [34]) ++ B) = _
  rw [List.cons_append]
  unfold scanL
  simp only [if_true]
  rw [List.append_assoc, show [34] ++ B = 34 :: B from rfl, scan_body l s.size B _ _ (by omega) (by simp; omega), hp]
  simp; omega
theorem scanAt_long (s : ByteArray) (A B : List UInt8) (l : List UInt8) (hs : s.data.toList = A ++ (put l ++ B)) (hl : 64 < l.length) : ∃ q, scanAt s A.length = ([], q, 3) := by
  have hsz : s.size = A.length + ((put l).length + B.length) := by rw [← len_list, hs, List.length_append, List.length_append]
  have hb : l.length ≤ (body l).length := by
    clear hs hsz hl
    induction l with
    | nil => simp
    | cons c l ih => have := one_len c; unfold body at ih ⊢; rw [List.flatMap_cons, List.length_append, List.length_cons]; omega
  have hp : (put l).length = (body l).length + 2 := by unfold put; simp
  unfold scanAt
  rw [hs, List.drop_left]
  show ∃ q, scanL s.size A.length (34 :: (body l ++ [34]) ++ B) = _
  rw [List.cons_append]
  unfold scanL
  simp only [if_true]
  rw [List.append_assoc, show [34] ++ B = 34 :: B from rfl]
  exact scan_body_long l s.size B _ _ (by omega) (by simp) (by simp; omega)
end Go.Proofs.YtmckplgbaalpbaaDoor.Quo
