/- What the program's below answers: blanks below bytes, and bytes 9 below bytes 9. -/
import Derived.Test.YtnmpaidllhijnaaRune
import Derived.Laws.IdiomStrings
namespace Go.Proofs.Ytnmpaidllhijnaa
open Go.ChangeShapes Go.WideShapes Go.RowKit
set_option linter.unusedVariables false

/-- The block g begins with the bytes l, and these may be written. -/
def Bys (w : World) (g : Nat) (l : List UInt8) : Prop := ∀ j (hj : j < l.length), w.cell? ⟨g, j, none⟩ = some (.int .u8 (l[j].toNat : Int)) ∧ w.frozen? ⟨g, j, none⟩ = false
theorem add_zero (g j : Nat) : (⟨g, 0, none⟩ : Addr).add j = ⟨g, j, none⟩ := by unfold Addr.add; split <;> simp_all
theorem bytes_run (s : ByteArray) (w : World) : ∃ cap W1, (convert 9 41 (.string s)).run Try.prog w = .ok (.slice (some ⟨w.heap.size, 0, none⟩) s.size cap) W1 ∧ Bys W1 w.heap.size s.data.toList ∧ Below w.heap.size w W1 := by
  refine ⟨_, _, run_bytes_of_string w 9 41 5 s Try.underlying9 Try.underlying41 Try.underlying5, ?_, (Below.refl _ w).drew.alloc (Nat.le_refl _) _⟩
  intro j hj
  rw [size_list] at hj
  refine ⟨?_, ?_⟩
  · show (w.drew.alloc _).cell? ⟨w.drew.heap.size, j, none⟩ = _
    rw [World.cell?_alloc_mark, bytesRow_at s _ j hj]
    rfl
  · show (w.drew.alloc _).frozen? ⟨w.drew.heap.size, j, none⟩ = _
    rw [World.frozen?_alloc_mark]
    have : ¬ (bytesRow s (grownCap w s.size 0 5)).size ≤ j := by
      have : j < s.data.size := hj
      unfold bytesRow; rw [Array.size_append, Array.size_map]; omega
    simp [this]
theorem Bys.set {w : World} {g : Nat} {l : List UInt8} (h : Bys w g l) (i : Nat) (hi : i < l.length) : Bys (w.setCell ⟨g, i, none⟩ (.int .u8 32)) g (l.set i 32) := by
  intro j hj0
  have hj : j < l.length := by rw [List.length_set] at hj0; exact hj0
  rw [World.frozen?_setCell]
  refine ⟨?_, (h j hj).2⟩
  by_cases e : j = i
  · subst e
    rw [World.cell?_setCell_same (h := (h j hj).1), List.getElem_set_self]; rfl
  · rw [World.cell?_setCell_other (h := fun e' => by apply e; injection e' with _ e2 _; exact e2.symm), (h j hj).1, List.getElem_set_ne (Ne.symm e)]
theorem Bys.back {w : World} {g : Nat} {l : List UInt8} (h : Bys w g l) (cap : Nat) : (convert 41 9 (.slice (some ⟨g, 0, none⟩) l.length cap)).run Try.prog w = .ok (.string ⟨l.toArray⟩) w :=
  run_convert_bytes_back w 41 9 5 _ cap l Try.underlying41 Try.underlying5 Try.underlying9 (fun j hj => by rw [add_zero]; exact (h j hj).1)
/-- So far the bytes l have been gone through. -/
def part (l : List UInt8) (i : Nat) : List UInt8 := blank (l.take i) ++ l.drop i
theorem part_len (l : List UInt8) (i : Nat) (h : i ≤ l.length) : (part l i).length = l.length := by
  unfold part; rw [List.length_append, blank_len, List.length_take, List.length_drop]; omega
theorem part_at (l : List UInt8) (i : Nat) (h : i < l.length) (h' : i < (part l i).length) : (part l i)[i] = l[i] := by
  have e : (blank (l.take i)).length = i := by rw [blank_len, List.length_take]; omega
  have : (part l i)[i]? = some l[i] := by
    unfold part
    rw [List.getElem?_append_right (by omega), e, Nat.sub_self, List.getElem?_drop, Nat.add_zero, List.getElem?_eq_getElem h]
  rw [List.getElem?_eq_getElem h'] at this
  exact Option.some.inj this
theorem part_nine (l : List UInt8) (i : Nat) (h : i < l.length) (h9 : l[i] = 9) : part l (i + 1) = part l i := by
  unfold part
  rw [blank_take l i h, if_pos h9, List.drop_eq_getElem_cons h, h9]; simp
theorem part_else (l : List UInt8) (i : Nat) (h : i < l.length) (h9 : l[i] ≠ 9) : part l (i + 1) = (part l i).set i 32 := by
  unfold part
  have e : (blank (l.take i)).length = i := by rw [blank_len, List.length_take]; omega
  rw [blank_take l i h, if_neg h9, List.set_append_right _ _ (by omega), e, List.drop_eq_getElem_cons h, Nat.sub_self, List.set_cons_zero, List.append_assoc]; rfl
theorem part_zero (l : List UInt8) : part l 0 = l := by simp [part, blank]
theorem part_all (l : List UInt8) : part l l.length = blank l := by simp [part]
set_option maxRecDepth 100000 in
set_option maxHeartbeats 1000000 in
theorem fill_v (s : ByteArray) (x : List UInt8) (hs : s.size ≤ 1000000) (hx : blank s.data.toList = x) (w : World) :
    Calls Try.prog 18 #[.string s] w fun e w' => e = .returned (.string ⟨x.toArray⟩) ∧ Below w.heap.size w w' := by
  obtain ⟨cap, W1, hconv, hbys, hbel⟩ := bytes_run s w
  have HQ := Lib.hid (And.intro hbys (And.intro hbel hx))
  clear hbys hbel hx
  go_enter Try.func18, Try.ntmps18
  go_wp2_with fail
  clear hconv
  go_loopg [10] s.size (fun gk u wr => ∃ (i : Nat), u = .int .i64 (i : Int) ∧ i ≤ s.size ∧
    Hid (gk = s.size - i ∧ Bys wr w.heap.size (part s.data.toList i) ∧ Below w.heap.size w wr))
  case atStart => exact ⟨0, rfl, by omega, rfl, by rw [part_zero]; exact HQ.out.1, HQ.out.2.1⟩
  case round =>
    obtain ⟨i, rfl, hi, HH⟩ := hrel
    by_cases hlt : i < s.size
    · have hl : i < s.data.toList.length := by rw [size_list]; exact hlt
      have hpl : i < (part s.data.toList i).length := by rw [part_len _ _ (by omega)]; exact hl
      obtain ⟨c0, f0⟩ := HH.out.2.1 i hpl
      rw [part_at _ i hl hpl] at c0
      obtain ⟨c, hc⟩ : ∃ c : UInt8, s.data.toList[i] = c := ⟨_, rfl⟩
      rw [hc] at c0
      have t1 : decide (i < s.size) = true := by simpa using hlt
      have t2 : decide ((i : Int) < (s.size : Int)) = true := by simpa using hlt
      by_cases h9 : c = 9
      · subst h9
        have c0' : wr.cell? ⟨w.heap.size, i, none⟩ = some (.int .u8 9) := c0
        have HL := Lib.hid (And.intro hl (And.intro hlt hc))
        clear c0 hc
        go_wp2_with fail
        go_roundg (s.size - (i + 1))
        case measure => have := HH.out.1; omega
        case rel =>
          refine ⟨i + 1, rfl, by omega, rfl, ?_, HH.out.2.2⟩
          rw [part_nine _ i hl HL.out.2.2]; exact HH.out.2.1
      · have c1 : ((c.toNat : Int) != 9) = true := by
          rw [bne_iff_ne]; intro e; apply h9; apply UInt8.toNat_inj.1; show c.toNat = 9; omega
        have c2 : ¬ (c.toNat : Int) = 9 := by rw [bne_iff_ne] at c1; exact c1
        have c3 : ((c.toNat : Int) == 9) = false := by rw [beq_eq_false_iff_ne]; exact c2
        have HL := Lib.hid (And.intro hl (And.intro hlt (And.intro hc h9)))
        clear hc h9
        go_wp2_with fail
        go_roundg (s.size - (i + 1))
        case measure => have := HH.out.1; omega
        case rel =>
          refine ⟨i + 1, rfl, by omega, rfl, ?_, HH.out.2.2.setCell (Nat.le_refl _) _⟩
          rw [part_else _ i hl (by rw [HL.out.2.2.1]; exact HL.out.2.2.2)]; exact HH.out.2.1.set i hpl
    · have t1 : decide (i < s.size) = false := by simpa using hlt
      have t2 : decide ((i : Int) < (s.size : Int)) = false := by simp; omega
      have hbk := HH.out.2.1.back cap
      rw [part_len _ _ (by rw [size_list]; exact hi), size_list] at hbk
      have e : part s.data.toList i = x := by
        rw [show i = s.data.toList.length by rw [size_list]; omega, part_all]; exact HQ.out.2.2
      rw [e] at hbk
      have HE := Lib.hid e
      clear e
      go_wp2_with fail
      go_ret
      exact ⟨rfl, HH.out.2.2⟩
end Go.Proofs.Ytnmpaidllhijnaa
