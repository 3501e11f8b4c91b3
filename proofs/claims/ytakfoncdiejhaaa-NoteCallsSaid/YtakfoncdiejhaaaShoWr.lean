
/- What a writer is; numbers, virtual registers, and what parts two of a row, written. -/
import Derived.Test.YtakfoncdiejhaaaShoBld
import Derived.Test.YtakfoncdiejhaaaShoMath
import Derived.Deep.RegionHeld3
import Derived.BigQuiet
namespace Go.Proofs.Ytakfoncdiejhaaa
open Go.ChangeShapes Go.WideShapes Go.RowKit
set_option linter.unusedVariables false
set_option maxRecDepth 20000

/-- The writer in block b has written l; what was there ahead of the call is as it was. -/
def Wr (w0 : World) (b : Nat) (l : List UInt8) (W : World) : Prop := Lib.IsBuilder 77 5 w0.heap.size b (Lib.byteCells l) W ∧ Below w0.heap.size w0 W
theorem Wr.below {w0 W W' : World} {b : Nat} {l : List UInt8} (h : Wr w0 b l W) (hb : Below W.heap.size W W') : Wr w0 b l W' :=
  ⟨built_below h.1 hb, h.2.trans (hb.mono h.2.size)⟩
theorem Wr.drew {w0 W : World} {b : Nat} {l : List UInt8} (h : Wr w0 b l W) : Wr w0 b l W.drew := h.below (Below.refl _ W).drew
theorem Wr.alloc {w0 W : World} {b : Nat} {l : List UInt8} (h : Wr w0 b l W) (o : Obj) : Wr w0 b l (W.alloc o) := h.below ((Below.refl _ W).alloc (Nat.le_refl _) o)
theorem Keeps.drew {W : World} : Keeps W W.drew := Keeps.below (Below.refl _ W).drew
/-- What a call that writes answers. -/
def Wrote (w0 : World) (b : Nat) (t : List UInt8) (W : World) (w' : World) : Prop := Wr w0 b t w' ∧ Keeps W w'
theorem Wrote.from {w0 W0 W w' : World} {b : Nat} {t : List UInt8} (h : Wrote w0 b t W w') (hb : Below W0.heap.size W0 W) : Wrote w0 b t W0 w' := ⟨h.1, (Keeps.below hb).trans h.2⟩
theorem Wrote.next {w0 W0 W w' : World} {b : Nat} {s t : List UInt8} (h : Wrote w0 b s W0 W) (k : Wrote w0 b t W w') : Wrote w0 b t W0 w' := ⟨k.1, h.2.trans k.2⟩
theorem Wr.wrote {w0 W : World} {b : Nat} {l : List UInt8} (h : Wr w0 b l W) : Wrote w0 b l W W := ⟨h, Keeps.refl _⟩
theorem size_list (s : ByteArray) : s.data.toList.length = s.size := by rw [Array.length_toList]; rfl
theorem byte_cell (l : List UInt8) (c : UInt8) : Lib.byteCells (l ++ [c]) = Lib.byteCells l ++ [.int .u8 (c.toNat : Int)] := by simp [Lib.byteCells]
def big : Nat := 140737488355328
theorem write_s (w0 : World) (b : Nat) (l t : List UInt8) (s : ByteArray) (W : World) (h : Wr w0 b l W) (ht : l ++ s.data.toList = t) (hlen : t.length ≤ big) :
    Calls Try.prog 16 #[.pointer (some ⟨b, 0, none⟩), .string s] W fun e w' => e = .returned (.tuple #[.int .i64 s.size, .nilIface]) ∧ Wrote w0 b t W w' := by
  refine (write_v w0.heap.size b (Lib.byteCells l) s W h.1 (by rw [Lib.byteCells_length]; rw [← ht, List.length_append, size_list] at hlen; exact hlen) h.2.size).mono ?_
  rintro e w' ⟨rfl, h1, h2, h3⟩
  refine ⟨rfl, ⟨.inr ?_, h.2.trans h2⟩, h3⟩
  rw [← ht, Lib.byteCells_append, ← Lib.strCells_eq]; exact h1
theorem write_b (w0 : World) (b : Nat) (l t : List UInt8) (c : UInt8) (z : Int) (W : World) (h : Wr w0 b l W) (hz : (c.toNat : Int) = z) (ht : l ++ [c] = t) (hlen : t.length ≤ big) :
    Calls Try.prog 17 #[.pointer (some ⟨b, 0, none⟩), .int .u8 z] W fun e w' => e = .returned .nilIface ∧ Wrote w0 b t W w' := by
  refine (byte_v w0.heap.size b (Lib.byteCells l) z W h.1 (by rw [Lib.byteCells_length]; rw [← ht, List.length_append] at hlen; exact hlen) h.2.size).mono ?_
  rintro e w' ⟨rfl, h1, h2, h3⟩
  refine ⟨rfl, ⟨.inr ?_, h.2.trans h2⟩, h3⟩
  rw [← ht, byte_cell, hz]; exact h1
theorem txt_le (n : Int) (h : Deci.fit n) : (Deci.txt n).length ≤ 20 := Deci.txt_len n h.1 h.2
set_option maxHeartbeats 1000000 in
theorem number_v (w0 : World) (b : Nat) (l t : List UInt8) (n : Int) (W : World) (h : Wr w0 b l W) (hf : Deci.fit n) (ht : l ++ Deci.txt n = t) (hlen : t.length ≤ big) :
    Calls Try.prog 38 #[.pointer (some ⟨b, 0, none⟩), .int .i64 n] W fun e w' => e = .returned (.tuple #[]) ∧ Wrote w0 b t W w' := by
  obtain ⟨x, hx⟩ : ∃ x, Deci.txt n = x := ⟨_, rfl⟩
  have HP := Lib.hid (And.intro h (And.intro hf (And.intro hx (And.intro (show l ++ (ByteArray.mk x.toArray).data.toList = t by rw [← hx]; exact ht) hlen))))
  clear h hf ht hlen hx
  go_enter Try.func38, Try.ntmps38
  go_wp2_with fail
  go_region_held3 (fun _ => True) (exact trivial)
    (first
      | (go_at_call 16; (refine (write_s w0 b l t _ w1 H1.out.1 HP.out.2.2.2.1 HP.out.2.2.2.2).mono ?_); rintro e w2 ⟨rfl, h2⟩; have H2 := Lib.hid h2; clear h2)
      | (go_at_call 29; (refine (Deci.put_v n x HP.out.2.2.1 HP.out.2.1 W.drew).mono ?_); rintro e w1 ⟨rfl, hb⟩; have H1 := Lib.hid (And.intro (HP.out.1.drew.below hb) (Keeps.drew.trans (Keeps.below hb))); clear hb))
  go_wp2_with fail
  go_end0
  exact ⟨rfl, H2.out.1, H1.out.2.trans H2.out.2⟩
set_option maxHeartbeats 1000000 in
theorem vreg_v (w0 : World) (b : Nat) (l t : List UInt8) (n : Int) (W : World) (h : Wr w0 b l W) (hf : Deci.fit n) (ht : l ++ vregT n = t) (hlen : t.length ≤ big) :
    Calls Try.prog 36 #[.pointer (some ⟨b, 0, none⟩), .int .i64 n] W fun e w' => e = .returned (.tuple #[]) ∧ Wrote w0 b t W w' := by
  have h1 : (l ++ [37]) ++ Deci.txt n = t := by rw [← ht]; simp [vregT]
  have h2 : (l ++ [37]).length ≤ big := by rw [← h1, List.length_append] at hlen; omega
  have HP := Lib.hid (And.intro h (And.intro hf (And.intro h1 (And.intro h2 hlen))))
  clear h hf ht hlen h1 h2
  go_enter Try.func36, Try.ntmps36
  go_wp2_with fail
  refine (write_b w0 b l (l ++ [37]) 37 37 _ HP.out.1 rfl rfl HP.out.2.2.2.1).mono ?_
  rintro e w1 ⟨rfl, h1⟩
  have H1 := Lib.hid h1
  clear h1
  go_wp2_with fail
  refine (number_v w0 b (l ++ [37]) t n _ H1.out.1 HP.out.2.1 HP.out.2.2.1 HP.out.2.2.2.2).mono ?_
  rintro e w2 ⟨rfl, h2⟩
  have H2 := Lib.hid h2
  clear h2
  go_wp2_with fail
  go_end0
  exact ⟨rfl, H1.out.next H2.out⟩
end Go.Proofs.Ytakfoncdiejhaaa
