/- What the program's Put, Long and Pad answer: a number's text, how long it is, and with blanks ahead. -/
import Derived.Test.YtncdppdlklffpaaLaid
import Derived.Test.YtncdppdlklffpaaShelf
namespace Go.Proofs.Ytncdppdlklffpaa
open Go.ChangeShapes Go.WideShapes Go.RowKit
set_option linter.unusedVariables false

theorem laid_v (n : Int) (l : List UInt8) (hl : txt n = l) (h : fit n) (w : World) :
    Calls Try.prog 16 #[.int .i64 n] w fun e w' => e = .returned (.slice (some ⟨w.heap.size, 20 - l.length, none⟩) l.length l.length) ∧ Row w' w.heap.size l ∧ Below w.heap.size w w' := by
  subst hl; exact laid_is n h w
theorem row_convert {w : World} {g : Nat} {l : List UInt8} (h : Row w g l) :
    (convert 34 9 (.slice (some ⟨g, 20 - l.length, none⟩) l.length l.length)).run Try.prog w = .ok (.string ⟨l.toArray⟩) w := by
  refine run_convert_bytes_back w 34 9 5 _ l.length l Try.underlying34 Try.underlying5 Try.underlying9 (fun j hj => ?_)
  rw [← h.at j hj]
  unfold Addr.add
  split
  · subst_vars; simp
  · rfl
theorem put_v (n : Int) (l : List UInt8) (hl : txt n = l) (h : fit n) (w : World) :
    Calls Try.prog 7 #[.int .i64 n] w fun e w' => e = .returned (.string ⟨l.toArray⟩) ∧ Below w.heap.size w w' := by
  have HL := Lib.hid hl
  have HF := Lib.hid h
  clear hl h
  go_enter Try.func7, Try.ntmps7
  go_wp2_with fail
  refine (laid_v n l HL.out HF.out _).mono ?_
  rintro e w1 ⟨rfl, hr, hb⟩
  have hconv := row_convert hr
  have HR := Lib.hid hr
  have HB := Lib.hid hb
  clear hr hb
  go_wp2_with fail
  go_ret
  exact ⟨rfl, HB.out⟩
theorem long_v (n : Int) (l : List UInt8) (hl : txt n = l) (h : fit n) (w : World) :
    Calls Try.prog 11 #[.int .i64 n] w fun e w' => e = .returned (.int .i64 (l.length : Int)) ∧ Below w.heap.size w w' := by
  have HL := Lib.hid hl
  have HF := Lib.hid h
  clear hl h
  go_enter Try.func11, Try.ntmps11
  go_wp2_with fail
  refine (laid_v n l HL.out HF.out _).mono ?_
  rintro e w1 ⟨rfl, hr, hb⟩
  have HB := Lib.hid hb
  clear hr hb
  go_wp2_with fail
  go_ret
  exact ⟨rfl, HB.out⟩

/-- A text with blanks ahead, of so many bytes at least. -/
def pad (l : List UInt8) (wide : Int) : List UInt8 := List.replicate (wide.toNat - l.length) 32 ++ l
theorem repeat_blank (c : Nat) : Lib.repeatL [32] c = List.replicate c 32 := by
  induction c with
  | zero => rfl
  | succ c ih => rw [List.replicate_succ, ← ih]; rfl
theorem pad_short (n wide : Int) (l : List UInt8) (hl : txt n = l) (h : fit n) (hw : wide ≤ (l.length : Int)) (w : World) :
    Calls Try.prog 9 #[.int .i64 n, .int .i64 wide] w fun e w' => e = .returned (.string ⟨(pad l wide).toArray⟩) ∧ Below w.heap.size w w' := by
  have ep : pad l wide = l := by unfold pad; rw [show wide.toNat - l.length = 0 by omega]; simp
  rw [ep]
  have HL := Lib.hid hl
  have HF := Lib.hid h
  clear hl h ep
  go_enter Try.func9, Try.ntmps9
  go_wp2_with fail
  refine (put_v n l HL.out HF.out _).mono ?_
  rintro e w1 ⟨rfl, hb⟩
  have HB := Lib.hid hb
  clear hb
  go_wp2_with fail
  go_ret
  exact ⟨rfl, HB.out⟩
theorem repeat_v (c : Nat) (x : List UInt8) (hx : List.replicate c 32 = x) (hc : c ≤ 300) (w : World) :
    Calls Try.prog 18 #[.string ⟨#[32]⟩, .int .i64 (c : Int)] w fun e w' => e = .returned (.string ⟨x.toArray⟩) ∧ Below w.heap.size w w' := by
  subst hx
  have k := Try.strings_Repeat ⟨#[32]⟩ c w (by omega) (by show 1 * c ≤ _; omega)
  rw [← repeat_blank c]
  exact k
theorem ret_cat (x l : List UInt8) : Ending.returned (.string (ByteArray.mk x.toArray ++ ByteArray.mk l.toArray)) = .returned (.string ⟨(x ++ l).toArray⟩) := by rw [ByteArray.mk_append_mk]
theorem pad_long (n wide : Int) (l : List UInt8) (hl : txt n = l) (h : fit n) (hw : (l.length : Int) < wide) (hw2 : wide ≤ 300) (w : World) :
    Calls Try.prog 9 #[.int .i64 n, .int .i64 wide] w fun e w' => e = .returned (.string ⟨(pad l wide).toArray⟩) ∧ Below w.heap.size w w' := by
  obtain ⟨c, hc⟩ : ∃ c : Nat, wide - (l.length : Int) = (c : Int) := ⟨(wide - l.length).toNat, by omega⟩
  obtain ⟨x, hx⟩ : ∃ x, List.replicate c (32 : UInt8) = x := ⟨_, rfl⟩
  have hxl : x.length = c := by rw [← hx]; simp
  have ep : pad l wide = x ++ l := by unfold pad; rw [show wide.toNat - l.length = c by omega, hx]
  rw [ep]
  have hll : l.length ≤ 300 := by omega
  have hcl : c ≤ 300 := by omega
  have hxl' : x.length ≤ 300 := by omega
  have HL := Lib.hid hl
  have HF := Lib.hid h
  have HX := Lib.hid hx
  have HC := Lib.hid hc
  clear hl h ep hx hc hxl
  go_enter Try.func9, Try.ntmps9
  go_wp2_with fail
  refine (put_v n l HL.out HF.out _).mono ?_
  rintro e w1 ⟨rfl, hb⟩
  have HB := Lib.hid hb
  clear hb
  have hd : decide (wide ≤ (l.length : Int)) = false := by rw [decide_eq_false_iff_not]; omega
  go_wp2_with fail
  rw [HC.out]
  refine (repeat_v c x HX.out hcl _).mono ?_
  rintro e w2 ⟨rfl, hb2⟩
  have HB2 := Lib.hid hb2
  clear hb2
  go_wp2_with fail
  go_ret
  exact ⟨ret_cat x l, HB.out.trans (HB2.out.mono HB.out.size)⟩
theorem pad_v (n wide : Int) (l : List UInt8) (hl : txt n = l) (h : fit n) (hw2 : wide ≤ 300) (w : World) :
    Calls Try.prog 9 #[.int .i64 n, .int .i64 wide] w fun e w' => e = .returned (.string ⟨(pad l wide).toArray⟩) ∧ Below w.heap.size w w' := by
  by_cases hw : wide ≤ (l.length : Int)
  · exact pad_short n wide l hl h hw w
  · exact pad_long n wide l hl h (by omega) hw2 w
end Go.Proofs.Ytncdppdlklffpaa
