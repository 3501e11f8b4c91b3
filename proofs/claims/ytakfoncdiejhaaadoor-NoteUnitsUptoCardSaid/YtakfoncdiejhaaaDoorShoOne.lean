
/- An instruction written, each way. -/
import Derived.Test.YtakfoncdiejhaaaDoorShoIns
namespace Go.Proofs.YtakfoncdiejhaaaDoor
open Go.ChangeShapes Go.WideShapes Go.RowKit
set_option linter.unusedVariables false
set_option maxRecDepth 20000

/-- An instruction whose numbers are of 64 bits, and whose lists are not too long. -/
structure InsF (i : Ins) : Prop where
  dst : OpF i.dst
  args : ∀ x ∈ i.args, OpF x
  off : Deci.fit i.off
  cases : ∀ n ∈ i.cases, Deci.fit n
  an : i.args.length ≤ 1048576
  ln : i.labels.length ≤ 1048576
  cn : i.cases.length ≤ 1048576
  nm : i.name.size ≤ 1048576
set_option maxHeartbeats 2000000 in
theorem ins_19_0 (w0 : World) (b : Nat) (l t : List UInt8) (dc dn dt : Int) (args : List Opn) (nm : ByteArray) (off : Int) (labels : List ByteArray) (cas : List Int) (aa : Option Addr) (an ac : Nat) (la : Option Addr) (ln lc : Nat) (ca : Option Addr) (cn cc : Nat) (W : World) (hG : Opr.Glob w0) (h : Wr w0 b l W) (hI : IsIns w0 ⟨19, ⟨0, dc, dn, dt⟩, args, nm, off, labels, cas⟩ ⟨aa, an, ac, la, ln, lc, ca, cn, cc⟩) (hF : InsF ⟨19, ⟨0, dc, dn, dt⟩, args, nm, off, labels, cas⟩) (ht : l ++ insT ⟨19, ⟨0, dc, dn, dt⟩, args, nm, off, labels, cas⟩ = t) (hlen : t.length ≤ big) :
    Calls Tryd.prog 63 #[.pointer (some ⟨b, 0, none⟩), .agg #[.int .i64 19, .int .i64 0, .int .i64 dc, .int .i64 dn, .int .i64 dt, .slice aa an ac, .string nm, .int .i64 off, .slice la ln lc, .slice ca cn cc]] W fun e w' => e = .returned (.tuple #[]) ∧ Wrote w0 b t W w' := by
  have hrest : restT ⟨19, ⟨0, dc, dn, dt⟩, args, nm, off, labels, cas⟩ = callT nm args := by simp [restT]
  obtain ⟨T0, hT0⟩ : ∃ T0, l = T0 := ⟨_, rfl⟩
  have t2 : T0 ++ opT 19 ++ callT nm args = t := by rw [← ht, ← hrest, ← hT0]; simp [insT, dstT]
  have n0 : T0.length ≤ big := by rw [← t2] at hlen; simp only [List.length_append] at hlen; omega
  have n1 : (T0 ++ opT 19).length ≤ big := by rw [← t2, List.length_append] at hlen; omega
  have HA := Lib.hid (And.intro (h.alloc (.cells #[.int .i64 19, .int .i64 0, .int .i64 dc, .int .i64 dn, .int .i64 dt, .slice aa an ac, .string nm, .int .i64 off, .slice la ln lc, .slice ca cn cc] 57)) (And.intro ((Below.refl _ W).alloc (Nat.le_refl _) (.cells #[.int .i64 19, .int .i64 0, .int .i64 dc, .int .i64 dn, .int .i64 dt, .slice aa an ac, .string nm, .int .i64 off, .slice la ln lc, .slice ca cn cc] 57)) (heap_alloc_new W (.cells #[.int .i64 19, .int .i64 0, .int .i64 dc, .int .i64 dn, .int .i64 dt, .slice aa an ac, .string nm, .int .i64 off, .slice la ln lc, .slice ca cn cc] 57))))
  obtain ⟨wa, hwa⟩ : ∃ wa, W.alloc (.cells #[.int .i64 19, .int .i64 0, .int .i64 dc, .int .i64 dn, .int .i64 dt, .slice aa an ac, .string nm, .int .i64 off, .slice la ln lc, .slice ca cn cc] 57) = wa := ⟨_, rfl⟩
  rw [hwa] at HA
  obtain ⟨e0, e1, e2, e3, e4, e5, e6, e7, e8, e9⟩ := ten_cells HA.out.2.2
  have ha1 := hI.args.1
  have hl1 := hI.labels.1
  dsimp only at ha1 hl1
  have HP := Lib.hid (And.intro hI (And.intro hF (And.intro t2 (And.intro hlen (And.intro n1 (And.intro n0 (And.intro hG (And.intro hT0 hT0))))))))
  have HN := Lib.hid (And.intro (show an ≤ 1048576 by have := hF.an; dsimp only at this; omega) (And.intro (show ln ≤ 1048576 by have := hF.ln; dsimp only at this; omega) ha1))
  clear h ht hlen hI hF t2 n1 n0 hG hrest ha1 hl1 hT0
  go_enter Tryd.func63, Tryd.ntmps63
  go_wp2_with fail
  have H0 := Lib.hid (Wrote.to HA.out.1.wrote HP.out.2.2.2.2.2.2.2.1)
  have hG1 : Opr.Glob wa := HP.out.2.2.2.2.2.2.1.below H0.out.1.2 HP.out.2.2.2.2.2.2.1.1
  have HG1 := Lib.hid hG1
  clear hG1
  refine (operation_v w0 b T0 (T0 ++ opT 19) 19 wa HG1.out H0.out.1 rfl HP.out.2.2.2.2.1).mono ?_
  rintro e w3 ⟨rfl, h3⟩
  have H3 := Lib.hid (H0.out.next h3)
  clear h3 hwa
  clear e0 e1 e2 e3 e4 e5 e6 e7 e8 e9
  obtain ⟨e0, e1, e2, e3, e4, e5, e6, e7, e8, e9⟩ := ten_cells (H3.out.box HA.out.2.2 (by decide) (by decide))
  go_wp2_with fail
  clear e0 e1 e2 e3 e4 e5 e6 e7 e8 e9
  refine (call_v w0 b _ t 19 0 dc dn dt args nm off labels cas aa an ac la ln lc ca cn cc w3 H3.out.1 (by have := HP.out.2.1.nm; dsimp only at this; omega) HP.out.1.args HP.out.2.1.args HP.out.2.2.1 HP.out.2.2.2.1).mono ?_
  rintro e w4 ⟨rfl, h4⟩
  have H4 := Lib.hid (H3.out.next h4)
  clear h4
  go_wp2_with fail
  go_end0
  exact ⟨rfl, H4.out.from HA.out.2.1⟩
set_option maxHeartbeats 2000000 in
theorem ins_19_1 (w0 : World) (b : Nat) (l t : List UInt8) (dk dc dn dt : Int) (args : List Opn) (nm : ByteArray) (off : Int) (labels : List ByteArray) (cas : List Int) (aa : Option Addr) (an ac : Nat) (la : Option Addr) (ln lc : Nat) (ca : Option Addr) (cn cc : Nat) (W : World) (hG : Opr.Glob w0) (h : Wr w0 b l W) (hI : IsIns w0 ⟨19, ⟨dk, dc, dn, dt⟩, args, nm, off, labels, cas⟩ ⟨aa, an, ac, la, ln, lc, ca, cn, cc⟩) (hF : InsF ⟨19, ⟨dk, dc, dn, dt⟩, args, nm, off, labels, cas⟩) (hd : (dk == 0) = false) (ht : l ++ insT ⟨19, ⟨dk, dc, dn, dt⟩, args, nm, off, labels, cas⟩ = t) (hlen : t.length ≤ big) :
    Calls Tryd.prog 63 #[.pointer (some ⟨b, 0, none⟩), .agg #[.int .i64 19, .int .i64 dk, .int .i64 dc, .int .i64 dn, .int .i64 dt, .slice aa an ac, .string nm, .int .i64 off, .slice la ln lc, .slice ca cn cc]] W fun e w' => e = .returned (.tuple #[]) ∧ Wrote w0 b t W w' := by
  have hrest : restT ⟨19, ⟨dk, dc, dn, dt⟩, args, nm, off, labels, cas⟩ = callT nm args := by simp [restT]
  have hd2 : ¬ dk = 0 := by simpa using hd
  obtain ⟨T0, hT0⟩ : ∃ T0, l ++ opnT ⟨dk, dc, dn, dt⟩ ++ [32, 61, 32] = T0 := ⟨_, rfl⟩
  have t2 : T0 ++ opT 19 ++ callT nm args = t := by rw [← ht, ← hrest, ← hT0]; simp [insT, dstT, hd2]
  have n0 : T0.length ≤ big := by rw [← t2] at hlen; simp only [List.length_append] at hlen; omega
  have nm1 : (l ++ opnT ⟨dk, dc, dn, dt⟩).length ≤ big := by rw [← hT0, List.length_append] at n0; omega
  have n1 : (T0 ++ opT 19).length ≤ big := by rw [← t2, List.length_append] at hlen; omega
  have HA := Lib.hid (And.intro (h.alloc (.cells #[.int .i64 19, .int .i64 dk, .int .i64 dc, .int .i64 dn, .int .i64 dt, .slice aa an ac, .string nm, .int .i64 off, .slice la ln lc, .slice ca cn cc] 57)) (And.intro ((Below.refl _ W).alloc (Nat.le_refl _) (.cells #[.int .i64 19, .int .i64 dk, .int .i64 dc, .int .i64 dn, .int .i64 dt, .slice aa an ac, .string nm, .int .i64 off, .slice la ln lc, .slice ca cn cc] 57)) (heap_alloc_new W (.cells #[.int .i64 19, .int .i64 dk, .int .i64 dc, .int .i64 dn, .int .i64 dt, .slice aa an ac, .string nm, .int .i64 off, .slice la ln lc, .slice ca cn cc] 57))))
  obtain ⟨wa, hwa⟩ : ∃ wa, W.alloc (.cells #[.int .i64 19, .int .i64 dk, .int .i64 dc, .int .i64 dn, .int .i64 dt, .slice aa an ac, .string nm, .int .i64 off, .slice la ln lc, .slice ca cn cc] 57) = wa := ⟨_, rfl⟩
  rw [hwa] at HA
  obtain ⟨e0, e1, e2, e3, e4, e5, e6, e7, e8, e9⟩ := ten_cells HA.out.2.2
  have ha1 := hI.args.1
  have hl1 := hI.labels.1
  dsimp only at ha1 hl1
  have HP := Lib.hid (And.intro hI (And.intro hF (And.intro t2 (And.intro hlen (And.intro n1 (And.intro n0 (And.intro hG (And.intro nm1 hT0))))))))
  have HN := Lib.hid (And.intro (show an ≤ 1048576 by have := hF.an; dsimp only at this; omega) (And.intro (show ln ≤ 1048576 by have := hF.ln; dsimp only at this; omega) ha1))
  clear h ht hlen hI hF t2 n1 n0 hG hrest ha1 hl1 nm1 hd2 hT0
  go_enter Tryd.func63, Tryd.ntmps63
  go_wp2_with fail
  refine (operand_v w0 b l (l ++ opnT ⟨dk, dc, dn, dt⟩) ⟨dk, dc, dn, dt⟩ _ HA.out.1 HP.out.2.1.dst rfl HP.out.2.2.2.2.2.2.2.1).mono ?_
  rintro e w1 ⟨rfl, h1⟩
  have H1 := Lib.hid h1
  clear h1 hwa
  clear e0 e1 e2 e3 e4 e5 e6 e7 e8 e9
  obtain ⟨e0, e1, e2, e3, e4, e5, e6, e7, e8, e9⟩ := ten_cells (H1.out.box HA.out.2.2 (by decide) (by decide))
  go_wp2_with fail
  clear e0 e1 e2 e3 e4 e5 e6 e7 e8 e9
  refine (write_s w0 b _ T0 _ w1 H1.out.1 HP.out.2.2.2.2.2.2.2.2 HP.out.2.2.2.2.2.1).mono ?_
  rintro e w2 ⟨rfl, h2⟩
  have H0 := Lib.hid (H1.out.next h2)
  clear h2
  obtain ⟨e0, e1, e2, e3, e4, e5, e6, e7, e8, e9⟩ := ten_cells (H0.out.box HA.out.2.2 (by decide) (by decide))
  have hG1 : Opr.Glob w2 := HP.out.2.2.2.2.2.2.1.below H0.out.1.2 HP.out.2.2.2.2.2.2.1.1
  have HG1 := Lib.hid hG1
  clear hG1
  go_wp2_with fail
  refine (operation_v w0 b T0 (T0 ++ opT 19) 19 w2 HG1.out H0.out.1 rfl HP.out.2.2.2.2.1).mono ?_
  rintro e w3 ⟨rfl, h3⟩
  have H3 := Lib.hid (H0.out.next h3)
  clear h3
  clear e0 e1 e2 e3 e4 e5 e6 e7 e8 e9
  obtain ⟨e0, e1, e2, e3, e4, e5, e6, e7, e8, e9⟩ := ten_cells (H3.out.box HA.out.2.2 (by decide) (by decide))
  go_wp2_with fail
  clear e0 e1 e2 e3 e4 e5 e6 e7 e8 e9
  refine (call_v w0 b _ t 19 dk dc dn dt args nm off labels cas aa an ac la ln lc ca cn cc w3 H3.out.1 (by have := HP.out.2.1.nm; dsimp only at this; omega) HP.out.1.args HP.out.2.1.args HP.out.2.2.1 HP.out.2.2.2.1).mono ?_
  rintro e w4 ⟨rfl, h4⟩
  have H4 := Lib.hid (H3.out.next h4)
  clear h4
  go_wp2_with fail
  go_end0
  exact ⟨rfl, H4.out.from HA.out.2.1⟩
set_option maxHeartbeats 2000000 in
theorem ins_17_0 (w0 : World) (b : Nat) (l t : List UInt8) (dc dn dt : Int) (args : List Opn) (nm : ByteArray) (off : Int) (labels : List ByteArray) (cas : List Int) (aa : Option Addr) (an ac : Nat) (la : Option Addr) (ln lc : Nat) (ca : Option Addr) (cn cc : Nat) (W : World) (hG : Opr.Glob w0) (h : Wr w0 b l W) (hI : IsIns w0 ⟨17, ⟨0, dc, dn, dt⟩, args, nm, off, labels, cas⟩ ⟨aa, an, ac, la, ln, lc, ca, cn, cc⟩) (hF : InsF ⟨17, ⟨0, dc, dn, dt⟩, args, nm, off, labels, cas⟩) (ht : l ++ insT ⟨17, ⟨0, dc, dn, dt⟩, args, nm, off, labels, cas⟩ = t) (hlen : t.length ≤ big) :
    Calls Tryd.prog 63 #[.pointer (some ⟨b, 0, none⟩), .agg #[.int .i64 17, .int .i64 0, .int .i64 dc, .int .i64 dn, .int .i64 dt, .slice aa an ac, .string nm, .int .i64 off, .slice la ln lc, .slice ca cn cc]] W fun e w' => e = .returned (.tuple #[]) ∧ Wrote w0 b t W w' := by
  have hrest : restT ⟨17, ⟨0, dc, dn, dt⟩, args, nm, off, labels, cas⟩ = (takenT args [] ++ offT args off) := by simp [restT]
  obtain ⟨T0, hT0⟩ : ∃ T0, l = T0 := ⟨_, rfl⟩
  have t2 : T0 ++ opT 17 ++ (takenT args [] ++ offT args off) = t := by rw [← ht, ← hrest, ← hT0]; simp [insT, dstT]
  have n0 : T0.length ≤ big := by rw [← t2] at hlen; simp only [List.length_append] at hlen; omega
  have n1 : (T0 ++ opT 17).length ≤ big := by rw [← t2, List.length_append] at hlen; omega
  have HA := Lib.hid (And.intro (h.alloc (.cells #[.int .i64 17, .int .i64 0, .int .i64 dc, .int .i64 dn, .int .i64 dt, .slice aa an ac, .string nm, .int .i64 off, .slice la ln lc, .slice ca cn cc] 57)) (And.intro ((Below.refl _ W).alloc (Nat.le_refl _) (.cells #[.int .i64 17, .int .i64 0, .int .i64 dc, .int .i64 dn, .int .i64 dt, .slice aa an ac, .string nm, .int .i64 off, .slice la ln lc, .slice ca cn cc] 57)) (heap_alloc_new W (.cells #[.int .i64 17, .int .i64 0, .int .i64 dc, .int .i64 dn, .int .i64 dt, .slice aa an ac, .string nm, .int .i64 off, .slice la ln lc, .slice ca cn cc] 57))))
  obtain ⟨wa, hwa⟩ : ∃ wa, W.alloc (.cells #[.int .i64 17, .int .i64 0, .int .i64 dc, .int .i64 dn, .int .i64 dt, .slice aa an ac, .string nm, .int .i64 off, .slice la ln lc, .slice ca cn cc] 57) = wa := ⟨_, rfl⟩
  rw [hwa] at HA
  obtain ⟨e0, e1, e2, e3, e4, e5, e6, e7, e8, e9⟩ := ten_cells HA.out.2.2
  have ha1 := hI.args.1
  have hl1 := hI.labels.1
  dsimp only at ha1 hl1
  have HP := Lib.hid (And.intro hI (And.intro hF (And.intro t2 (And.intro hlen (And.intro n1 (And.intro n0 (And.intro hG (And.intro hT0 hT0))))))))
  have HN := Lib.hid (And.intro (show an ≤ 1048576 by have := hF.an; dsimp only at this; omega) (And.intro (show ln ≤ 1048576 by have := hF.ln; dsimp only at this; omega) ha1))
  clear h ht hlen hI hF t2 n1 n0 hG hrest ha1 hl1 hT0
  go_enter Tryd.func63, Tryd.ntmps63
  go_wp2_with fail
  have H0 := Lib.hid (Wrote.to HA.out.1.wrote HP.out.2.2.2.2.2.2.2.1)
  have hG1 : Opr.Glob wa := HP.out.2.2.2.2.2.2.1.below H0.out.1.2 HP.out.2.2.2.2.2.2.1.1
  have HG1 := Lib.hid hG1
  clear hG1
  refine (operation_v w0 b T0 (T0 ++ opT 17) 17 wa HG1.out H0.out.1 rfl HP.out.2.2.2.2.1).mono ?_
  rintro e w3 ⟨rfl, h3⟩
  have H3 := Lib.hid (H0.out.next h3)
  clear h3 hwa
  clear e0 e1 e2 e3 e4 e5 e6 e7 e8 e9
  obtain ⟨e0, e1, e2, e3, e4, e5, e6, e7, e8, e9⟩ := ten_cells (H3.out.box HA.out.2.2 (by decide) (by decide))
  go_wp2_with fail
  clear e0 e1 e2 e3 e4 e5 e6 e7 e8 e9
  have n5 : (T0 ++ opT 17 ++ takenT args []).length ≤ big := by have h1 := HP.out.2.2.2.1; rw [← HP.out.2.2.1] at h1; simp only [List.length_append] at h1 ⊢; omega
  have HN5 := Lib.hid n5
  clear n5
  refine (taken_v w0 b _ (T0 ++ opT 17 ++ takenT args []) aa an ac args none 0 0 [] w3 H3.out.1 HP.out.1.args HP.out.2.1.args (IsStrs.nil _ _) HN.out.1 (by omega) rfl HN5.out).mono ?_
  rintro e w4 ⟨rfl, h4⟩
  have H4 := Lib.hid (H3.out.next h4)
  clear h4
  obtain ⟨e0, e1, e2, e3, e4, e5, e6, e7, e8, e9⟩ := ten_cells (H4.out.box HA.out.2.2 (by decide) (by decide))
  go_wp2_with fail
  clear e0 e1 e2 e3 e4 e5 e6 e7 e8 e9
  refine (offset_v w0 b _ t 17 0 dc dn dt args nm off labels cas aa an ac la ln lc ca cn cc w4 H4.out.1 HP.out.2.1.off HN.out.2.2 (by rw [← HP.out.2.2.1]; simp) HP.out.2.2.2.1).mono ?_
  rintro e w5 ⟨rfl, h5⟩
  have H5 := Lib.hid (H4.out.next h5)
  clear h5
  go_wp2_with fail
  go_end0
  exact ⟨rfl, H5.out.from HA.out.2.1⟩
set_option maxHeartbeats 2000000 in
theorem ins_17_1 (w0 : World) (b : Nat) (l t : List UInt8) (dk dc dn dt : Int) (args : List Opn) (nm : ByteArray) (off : Int) (labels : List ByteArray) (cas : List Int) (aa : Option Addr) (an ac : Nat) (la : Option Addr) (ln lc : Nat) (ca : Option Addr) (cn cc : Nat) (W : World) (hG : Opr.Glob w0) (h : Wr w0 b l W) (hI : IsIns w0 ⟨17, ⟨dk, dc, dn, dt⟩, args, nm, off, labels, cas⟩ ⟨aa, an, ac, la, ln, lc, ca, cn, cc⟩) (hF : InsF ⟨17, ⟨dk, dc, dn, dt⟩, args, nm, off, labels, cas⟩) (hd : (dk == 0) = false) (ht : l ++ insT ⟨17, ⟨dk, dc, dn, dt⟩, args, nm, off, labels, cas⟩ = t) (hlen : t.length ≤ big) :
    Calls Tryd.prog 63 #[.pointer (some ⟨b, 0, none⟩), .agg #[.int .i64 17, .int .i64 dk, .int .i64 dc, .int .i64 dn, .int .i64 dt, .slice aa an ac, .string nm, .int .i64 off, .slice la ln lc, .slice ca cn cc]] W fun e w' => e = .returned (.tuple #[]) ∧ Wrote w0 b t W w' := by
  have hrest : restT ⟨17, ⟨dk, dc, dn, dt⟩, args, nm, off, labels, cas⟩ = (takenT args [] ++ offT args off) := by simp [restT]
  have hd2 : ¬ dk = 0 := by simpa using hd
  obtain ⟨T0, hT0⟩ : ∃ T0, l ++ opnT ⟨dk, dc, dn, dt⟩ ++ [32, 61, 32] = T0 := ⟨_, rfl⟩
  have t2 : T0 ++ opT 17 ++ (takenT args [] ++ offT args off) = t := by rw [← ht, ← hrest, ← hT0]; simp [insT, dstT, hd2]
  have n0 : T0.length ≤ big := by rw [← t2] at hlen; simp only [List.length_append] at hlen; omega
  have nm1 : (l ++ opnT ⟨dk, dc, dn, dt⟩).length ≤ big := by rw [← hT0, List.length_append] at n0; omega
  have n1 : (T0 ++ opT 17).length ≤ big := by rw [← t2, List.length_append] at hlen; omega
  have HA := Lib.hid (And.intro (h.alloc (.cells #[.int .i64 17, .int .i64 dk, .int .i64 dc, .int .i64 dn, .int .i64 dt, .slice aa an ac, .string nm, .int .i64 off, .slice la ln lc, .slice ca cn cc] 57)) (And.intro ((Below.refl _ W).alloc (Nat.le_refl _) (.cells #[.int .i64 17, .int .i64 dk, .int .i64 dc, .int .i64 dn, .int .i64 dt, .slice aa an ac, .string nm, .int .i64 off, .slice la ln lc, .slice ca cn cc] 57)) (heap_alloc_new W (.cells #[.int .i64 17, .int .i64 dk, .int .i64 dc, .int .i64 dn, .int .i64 dt, .slice aa an ac, .string nm, .int .i64 off, .slice la ln lc, .slice ca cn cc] 57))))
  obtain ⟨wa, hwa⟩ : ∃ wa, W.alloc (.cells #[.int .i64 17, .int .i64 dk, .int .i64 dc, .int .i64 dn, .int .i64 dt, .slice aa an ac, .string nm, .int .i64 off, .slice la ln lc, .slice ca cn cc] 57) = wa := ⟨_, rfl⟩
  rw [hwa] at HA
  obtain ⟨e0, e1, e2, e3, e4, e5, e6, e7, e8, e9⟩ := ten_cells HA.out.2.2
  have ha1 := hI.args.1
  have hl1 := hI.labels.1
  dsimp only at ha1 hl1
  have HP := Lib.hid (And.intro hI (And.intro hF (And.intro t2 (And.intro hlen (And.intro n1 (And.intro n0 (And.intro hG (And.intro nm1 hT0))))))))
  have HN := Lib.hid (And.intro (show an ≤ 1048576 by have := hF.an; dsimp only at this; omega) (And.intro (show ln ≤ 1048576 by have := hF.ln; dsimp only at this; omega) ha1))
  clear h ht hlen hI hF t2 n1 n0 hG hrest ha1 hl1 nm1 hd2 hT0
  go_enter Tryd.func63, Tryd.ntmps63
  go_wp2_with fail
  refine (operand_v w0 b l (l ++ opnT ⟨dk, dc, dn, dt⟩) ⟨dk, dc, dn, dt⟩ _ HA.out.1 HP.out.2.1.dst rfl HP.out.2.2.2.2.2.2.2.1).mono ?_
  rintro e w1 ⟨rfl, h1⟩
  have H1 := Lib.hid h1
  clear h1 hwa
  clear e0 e1 e2 e3 e4 e5 e6 e7 e8 e9
  obtain ⟨e0, e1, e2, e3, e4, e5, e6, e7, e8, e9⟩ := ten_cells (H1.out.box HA.out.2.2 (by decide) (by decide))
  go_wp2_with fail
  clear e0 e1 e2 e3 e4 e5 e6 e7 e8 e9
  refine (write_s w0 b _ T0 _ w1 H1.out.1 HP.out.2.2.2.2.2.2.2.2 HP.out.2.2.2.2.2.1).mono ?_
  rintro e w2 ⟨rfl, h2⟩
  have H0 := Lib.hid (H1.out.next h2)
  clear h2
  obtain ⟨e0, e1, e2, e3, e4, e5, e6, e7, e8, e9⟩ := ten_cells (H0.out.box HA.out.2.2 (by decide) (by decide))
  have hG1 : Opr.Glob w2 := HP.out.2.2.2.2.2.2.1.below H0.out.1.2 HP.out.2.2.2.2.2.2.1.1
  have HG1 := Lib.hid hG1
  clear hG1
  go_wp2_with fail
  refine (operation_v w0 b T0 (T0 ++ opT 17) 17 w2 HG1.out H0.out.1 rfl HP.out.2.2.2.2.1).mono ?_
  rintro e w3 ⟨rfl, h3⟩
  have H3 := Lib.hid (H0.out.next h3)
  clear h3
  clear e0 e1 e2 e3 e4 e5 e6 e7 e8 e9
  obtain ⟨e0, e1, e2, e3, e4, e5, e6, e7, e8, e9⟩ := ten_cells (H3.out.box HA.out.2.2 (by decide) (by decide))
  go_wp2_with fail
  clear e0 e1 e2 e3 e4 e5 e6 e7 e8 e9
  have n5 : (T0 ++ opT 17 ++ takenT args []).length ≤ big := by have h1 := HP.out.2.2.2.1; rw [← HP.out.2.2.1] at h1; simp only [List.length_append] at h1 ⊢; omega
  have HN5 := Lib.hid n5
  clear n5
  refine (taken_v w0 b _ (T0 ++ opT 17 ++ takenT args []) aa an ac args none 0 0 [] w3 H3.out.1 HP.out.1.args HP.out.2.1.args (IsStrs.nil _ _) HN.out.1 (by omega) rfl HN5.out).mono ?_
  rintro e w4 ⟨rfl, h4⟩
  have H4 := Lib.hid (H3.out.next h4)
  clear h4
  obtain ⟨e0, e1, e2, e3, e4, e5, e6, e7, e8, e9⟩ := ten_cells (H4.out.box HA.out.2.2 (by decide) (by decide))
  go_wp2_with fail
  clear e0 e1 e2 e3 e4 e5 e6 e7 e8 e9
  refine (offset_v w0 b _ t 17 dk dc dn dt args nm off labels cas aa an ac la ln lc ca cn cc w4 H4.out.1 HP.out.2.1.off HN.out.2.2 (by rw [← HP.out.2.2.1]; simp) HP.out.2.2.2.1).mono ?_
  rintro e w5 ⟨rfl, h5⟩
  have H5 := Lib.hid (H4.out.next h5)
  clear h5
  go_wp2_with fail
  go_end0
  exact ⟨rfl, H5.out.from HA.out.2.1⟩
set_option maxHeartbeats 2000000 in
theorem ins_18_0 (w0 : World) (b : Nat) (l t : List UInt8) (dc dn dt : Int) (args : List Opn) (nm : ByteArray) (off : Int) (labels : List ByteArray) (cas : List Int) (aa : Option Addr) (an ac : Nat) (la : Option Addr) (ln lc : Nat) (ca : Option Addr) (cn cc : Nat) (W : World) (hG : Opr.Glob w0) (h : Wr w0 b l W) (hI : IsIns w0 ⟨18, ⟨0, dc, dn, dt⟩, args, nm, off, labels, cas⟩ ⟨aa, an, ac, la, ln, lc, ca, cn, cc⟩) (hF : InsF ⟨18, ⟨0, dc, dn, dt⟩, args, nm, off, labels, cas⟩) (ht : l ++ insT ⟨18, ⟨0, dc, dn, dt⟩, args, nm, off, labels, cas⟩ = t) (hlen : t.length ≤ big) :
    Calls Tryd.prog 63 #[.pointer (some ⟨b, 0, none⟩), .agg #[.int .i64 18, .int .i64 0, .int .i64 dc, .int .i64 dn, .int .i64 dt, .slice aa an ac, .string nm, .int .i64 off, .slice la ln lc, .slice ca cn cc]] W fun e w' => e = .returned (.tuple #[]) ∧ Wrote w0 b t W w' := by
  have hrest : restT ⟨18, ⟨0, dc, dn, dt⟩, args, nm, off, labels, cas⟩ = (takenT args [] ++ offT args off) := by simp [restT]
  obtain ⟨T0, hT0⟩ : ∃ T0, l = T0 := ⟨_, rfl⟩
  have t2 : T0 ++ opT 18 ++ (takenT args [] ++ offT args off) = t := by rw [← ht, ← hrest, ← hT0]; simp [insT, dstT]
  have n0 : T0.length ≤ big := by rw [← t2] at hlen; simp only [List.length_append] at hlen; omega
  have n1 : (T0 ++ opT 18).length ≤ big := by rw [← t2, List.length_append] at hlen; omega
  have HA := Lib.hid (And.intro (h.alloc (.cells #[.int .i64 18, .int .i64 0, .int .i64 dc, .int .i64 dn, .int .i64 dt, .slice aa an ac, .string nm, .int .i64 off, .slice la ln lc, .slice ca cn cc] 57)) (And.intro ((Below.refl _ W).alloc (Nat.le_refl _) (.cells #[.int .i64 18, .int .i64 0, .int .i64 dc, .int .i64 dn, .int .i64 dt, .slice aa an ac, .string nm, .int .i64 off, .slice la ln lc, .slice ca cn cc] 57)) (heap_alloc_new W (.cells #[.int .i64 18, .int .i64 0, .int .i64 dc, .int .i64 dn, .int .i64 dt, .slice aa an ac, .string nm, .int .i64 off, .slice la ln lc, .slice ca cn cc] 57))))
  obtain ⟨wa, hwa⟩ : ∃ wa, W.alloc (.cells #[.int .i64 18, .int .i64 0, .int .i64 dc, .int .i64 dn, .int .i64 dt, .slice aa an ac, .string nm, .int .i64 off, .slice la ln lc, .slice ca cn cc] 57) = wa := ⟨_, rfl⟩
  rw [hwa] at HA
  obtain ⟨e0, e1, e2, e3, e4, e5, e6, e7, e8, e9⟩ := ten_cells HA.out.2.2
  have ha1 := hI.args.1
  have hl1 := hI.labels.1
  dsimp only at ha1 hl1
  have HP := Lib.hid (And.intro hI (And.intro hF (And.intro t2 (And.intro hlen (And.intro n1 (And.intro n0 (And.intro hG (And.intro hT0 hT0))))))))
  have HN := Lib.hid (And.intro (show an ≤ 1048576 by have := hF.an; dsimp only at this; omega) (And.intro (show ln ≤ 1048576 by have := hF.ln; dsimp only at this; omega) ha1))
  clear h ht hlen hI hF t2 n1 n0 hG hrest ha1 hl1 hT0
  go_enter Tryd.func63, Tryd.ntmps63
  go_wp2_with fail
  have H0 := Lib.hid (Wrote.to HA.out.1.wrote HP.out.2.2.2.2.2.2.2.1)
  have hG1 : Opr.Glob wa := HP.out.2.2.2.2.2.2.1.below H0.out.1.2 HP.out.2.2.2.2.2.2.1.1
  have HG1 := Lib.hid hG1
  clear hG1
  refine (operation_v w0 b T0 (T0 ++ opT 18) 18 wa HG1.out H0.out.1 rfl HP.out.2.2.2.2.1).mono ?_
  rintro e w3 ⟨rfl, h3⟩
  have H3 := Lib.hid (H0.out.next h3)
  clear h3 hwa
  clear e0 e1 e2 e3 e4 e5 e6 e7 e8 e9
  obtain ⟨e0, e1, e2, e3, e4, e5, e6, e7, e8, e9⟩ := ten_cells (H3.out.box HA.out.2.2 (by decide) (by decide))
  go_wp2_with fail
  clear e0 e1 e2 e3 e4 e5 e6 e7 e8 e9
  have n5 : (T0 ++ opT 18 ++ takenT args []).length ≤ big := by have h1 := HP.out.2.2.2.1; rw [← HP.out.2.2.1] at h1; simp only [List.length_append] at h1 ⊢; omega
  have HN5 := Lib.hid n5
  clear n5
  refine (taken_v w0 b _ (T0 ++ opT 18 ++ takenT args []) aa an ac args none 0 0 [] w3 H3.out.1 HP.out.1.args HP.out.2.1.args (IsStrs.nil _ _) HN.out.1 (by omega) rfl HN5.out).mono ?_
  rintro e w4 ⟨rfl, h4⟩
  have H4 := Lib.hid (H3.out.next h4)
  clear h4
  obtain ⟨e0, e1, e2, e3, e4, e5, e6, e7, e8, e9⟩ := ten_cells (H4.out.box HA.out.2.2 (by decide) (by decide))
  go_wp2_with fail
  clear e0 e1 e2 e3 e4 e5 e6 e7 e8 e9
  refine (offset_v w0 b _ t 18 0 dc dn dt args nm off labels cas aa an ac la ln lc ca cn cc w4 H4.out.1 HP.out.2.1.off HN.out.2.2 (by rw [← HP.out.2.2.1]; simp) HP.out.2.2.2.1).mono ?_
  rintro e w5 ⟨rfl, h5⟩
  have H5 := Lib.hid (H4.out.next h5)
  clear h5
  go_wp2_with fail
  go_end0
  exact ⟨rfl, H5.out.from HA.out.2.1⟩
set_option maxHeartbeats 2000000 in
theorem ins_18_1 (w0 : World) (b : Nat) (l t : List UInt8) (dk dc dn dt : Int) (args : List Opn) (nm : ByteArray) (off : Int) (labels : List ByteArray) (cas : List Int) (aa : Option Addr) (an ac : Nat) (la : Option Addr) (ln lc : Nat) (ca : Option Addr) (cn cc : Nat) (W : World) (hG : Opr.Glob w0) (h : Wr w0 b l W) (hI : IsIns w0 ⟨18, ⟨dk, dc, dn, dt⟩, args, nm, off, labels, cas⟩ ⟨aa, an, ac, la, ln, lc, ca, cn, cc⟩) (hF : InsF ⟨18, ⟨dk, dc, dn, dt⟩, args, nm, off, labels, cas⟩) (hd : (dk == 0) = false) (ht : l ++ insT ⟨18, ⟨dk, dc, dn, dt⟩, args, nm, off, labels, cas⟩ = t) (hlen : t.length ≤ big) :
    Calls Tryd.prog 63 #[.pointer (some ⟨b, 0, none⟩), .agg #[.int .i64 18, .int .i64 dk, .int .i64 dc, .int .i64 dn, .int .i64 dt, .slice aa an ac, .string nm, .int .i64 off, .slice la ln lc, .slice ca cn cc]] W fun e w' => e = .returned (.tuple #[]) ∧ Wrote w0 b t W w' := by
  have hrest : restT ⟨18, ⟨dk, dc, dn, dt⟩, args, nm, off, labels, cas⟩ = (takenT args [] ++ offT args off) := by simp [restT]
  have hd2 : ¬ dk = 0 := by simpa using hd
  obtain ⟨T0, hT0⟩ : ∃ T0, l ++ opnT ⟨dk, dc, dn, dt⟩ ++ [32, 61, 32] = T0 := ⟨_, rfl⟩
  have t2 : T0 ++ opT 18 ++ (takenT args [] ++ offT args off) = t := by rw [← ht, ← hrest, ← hT0]; simp [insT, dstT, hd2]
  have n0 : T0.length ≤ big := by rw [← t2] at hlen; simp only [List.length_append] at hlen; omega
  have nm1 : (l ++ opnT ⟨dk, dc, dn, dt⟩).length ≤ big := by rw [← hT0, List.length_append] at n0; omega
  have n1 : (T0 ++ opT 18).length ≤ big := by rw [← t2, List.length_append] at hlen; omega
  have HA := Lib.hid (And.intro (h.alloc (.cells #[.int .i64 18, .int .i64 dk, .int .i64 dc, .int .i64 dn, .int .i64 dt, .slice aa an ac, .string nm, .int .i64 off, .slice la ln lc, .slice ca cn cc] 57)) (And.intro ((Below.refl _ W).alloc (Nat.le_refl _) (.cells #[.int .i64 18, .int .i64 dk, .int .i64 dc, .int .i64 dn, .int .i64 dt, .slice aa an ac, .string nm, .int .i64 off, .slice la ln lc, .slice ca cn cc] 57)) (heap_alloc_new W (.cells #[.int .i64 18, .int .i64 dk, .int .i64 dc, .int .i64 dn, .int .i64 dt, .slice aa an ac, .string nm, .int .i64 off, .slice la ln lc, .slice ca cn cc] 57))))
  obtain ⟨wa, hwa⟩ : ∃ wa, W.alloc (.cells #[.int .i64 18, .int .i64 dk, .int .i64 dc, .int .i64 dn, .int .i64 dt, .slice aa an ac, .string nm, .int .i64 off, .slice la ln lc, .slice ca cn cc] 57) = wa := ⟨_, rfl⟩
  rw [hwa] at HA
  obtain ⟨e0, e1, e2, e3, e4, e5, e6, e7, e8, e9⟩ := ten_cells HA.out.2.2
  have ha1 := hI.args.1
  have hl1 := hI.labels.1
  dsimp only at ha1 hl1
  have HP := Lib.hid (And.intro hI (And.intro hF (And.intro t2 (And.intro hlen (And.intro n1 (And.intro n0 (And.intro hG (And.intro nm1 hT0))))))))
  have HN := Lib.hid (And.intro (show an ≤ 1048576 by have := hF.an; dsimp only at this; omega) (And.intro (show ln ≤ 1048576 by have := hF.ln; dsimp only at this; omega) ha1))
  clear h ht hlen hI hF t2 n1 n0 hG hrest ha1 hl1 nm1 hd2 hT0
  go_enter Tryd.func63, Tryd.ntmps63
  go_wp2_with fail
  refine (operand_v w0 b l (l ++ opnT ⟨dk, dc, dn, dt⟩) ⟨dk, dc, dn, dt⟩ _ HA.out.1 HP.out.2.1.dst rfl HP.out.2.2.2.2.2.2.2.1).mono ?_
  rintro e w1 ⟨rfl, h1⟩
  have H1 := Lib.hid h1
  clear h1 hwa
  clear e0 e1 e2 e3 e4 e5 e6 e7 e8 e9
  obtain ⟨e0, e1, e2, e3, e4, e5, e6, e7, e8, e9⟩ := ten_cells (H1.out.box HA.out.2.2 (by decide) (by decide))
  go_wp2_with fail
  clear e0 e1 e2 e3 e4 e5 e6 e7 e8 e9
  refine (write_s w0 b _ T0 _ w1 H1.out.1 HP.out.2.2.2.2.2.2.2.2 HP.out.2.2.2.2.2.1).mono ?_
  rintro e w2 ⟨rfl, h2⟩
  have H0 := Lib.hid (H1.out.next h2)
  clear h2
  obtain ⟨e0, e1, e2, e3, e4, e5, e6, e7, e8, e9⟩ := ten_cells (H0.out.box HA.out.2.2 (by decide) (by decide))
  have hG1 : Opr.Glob w2 := HP.out.2.2.2.2.2.2.1.below H0.out.1.2 HP.out.2.2.2.2.2.2.1.1
  have HG1 := Lib.hid hG1
  clear hG1
  go_wp2_with fail
  refine (operation_v w0 b T0 (T0 ++ opT 18) 18 w2 HG1.out H0.out.1 rfl HP.out.2.2.2.2.1).mono ?_
  rintro e w3 ⟨rfl, h3⟩
  have H3 := Lib.hid (H0.out.next h3)
  clear h3
  clear e0 e1 e2 e3 e4 e5 e6 e7 e8 e9
  obtain ⟨e0, e1, e2, e3, e4, e5, e6, e7, e8, e9⟩ := ten_cells (H3.out.box HA.out.2.2 (by decide) (by decide))
  go_wp2_with fail
  clear e0 e1 e2 e3 e4 e5 e6 e7 e8 e9
  have n5 : (T0 ++ opT 18 ++ takenT args []).length ≤ big := by have h1 := HP.out.2.2.2.1; rw [← HP.out.2.2.1] at h1; simp only [List.length_append] at h1 ⊢; omega
  have HN5 := Lib.hid n5
  clear n5
  refine (taken_v w0 b _ (T0 ++ opT 18 ++ takenT args []) aa an ac args none 0 0 [] w3 H3.out.1 HP.out.1.args HP.out.2.1.args (IsStrs.nil _ _) HN.out.1 (by omega) rfl HN5.out).mono ?_
  rintro e w4 ⟨rfl, h4⟩
  have H4 := Lib.hid (H3.out.next h4)
  clear h4
  obtain ⟨e0, e1, e2, e3, e4, e5, e6, e7, e8, e9⟩ := ten_cells (H4.out.box HA.out.2.2 (by decide) (by decide))
  go_wp2_with fail
  clear e0 e1 e2 e3 e4 e5 e6 e7 e8 e9
  refine (offset_v w0 b _ t 18 dk dc dn dt args nm off labels cas aa an ac la ln lc ca cn cc w4 H4.out.1 HP.out.2.1.off HN.out.2.2 (by rw [← HP.out.2.2.1]; simp) HP.out.2.2.2.1).mono ?_
  rintro e w5 ⟨rfl, h5⟩
  have H5 := Lib.hid (H4.out.next h5)
  clear h5
  go_wp2_with fail
  go_end0
  exact ⟨rfl, H5.out.from HA.out.2.1⟩
set_option maxHeartbeats 2000000 in
theorem ins_20_0 (w0 : World) (b : Nat) (l t : List UInt8) (dc dn dt : Int) (args : List Opn) (nm : ByteArray) (off : Int) (labels : List ByteArray) (cas : List Int) (aa : Option Addr) (an ac : Nat) (la : Option Addr) (ln lc : Nat) (ca : Option Addr) (cn cc : Nat) (W : World) (hG : Opr.Glob w0) (h : Wr w0 b l W) (hI : IsIns w0 ⟨20, ⟨0, dc, dn, dt⟩, args, nm, off, labels, cas⟩ ⟨aa, an, ac, la, ln, lc, ca, cn, cc⟩) (hF : InsF ⟨20, ⟨0, dc, dn, dt⟩, args, nm, off, labels, cas⟩) (ht : l ++ insT ⟨20, ⟨0, dc, dn, dt⟩, args, nm, off, labels, cas⟩ = t) (hlen : t.length ≤ big) :
    Calls Tryd.prog 63 #[.pointer (some ⟨b, 0, none⟩), .agg #[.int .i64 20, .int .i64 0, .int .i64 dc, .int .i64 dn, .int .i64 dt, .slice aa an ac, .string nm, .int .i64 off, .slice la ln lc, .slice ca cn cc]] W fun e w' => e = .returned (.tuple #[]) ∧ Wrote w0 b t W w' := by
  have hrest : restT ⟨20, ⟨0, dc, dn, dt⟩, args, nm, off, labels, cas⟩ = takenT args labels := by simp [restT]
  obtain ⟨T0, hT0⟩ : ∃ T0, l = T0 := ⟨_, rfl⟩
  have t2 : T0 ++ opT 20 ++ takenT args labels = t := by rw [← ht, ← hrest, ← hT0]; simp [insT, dstT]
  have n0 : T0.length ≤ big := by rw [← t2] at hlen; simp only [List.length_append] at hlen; omega
  have n1 : (T0 ++ opT 20).length ≤ big := by rw [← t2, List.length_append] at hlen; omega
  have HA := Lib.hid (And.intro (h.alloc (.cells #[.int .i64 20, .int .i64 0, .int .i64 dc, .int .i64 dn, .int .i64 dt, .slice aa an ac, .string nm, .int .i64 off, .slice la ln lc, .slice ca cn cc] 57)) (And.intro ((Below.refl _ W).alloc (Nat.le_refl _) (.cells #[.int .i64 20, .int .i64 0, .int .i64 dc, .int .i64 dn, .int .i64 dt, .slice aa an ac, .string nm, .int .i64 off, .slice la ln lc, .slice ca cn cc] 57)) (heap_alloc_new W (.cells #[.int .i64 20, .int .i64 0, .int .i64 dc, .int .i64 dn, .int .i64 dt, .slice aa an ac, .string nm, .int .i64 off, .slice la ln lc, .slice ca cn cc] 57))))
  obtain ⟨wa, hwa⟩ : ∃ wa, W.alloc (.cells #[.int .i64 20, .int .i64 0, .int .i64 dc, .int .i64 dn, .int .i64 dt, .slice aa an ac, .string nm, .int .i64 off, .slice la ln lc, .slice ca cn cc] 57) = wa := ⟨_, rfl⟩
  rw [hwa] at HA
  obtain ⟨e0, e1, e2, e3, e4, e5, e6, e7, e8, e9⟩ := ten_cells HA.out.2.2
  have ha1 := hI.args.1
  have hl1 := hI.labels.1
  dsimp only at ha1 hl1
  have HP := Lib.hid (And.intro hI (And.intro hF (And.intro t2 (And.intro hlen (And.intro n1 (And.intro n0 (And.intro hG (And.intro hT0 hT0))))))))
  have HN := Lib.hid (And.intro (show an ≤ 1048576 by have := hF.an; dsimp only at this; omega) (And.intro (show ln ≤ 1048576 by have := hF.ln; dsimp only at this; omega) ha1))
  clear h ht hlen hI hF t2 n1 n0 hG hrest ha1 hl1 hT0
  go_enter Tryd.func63, Tryd.ntmps63
  go_wp2_with fail
  have H0 := Lib.hid (Wrote.to HA.out.1.wrote HP.out.2.2.2.2.2.2.2.1)
  have hG1 : Opr.Glob wa := HP.out.2.2.2.2.2.2.1.below H0.out.1.2 HP.out.2.2.2.2.2.2.1.1
  have HG1 := Lib.hid hG1
  clear hG1
  refine (operation_v w0 b T0 (T0 ++ opT 20) 20 wa HG1.out H0.out.1 rfl HP.out.2.2.2.2.1).mono ?_
  rintro e w3 ⟨rfl, h3⟩
  have H3 := Lib.hid (H0.out.next h3)
  clear h3 hwa
  clear e0 e1 e2 e3 e4 e5 e6 e7 e8 e9
  obtain ⟨e0, e1, e2, e3, e4, e5, e6, e7, e8, e9⟩ := ten_cells (H3.out.box HA.out.2.2 (by decide) (by decide))
  go_wp2_with fail
  clear e0 e1 e2 e3 e4 e5 e6 e7 e8 e9
  refine (taken_v w0 b _ t aa an ac args la ln lc labels w3 H3.out.1 HP.out.1.args HP.out.2.1.args HP.out.1.labels HN.out.1 HN.out.2.1 HP.out.2.2.1 HP.out.2.2.2.1).mono ?_
  rintro e w4 ⟨rfl, h4⟩
  have H4 := Lib.hid (H3.out.next h4)
  clear h4
  go_wp2_with fail
  go_end0
  exact ⟨rfl, H4.out.from HA.out.2.1⟩
set_option maxHeartbeats 2000000 in
theorem ins_20_1 (w0 : World) (b : Nat) (l t : List UInt8) (dk dc dn dt : Int) (args : List Opn) (nm : ByteArray) (off : Int) (labels : List ByteArray) (cas : List Int) (aa : Option Addr) (an ac : Nat) (la : Option Addr) (ln lc : Nat) (ca : Option Addr) (cn cc : Nat) (W : World) (hG : Opr.Glob w0) (h : Wr w0 b l W) (hI : IsIns w0 ⟨20, ⟨dk, dc, dn, dt⟩, args, nm, off, labels, cas⟩ ⟨aa, an, ac, la, ln, lc, ca, cn, cc⟩) (hF : InsF ⟨20, ⟨dk, dc, dn, dt⟩, args, nm, off, labels, cas⟩) (hd : (dk == 0) = false) (ht : l ++ insT ⟨20, ⟨dk, dc, dn, dt⟩, args, nm, off, labels, cas⟩ = t) (hlen : t.length ≤ big) :
    Calls Tryd.prog 63 #[.pointer (some ⟨b, 0, none⟩), .agg #[.int .i64 20, .int .i64 dk, .int .i64 dc, .int .i64 dn, .int .i64 dt, .slice aa an ac, .string nm, .int .i64 off, .slice la ln lc, .slice ca cn cc]] W fun e w' => e = .returned (.tuple #[]) ∧ Wrote w0 b t W w' := by
  have hrest : restT ⟨20, ⟨dk, dc, dn, dt⟩, args, nm, off, labels, cas⟩ = takenT args labels := by simp [restT]
  have hd2 : ¬ dk = 0 := by simpa using hd
  obtain ⟨T0, hT0⟩ : ∃ T0, l ++ opnT ⟨dk, dc, dn, dt⟩ ++ [32, 61, 32] = T0 := ⟨_, rfl⟩
  have t2 : T0 ++ opT 20 ++ takenT args labels = t := by rw [← ht, ← hrest, ← hT0]; simp [insT, dstT, hd2]
  have n0 : T0.length ≤ big := by rw [← t2] at hlen; simp only [List.length_append] at hlen; omega
  have nm1 : (l ++ opnT ⟨dk, dc, dn, dt⟩).length ≤ big := by rw [← hT0, List.length_append] at n0; omega
  have n1 : (T0 ++ opT 20).length ≤ big := by rw [← t2, List.length_append] at hlen; omega
  have HA := Lib.hid (And.intro (h.alloc (.cells #[.int .i64 20, .int .i64 dk, .int .i64 dc, .int .i64 dn, .int .i64 dt, .slice aa an ac, .string nm, .int .i64 off, .slice la ln lc, .slice ca cn cc] 57)) (And.intro ((Below.refl _ W).alloc (Nat.le_refl _) (.cells #[.int .i64 20, .int .i64 dk, .int .i64 dc, .int .i64 dn, .int .i64 dt, .slice aa an ac, .string nm, .int .i64 off, .slice la ln lc, .slice ca cn cc] 57)) (heap_alloc_new W (.cells #[.int .i64 20, .int .i64 dk, .int .i64 dc, .int .i64 dn, .int .i64 dt, .slice aa an ac, .string nm, .int .i64 off, .slice la ln lc, .slice ca cn cc] 57))))
  obtain ⟨wa, hwa⟩ : ∃ wa, W.alloc (.cells #[.int .i64 20, .int .i64 dk, .int .i64 dc, .int .i64 dn, .int .i64 dt, .slice aa an ac, .string nm, .int .i64 off, .slice la ln lc, .slice ca cn cc] 57) = wa := ⟨_, rfl⟩
  rw [hwa] at HA
  obtain ⟨e0, e1, e2, e3, e4, e5, e6, e7, e8, e9⟩ := ten_cells HA.out.2.2
  have ha1 := hI.args.1
  have hl1 := hI.labels.1
  dsimp only at ha1 hl1
  have HP := Lib.hid (And.intro hI (And.intro hF (And.intro t2 (And.intro hlen (And.intro n1 (And.intro n0 (And.intro hG (And.intro nm1 hT0))))))))
  have HN := Lib.hid (And.intro (show an ≤ 1048576 by have := hF.an; dsimp only at this; omega) (And.intro (show ln ≤ 1048576 by have := hF.ln; dsimp only at this; omega) ha1))
  clear h ht hlen hI hF t2 n1 n0 hG hrest ha1 hl1 nm1 hd2 hT0
  go_enter Tryd.func63, Tryd.ntmps63
  go_wp2_with fail
  refine (operand_v w0 b l (l ++ opnT ⟨dk, dc, dn, dt⟩) ⟨dk, dc, dn, dt⟩ _ HA.out.1 HP.out.2.1.dst rfl HP.out.2.2.2.2.2.2.2.1).mono ?_
  rintro e w1 ⟨rfl, h1⟩
  have H1 := Lib.hid h1
  clear h1 hwa
  clear e0 e1 e2 e3 e4 e5 e6 e7 e8 e9
  obtain ⟨e0, e1, e2, e3, e4, e5, e6, e7, e8, e9⟩ := ten_cells (H1.out.box HA.out.2.2 (by decide) (by decide))
  go_wp2_with fail
  clear e0 e1 e2 e3 e4 e5 e6 e7 e8 e9
  refine (write_s w0 b _ T0 _ w1 H1.out.1 HP.out.2.2.2.2.2.2.2.2 HP.out.2.2.2.2.2.1).mono ?_
  rintro e w2 ⟨rfl, h2⟩
  have H0 := Lib.hid (H1.out.next h2)
  clear h2
  obtain ⟨e0, e1, e2, e3, e4, e5, e6, e7, e8, e9⟩ := ten_cells (H0.out.box HA.out.2.2 (by decide) (by decide))
  have hG1 : Opr.Glob w2 := HP.out.2.2.2.2.2.2.1.below H0.out.1.2 HP.out.2.2.2.2.2.2.1.1
  have HG1 := Lib.hid hG1
  clear hG1
  go_wp2_with fail
  refine (operation_v w0 b T0 (T0 ++ opT 20) 20 w2 HG1.out H0.out.1 rfl HP.out.2.2.2.2.1).mono ?_
  rintro e w3 ⟨rfl, h3⟩
  have H3 := Lib.hid (H0.out.next h3)
  clear h3
  clear e0 e1 e2 e3 e4 e5 e6 e7 e8 e9
  obtain ⟨e0, e1, e2, e3, e4, e5, e6, e7, e8, e9⟩ := ten_cells (H3.out.box HA.out.2.2 (by decide) (by decide))
  go_wp2_with fail
  clear e0 e1 e2 e3 e4 e5 e6 e7 e8 e9
  refine (taken_v w0 b _ t aa an ac args la ln lc labels w3 H3.out.1 HP.out.1.args HP.out.2.1.args HP.out.1.labels HN.out.1 HN.out.2.1 HP.out.2.2.1 HP.out.2.2.2.1).mono ?_
  rintro e w4 ⟨rfl, h4⟩
  have H4 := Lib.hid (H3.out.next h4)
  clear h4
  go_wp2_with fail
  go_end0
  exact ⟨rfl, H4.out.from HA.out.2.1⟩
set_option maxHeartbeats 2000000 in
theorem ins_21_0 (w0 : World) (b : Nat) (l t : List UInt8) (dc dn dt : Int) (args : List Opn) (nm : ByteArray) (off : Int) (labels : List ByteArray) (cas : List Int) (aa : Option Addr) (an ac : Nat) (la : Option Addr) (ln lc : Nat) (ca : Option Addr) (cn cc : Nat) (W : World) (hG : Opr.Glob w0) (h : Wr w0 b l W) (hI : IsIns w0 ⟨21, ⟨0, dc, dn, dt⟩, args, nm, off, labels, cas⟩ ⟨aa, an, ac, la, ln, lc, ca, cn, cc⟩) (hF : InsF ⟨21, ⟨0, dc, dn, dt⟩, args, nm, off, labels, cas⟩) (ht : l ++ insT ⟨21, ⟨0, dc, dn, dt⟩, args, nm, off, labels, cas⟩ = t) (hlen : t.length ≤ big) :
    Calls Tryd.prog 63 #[.pointer (some ⟨b, 0, none⟩), .agg #[.int .i64 21, .int .i64 0, .int .i64 dc, .int .i64 dn, .int .i64 dt, .slice aa an ac, .string nm, .int .i64 off, .slice la ln lc, .slice ca cn cc]] W fun e w' => e = .returned (.tuple #[]) ∧ Wrote w0 b t W w' := by
  have hrest : restT ⟨21, ⟨0, dc, dn, dt⟩, args, nm, off, labels, cas⟩ = takenT args labels := by simp [restT]
  obtain ⟨T0, hT0⟩ : ∃ T0, l = T0 := ⟨_, rfl⟩
  have t2 : T0 ++ opT 21 ++ takenT args labels = t := by rw [← ht, ← hrest, ← hT0]; simp [insT, dstT]
  have n0 : T0.length ≤ big := by rw [← t2] at hlen; simp only [List.length_append] at hlen; omega
  have n1 : (T0 ++ opT 21).length ≤ big := by rw [← t2, List.length_append] at hlen; omega
  have HA := Lib.hid (And.intro (h.alloc (.cells #[.int .i64 21, .int .i64 0, .int .i64 dc, .int .i64 dn, .int .i64 dt, .slice aa an ac, .string nm, .int .i64 off, .slice la ln lc, .slice ca cn cc] 57)) (And.intro ((Below.refl _ W).alloc (Nat.le_refl _) (.cells #[.int .i64 21, .int .i64 0, .int .i64 dc, .int .i64 dn, .int .i64 dt, .slice aa an ac, .string nm, .int .i64 off, .slice la ln lc, .slice ca cn cc] 57)) (heap_alloc_new W (.cells #[.int .i64 21, .int .i64 0, .int .i64 dc, .int .i64 dn, .int .i64 dt, .slice aa an ac, .string nm, .int .i64 off, .slice la ln lc, .slice ca cn cc] 57))))
  obtain ⟨wa, hwa⟩ : ∃ wa, W.alloc (.cells #[.int .i64 21, .int .i64 0, .int .i64 dc, .int .i64 dn, .int .i64 dt, .slice aa an ac, .string nm, .int .i64 off, .slice la ln lc, .slice ca cn cc] 57) = wa := ⟨_, rfl⟩
  rw [hwa] at HA
  obtain ⟨e0, e1, e2, e3, e4, e5, e6, e7, e8, e9⟩ := ten_cells HA.out.2.2
  have ha1 := hI.args.1
  have hl1 := hI.labels.1
  dsimp only at ha1 hl1
  have HP := Lib.hid (And.intro hI (And.intro hF (And.intro t2 (And.intro hlen (And.intro n1 (And.intro n0 (And.intro hG (And.intro hT0 hT0))))))))
  have HN := Lib.hid (And.intro (show an ≤ 1048576 by have := hF.an; dsimp only at this; omega) (And.intro (show ln ≤ 1048576 by have := hF.ln; dsimp only at this; omega) ha1))
  clear h ht hlen hI hF t2 n1 n0 hG hrest ha1 hl1 hT0
  go_enter Tryd.func63, Tryd.ntmps63
  go_wp2_with fail
  have H0 := Lib.hid (Wrote.to HA.out.1.wrote HP.out.2.2.2.2.2.2.2.1)
  have hG1 : Opr.Glob wa := HP.out.2.2.2.2.2.2.1.below H0.out.1.2 HP.out.2.2.2.2.2.2.1.1
  have HG1 := Lib.hid hG1
  clear hG1
  refine (operation_v w0 b T0 (T0 ++ opT 21) 21 wa HG1.out H0.out.1 rfl HP.out.2.2.2.2.1).mono ?_
  rintro e w3 ⟨rfl, h3⟩
  have H3 := Lib.hid (H0.out.next h3)
  clear h3 hwa
  clear e0 e1 e2 e3 e4 e5 e6 e7 e8 e9
  obtain ⟨e0, e1, e2, e3, e4, e5, e6, e7, e8, e9⟩ := ten_cells (H3.out.box HA.out.2.2 (by decide) (by decide))
  go_wp2_with fail
  clear e0 e1 e2 e3 e4 e5 e6 e7 e8 e9
  refine (taken_v w0 b _ t aa an ac args la ln lc labels w3 H3.out.1 HP.out.1.args HP.out.2.1.args HP.out.1.labels HN.out.1 HN.out.2.1 HP.out.2.2.1 HP.out.2.2.2.1).mono ?_
  rintro e w4 ⟨rfl, h4⟩
  have H4 := Lib.hid (H3.out.next h4)
  clear h4
  go_wp2_with fail
  go_end0
  exact ⟨rfl, H4.out.from HA.out.2.1⟩
set_option maxHeartbeats 2000000 in
theorem ins_21_1 (w0 : World) (b : Nat) (l t : List UInt8) (dk dc dn dt : Int) (args : List Opn) (nm : ByteArray) (off : Int) (labels : List ByteArray) (cas : List Int) (aa : Option Addr) (an ac : Nat) (la : Option Addr) (ln lc : Nat) (ca : Option Addr) (cn cc : Nat) (W : World) (hG : Opr.Glob w0) (h : Wr w0 b l W) (hI : IsIns w0 ⟨21, ⟨dk, dc, dn, dt⟩, args, nm, off, labels, cas⟩ ⟨aa, an, ac, la, ln, lc, ca, cn, cc⟩) (hF : InsF ⟨21, ⟨dk, dc, dn, dt⟩, args, nm, off, labels, cas⟩) (hd : (dk == 0) = false) (ht : l ++ insT ⟨21, ⟨dk, dc, dn, dt⟩, args, nm, off, labels, cas⟩ = t) (hlen : t.length ≤ big) :
    Calls Tryd.prog 63 #[.pointer (some ⟨b, 0, none⟩), .agg #[.int .i64 21, .int .i64 dk, .int .i64 dc, .int .i64 dn, .int .i64 dt, .slice aa an ac, .string nm, .int .i64 off, .slice la ln lc, .slice ca cn cc]] W fun e w' => e = .returned (.tuple #[]) ∧ Wrote w0 b t W w' := by
  have hrest : restT ⟨21, ⟨dk, dc, dn, dt⟩, args, nm, off, labels, cas⟩ = takenT args labels := by simp [restT]
  have hd2 : ¬ dk = 0 := by simpa using hd
  obtain ⟨T0, hT0⟩ : ∃ T0, l ++ opnT ⟨dk, dc, dn, dt⟩ ++ [32, 61, 32] = T0 := ⟨_, rfl⟩
  have t2 : T0 ++ opT 21 ++ takenT args labels = t := by rw [← ht, ← hrest, ← hT0]; simp [insT, dstT, hd2]
  have n0 : T0.length ≤ big := by rw [← t2] at hlen; simp only [List.length_append] at hlen; omega
  have nm1 : (l ++ opnT ⟨dk, dc, dn, dt⟩).length ≤ big := by rw [← hT0, List.length_append] at n0; omega
  have n1 : (T0 ++ opT 21).length ≤ big := by rw [← t2, List.length_append] at hlen; omega
  have HA := Lib.hid (And.intro (h.alloc (.cells #[.int .i64 21, .int .i64 dk, .int .i64 dc, .int .i64 dn, .int .i64 dt, .slice aa an ac, .string nm, .int .i64 off, .slice la ln lc, .slice ca cn cc] 57)) (And.intro ((Below.refl _ W).alloc (Nat.le_refl _) (.cells #[.int .i64 21, .int .i64 dk, .int .i64 dc, .int .i64 dn, .int .i64 dt, .slice aa an ac, .string nm, .int .i64 off, .slice la ln lc, .slice ca cn cc] 57)) (heap_alloc_new W (.cells #[.int .i64 21, .int .i64 dk, .int .i64 dc, .int .i64 dn, .int .i64 dt, .slice aa an ac, .string nm, .int .i64 off, .slice la ln lc, .slice ca cn cc] 57))))
  obtain ⟨wa, hwa⟩ : ∃ wa, W.alloc (.cells #[.int .i64 21, .int .i64 dk, .int .i64 dc, .int .i64 dn, .int .i64 dt, .slice aa an ac, .string nm, .int .i64 off, .slice la ln lc, .slice ca cn cc] 57) = wa := ⟨_, rfl⟩
  rw [hwa] at HA
  obtain ⟨e0, e1, e2, e3, e4, e5, e6, e7, e8, e9⟩ := ten_cells HA.out.2.2
  have ha1 := hI.args.1
  have hl1 := hI.labels.1
  dsimp only at ha1 hl1
  have HP := Lib.hid (And.intro hI (And.intro hF (And.intro t2 (And.intro hlen (And.intro n1 (And.intro n0 (And.intro hG (And.intro nm1 hT0))))))))
  have HN := Lib.hid (And.intro (show an ≤ 1048576 by have := hF.an; dsimp only at this; omega) (And.intro (show ln ≤ 1048576 by have := hF.ln; dsimp only at this; omega) ha1))
  clear h ht hlen hI hF t2 n1 n0 hG hrest ha1 hl1 nm1 hd2 hT0
  go_enter Tryd.func63, Tryd.ntmps63
  go_wp2_with fail
  refine (operand_v w0 b l (l ++ opnT ⟨dk, dc, dn, dt⟩) ⟨dk, dc, dn, dt⟩ _ HA.out.1 HP.out.2.1.dst rfl HP.out.2.2.2.2.2.2.2.1).mono ?_
  rintro e w1 ⟨rfl, h1⟩
  have H1 := Lib.hid h1
  clear h1 hwa
  clear e0 e1 e2 e3 e4 e5 e6 e7 e8 e9
  obtain ⟨e0, e1, e2, e3, e4, e5, e6, e7, e8, e9⟩ := ten_cells (H1.out.box HA.out.2.2 (by decide) (by decide))
  go_wp2_with fail
  clear e0 e1 e2 e3 e4 e5 e6 e7 e8 e9
  refine (write_s w0 b _ T0 _ w1 H1.out.1 HP.out.2.2.2.2.2.2.2.2 HP.out.2.2.2.2.2.1).mono ?_
  rintro e w2 ⟨rfl, h2⟩
  have H0 := Lib.hid (H1.out.next h2)
  clear h2
  obtain ⟨e0, e1, e2, e3, e4, e5, e6, e7, e8, e9⟩ := ten_cells (H0.out.box HA.out.2.2 (by decide) (by decide))
  have hG1 : Opr.Glob w2 := HP.out.2.2.2.2.2.2.1.below H0.out.1.2 HP.out.2.2.2.2.2.2.1.1
  have HG1 := Lib.hid hG1
  clear hG1
  go_wp2_with fail
  refine (operation_v w0 b T0 (T0 ++ opT 21) 21 w2 HG1.out H0.out.1 rfl HP.out.2.2.2.2.1).mono ?_
  rintro e w3 ⟨rfl, h3⟩
  have H3 := Lib.hid (H0.out.next h3)
  clear h3
  clear e0 e1 e2 e3 e4 e5 e6 e7 e8 e9
  obtain ⟨e0, e1, e2, e3, e4, e5, e6, e7, e8, e9⟩ := ten_cells (H3.out.box HA.out.2.2 (by decide) (by decide))
  go_wp2_with fail
  clear e0 e1 e2 e3 e4 e5 e6 e7 e8 e9
  refine (taken_v w0 b _ t aa an ac args la ln lc labels w3 H3.out.1 HP.out.1.args HP.out.2.1.args HP.out.1.labels HN.out.1 HN.out.2.1 HP.out.2.2.1 HP.out.2.2.2.1).mono ?_
  rintro e w4 ⟨rfl, h4⟩
  have H4 := Lib.hid (H3.out.next h4)
  clear h4
  go_wp2_with fail
  go_end0
  exact ⟨rfl, H4.out.from HA.out.2.1⟩
set_option maxHeartbeats 2000000 in
theorem ins_22_0 (w0 : World) (b : Nat) (l t : List UInt8) (dc dn dt : Int) (args : List Opn) (nm : ByteArray) (off : Int) (labels : List ByteArray) (cas : List Int) (aa : Option Addr) (an ac : Nat) (la : Option Addr) (ln lc : Nat) (ca : Option Addr) (cn cc : Nat) (W : World) (hG : Opr.Glob w0) (h : Wr w0 b l W) (hI : IsIns w0 ⟨22, ⟨0, dc, dn, dt⟩, args, nm, off, labels, cas⟩ ⟨aa, an, ac, la, ln, lc, ca, cn, cc⟩) (hF : InsF ⟨22, ⟨0, dc, dn, dt⟩, args, nm, off, labels, cas⟩) (ht : l ++ insT ⟨22, ⟨0, dc, dn, dt⟩, args, nm, off, labels, cas⟩ = t) (hlen : t.length ≤ big) :
    Calls Tryd.prog 63 #[.pointer (some ⟨b, 0, none⟩), .agg #[.int .i64 22, .int .i64 0, .int .i64 dc, .int .i64 dn, .int .i64 dt, .slice aa an ac, .string nm, .int .i64 off, .slice la ln lc, .slice ca cn cc]] W fun e w' => e = .returned (.tuple #[]) ∧ Wrote w0 b t W w' := by
  have hrest : restT ⟨22, ⟨0, dc, dn, dt⟩, args, nm, off, labels, cas⟩ = (takenT args [] ++ casesT cas labels) := by simp [restT]
  obtain ⟨T0, hT0⟩ : ∃ T0, l = T0 := ⟨_, rfl⟩
  have t2 : T0 ++ opT 22 ++ (takenT args [] ++ casesT cas labels) = t := by rw [← ht, ← hrest, ← hT0]; simp [insT, dstT]
  have n0 : T0.length ≤ big := by rw [← t2] at hlen; simp only [List.length_append] at hlen; omega
  have n1 : (T0 ++ opT 22).length ≤ big := by rw [← t2, List.length_append] at hlen; omega
  have HA := Lib.hid (And.intro (h.alloc (.cells #[.int .i64 22, .int .i64 0, .int .i64 dc, .int .i64 dn, .int .i64 dt, .slice aa an ac, .string nm, .int .i64 off, .slice la ln lc, .slice ca cn cc] 57)) (And.intro ((Below.refl _ W).alloc (Nat.le_refl _) (.cells #[.int .i64 22, .int .i64 0, .int .i64 dc, .int .i64 dn, .int .i64 dt, .slice aa an ac, .string nm, .int .i64 off, .slice la ln lc, .slice ca cn cc] 57)) (heap_alloc_new W (.cells #[.int .i64 22, .int .i64 0, .int .i64 dc, .int .i64 dn, .int .i64 dt, .slice aa an ac, .string nm, .int .i64 off, .slice la ln lc, .slice ca cn cc] 57))))
  obtain ⟨wa, hwa⟩ : ∃ wa, W.alloc (.cells #[.int .i64 22, .int .i64 0, .int .i64 dc, .int .i64 dn, .int .i64 dt, .slice aa an ac, .string nm, .int .i64 off, .slice la ln lc, .slice ca cn cc] 57) = wa := ⟨_, rfl⟩
  rw [hwa] at HA
  obtain ⟨e0, e1, e2, e3, e4, e5, e6, e7, e8, e9⟩ := ten_cells HA.out.2.2
  have ha1 := hI.args.1
  have hl1 := hI.labels.1
  dsimp only at ha1 hl1
  have HP := Lib.hid (And.intro hI (And.intro hF (And.intro t2 (And.intro hlen (And.intro n1 (And.intro n0 (And.intro hG (And.intro hT0 hT0))))))))
  have HN := Lib.hid (And.intro (show an ≤ 1048576 by have := hF.an; dsimp only at this; omega) (And.intro (show ln ≤ 1048576 by have := hF.ln; dsimp only at this; omega) ha1))
  clear h ht hlen hI hF t2 n1 n0 hG hrest ha1 hl1 hT0
  go_enter Tryd.func63, Tryd.ntmps63
  go_wp2_with fail
  have H0 := Lib.hid (Wrote.to HA.out.1.wrote HP.out.2.2.2.2.2.2.2.1)
  have hG1 : Opr.Glob wa := HP.out.2.2.2.2.2.2.1.below H0.out.1.2 HP.out.2.2.2.2.2.2.1.1
  have HG1 := Lib.hid hG1
  clear hG1
  refine (operation_v w0 b T0 (T0 ++ opT 22) 22 wa HG1.out H0.out.1 rfl HP.out.2.2.2.2.1).mono ?_
  rintro e w3 ⟨rfl, h3⟩
  have H3 := Lib.hid (H0.out.next h3)
  clear h3 hwa
  clear e0 e1 e2 e3 e4 e5 e6 e7 e8 e9
  obtain ⟨e0, e1, e2, e3, e4, e5, e6, e7, e8, e9⟩ := ten_cells (H3.out.box HA.out.2.2 (by decide) (by decide))
  go_wp2_with fail
  clear e0 e1 e2 e3 e4 e5 e6 e7 e8 e9
  have n5 : (T0 ++ opT 22 ++ takenT args []).length ≤ big := by have h1 := HP.out.2.2.2.1; rw [← HP.out.2.2.1] at h1; simp only [List.length_append] at h1 ⊢; omega
  have HN5 := Lib.hid n5
  clear n5
  refine (taken_v w0 b _ (T0 ++ opT 22 ++ takenT args []) aa an ac args none 0 0 [] w3 H3.out.1 HP.out.1.args HP.out.2.1.args (IsStrs.nil _ _) HN.out.1 (by omega) rfl HN5.out).mono ?_
  rintro e w4 ⟨rfl, h4⟩
  have H4 := Lib.hid (H3.out.next h4)
  clear h4
  obtain ⟨e0, e1, e2, e3, e4, e5, e6, e7, e8, e9⟩ := ten_cells (H4.out.box HA.out.2.2 (by decide) (by decide))
  go_wp2_with fail
  clear e0 e1 e2 e3 e4 e5 e6 e7 e8 e9
  refine (cases_v w0 b _ t 22 0 dc dn dt args nm off labels cas aa an ac la ln lc ca cn cc w4 H4.out.1 HP.out.1.cases HP.out.2.1.cases HP.out.1.labels (by rw [← HP.out.2.2.1]; simp) HP.out.2.2.2.1).mono ?_
  rintro e w5 ⟨rfl, h5⟩
  have H5 := Lib.hid (H4.out.next h5)
  clear h5
  go_wp2_with fail
  go_end0
  exact ⟨rfl, H5.out.from HA.out.2.1⟩
set_option maxHeartbeats 2000000 in
theorem ins_22_1 (w0 : World) (b : Nat) (l t : List UInt8) (dk dc dn dt : Int) (args : List Opn) (nm : ByteArray) (off : Int) (labels : List ByteArray) (cas : List Int) (aa : Option Addr) (an ac : Nat) (la : Option Addr) (ln lc : Nat) (ca : Option Addr) (cn cc : Nat) (W : World) (hG : Opr.Glob w0) (h : Wr w0 b l W) (hI : IsIns w0 ⟨22, ⟨dk, dc, dn, dt⟩, args, nm, off, labels, cas⟩ ⟨aa, an, ac, la, ln, lc, ca, cn, cc⟩) (hF : InsF ⟨22, ⟨dk, dc, dn, dt⟩, args, nm, off, labels, cas⟩) (hd : (dk == 0) = false) (ht : l ++ insT ⟨22, ⟨dk, dc, dn, dt⟩, args, nm, off, labels, cas⟩ = t) (hlen : t.length ≤ big) :
    Calls Tryd.prog 63 #[.pointer (some ⟨b, 0, none⟩), .agg #[.int .i64 22, .int .i64 dk, .int .i64 dc, .int .i64 dn, .int .i64 dt, .slice aa an ac, .string nm, .int .i64 off, .slice la ln lc, .slice ca cn cc]] W fun e w' => e = .returned (.tuple #[]) ∧ Wrote w0 b t W w' := by
  have hrest : restT ⟨22, ⟨dk, dc, dn, dt⟩, args, nm, off, labels, cas⟩ = (takenT args [] ++ casesT cas labels) := by simp [restT]
  have hd2 : ¬ dk = 0 := by simpa using hd
  obtain ⟨T0, hT0⟩ : ∃ T0, l ++ opnT ⟨dk, dc, dn, dt⟩ ++ [32, 61, 32] = T0 := ⟨_, rfl⟩
  have t2 : T0 ++ opT 22 ++ (takenT args [] ++ casesT cas labels) = t := by rw [← ht, ← hrest, ← hT0]; simp [insT, dstT, hd2]
  have n0 : T0.length ≤ big := by rw [← t2] at hlen; simp only [List.length_append] at hlen; omega
  have nm1 : (l ++ opnT ⟨dk, dc, dn, dt⟩).length ≤ big := by rw [← hT0, List.length_append] at n0; omega
  have n1 : (T0 ++ opT 22).length ≤ big := by rw [← t2, List.length_append] at hlen; omega
  have HA := Lib.hid (And.intro (h.alloc (.cells #[.int .i64 22, .int .i64 dk, .int .i64 dc, .int .i64 dn, .int .i64 dt, .slice aa an ac, .string nm, .int .i64 off, .slice la ln lc, .slice ca cn cc] 57)) (And.intro ((Below.refl _ W).alloc (Nat.le_refl _) (.cells #[.int .i64 22, .int .i64 dk, .int .i64 dc, .int .i64 dn, .int .i64 dt, .slice aa an ac, .string nm, .int .i64 off, .slice la ln lc, .slice ca cn cc] 57)) (heap_alloc_new W (.cells #[.int .i64 22, .int .i64 dk, .int .i64 dc, .int .i64 dn, .int .i64 dt, .slice aa an ac, .string nm, .int .i64 off, .slice la ln lc, .slice ca cn cc] 57))))
  obtain ⟨wa, hwa⟩ : ∃ wa, W.alloc (.cells #[.int .i64 22, .int .i64 dk, .int .i64 dc, .int .i64 dn, .int .i64 dt, .slice aa an ac, .string nm, .int .i64 off, .slice la ln lc, .slice ca cn cc] 57) = wa := ⟨_, rfl⟩
  rw [hwa] at HA
  obtain ⟨e0, e1, e2, e3, e4, e5, e6, e7, e8, e9⟩ := ten_cells HA.out.2.2
  have ha1 := hI.args.1
  have hl1 := hI.labels.1
  dsimp only at ha1 hl1
  have HP := Lib.hid (And.intro hI (And.intro hF (And.intro t2 (And.intro hlen (And.intro n1 (And.intro n0 (And.intro hG (And.intro nm1 hT0))))))))
  have HN := Lib.hid (And.intro (show an ≤ 1048576 by have := hF.an; dsimp only at this; omega) (And.intro (show ln ≤ 1048576 by have := hF.ln; dsimp only at this; omega) ha1))
  clear h ht hlen hI hF t2 n1 n0 hG hrest ha1 hl1 nm1 hd2 hT0
  go_enter Tryd.func63, Tryd.ntmps63
  go_wp2_with fail
  refine (operand_v w0 b l (l ++ opnT ⟨dk, dc, dn, dt⟩) ⟨dk, dc, dn, dt⟩ _ HA.out.1 HP.out.2.1.dst rfl HP.out.2.2.2.2.2.2.2.1).mono ?_
  rintro e w1 ⟨rfl, h1⟩
  have H1 := Lib.hid h1
  clear h1 hwa
  clear e0 e1 e2 e3 e4 e5 e6 e7 e8 e9
  obtain ⟨e0, e1, e2, e3, e4, e5, e6, e7, e8, e9⟩ := ten_cells (H1.out.box HA.out.2.2 (by decide) (by decide))
  go_wp2_with fail
  clear e0 e1 e2 e3 e4 e5 e6 e7 e8 e9
  refine (write_s w0 b _ T0 _ w1 H1.out.1 HP.out.2.2.2.2.2.2.2.2 HP.out.2.2.2.2.2.1).mono ?_
  rintro e w2 ⟨rfl, h2⟩
  have H0 := Lib.hid (H1.out.next h2)
  clear h2
  obtain ⟨e0, e1, e2, e3, e4, e5, e6, e7, e8, e9⟩ := ten_cells (H0.out.box HA.out.2.2 (by decide) (by decide))
  have hG1 : Opr.Glob w2 := HP.out.2.2.2.2.2.2.1.below H0.out.1.2 HP.out.2.2.2.2.2.2.1.1
  have HG1 := Lib.hid hG1
  clear hG1
  go_wp2_with fail
  refine (operation_v w0 b T0 (T0 ++ opT 22) 22 w2 HG1.out H0.out.1 rfl HP.out.2.2.2.2.1).mono ?_
  rintro e w3 ⟨rfl, h3⟩
  have H3 := Lib.hid (H0.out.next h3)
  clear h3
  clear e0 e1 e2 e3 e4 e5 e6 e7 e8 e9
  obtain ⟨e0, e1, e2, e3, e4, e5, e6, e7, e8, e9⟩ := ten_cells (H3.out.box HA.out.2.2 (by decide) (by decide))
  go_wp2_with fail
  clear e0 e1 e2 e3 e4 e5 e6 e7 e8 e9
  have n5 : (T0 ++ opT 22 ++ takenT args []).length ≤ big := by have h1 := HP.out.2.2.2.1; rw [← HP.out.2.2.1] at h1; simp only [List.length_append] at h1 ⊢; omega
  have HN5 := Lib.hid n5
  clear n5
  refine (taken_v w0 b _ (T0 ++ opT 22 ++ takenT args []) aa an ac args none 0 0 [] w3 H3.out.1 HP.out.1.args HP.out.2.1.args (IsStrs.nil _ _) HN.out.1 (by omega) rfl HN5.out).mono ?_
  rintro e w4 ⟨rfl, h4⟩
  have H4 := Lib.hid (H3.out.next h4)
  clear h4
  obtain ⟨e0, e1, e2, e3, e4, e5, e6, e7, e8, e9⟩ := ten_cells (H4.out.box HA.out.2.2 (by decide) (by decide))
  go_wp2_with fail
  clear e0 e1 e2 e3 e4 e5 e6 e7 e8 e9
  refine (cases_v w0 b _ t 22 dk dc dn dt args nm off labels cas aa an ac la ln lc ca cn cc w4 H4.out.1 HP.out.1.cases HP.out.2.1.cases HP.out.1.labels (by rw [← HP.out.2.2.1]; simp) HP.out.2.2.2.1).mono ?_
  rintro e w5 ⟨rfl, h5⟩
  have H5 := Lib.hid (H4.out.next h5)
  clear h5
  go_wp2_with fail
  go_end0
  exact ⟨rfl, H5.out.from HA.out.2.1⟩
set_option maxHeartbeats 2000000 in
theorem ins_no_0 (w0 : World) (b : Nat) (l t : List UInt8) (op : Int) (dc dn dt : Int) (args : List Opn) (nm : ByteArray) (off : Int) (labels : List ByteArray) (cas : List Int) (aa : Option Addr) (an ac : Nat) (la : Option Addr) (ln lc : Nat) (ca : Option Addr) (cn cc : Nat) (W : World) (hG : Opr.Glob w0) (h : Wr w0 b l W) (hI : IsIns w0 ⟨op, ⟨0, dc, dn, dt⟩, args, nm, off, labels, cas⟩ ⟨aa, an, ac, la, ln, lc, ca, cn, cc⟩) (hF : InsF ⟨op, ⟨0, dc, dn, dt⟩, args, nm, off, labels, cas⟩) (n19 : ¬ op = 19) (d19 : (op == 19) = false) (n17 : ¬ op = 17) (d17 : (op == 17) = false) (n18 : ¬ op = 18) (d18 : (op == 18) = false) (n20 : ¬ op = 20) (d20 : (op == 20) = false) (n21 : ¬ op = 21) (d21 : (op == 21) = false) (n22 : ¬ op = 22) (d22 : (op == 22) = false) (ht : l ++ insT ⟨op, ⟨0, dc, dn, dt⟩, args, nm, off, labels, cas⟩ = t) (hlen : t.length ≤ big) :
    Calls Tryd.prog 63 #[.pointer (some ⟨b, 0, none⟩), .agg #[.int .i64 op, .int .i64 0, .int .i64 dc, .int .i64 dn, .int .i64 dt, .slice aa an ac, .string nm, .int .i64 off, .slice la ln lc, .slice ca cn cc]] W fun e w' => e = .returned (.tuple #[]) ∧ Wrote w0 b t W w' := by
  have hrest : restT ⟨op, ⟨0, dc, dn, dt⟩, args, nm, off, labels, cas⟩ = takenT args [] := by simp [restT, n19, n17, n18, n20, n21, n22]
  obtain ⟨T0, hT0⟩ : ∃ T0, l = T0 := ⟨_, rfl⟩
  have t2 : T0 ++ opT op ++ takenT args [] = t := by rw [← ht, ← hrest, ← hT0]; simp [insT, dstT]
  have n0 : T0.length ≤ big := by rw [← t2] at hlen; simp only [List.length_append] at hlen; omega
  have n1 : (T0 ++ opT op).length ≤ big := by rw [← t2, List.length_append] at hlen; omega
  have HA := Lib.hid (And.intro (h.alloc (.cells #[.int .i64 op, .int .i64 0, .int .i64 dc, .int .i64 dn, .int .i64 dt, .slice aa an ac, .string nm, .int .i64 off, .slice la ln lc, .slice ca cn cc] 57)) (And.intro ((Below.refl _ W).alloc (Nat.le_refl _) (.cells #[.int .i64 op, .int .i64 0, .int .i64 dc, .int .i64 dn, .int .i64 dt, .slice aa an ac, .string nm, .int .i64 off, .slice la ln lc, .slice ca cn cc] 57)) (heap_alloc_new W (.cells #[.int .i64 op, .int .i64 0, .int .i64 dc, .int .i64 dn, .int .i64 dt, .slice aa an ac, .string nm, .int .i64 off, .slice la ln lc, .slice ca cn cc] 57))))
  obtain ⟨wa, hwa⟩ : ∃ wa, W.alloc (.cells #[.int .i64 op, .int .i64 0, .int .i64 dc, .int .i64 dn, .int .i64 dt, .slice aa an ac, .string nm, .int .i64 off, .slice la ln lc, .slice ca cn cc] 57) = wa := ⟨_, rfl⟩
  rw [hwa] at HA
  obtain ⟨e0, e1, e2, e3, e4, e5, e6, e7, e8, e9⟩ := ten_cells HA.out.2.2
  have ha1 := hI.args.1
  have hl1 := hI.labels.1
  dsimp only at ha1 hl1
  have HP := Lib.hid (And.intro hI (And.intro hF (And.intro t2 (And.intro hlen (And.intro n1 (And.intro n0 (And.intro hG (And.intro hT0 hT0))))))))
  have HN := Lib.hid (And.intro (show an ≤ 1048576 by have := hF.an; dsimp only at this; omega) (And.intro (show ln ≤ 1048576 by have := hF.ln; dsimp only at this; omega) ha1))
  clear h ht hlen hI hF t2 n1 n0 hG hrest ha1 hl1 hT0
  go_enter Tryd.func63, Tryd.ntmps63
  go_wp2_with fail
  have H0 := Lib.hid (Wrote.to HA.out.1.wrote HP.out.2.2.2.2.2.2.2.1)
  have hG1 : Opr.Glob wa := HP.out.2.2.2.2.2.2.1.below H0.out.1.2 HP.out.2.2.2.2.2.2.1.1
  have HG1 := Lib.hid hG1
  clear hG1
  refine (operation_v w0 b T0 (T0 ++ opT op) op wa HG1.out H0.out.1 rfl HP.out.2.2.2.2.1).mono ?_
  rintro e w3 ⟨rfl, h3⟩
  have H3 := Lib.hid (H0.out.next h3)
  clear h3 hwa
  clear e0 e1 e2 e3 e4 e5 e6 e7 e8 e9
  obtain ⟨e0, e1, e2, e3, e4, e5, e6, e7, e8, e9⟩ := ten_cells (H3.out.box HA.out.2.2 (by decide) (by decide))
  go_wp2_with fail
  clear e0 e1 e2 e3 e4 e5 e6 e7 e8 e9
  refine (taken_v w0 b _ t aa an ac args none 0 0 [] w3 H3.out.1 HP.out.1.args HP.out.2.1.args (IsStrs.nil _ _) HN.out.1 (by omega) HP.out.2.2.1 HP.out.2.2.2.1).mono ?_
  rintro e w4 ⟨rfl, h4⟩
  have H4 := Lib.hid (H3.out.next h4)
  clear h4
  go_wp2_with fail
  go_end0
  exact ⟨rfl, H4.out.from HA.out.2.1⟩
set_option maxHeartbeats 2000000 in
theorem ins_no_1 (w0 : World) (b : Nat) (l t : List UInt8) (op : Int) (dk dc dn dt : Int) (args : List Opn) (nm : ByteArray) (off : Int) (labels : List ByteArray) (cas : List Int) (aa : Option Addr) (an ac : Nat) (la : Option Addr) (ln lc : Nat) (ca : Option Addr) (cn cc : Nat) (W : World) (hG : Opr.Glob w0) (h : Wr w0 b l W) (hI : IsIns w0 ⟨op, ⟨dk, dc, dn, dt⟩, args, nm, off, labels, cas⟩ ⟨aa, an, ac, la, ln, lc, ca, cn, cc⟩) (hF : InsF ⟨op, ⟨dk, dc, dn, dt⟩, args, nm, off, labels, cas⟩) (n19 : ¬ op = 19) (d19 : (op == 19) = false) (n17 : ¬ op = 17) (d17 : (op == 17) = false) (n18 : ¬ op = 18) (d18 : (op == 18) = false) (n20 : ¬ op = 20) (d20 : (op == 20) = false) (n21 : ¬ op = 21) (d21 : (op == 21) = false) (n22 : ¬ op = 22) (d22 : (op == 22) = false) (hd : (dk == 0) = false) (ht : l ++ insT ⟨op, ⟨dk, dc, dn, dt⟩, args, nm, off, labels, cas⟩ = t) (hlen : t.length ≤ big) :
    Calls Tryd.prog 63 #[.pointer (some ⟨b, 0, none⟩), .agg #[.int .i64 op, .int .i64 dk, .int .i64 dc, .int .i64 dn, .int .i64 dt, .slice aa an ac, .string nm, .int .i64 off, .slice la ln lc, .slice ca cn cc]] W fun e w' => e = .returned (.tuple #[]) ∧ Wrote w0 b t W w' := by
  have hrest : restT ⟨op, ⟨dk, dc, dn, dt⟩, args, nm, off, labels, cas⟩ = takenT args [] := by simp [restT, n19, n17, n18, n20, n21, n22]
  have hd2 : ¬ dk = 0 := by simpa using hd
  obtain ⟨T0, hT0⟩ : ∃ T0, l ++ opnT ⟨dk, dc, dn, dt⟩ ++ [32, 61, 32] = T0 := ⟨_, rfl⟩
  have t2 : T0 ++ opT op ++ takenT args [] = t := by rw [← ht, ← hrest, ← hT0]; simp [insT, dstT, hd2]
  have n0 : T0.length ≤ big := by rw [← t2] at hlen; simp only [List.length_append] at hlen; omega
  have nm1 : (l ++ opnT ⟨dk, dc, dn, dt⟩).length ≤ big := by rw [← hT0, List.length_append] at n0; omega
  have n1 : (T0 ++ opT op).length ≤ big := by rw [← t2, List.length_append] at hlen; omega
  have HA := Lib.hid (And.intro (h.alloc (.cells #[.int .i64 op, .int .i64 dk, .int .i64 dc, .int .i64 dn, .int .i64 dt, .slice aa an ac, .string nm, .int .i64 off, .slice la ln lc, .slice ca cn cc] 57)) (And.intro ((Below.refl _ W).alloc (Nat.le_refl _) (.cells #[.int .i64 op, .int .i64 dk, .int .i64 dc, .int .i64 dn, .int .i64 dt, .slice aa an ac, .string nm, .int .i64 off, .slice la ln lc, .slice ca cn cc] 57)) (heap_alloc_new W (.cells #[.int .i64 op, .int .i64 dk, .int .i64 dc, .int .i64 dn, .int .i64 dt, .slice aa an ac, .string nm, .int .i64 off, .slice la ln lc, .slice ca cn cc] 57))))
  obtain ⟨wa, hwa⟩ : ∃ wa, W.alloc (.cells #[.int .i64 op, .int .i64 dk, .int .i64 dc, .int .i64 dn, .int .i64 dt, .slice aa an ac, .string nm, .int .i64 off, .slice la ln lc, .slice ca cn cc] 57) = wa := ⟨_, rfl⟩
  rw [hwa] at HA
  obtain ⟨e0, e1, e2, e3, e4, e5, e6, e7, e8, e9⟩ := ten_cells HA.out.2.2
  have ha1 := hI.args.1
  have hl1 := hI.labels.1
  dsimp only at ha1 hl1
  have HP := Lib.hid (And.intro hI (And.intro hF (And.intro t2 (And.intro hlen (And.intro n1 (And.intro n0 (And.intro hG (And.intro nm1 hT0))))))))
  have HN := Lib.hid (And.intro (show an ≤ 1048576 by have := hF.an; dsimp only at this; omega) (And.intro (show ln ≤ 1048576 by have := hF.ln; dsimp only at this; omega) ha1))
  clear h ht hlen hI hF t2 n1 n0 hG hrest ha1 hl1 nm1 hd2 hT0
  go_enter Tryd.func63, Tryd.ntmps63
  go_wp2_with fail
  refine (operand_v w0 b l (l ++ opnT ⟨dk, dc, dn, dt⟩) ⟨dk, dc, dn, dt⟩ _ HA.out.1 HP.out.2.1.dst rfl HP.out.2.2.2.2.2.2.2.1).mono ?_
  rintro e w1 ⟨rfl, h1⟩
  have H1 := Lib.hid h1
  clear h1 hwa
  clear e0 e1 e2 e3 e4 e5 e6 e7 e8 e9
  obtain ⟨e0, e1, e2, e3, e4, e5, e6, e7, e8, e9⟩ := ten_cells (H1.out.box HA.out.2.2 (by decide) (by decide))
  go_wp2_with fail
  clear e0 e1 e2 e3 e4 e5 e6 e7 e8 e9
  refine (write_s w0 b _ T0 _ w1 H1.out.1 HP.out.2.2.2.2.2.2.2.2 HP.out.2.2.2.2.2.1).mono ?_
  rintro e w2 ⟨rfl, h2⟩
  have H0 := Lib.hid (H1.out.next h2)
  clear h2
  obtain ⟨e0, e1, e2, e3, e4, e5, e6, e7, e8, e9⟩ := ten_cells (H0.out.box HA.out.2.2 (by decide) (by decide))
  have hG1 : Opr.Glob w2 := HP.out.2.2.2.2.2.2.1.below H0.out.1.2 HP.out.2.2.2.2.2.2.1.1
  have HG1 := Lib.hid hG1
  clear hG1
  go_wp2_with fail
  refine (operation_v w0 b T0 (T0 ++ opT op) op w2 HG1.out H0.out.1 rfl HP.out.2.2.2.2.1).mono ?_
  rintro e w3 ⟨rfl, h3⟩
  have H3 := Lib.hid (H0.out.next h3)
  clear h3
  clear e0 e1 e2 e3 e4 e5 e6 e7 e8 e9
  obtain ⟨e0, e1, e2, e3, e4, e5, e6, e7, e8, e9⟩ := ten_cells (H3.out.box HA.out.2.2 (by decide) (by decide))
  go_wp2_with fail
  clear e0 e1 e2 e3 e4 e5 e6 e7 e8 e9
  refine (taken_v w0 b _ t aa an ac args none 0 0 [] w3 H3.out.1 HP.out.1.args HP.out.2.1.args (IsStrs.nil _ _) HN.out.1 (by omega) HP.out.2.2.1 HP.out.2.2.2.1).mono ?_
  rintro e w4 ⟨rfl, h4⟩
  have H4 := Lib.hid (H3.out.next h4)
  clear h4
  go_wp2_with fail
  go_end0
  exact ⟨rfl, H4.out.from HA.out.2.1⟩
theorem instr_v (w0 : World) (b : Nat) (l t : List UInt8) (i : Ins) (r : InsV) (W : World) (hG : Opr.Glob w0) (h : Wr w0 b l W) (hI : IsIns w0 i r) (hF : InsF i) (ht : l ++ insT i = t) (hlen : t.length ≤ big) :
    Calls Tryd.prog 63 #[.pointer (some ⟨b, 0, none⟩), .agg (insR i r)] W fun e w' => e = .returned (.tuple #[]) ∧ Wrote w0 b t W w' := by
  obtain ⟨op, ⟨dk, dc, dn, dt⟩, args, nm, off, labels, cas⟩ := i
  obtain ⟨aa, an, ac, la, ln, lc, ca, cn, cc⟩ := r
  unfold insR
  dsimp only
  by_cases hd : dk = 0
  · subst hd
    by_cases n19 : op = 19
    · subst n19; exact ins_19_0 w0 b l t dc dn dt args nm off labels cas aa an ac la ln lc ca cn cc W hG h hI hF ht hlen
    by_cases n17 : op = 17
    · subst n17; exact ins_17_0 w0 b l t dc dn dt args nm off labels cas aa an ac la ln lc ca cn cc W hG h hI hF ht hlen
    by_cases n18 : op = 18
    · subst n18; exact ins_18_0 w0 b l t dc dn dt args nm off labels cas aa an ac la ln lc ca cn cc W hG h hI hF ht hlen
    by_cases n20 : op = 20
    · subst n20; exact ins_20_0 w0 b l t dc dn dt args nm off labels cas aa an ac la ln lc ca cn cc W hG h hI hF ht hlen
    by_cases n21 : op = 21
    · subst n21; exact ins_21_0 w0 b l t dc dn dt args nm off labels cas aa an ac la ln lc ca cn cc W hG h hI hF ht hlen
    by_cases n22 : op = 22
    · subst n22; exact ins_22_0 w0 b l t dc dn dt args nm off labels cas aa an ac la ln lc ca cn cc W hG h hI hF ht hlen
    exact ins_no_0 w0 b l t op dc dn dt args nm off labels cas aa an ac la ln lc ca cn cc W hG h hI hF n19 (by simpa using n19) n17 (by simpa using n17) n18 (by simpa using n18) n20 (by simpa using n20) n21 (by simpa using n21) n22 (by simpa using n22) ht hlen
  · have hd2 : (dk == 0) = false := by simpa using hd
    by_cases n19 : op = 19
    · subst n19; exact ins_19_1 w0 b l t dk dc dn dt args nm off labels cas aa an ac la ln lc ca cn cc W hG h hI hF hd2 ht hlen
    by_cases n17 : op = 17
    · subst n17; exact ins_17_1 w0 b l t dk dc dn dt args nm off labels cas aa an ac la ln lc ca cn cc W hG h hI hF hd2 ht hlen
    by_cases n18 : op = 18
    · subst n18; exact ins_18_1 w0 b l t dk dc dn dt args nm off labels cas aa an ac la ln lc ca cn cc W hG h hI hF hd2 ht hlen
    by_cases n20 : op = 20
    · subst n20; exact ins_20_1 w0 b l t dk dc dn dt args nm off labels cas aa an ac la ln lc ca cn cc W hG h hI hF hd2 ht hlen
    by_cases n21 : op = 21
    · subst n21; exact ins_21_1 w0 b l t dk dc dn dt args nm off labels cas aa an ac la ln lc ca cn cc W hG h hI hF hd2 ht hlen
    by_cases n22 : op = 22
    · subst n22; exact ins_22_1 w0 b l t dk dc dn dt args nm off labels cas aa an ac la ln lc ca cn cc W hG h hI hF hd2 ht hlen
    exact ins_no_1 w0 b l t op dk dc dn dt args nm off labels cas aa an ac la ln lc ca cn cc W hG h hI hF n19 (by simpa using n19) n17 (by simpa using n17) n18 (by simpa using n18) n20 (by simpa using n20) n21 (by simpa using n21) n22 (by simpa using n22) hd2 ht hlen
end Go.Proofs.YtakfoncdiejhaaaDoor
