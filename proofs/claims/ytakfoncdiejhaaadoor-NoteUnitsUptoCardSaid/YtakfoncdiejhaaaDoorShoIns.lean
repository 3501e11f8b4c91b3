
/- Instructions written. -/
import Derived.Test.YtakfoncdiejhaaaDoorShoRows
import Derived.Test.YtakfoncdiejhaaaDoorQuo
namespace Go.Proofs.YtakfoncdiejhaaaDoor
open Go.ChangeShapes Go.WideShapes Go.RowKit
set_option linter.unusedVariables false
set_option maxRecDepth 20000

theorem ten_cells {W : World} {P : Nat} {a0 a1 a2 a3 a4 a5 a6 a7 a8 a9 : Value} {t : TypeId} (h : W.heap[P]? = some (.cells #[a0, a1, a2, a3, a4, a5, a6, a7, a8, a9] t (0, 0))) :
    W.cell? ⟨P, 0, none⟩ = some a0 ∧ W.cell? ⟨P, 1, none⟩ = some a1 ∧ W.cell? ⟨P, 2, none⟩ = some a2 ∧ W.cell? ⟨P, 3, none⟩ = some a3 ∧ W.cell? ⟨P, 4, none⟩ = some a4 ∧ W.cell? ⟨P, 5, none⟩ = some a5 ∧ W.cell? ⟨P, 6, none⟩ = some a6 ∧ W.cell? ⟨P, 7, none⟩ = some a7 ∧ W.cell? ⟨P, 8, none⟩ = some a8 ∧ W.cell? ⟨P, 9, none⟩ = some a9 :=
  ⟨cell_in h 0, cell_in h 1, cell_in h 2, cell_in h 3, cell_in h 4, cell_in h 5, cell_in h 6, cell_in h 7, cell_in h 8, cell_in h 9⟩
set_option maxHeartbeats 2000000 in
theorem offset_0 (w0 : World) (b : Nat) (l t : List UInt8) (op : Int) (dk dc dn dt : Int) (args : List Opn) (nm : ByteArray) (off : Int) (labels : List ByteArray) (cas : List Int) (aa : Option Addr) (an ac : Nat) (la : Option Addr) (ln lc : Nat) (ca : Option Addr) (cn cc : Nat) (W : World) (h : Wr w0 b l W) (ha : args.length = an) (hz : an = 0) (ht : l ++ offT args off = t) (hlen : t.length ≤ big) :
    Calls Tryd.prog 70 #[.pointer (some ⟨b, 0, none⟩), .agg #[.int .i64 op, .int .i64 dk, .int .i64 dc, .int .i64 dn, .int .i64 dt, .slice aa an ac, .string nm, .int .i64 off, .slice la ln lc, .slice ca cn cc]] W fun e w' => e = .returned (.tuple #[]) ∧ Wrote w0 b t W w' := by
  have e : l = t := by rw [← ht]; unfold offT; rw [if_pos (.inl (List.eq_nil_of_length_eq_zero (ha.trans hz)))]; simp
  subst e
  subst hz
  have HA := Lib.hid (And.intro (h.alloc (.cells #[.int .i64 op, .int .i64 dk, .int .i64 dc, .int .i64 dn, .int .i64 dt, .slice aa 0 ac, .string nm, .int .i64 off, .slice la ln lc, .slice ca cn cc] 57)) (And.intro ((Below.refl _ W).alloc (Nat.le_refl _) (.cells #[.int .i64 op, .int .i64 dk, .int .i64 dc, .int .i64 dn, .int .i64 dt, .slice aa 0 ac, .string nm, .int .i64 off, .slice la ln lc, .slice ca cn cc] 57)) (heap_alloc_new W (.cells #[.int .i64 op, .int .i64 dk, .int .i64 dc, .int .i64 dn, .int .i64 dt, .slice aa 0 ac, .string nm, .int .i64 off, .slice la ln lc, .slice ca cn cc] 57))))
  obtain ⟨wa, hwa⟩ : ∃ wa, W.alloc (.cells #[.int .i64 op, .int .i64 dk, .int .i64 dc, .int .i64 dn, .int .i64 dt, .slice aa 0 ac, .string nm, .int .i64 off, .slice la ln lc, .slice ca cn cc] 57) = wa := ⟨_, rfl⟩
  rw [hwa] at HA
  obtain ⟨e0, e1, e2, e3, e4, e5, e6, e7, e8, e9⟩ := ten_cells HA.out.2.2
  clear h ht hlen ha
  go_enter Tryd.func70, Tryd.ntmps70
  go_wp2_with fail
  (try simp only [Exit.inBlock, Exit.then]); refine bodyPost_ret (results_none rfl _ _ _) rfl ?_
  exact ⟨rfl, HA.out.1.wrote.from HA.out.2.1⟩
set_option maxHeartbeats 2000000 in
theorem offset_z (w0 : World) (b : Nat) (l t : List UInt8) (op : Int) (dk dc dn dt : Int) (args : List Opn) (nm : ByteArray) (off : Int) (labels : List ByteArray) (cas : List Int) (aa : Option Addr) (an ac : Nat) (la : Option Addr) (ln lc : Nat) (ca : Option Addr) (cn cc : Nat) (W : World) (h : Wr w0 b l W) (ha : args.length = an) (hz : ¬ an = 0) (hoff : off = 0) (ht : l ++ offT args off = t) (hlen : t.length ≤ big) :
    Calls Tryd.prog 70 #[.pointer (some ⟨b, 0, none⟩), .agg #[.int .i64 op, .int .i64 dk, .int .i64 dc, .int .i64 dn, .int .i64 dt, .slice aa an ac, .string nm, .int .i64 off, .slice la ln lc, .slice ca cn cc]] W fun e w' => e = .returned (.tuple #[]) ∧ Wrote w0 b t W w' := by
  have e : l = t := by rw [← ht]; unfold offT; rw [if_pos (.inr hoff)]; simp
  subst e
  subst hoff
  have hz1 : ¬ (an : Int) = 0 := by omega
  have hz2 : ((an : Int) == 0) = false := by simpa using hz
  have HA := Lib.hid (And.intro (h.alloc (.cells #[.int .i64 op, .int .i64 dk, .int .i64 dc, .int .i64 dn, .int .i64 dt, .slice aa an ac, .string nm, .int .i64 0, .slice la ln lc, .slice ca cn cc] 57)) (And.intro ((Below.refl _ W).alloc (Nat.le_refl _) (.cells #[.int .i64 op, .int .i64 dk, .int .i64 dc, .int .i64 dn, .int .i64 dt, .slice aa an ac, .string nm, .int .i64 0, .slice la ln lc, .slice ca cn cc] 57)) (heap_alloc_new W (.cells #[.int .i64 op, .int .i64 dk, .int .i64 dc, .int .i64 dn, .int .i64 dt, .slice aa an ac, .string nm, .int .i64 0, .slice la ln lc, .slice ca cn cc] 57))))
  obtain ⟨wa, hwa⟩ : ∃ wa, W.alloc (.cells #[.int .i64 op, .int .i64 dk, .int .i64 dc, .int .i64 dn, .int .i64 dt, .slice aa an ac, .string nm, .int .i64 0, .slice la ln lc, .slice ca cn cc] 57) = wa := ⟨_, rfl⟩
  rw [hwa] at HA
  obtain ⟨e0, e1, e2, e3, e4, e5, e6, e7, e8, e9⟩ := ten_cells HA.out.2.2
  clear h ht hlen ha hz
  go_enter Tryd.func70, Tryd.ntmps70
  go_wp2_with fail
  (try simp only [Exit.inBlock, Exit.then]); refine bodyPost_ret (results_none rfl _ _ _) rfl ?_
  exact ⟨rfl, HA.out.1.wrote.from HA.out.2.1⟩
set_option maxHeartbeats 2000000 in
theorem offset_n (w0 : World) (b : Nat) (l t : List UInt8) (op : Int) (dk dc dn dt : Int) (args : List Opn) (nm : ByteArray) (off : Int) (labels : List ByteArray) (cas : List Int) (aa : Option Addr) (an ac : Nat) (la : Option Addr) (ln lc : Nat) (ca : Option Addr) (cn cc : Nat) (W : World) (h : Wr w0 b l W) (hf : Deci.fit off) (ha : args.length = an) (hz : ¬ an = 0) (hoff : ¬ off = 0) (ht : l ++ offT args off = t) (hlen : t.length ≤ big) :
    Calls Tryd.prog 70 #[.pointer (some ⟨b, 0, none⟩), .agg #[.int .i64 op, .int .i64 dk, .int .i64 dc, .int .i64 dn, .int .i64 dt, .slice aa an ac, .string nm, .int .i64 off, .slice la ln lc, .slice ca cn cc]] W fun e w' => e = .returned (.tuple #[]) ∧ Wrote w0 b t W w' := by
  have e : (l ++ [32, 43, 32]) ++ Deci.txt off = t := by
    rw [← ht]; unfold offT
    rw [if_neg (by rintro (e | e); exact hz (by rw [← ha, e]; rfl); exact hoff e)]; simp
  have n1 : (l ++ [32, 43, 32]).length ≤ big := by rw [← e, List.length_append] at hlen; omega
  have hz1 : ¬ (an : Int) = 0 := by omega
  have hz2 : ((an : Int) == 0) = false := by simpa using hz
  have hz3 : (off == 0) = false := by simpa using hoff
  have HA := Lib.hid (And.intro (h.alloc (.cells #[.int .i64 op, .int .i64 dk, .int .i64 dc, .int .i64 dn, .int .i64 dt, .slice aa an ac, .string nm, .int .i64 off, .slice la ln lc, .slice ca cn cc] 57)) (And.intro ((Below.refl _ W).alloc (Nat.le_refl _) (.cells #[.int .i64 op, .int .i64 dk, .int .i64 dc, .int .i64 dn, .int .i64 dt, .slice aa an ac, .string nm, .int .i64 off, .slice la ln lc, .slice ca cn cc] 57)) (heap_alloc_new W (.cells #[.int .i64 op, .int .i64 dk, .int .i64 dc, .int .i64 dn, .int .i64 dt, .slice aa an ac, .string nm, .int .i64 off, .slice la ln lc, .slice ca cn cc] 57))))
  obtain ⟨wa, hwa⟩ : ∃ wa, W.alloc (.cells #[.int .i64 op, .int .i64 dk, .int .i64 dc, .int .i64 dn, .int .i64 dt, .slice aa an ac, .string nm, .int .i64 off, .slice la ln lc, .slice ca cn cc] 57) = wa := ⟨_, rfl⟩
  rw [hwa] at HA
  obtain ⟨e0, e1, e2, e3, e4, e5, e6, e7, e8, e9⟩ := ten_cells HA.out.2.2
  have HP := Lib.hid (And.intro e (And.intro n1 (And.intro hlen hf)))
  clear h ht hlen ha hz e n1 hf
  go_enter Tryd.func70, Tryd.ntmps70
  go_wp2_with fail
  refine (write_s w0 b l (l ++ [32, 43, 32]) _ _ HA.out.1 rfl HP.out.2.1).mono ?_
  rintro e w1 ⟨rfl, h1⟩
  have H1 := Lib.hid h1
  clear h1
  clear e0 e1 e2 e3 e4 e5 e6 e7 e8 e9
  obtain ⟨e0, e1, e2, e3, e4, e5, e6, e7, e8, e9⟩ := ten_cells (H1.out.box HA.out.2.2 (by decide) (by decide))
  go_wp2_with fail
  refine (number_v w0 b _ t off _ H1.out.1 HP.out.2.2.2 HP.out.1 HP.out.2.2.1).mono ?_
  rintro e w2 ⟨rfl, h2⟩
  have H2 := Lib.hid (H1.out.next h2)
  clear h2
  go_wp2_with fail
  go_end0
  exact ⟨rfl, H2.out.from HA.out.2.1⟩
set_option maxHeartbeats 2000000 in
theorem offset_v (w0 : World) (b : Nat) (l t : List UInt8) (op : Int) (dk dc dn dt : Int) (args : List Opn) (nm : ByteArray) (off : Int) (labels : List ByteArray) (cas : List Int) (aa : Option Addr) (an ac : Nat) (la : Option Addr) (ln lc : Nat) (ca : Option Addr) (cn cc : Nat) (W : World) (h : Wr w0 b l W) (hf : Deci.fit off) (ha : args.length = an) (ht : l ++ offT args off = t) (hlen : t.length ≤ big) :
    Calls Tryd.prog 70 #[.pointer (some ⟨b, 0, none⟩), .agg #[.int .i64 op, .int .i64 dk, .int .i64 dc, .int .i64 dn, .int .i64 dt, .slice aa an ac, .string nm, .int .i64 off, .slice la ln lc, .slice ca cn cc]] W fun e w' => e = .returned (.tuple #[]) ∧ Wrote w0 b t W w' := by
  by_cases hz : an = 0
  · exact offset_0 w0 b l t op dk dc dn dt args nm off labels cas aa an ac la ln lc ca cn cc W h ha hz ht hlen
  by_cases ho : off = 0
  · exact offset_z w0 b l t op dk dc dn dt args nm off labels cas aa an ac la ln lc ca cn cc W h ha hz ho ht hlen
  exact offset_n w0 b l t op dk dc dn dt args nm off labels cas aa an ac la ln lc ca cn cc W h hf ha hz ho ht hlen
set_option maxHeartbeats 2000000 in
theorem call_v (w0 : World) (b : Nat) (l t : List UInt8) (op : Int) (dk dc dn dt : Int) (args : List Opn) (nm : ByteArray) (off : Int) (labels : List ByteArray) (cas : List Int) (aa : Option Addr) (an ac : Nat) (la : Option Addr) (ln lc : Nat) (ca : Option Addr) (cn cc : Nat) (W : World) (h : Wr w0 b l W) (hs : nm.size ≤ 20000000) (hI : IsOps w0 aa an args) (hf : ∀ x ∈ args, OpF x) (ht : l ++ callT nm args = t) (hlen : t.length ≤ big) :
    Calls Tryd.prog 68 #[.pointer (some ⟨b, 0, none⟩), .agg #[.int .i64 op, .int .i64 dk, .int .i64 dc, .int .i64 dn, .int .i64 dt, .slice aa an ac, .string nm, .int .i64 off, .slice la ln lc, .slice ca cn cc]] W fun e w' => e = .returned (.tuple #[]) ∧ Wrote w0 b t W w' := by
  obtain ⟨q, hq⟩ : ∃ q, Quo.put nm.data.toList = q := ⟨_, rfl⟩
  have t4 : (l ++ [32] ++ q ++ [40] ++ rowT (args.map opnT)) ++ [41] = t := by rw [← ht, ← hq]; simp [callT]
  have n4 : (l ++ [32] ++ q ++ [40] ++ rowT (args.map opnT)).length ≤ big := by rw [← t4, List.length_append] at hlen; omega
  have n3 : (l ++ [32] ++ q ++ [40]).length ≤ big := by rw [List.length_append] at n4; omega
  have n2 : (l ++ [32] ++ q).length ≤ big := by rw [List.length_append] at n3; omega
  have n1 : (l ++ [32]).length ≤ big := by rw [List.length_append] at n2; omega
  have HA := Lib.hid (And.intro (h.alloc (.cells #[.int .i64 op, .int .i64 dk, .int .i64 dc, .int .i64 dn, .int .i64 dt, .slice aa an ac, .string nm, .int .i64 off, .slice la ln lc, .slice ca cn cc] 57)) (And.intro ((Below.refl _ W).alloc (Nat.le_refl _) (.cells #[.int .i64 op, .int .i64 dk, .int .i64 dc, .int .i64 dn, .int .i64 dt, .slice aa an ac, .string nm, .int .i64 off, .slice la ln lc, .slice ca cn cc] 57)) (heap_alloc_new W (.cells #[.int .i64 op, .int .i64 dk, .int .i64 dc, .int .i64 dn, .int .i64 dt, .slice aa an ac, .string nm, .int .i64 off, .slice la ln lc, .slice ca cn cc] 57))))
  obtain ⟨wa, hwa⟩ : ∃ wa, W.alloc (.cells #[.int .i64 op, .int .i64 dk, .int .i64 dc, .int .i64 dn, .int .i64 dt, .slice aa an ac, .string nm, .int .i64 off, .slice la ln lc, .slice ca cn cc] 57) = wa := ⟨_, rfl⟩
  rw [hwa] at HA
  obtain ⟨e0, e1, e2, e3, e4, e5, e6, e7, e8, e9⟩ := ten_cells HA.out.2.2
  have HP := Lib.hid (And.intro hs (And.intro hI (And.intro hf (And.intro hq (And.intro t4 (And.intro n4 (And.intro n3 (And.intro n2 (And.intro n1 hlen)))))))))
  clear h ht hlen hs hI hf hq t4 n4 n3 n2 n1
  go_enter Tryd.func68, Tryd.ntmps68
  go_wp2_with fail
  refine (write_b w0 b l (l ++ [32]) 32 32 _ HA.out.1 rfl rfl HP.out.2.2.2.2.2.2.2.2.1).mono ?_
  rintro e w1 ⟨rfl, h1⟩
  have H1 := Lib.hid h1
  clear h1 hwa
  clear e0 e1 e2 e3 e4 e5 e6 e7 e8 e9
  obtain ⟨Q, hQ⟩ : ∃ Q, W.heap.size = Q := ⟨_, rfl⟩
  have HQ := Lib.hid hQ
  have S0 := Lib.hid (ten_cells (hQ ▸ H1.out.box HA.out.2.2 (by decide) (by decide)))
  rw [hQ]
  go_wp2_with fail
  go_region_held3 (fun W => W.cell? ⟨Q, 0, none⟩ = some (.int .i64 op) ∧ W.cell? ⟨Q, 1, none⟩ = some (.int .i64 dk) ∧ W.cell? ⟨Q, 2, none⟩ = some (.int .i64 dc) ∧ W.cell? ⟨Q, 3, none⟩ = some (.int .i64 dn) ∧ W.cell? ⟨Q, 4, none⟩ = some (.int .i64 dt) ∧ W.cell? ⟨Q, 5, none⟩ = some (.slice aa an ac) ∧ W.cell? ⟨Q, 6, none⟩ = some (.string nm) ∧ W.cell? ⟨Q, 7, none⟩ = some (.int .i64 off) ∧ W.cell? ⟨Q, 8, none⟩ = some (.slice la ln lc) ∧ W.cell? ⟨Q, 9, none⟩ = some (.slice ca cn cc))
    (first | exact S2.out | exact S1.out | exact S0.out)
    (first
      | (go_at_call 28; (refine (write_s w0 b (l ++ [32]) (l ++ [32] ++ q) _ w2 H2.out.1 (by rfl) HP.out.2.2.2.2.2.2.2.1).mono ?_); rintro e w3 ⟨rfl, h3⟩; have H3 := Lib.hid (And.intro h3.1 (H2.out.2.trans h3.2)); have S2 := Lib.hid (ten_cells (HQ.out ▸ (Wrote.next H1.out H3.out).box HA.out.2.2 (by decide) (by decide))); clear h3)
      | (go_at_call 74; (refine (Quo.put_v nm q HP.out.2.2.2.1 HP.out.1 w1.drew).mono ?_); rintro e w2 ⟨rfl, hb⟩; have H2 := Lib.hid (And.intro (H1.out.1.drew.below hb) (Keeps.drew.trans (Keeps.below hb))); have S1 := Lib.hid (ten_cells (HQ.out ▸ (Wrote.box (w0 := w0) (b := b) (t := l ++ [32]) ⟨H2.out.1, H1.out.2.trans H2.out.2⟩ HA.out.2.2 (by decide) (by decide)))); clear hb))
  have H4 := Lib.hid (Wrote.next H1.out H3.out)
  clear S0 S1 S2
  go_wp2_with fail
  refine (write_b w0 b _ (l ++ [32] ++ q ++ [40]) 40 40 _ H4.out.1 rfl rfl HP.out.2.2.2.2.2.2.1).mono ?_
  rintro e w4 ⟨rfl, h4⟩
  have H5 := Lib.hid (H4.out.next h4)
  clear h4
  have e5 : w4.cell? ⟨Q, 5, none⟩ = some (.slice aa an ac) := (ten_cells (HQ.out ▸ H5.out.box HA.out.2.2 (by decide) (by decide))).2.2.2.2.2.1
  go_wp2_with fail
  refine (operands_v w0 b _ (l ++ [32] ++ q ++ [40] ++ rowT (args.map opnT)) aa an ac args _ H5.out.1 HP.out.2.1 HP.out.2.2.1 rfl HP.out.2.2.2.2.2.1).mono ?_
  rintro e w5 ⟨rfl, h5⟩
  have H6 := Lib.hid (H5.out.next h5)
  clear h5
  go_wp2_with fail
  refine (write_b w0 b _ t 41 41 _ H6.out.1 rfl HP.out.2.2.2.2.1 HP.out.2.2.2.2.2.2.2.2.2).mono ?_
  rintro e w6 ⟨rfl, h6⟩
  have H7 := Lib.hid (H6.out.next h6)
  clear h6
  go_wp2_with fail
  go_end0
  exact ⟨rfl, H7.out.from HA.out.2.1⟩
set_option maxHeartbeats 2000000 in
theorem taken_v (w0 : World) (b : Nat) (l t : List UInt8) (aa : Option Addr) (an ac : Nat) (args : List Opn) (la : Option Addr) (ln lc : Nat) (labels : List ByteArray) (W : World) (h : Wr w0 b l W) (hI : IsOps w0 aa an args) (hf : ∀ x ∈ args, OpF x) (hL : IsStrs w0 la ln labels) (ha : an ≤ 1048576) (hl : ln ≤ 1048576) (ht : l ++ takenT args labels = t) (hlen : t.length ≤ big) :
    Calls Tryd.prog 69 #[.pointer (some ⟨b, 0, none⟩), .slice aa an ac, .slice la ln lc] W fun e w' => e = .returned (.tuple #[]) ∧ Wrote w0 b t W w' := by
  have la1 := hI.1
  have ll1 := hL.1
  by_cases h0 : an = 0 ∧ ln = 0
  · obtain ⟨rfl, rfl⟩ := h0
    have e : l = t := by rw [← ht]; unfold takenT; rw [if_pos ⟨List.eq_nil_of_length_eq_zero la1, List.eq_nil_of_length_eq_zero ll1⟩]; simp
    subst e
    have HP := Lib.hid h
    clear h hI hf hL ht hlen la1 ll1
    go_enter Tryd.func69, Tryd.ntmps69
    go_wp2_with fail
    (try simp only [Exit.inBlock, Exit.then]); refine bodyPost_ret (results_none rfl _ _ _) rfl ?_
    exact ⟨rfl, HP.out.wrote⟩
  have hne : ¬ (args = [] ∧ labels = []) := by
    rintro ⟨rfl, rfl⟩
    exact h0 ⟨la1.symm, ll1.symm⟩
  obtain ⟨L, hLL⟩ : ∃ L, args.map opnT ++ txs labels = L := ⟨_, rfl⟩
  have t1 : (l ++ [32]) ++ rowT L = t := by rw [← ht, ← hLL]; unfold takenT; rw [if_neg hne]; simp
  have lm : (args.map opnT).length = an := by rw [List.length_map]; exact la1
  have lt : L.length = an + ln := by rw [← hLL, List.length_append, lm]; unfold txs; rw [List.length_map, ll1]
  have htk : L.take an = args.map opnT := by rw [← hLL, List.take_left' lm]
  have hat : ∀ (k : Nat) (s : ByteArray), labels[k]? = some s → L[an + k]? = some s.data.toList := fun k s hs => by
    rw [← hLL, List.getElem?_append_right (by omega), lm, Nat.add_sub_cancel_left]; unfold txs; rw [List.getElem?_map, hs]; rfl
  have hTl : ∀ k, (l ++ [32] ++ rowT (L.take k)).length ≤ big := fun k => by
    have h1 := rowT_le L k
    rw [← t1] at hlen
    simp only [List.length_append] at hlen ⊢
    omega
  have n1 : (l ++ [32]).length ≤ big := by have := hTl 0; simpa [rowT] using this
  have HP := Lib.hid (And.intro h (And.intro hI (And.intro hf (And.intro hL (And.intro t1 (And.intro lt (And.intro htk (And.intro hat (And.intro hTl n1)))))))))
  clear h hI hf hL ht hlen la1 ll1 t1 lm lt htk hat hTl n1 hne hLL
  have key : ∀ (s : Bool), ((an : Int) == 0) = s → (s = true → ((ln : Int) == 0) = false ∧ ¬ (ln : Int) = 0) → Calls Tryd.prog 69 #[.pointer (some ⟨b, 0, none⟩), .slice aa an ac, .slice la ln lc] W fun e w' => e = .returned (.tuple #[]) ∧ Wrote w0 b t W w' := by
    intro s hs1 hs2
    have HS := Lib.hid hs2
    clear hs2 h0
    cases s
    case' true => obtain ⟨g1, g2⟩ := HS.out rfl
    all_goals
      clear HS
      go_enter Tryd.func69, Tryd.ntmps69
      go_wp2_with fail
      refine (write_b w0 b l (l ++ [32]) 32 32 _ HP.out.1 rfl rfl HP.out.2.2.2.2.2.2.2.2.2).mono ?_
      rintro e w1 ⟨rfl, h1⟩
      have H1 := Lib.hid h1
      clear h1
      go_wp2_with fail
      refine (operands_v w0 b _ (l ++ [32] ++ rowT (L.take an)) aa an ac args _ H1.out.1 HP.out.2.1 HP.out.2.2.1 (by rw [HP.out.2.2.2.2.2.2.1]) (HP.out.2.2.2.2.2.2.2.2.1 an)).mono ?_
      rintro e w2 ⟨rfl, h2⟩
      have H2 := Lib.hid (H1.out.next h2)
      clear h2
      go_wp2_with fail
      go_loopg [25] ln (fun gk u wr => ∃ k : Nat, k + gk = ln ∧ u = .int .i64 (k : Int) ∧ Hid (Wrote w0 b (l ++ [32] ++ rowT (L.take (an + k))) W wr))
      case atStart => exact ⟨0, by omega, rfl, H2.out⟩
      case round =>
        obtain ⟨k, hk, rfl, HH⟩ := hrel
        by_cases hlt : k < ln
        · obtain ⟨bk, o, rfl, hb, s, hs, c0⟩ := (HP.out.2.2.2.1.below HH.out.1.2).at hlt
          have i1 : (k : Int) < (ln : Int) := by omega
          have i2 : IntKind.i64.wrap ((an : Int) + (k : Int)) = (an : Int) + (k : Int) := IntWalk.i64_in _ (by omega)
          have hnext := rowT_take L (an + k) s.data.toList (HP.out.2.2.2.2.2.2.2.1 k s hs)
          have hmax := HP.out.2.2.2.2.2.2.2.2.1 (an + k + 1)
          rw [hnext] at hmax
          have m2 : (l ++ [32] ++ rowT (L.take (an + k)) ++ sepT (an + k) ++ s.data.toList).length ≤ big := by simp only [List.length_append] at hmax ⊢; omega
          have m1 : (l ++ [32] ++ rowT (L.take (an + k)) ++ sepT (an + k)).length ≤ big := by rw [List.length_append] at m2; omega
          have e2 : l ++ [32] ++ rowT (L.take (an + k)) ++ sepT (an + k) ++ s.data.toList = l ++ [32] ++ rowT (L.take (an + (k + 1))) := by rw [← Nat.add_assoc, hnext]; simp
          have HX := Lib.hid (And.intro e2 (And.intro m2 m1))
          clear hnext hmax m2 m1 hs hb e2
          go_wp2_with fail
          refine (between_v w0 b _ _ (an + k) _ wr HH.out.1 (by push_cast; rfl) rfl HX.out.2.2).mono ?_
          rintro e w3 ⟨rfl, h3⟩
          have H3 := Lib.hid (HH.out.next h3)
          clear h3
          go_wp2_with fail
          refine (write_s w0 b _ _ s w3 H3.out.1 rfl HX.out.2.1).mono ?_
          rintro e w4 ⟨rfl, h4⟩
          have H4 := Lib.hid (H3.out.next h4)
          clear h4
          go_wp2_with fail
          go_roundg (gk - 1)
          case measure => omega
          case rel => exact ⟨k + 1, by omega, by go_num, H4.out.to HX.out.1⟩
        · obtain rfl : k = ln := by omega
          have hge : ¬ (k : Int) < (k : Int) := by omega
          go_wp2_with fail
          go_end0
          refine ⟨rfl, HH.out.to ?_⟩
          rw [← HP.out.2.2.2.2.1, List.take_of_length_le (by rw [HP.out.2.2.2.2.2.1]; exact Nat.le_refl _)]
  by_cases h1 : an = 0
  · have h2 : ¬ ln = 0 := fun e => h0 ⟨h1, e⟩
    exact key true (by simpa using h1) (fun _ => ⟨by simpa using h2, by omega⟩)
  · exact key false (by simpa using h1) (fun h => by cases h)
set_option maxHeartbeats 2000000 in
theorem cases_v (w0 : World) (b : Nat) (l t : List UInt8) (op : Int) (dk dc dn dt : Int) (args : List Opn) (nm : ByteArray) (off : Int) (labels : List ByteArray) (cas : List Int) (aa : Option Addr) (an ac : Nat) (la : Option Addr) (ln lc : Nat) (ca : Option Addr) (cn cc : Nat) (W : World) (h : Wr w0 b l W) (hC : IsInts w0 ca cn cas) (hf : ∀ n ∈ cas, Deci.fit n) (hL : IsStrs w0 la ln labels) (ht : l ++ casesT cas labels = t) (hlen : t.length ≤ big) :
    Calls Tryd.prog 71 #[.pointer (some ⟨b, 0, none⟩), .agg #[.int .i64 op, .int .i64 dk, .int .i64 dc, .int .i64 dn, .int .i64 dt, .slice aa an ac, .string nm, .int .i64 off, .slice la ln lc, .slice ca cn cc]] W fun e w' => e = .returned (.tuple #[]) ∧ Wrote w0 b t W w' := by
  obtain ⟨L, hLL⟩ : ∃ L, casesL cas labels ++ [elseT cas labels] = L := ⟨_, rfl⟩
  have lc1 := hC.1
  have hcn := hC.2.1
  have t1 : (l ++ [32, 91] ++ rowT L) ++ [93] = t := by rw [← ht, ← hLL]; simp [casesT]
  have lL : L.length = cn + 1 := by rw [← hLL, List.length_append, casesL_len, lc1]; rfl
  have hat : ∀ (k : Nat) (n : Int), cas[k]? = some n → L[k]? = some (caseT n labels k) := fun k n hn => by rw [← hLL]; exact casesL_at cas labels k n hn
  have hel : L[cn]? = some ([101, 108, 115, 101, 58, 32] ++ nthT labels cn) := by
    rw [← hLL, List.getElem?_append_right (by rw [casesL_len, lc1]; exact Nat.le_refl _), casesL_len, lc1, Nat.sub_self]
    unfold elseT; rw [lc1]; rfl
  have hTl : ∀ k, (l ++ [32, 91] ++ rowT (L.take k)).length ≤ big := fun k => by
    have h1 := rowT_le L k
    rw [← t1] at hlen
    simp only [List.length_append] at hlen ⊢
    omega
  have n1 : (l ++ [32, 91]).length ≤ big := by have := hTl 0; simpa [rowT] using this
  have HA := Lib.hid (And.intro (h.alloc (.cells #[.int .i64 op, .int .i64 dk, .int .i64 dc, .int .i64 dn, .int .i64 dt, .slice aa an ac, .string nm, .int .i64 off, .slice la ln lc, .slice ca cn cc] 57)) (And.intro ((Below.refl _ W).alloc (Nat.le_refl _) (.cells #[.int .i64 op, .int .i64 dk, .int .i64 dc, .int .i64 dn, .int .i64 dt, .slice aa an ac, .string nm, .int .i64 off, .slice la ln lc, .slice ca cn cc] 57)) (heap_alloc_new W (.cells #[.int .i64 op, .int .i64 dk, .int .i64 dc, .int .i64 dn, .int .i64 dt, .slice aa an ac, .string nm, .int .i64 off, .slice la ln lc, .slice ca cn cc] 57))))
  obtain ⟨wa, hwa⟩ : ∃ wa, W.alloc (.cells #[.int .i64 op, .int .i64 dk, .int .i64 dc, .int .i64 dn, .int .i64 dt, .slice aa an ac, .string nm, .int .i64 off, .slice la ln lc, .slice ca cn cc] 57) = wa := ⟨_, rfl⟩
  rw [hwa] at HA
  obtain ⟨e0, e1, e2, e3, e4, e5, e6, e7, e8, e9⟩ := ten_cells HA.out.2.2
  have HP := Lib.hid (And.intro hC (And.intro hf (And.intro hL (And.intro t1 (And.intro lL (And.intro hat (And.intro hel (And.intro hTl (And.intro n1 hlen)))))))))
  clear h ht hlen hC hf hL t1 lL hat hel hTl n1 lc1 hLL
  obtain ⟨Q, hQ⟩ : ∃ Q, W.heap.size = Q := ⟨_, rfl⟩
  have HQ := Lib.hid hQ
  have HBX := Lib.hid (show ∀ w' t', Wrote w0 b t' wa w' → W.heap.size = Q → w'.cell? ⟨Q, 8, none⟩ = some (.slice la ln lc) ∧ w'.cell? ⟨Q, 9, none⟩ = some (.slice ca cn cc) from fun w' t' hw hq => by
    have hc := ten_cells (hw.box HA.out.2.2 (by decide) (by decide))
    rw [hq] at hc
    exact hc.2.2.2.2.2.2.2.2)
  rw [hQ] at e0 e1 e2 e3 e4 e5 e6 e7 e8 e9
  go_enter Tryd.func71, Tryd.ntmps71
  go_wp2_with fail
  refine (write_s w0 b l (l ++ [32, 91]) _ _ HA.out.1 rfl HP.out.2.2.2.2.2.2.2.2.1).mono ?_
  rintro e w1 ⟨rfl, h1⟩
  have H1 := Lib.hid h1
  clear h1 hwa
  clear e0 e1 e2 e3 e4 e5 e6 e7 e8 e9
  obtain ⟨e8, e9⟩ := HBX.out _ _ H1.out HQ.out
  go_wp2_with fail
  clear e8 e9
  go_loopg [13] cn (fun gk u wr => ∃ k : Nat, k + gk = cn ∧ u = .int .i64 (k : Int) ∧ Hid (Wrote w0 b (l ++ [32, 91] ++ rowT (L.take k)) wa wr))
  case atStart => exact ⟨0, by omega, rfl, H1.out.to (by simp [rowT])⟩
  case round =>
    obtain ⟨k, hk, rfl, HH⟩ := hrel
    by_cases hlt : k < cn
    · obtain ⟨bk, o, rfl, hb, x, hx, c0⟩ := (HP.out.1.below HH.out.1.2).at hlt
      have i1 : (k : Int) < (cn : Int) := by omega
      have hnext := rowT_take L k _ (HP.out.2.2.2.2.2.1 k x hx)
      have hmax := HP.out.2.2.2.2.2.2.2.1 (k + 1)
      have hxf := HP.out.2.1 x (List.mem_of_getElem? hx)
      obtain ⟨T0, hT0⟩ : ∃ T0, l ++ [32, 91] ++ rowT (L.take k) = T0 := ⟨_, rfl⟩
      have e4 : T0 ++ sepT k ++ Deci.txt x ++ [58, 32] ++ nthT labels k = l ++ [32, 91] ++ rowT (L.take (k + 1)) := by rw [hnext, ← hT0]; simp [caseT]
      have m4 : (T0 ++ sepT k ++ Deci.txt x ++ [58, 32] ++ nthT labels k).length ≤ big := by rw [e4]; exact hmax
      have m3 : (T0 ++ sepT k ++ Deci.txt x ++ [58, 32]).length ≤ big := by rw [List.length_append] at m4; omega
      have m2 : (T0 ++ sepT k ++ Deci.txt x).length ≤ big := by rw [List.length_append] at m3; omega
      have m1 : (T0 ++ sepT k).length ≤ big := by rw [List.length_append] at m2; omega
      have HX := Lib.hid (And.intro hxf (And.intro e4 (And.intro m4 (And.intro m3 (And.intro m2 m1)))))
      rw [hT0] at HH
      clear hnext hmax hxf hx hb e4 m4 m3 m2 m1
      go_wp2_with fail
      clear c0
      refine (between_v w0 b T0 _ k _ wr HH.out.1 rfl rfl HX.out.2.2.2.2.2).mono ?_
      rintro e w3 ⟨rfl, h3⟩
      have H3 := Lib.hid (HH.out.next h3)
      clear h3
      go_wp2_with fail
      refine (number_v w0 b _ _ x w3 H3.out.1 HX.out.1 rfl HX.out.2.2.2.2.1).mono ?_
      rintro e w4 ⟨rfl, h4⟩
      have H4 := Lib.hid (H3.out.next h4)
      clear h4
      go_wp2_with fail
      refine (write_s w0 b _ (T0 ++ sepT k ++ Deci.txt x ++ [58, 32]) _ w4 H4.out.1 rfl HX.out.2.2.2.1).mono ?_
      rintro e w5 ⟨rfl, h5⟩
      have H5 := Lib.hid (H4.out.next h5)
      clear h5
      obtain ⟨e8, _⟩ := HBX.out _ _ H5.out HQ.out
      go_wp2_with fail
      clear e8
      refine (label_v w0 b _ _ la ln lc labels k w5 H5.out.1 HP.out.2.2.1 rfl HX.out.2.2.1).mono ?_
      rintro e w6 ⟨rfl, h6⟩
      have H6 := Lib.hid (H5.out.next h6)
      clear h6
      go_wp2_with fail
      go_roundg (gk - 1)
      case measure => omega
      case rel => exact ⟨k + 1, by omega, by go_num, H6.out.to HX.out.2.1⟩
    · obtain rfl : k = cn := by omega
      have hge : ¬ (k : Int) < (k : Int) := by omega
      have hnext := rowT_take L k _ HP.out.2.2.2.2.2.2.1
      rw [List.take_of_length_le (by rw [HP.out.2.2.2.2.1]; exact Nat.le_refl _)] at hnext
      obtain ⟨T0, hT0⟩ : ∃ T0, l ++ [32, 91] ++ rowT (L.take k) = T0 := ⟨_, rfl⟩
      have e4 : T0 ++ sepT k ++ [101, 108, 115, 101, 58, 32] ++ nthT labels k ++ [93] = t := by rw [← HP.out.2.2.2.1, hnext, ← hT0]; simp
      have m5 := HP.out.2.2.2.2.2.2.2.2.2
      rw [← e4] at m5
      have m4 : (T0 ++ sepT k ++ [101, 108, 115, 101, 58, 32] ++ nthT labels k).length ≤ big := by rw [List.length_append] at m5; omega
      have m3 : (T0 ++ sepT k ++ [101, 108, 115, 101, 58, 32]).length ≤ big := by rw [List.length_append] at m4; omega
      have m2 : (T0 ++ sepT k).length ≤ big := by rw [List.length_append] at m3; omega
      have HX := Lib.hid (And.intro e4 (And.intro m4 (And.intro m3 m2)))
      rw [hT0] at HH
      clear hnext e4 m5 m4 m3 m2
      obtain ⟨e8, e9⟩ := HBX.out _ _ HH.out HQ.out
      go_wp2_with fail
      clear e8 e9
      refine (between_v w0 b T0 _ k _ wr HH.out.1 rfl rfl HX.out.2.2.2).mono ?_
      rintro e w3 ⟨rfl, h3⟩
      have H3 := Lib.hid (HH.out.next h3)
      clear h3
      go_wp2_with fail
      refine (write_s w0 b _ (T0 ++ sepT k ++ [101, 108, 115, 101, 58, 32]) _ w3 H3.out.1 rfl HX.out.2.2.1).mono ?_
      rintro e w4 ⟨rfl, h4⟩
      have H4 := Lib.hid (H3.out.next h4)
      clear h4
      obtain ⟨e8, e9⟩ := HBX.out _ _ H4.out HQ.out
      go_wp2_with fail
      clear e8 e9
      refine (label_v w0 b _ _ la ln lc labels k w4 H4.out.1 HP.out.2.2.1 rfl HX.out.2.1).mono ?_
      rintro e w5 ⟨rfl, h5⟩
      have H5 := Lib.hid (H4.out.next h5)
      clear h5
      go_wp2_with fail
      refine (write_b w0 b _ t 93 93 w5 H5.out.1 rfl HX.out.1 HP.out.2.2.2.2.2.2.2.2.2).mono ?_
      rintro e w6 ⟨rfl, h6⟩
      have H6 := Lib.hid (H5.out.next h6)
      clear h6
      go_wp2_with fail
      go_end0
      exact ⟨rfl, H6.out.from HA.out.2.1⟩
end Go.Proofs.YtakfoncdiejhaaaDoor
