/- What Calls answers. -/
import Derived.Test.YtocelaebokikcaaUses
import Derived.Test.YtocelaebokikcaaShelf
import Derived.Test.YtocelaebokikcaaLay
import Derived.Test.YtocelaebokikcaaPart
import Derived.Sort.OwnSorted
import Derived.Lib.RowBridge
namespace Go.Proofs.Ytocelaebokikcaa
open Go.ChangeShapes Go.WideShapes Go.RowKit Go.Sort
set_option linter.unusedVariables false
set_option maxRecDepth 20000

/-- The names of those that some instructions call. -/
def callNames (l : List Ins) : List ByteArray := l.flatMap fun i => if i.op = 19 then [i.name] else []
def blkNames (l : List Blk) : List ByteArray := l.flatMap fun b => callNames b.code
theorem callNames_step (l : List Ins) (k : Nat) (x : Ins) (hx : l[k]? = some x) : callNames (l.take (k + 1)) = callNames (l.take k) ++ (if x.op = 19 then [x.name] else []) := by
  unfold callNames
  rw [List.take_add_one, hx, List.flatMap_append]
  simp
theorem blkNames_step (l : List Blk) (k : Nat) (x : Blk) (hx : l[k]? = some x) : blkNames (l.take (k + 1)) = blkNames (l.take k) ++ callNames x.code := by
  unfold blkNames
  rw [List.take_add_one, hx, List.flatMap_append]
  simp
theorem callNames_take (l : List Ins) (k : Nat) : (callNames (l.take k)).length ≤ (callNames l).length := by
  have e : callNames l = callNames (l.take k) ++ callNames (l.drop k) := by
    unfold callNames; rw [← List.flatMap_append, List.take_append_drop]
  rw [e, List.length_append]; omega
theorem blkNames_take (l : List Blk) (k : Nat) : (blkNames (l.take k)).length ≤ (blkNames l).length := by
  have e : blkNames l = blkNames (l.take k) ++ blkNames (l.drop k) := by
    unfold blkNames; rw [← List.flatMap_append, List.take_append_drop]
  rw [e, List.length_append]; omega
def byt (s : ByteArray) : List UInt8 := s.data.toList
theorem enc_byt (s : ByteArray) : encStr (byt s) = .string s := by
  unfold encStr byt; simp
theorem info9_parts : ∃ i, Try.prog.info? 9 = some i ∧ i.zero = some (.string ⟨#[]⟩) ∧ i.size = 1 ∧ i.bytes = 16 := by
  obtain ⟨i, hi, hinfo⟩ := Option.map_eq_some_iff.1 info9_own
  exact ⟨i, hi, congrArg Prod.fst hinfo, congrArg (fun x => x.2.1) hinfo, congrArg (fun x => x.2.2) hinfo⟩
/-- The names of all that a function calls, rising, each once. -/
def callsOf (l : List Blk) : List (List UInt8) := Lib.compact (((blkNames l).map byt).mergeSort fun x y => decide (x ≤ y))
theorem new_cell2 (w : World) (o : Obj) (cs : Array Value) (t : TypeId) (l : List Value) (hl : cs.toList = l) : ∀ j u, l[j]? = some u → ((w.alloc o).alloc (.cells cs t)).cell? ((⟨w.heap.size + 1, 0, none⟩ : Addr).add j) = some u := by
  intro j u hj
  have := new_cell (w.alloc o) cs t l hl j u hj
  simpa using this
structure CallsP (f : Fun) (w : World) (e : Ending) (w' : World) : Prop where
  out : ∃ A c l, e = .returned (.slice A l.length c) ∧ IsStrs w' A l.length l ∧ Below w.heap.size w w' ∧ l.map byt = callsOf f.blocks
theorem str_row (ss : List ByteArray) : (ss.map byt).map encStr = ss.flatMap strC := by
  induction ss with
  | nil => rfl
  | cons a l ih => rw [List.map_cons, List.map_cons, List.flatMap_cons, enc_byt, ih]; rfl
set_option maxHeartbeats 4000000 in
theorem calls_v (f : Fun) (v : FunV) (w : World) (h : IsFun w f v) (hN : (blkNames f.blocks).length ≤ 1048576) : Calls Try.prog 25 #[.agg (funR f v)] w (CallsP f w) := by
  have hm := h.blocks.2.1
  have B0 : Below w.heap.size w (w.alloc (.cells (funR f v) 31)) := (Below.refl _ w).alloc (Nat.le_refl _) _
  have D := Lib.hid (And.intro (h.below B0) (And.intro (show (w.alloc (.cells (funR f v) 31)).heap.size = w.heap.size + 1 by simp) (And.intro B0 (And.intro (heap_alloc_new w (.cells (funR f v) 31)) (And.intro h.blocks.1 hN)))))
  clear h B0 hN
  obtain ⟨i0, hi0, hz0, hz1, hz2⟩ := info9_parts
  have I0 := Lib.hid (And.intro hi0 (And.intro hz0 (And.intro hz1 hz2)))
  clear hi0 hz0 hz1 hz2
  obtain ⟨machine, name, regs, params, blocks⟩ := f
  obtain ⟨ra, rn, rc, pa, pn, pc, ba, bn, bc, rr⟩ := v
  unfold funR at D ⊢
  dsimp only at D hm ⊢
  obtain ⟨wa, hwa⟩ : ∃ wa, w.alloc (.cells #[.bool machine, .string name, .slice ra rn rc, .slice pa pn pc, .slice ba bn bc] 31) = wa := ⟨_, rfl⟩
  rw [hwa] at D
  have z : wa.cell? ⟨w.heap.size, 4, none⟩ = some (.slice ba bn bc) := cell_in D.out.2.2.2.1 4
  go_enter Try.func25, Try.ntmps25
  go_wp2_with fail
  clear z
  go_loopg [3, 11] bn (fun gk u v wr => ∃ (k : Nat) (A : Option Addr) (c L : Nat), k + gk = bn ∧ u = .slice A L c ∧ v = .int .i64 (k : Int) ∧ L ≤ 1048576 ∧
    Hid ((blkNames (blocks.take k)).length = L ∧ wr.ownsRow wa.heap.size 9 1 (.slice A L c) L ((blkNames (blocks.take k)).flatMap strC) ∧ Below wa.heap.size wa wr))
  case atStart => exact ⟨0, none, 0, 0, by omega, rfl, rfl, by omega, rfl, World.ownsRow_nil _ _ _ _, Below.refl _ wa⟩
  case round =>
    obtain ⟨k, A, c, L, hk, rfl, rfl, hL, HH⟩ := hrel
    by_cases hlt : k < bn
    · obtain ⟨b, o, rfl, hb, x, hx, hix, c0, c1, c2, c3⟩ := D.out.1.blocks.at hlt
      have c0 := (HH.out.2.2.cell (p := ⟨b, _, none⟩) hb).trans c0
      have c1 := (HH.out.2.2.cell (p := ⟨b, _, none⟩) hb).trans c1
      have c2 := (HH.out.2.2.cell (p := ⟨b, _, none⟩) hb).trans c2
      have c3 := (HH.out.2.2.cell (p := ⟨b, _, none⟩) hb).trans c3
      have i1 : (k : Int) < (bn : Int) := by omega
      dsimp only at hix c0 c1 c2 c3
      generalize rr k = r at hix c2 c3
      have hkn := hix.code.2.1
      have hkl := hix.code.1
      have HX := Lib.hid (And.intro hx (And.intro (blkNames_step blocks k x hx) (And.intro hix.code hkl)))
      have hstep : (blkNames (blocks.take k)).length + (callNames x.code).length ≤ 1048576 := by
        have := blkNames_take blocks (k + 1)
        rw [blkNames_step blocks k x hx, List.length_append] at this
        exact Nat.le_trans this D.out.2.2.2.2.2
      have HT := Lib.hid hstep
      clear hstep hx hix hkl
      obtain ⟨label, edge, ins, code⟩ := x
      obtain ⟨ia, il, ic, ka, kn, kc, R⟩ := r
      dsimp only at HX HT hkn c0 c1 c2 c3
      go_wp2_with fail
      have BB := Lib.hid (HH.out.2.2.alloc HH.out.2.2.size (.cells #[.string label, .bool edge, .slice ia il ic, .slice ka kn kc] 48))
      have BW := Lib.hid (show Below wr.heap.size wr (wr.alloc (.cells #[.string label, .bool edge, .slice ia il ic, .slice ka kn kc] 48)) from (Below.refl _ wr).alloc (Nat.le_refl _) _)
      have HO := Lib.hid (owns_below HH.out.2.1 BW.out)
      obtain ⟨wb, hwb⟩ : ∃ wb, wr.alloc (.cells #[.string label, .bool edge, .slice ia il ic, .slice ka kn kc] 48) = wb := ⟨_, rfl⟩
      rw [hwb] at BB BW HO ⊢
      clear hwb c0 c1 c2 c3
      have HC := Lib.hid HX.out.2.2.1
      go_loopg [3, 18] kn (fun gk u v wr => ∃ (q : Nat) (A : Option Addr) (c M : Nat), q + gk = kn ∧ u = .slice A M c ∧ v = .int .i64 (q : Int) ∧ M ≤ 1048576 ∧
        Hid ((blkNames (blocks.take k) ++ callNames (code.take q)).length = M ∧ wr.ownsRow wa.heap.size 9 1 (.slice A M c) M ((blkNames (blocks.take k) ++ callNames (code.take q)).flatMap strC) ∧ Below wa.heap.size wa wr))
      case atStart => exact ⟨0, A, c, L, by omega, rfl, rfl, hL, by simpa [callNames] using HH.out.1, by simpa [callNames] using HO.out, BB.out⟩
      case round =>
        obtain ⟨q, A2, c2, M, hq, rfl, rfl, hM, HJ⟩ := hrel
        by_cases hlq : q < kn
        · obtain ⟨b2, o2, rfl, hb2, y, hy, hiy, d0, d1, d2, d3, d4, d5, d6, d7, d8, d9⟩ := (HC.out.below HJ.out.2.2).at hlq
          have i2 : (q : Int) < (kn : Int) := by omega
          generalize R q = r at hiy d5 d8 d9
          have hst := callNames_step code q y hy
          have hle : (callNames (code.take (q + 1))).length ≤ (callNames code).length := callNames_take code (q + 1)
          have HY := Lib.hid (And.intro hst hle)
          clear hy hiy hst hle
          obtain ⟨op, dst, args, nm, off, labels, cas⟩ := y
          obtain ⟨aa, an, ac, la, ln, lc, ca, cn, cc⟩ := r
          dsimp only at d0 d1 d2 d3 d4 d5 d6 d7 d8 d9 HY
          have W1 := Lib.hid (show Below wr.heap.size wr (wr.alloc (.cells #[.int .i64 op, .int .i64 dst.k, .int .i64 dst.c, .int .i64 dst.n, .int .i64 dst.t, .slice aa an ac, .string nm, .int .i64 off, .slice la ln lc, .slice ca cn cc] 51)) from (Below.refl _ wr).alloc (Nat.le_refl _) _)
          have O1 := Lib.hid (owns_below HJ.out.2.1 W1.out)
          by_cases hop : op = 19
          · subst hop
            have hone : M + 1 ≤ 1048576 := by
              have h1 := HJ.out.1
              have h2 := HY.out.2
              rw [HY.out.1, List.length_append] at h2
              simp at h2
              rw [List.length_append] at h1
              have := HT.out
              omega
            go_wp2_with (at_builtin; refine wpList_append_own _ rfl _ _ 49 rfl wa.heap.size 9 i0 (.string ⟨#[]⟩) 1 16 Try.underlying49 I0.out.1 I0.out.2.1 I0.out.2.2.1 I0.out.2.2.2 rfl (by decide) _ _ _ rfl (World.ownsRow.alloc O1.out _) ⟨wr.heap.size + 1, 0, none⟩ 1 1 (strC nm) rfl rfl (new_cell2 wr _ _ _ _ rfl) (by intro x hx; unfold strC at hx; simp at hx; subst hx; rfl) (by unfold maxLen; omega) (by omega) (by have := HJ.out.2.2.size; simp; omega) ?_)
            intro v' w3 ho3 hg3 _
            obtain ⟨A3, c3, rfl⟩ := owns_form ho3
            have hfm : (blkNames (blocks.take k)).flatMap strC ++ ((callNames (code.take q)).flatMap strC ++ strC nm) = (blkNames (blocks.take k) ++ callNames (code.take (q + 1))).flatMap strC := by
              rw [HY.out.1]; simp
            rw [hfm] at ho3
            have BA : Below wa.heap.size wa ((wr.alloc (.cells #[.int .i64 19, .int .i64 dst.k, .int .i64 dst.c, .int .i64 dst.n, .int .i64 dst.t, .slice aa an ac, .string nm, .int .i64 off, .slice la ln lc, .slice ca cn cc] 51)).alloc (.cells #[.string nm] 9)) := (HJ.out.2.2.alloc HJ.out.2.2.size _).alloc (by have := HJ.out.2.2.size; simp; omega) _
            have B3 : Below wa.heap.size wa w3 := below_row BA hg3 (World.ownsRow.alloc O1.out _) (Nat.le_refl _) BA.size
            have H3 := Lib.hid (And.intro ho3 B3)
            clear ho3 hfm B3 BA hg3
            go_wp2_with fail
            go_roundg (kn - q - 1)
            case measure => omega
            case rel =>
              refine ⟨q + 1, A3, c3, M + 1, by omega, rfl, by go_num, hone, ?_, H3.out.1, H3.out.2⟩
              have h1 := HJ.out.1
              have h2 := HY.out.1
              simp only [if_true] at h2
              rw [h2, ← List.append_assoc, List.length_append, h1]
              rfl
          · have hopb : (op == 19) = false := by rw [beq_eq_false_iff_ne]; exact hop
            have HOP := Lib.hid hop
            go_wp2_with fail
            go_roundg (kn - q - 1)
            case measure => omega
            case rel =>
              have e : callNames (code.take (q + 1)) = callNames (code.take q) := by rw [HY.out.1, if_neg HOP.out, List.append_nil]
              refine ⟨q + 1, A2, c2, M, by omega, rfl, by go_num, hM, by rw [e]; exact HJ.out.1, by rw [e]; exact O1.out, HJ.out.2.2.alloc HJ.out.2.2.size _⟩
        · obtain rfl : q = kn := by omega
          have hge : ¬ (q : Int) < (q : Int) := by omega
          go_wp2_with fail
          go_roundg (bn - k - 1)
          case measure => omega
          case rel =>
            have e : code.take q = code := List.take_of_length_le (by rw [HX.out.2.2.2]; exact Nat.le_refl _)
            refine ⟨k + 1, A2, c2, M, by omega, rfl, by go_num, hM, ?_, ?_, HJ.out.2.2⟩
            · rw [HX.out.2.1]; have := HJ.out.1; rw [e] at this; exact this
            · rw [HX.out.2.1]; have := HJ.out.2.1; rw [e] at this; exact this
    · obtain rfl : k = bn := by omega
      have hge : ¬ (k : Int) < (k : Int) := by omega
      go_wp2_with fail
      have e : blocks.take k = blocks := List.take_of_length_le (by rw [D.out.2.2.2.2.1]; exact Nat.le_refl _)
      have hown := HH.out.2.1
      have hlen := HH.out.1
      rw [e] at hown hlen
      have HE := Lib.hid (And.intro hown (And.intro hlen HH.out.2.2))
      rcases hown.2 with ⟨hv, h0⟩ | ⟨g, cap, cur, hv, hg1, hg2, hg3, hg4, hg5, hg6⟩
      · injection hv with e1 e2 e3
        subst e1; subst e2; subst e3
        clear hown h0
        refine (Try.slices_Sort_string_none none 0 _).mono ?_
        rintro e w1 ⟨rfl, rfl⟩
        go_wp2_with fail
        refine (Try.slices_Compact_string_empty none 0 _).mono ?_
        rintro e w2 ⟨rfl, rfl⟩
        go_wp2_with fail
        go_ret
        refine ⟨none, 0, [], rfl, IsStrs.nil _ _, D.out.2.2.1.trans (HE.out.2.2.mono (by rw [D.out.2.1]; omega)), ?_⟩
        have hn : blkNames blocks = [] := List.eq_nil_of_length_eq_zero HE.out.2.1
        unfold callsOf
        dsimp only
        rw [hn]
        simp [Lib.compact, Lib.compactUpTo]
      · injection hv with e1 _ e3
        subst e1; subst e3
        have hss : ((blkNames blocks).map byt).length = L := by rw [List.length_map]; exact hlen
        have htake : cur.toList.take ((blkNames blocks).map byt).length = ((blkNames blocks).map byt).map encStr := by rw [str_row, hss, ← hg6, Nat.mul_one]
        have hH := holds_of_block (e := 9) hg2 htake
        have hlt := (Array.getElem?_eq_some_iff.1 hg2).1
        have hS := Try.slices_Sort_string g 0 c ((blkNames blocks).map byt) wr hH hlt (by rw [hss]; omega)
        rw [hss] at hS
        have HG := Lib.hid (And.intro hg1 (And.intro hg2 (And.intro hg3 (And.intro hg4 (And.intro hg5 (And.intro hss hlt))))))
        clear hown hg1 hg2 hg3 hg4 hg5 hg6 hss htake hH hlt hlen
        refine hS.mono ?_
        rintro e w1 ⟨rfl, nd, os, rfl⟩
        clear hS
        obtain ⟨ts, hts⟩ : ∃ ts, (((blkNames blocks).map byt).mergeSort fun x y => decide (x ≤ y)) = ts := ⟨_, rfl⟩
        have hl : ts.length = L := by rw [← hts, List.length_mergeSort]; exact HG.out.2.2.2.2.2.1
        have hb2 : (grow (putRow encStr (Sort.ahead wr nd) g 0 ts.toArray) os).heap[g]? = some (.cells (putCells encStr 0 ts.toArray cur) 9 (0, 0)) := heap_sorted _ HG.out.2.1
        have hH2 : Holds encStr (grow (putRow encStr (Sort.ahead wr nd) g 0 ts.toArray) os) g 0 ts.toArray := holds_of_block hb2 (take_putCells cur ts (by rw [hl, HG.out.2.2.2.2.1]; have := HG.out.2.2.1; omega))
        have BS := Lib.hid (HE.out.2.2.grown (grownBy_sorted (w := wr) (g := g) (n := nd) (os := os) ts.toArray) HE.out.2.2.size (fun j hj => by cases hj; exact HG.out.1))
        rw [hts]
        obtain ⟨wS, hwS⟩ : ∃ wS, grow (putRow encStr (Sort.ahead wr nd) g 0 ts.toArray) os = wS := ⟨_, rfl⟩
        rw [hwS] at hH2 BS hb2 ⊢
        have hC := Try.slices_Compact_string g 0 c ts wS hH2 (by rw [hl]; omega) (by rw [hl]; exact HG.out.2.2.1)
        rw [hl] at hC
        have HT := Lib.hid (And.intro hts (And.intro hl (And.intro hH2 hb2)))
        clear hts hl hH2 hwS hb2
        go_wp2_with fail
        refine hC.mono ?_
        rintro e w2 ⟨rfl, qd, rfl⟩
        clear hC
        have HL := Lib.hid (Lib.compact_length_le ts)
        go_wp2_with fail
        go_ret
        have hmap : ((Lib.compact ts).map fun x : List UInt8 => (⟨x.toArray⟩ : ByteArray)).length = (Lib.compact ts).length := List.length_map ..
        have hdl : (Lib.compact ts ++ List.replicate (L - (Lib.compact ts).length) []).length = ts.length := by
          rw [List.length_append, List.length_replicate, HT.out.2.1]; have := HL.out; rw [HT.out.2.1] at this; omega
        refine ⟨some ⟨g, 0, none⟩, c, (Lib.compact ts).map fun x : List UInt8 => (⟨x.toArray⟩ : ByteArray), by rw [hmap]; rfl, ⟨rfl, by rw [hmap]; have := HL.out; rw [HT.out.2.1] at this; omega, .inr ⟨g, 0, rfl, ?_, fun j hj => ?_⟩⟩, ?_, ?_⟩
        · have := (Array.getElem?_eq_some_iff.1 HT.out.2.2.2).1
          simpa [putRow, mapBlock, Sort.ahead] using this
        · rw [hmap] at hj
          rw [cell?_putRow encStr (Sort.ahead wS qd) g 0 ts.toArray _ (holds_ahead _ _ _ _ _ _ HT.out.2.2.1) (by simpa using hdl) j (by simp; omega)]
          have hg : (Lib.compact ts ++ List.replicate (L - (Lib.compact ts).length) [])[j]? = some (Lib.compact ts)[j] := by
            rw [List.getElem?_append_left hj, List.getElem?_eq_getElem hj]
          simp [encStr, hg]
        · refine D.out.2.2.1.trans (Below.mono (B := wa.heap.size) ?_ (by rw [D.out.2.1]; omega))
          refine BS.out.grown (row := some g) ?_ BS.out.size (fun j hj => by cases hj; exact HG.out.1)
          have := grownBy_sorted (w := wS) (g := g) (n := qd) (os := #[]) (Lib.compact ts ++ List.replicate (L - (Lib.compact ts).length) []).toArray
          rw [grow_empty] at this
          exact this
        · rw [List.map_map]
          show List.map _ (Lib.compact ts) = _
          unfold callsOf
          dsimp only
          rw [HT.out.1]
          conv => rhs; rw [← List.map_id (Lib.compact ts)]
          apply List.map_congr_left
          intro x _
          simp [byt]
end Go.Proofs.Ytocelaebokikcaa
