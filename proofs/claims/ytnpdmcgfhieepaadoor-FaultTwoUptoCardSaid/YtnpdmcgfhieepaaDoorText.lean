/- What the program's Text answers. -/
import Derived.Test.YtnpdmcgfhieepaaDoorPath
import Derived.Test.YtnpdmcgfhieepaaDoorBuilder
import Derived.Test.YtnpdmcgfhieepaaDoorDeciPut
namespace Go.Proofs.YtnpdmcgfhieepaaDoor
open Go.RowKit Go.Extern.Stop Go.Stop Go.Extern
set_option linter.unusedVariables false

/-- The parts, a colon and a blank behind each. -/
def heads : List ByteArray → List UInt8
  | [] => []
  | p :: r => p.data.toList ++ [58, 32] ++ heads r
theorem heads_append (a b : List ByteArray) : heads (a ++ b) = heads a ++ heads b := by
  induction a with
  | nil => rfl
  | cons p r ih => simp [heads, ih]
/-- The text of a fault within parts. -/
def full (code place : Int) (ps : List ByteArray) : List UInt8 := heads ps ++ Deci.txt code ++ [32, 97, 116, 32] ++ Deci.txt place
theorem heads_take (ps : List ByteArray) (k : Nat) (h : k < ps.length) : heads (ps.take (k + 1)) = heads (ps.take k) ++ ps[k].data.toList ++ [58, 32] := by
  rw [List.take_succ_eq_append_getElem h, heads_append]; simp [heads]
theorem heads_le (ps : List ByteArray) (k : Nat) : (heads (ps.take k)).length ≤ (heads ps).length := by
  have h := congrArg List.length (heads_append (ps.take k) (ps.drop k))
  rw [List.take_append_drop, List.length_append] at h
  omega
theorem Owns.keeps {base : Nat} {w w' : World} {A : Option Addr} {c : Nat} {t : List ByteArray} (h : Owns base w A c t) (k : Keeps w w') : Owns base w' A c t := by
  refine ⟨h.1, h.2.imp id ?_⟩
  rintro ⟨g, cap, cur, h1, h2, h3, h4⟩
  exact ⟨g, cap, cur, h1, h2, k g cur 9 (by decide) (by decide) h3, h4⟩
theorem Owns.at {base : Nat} {w : World} {A : Option Addr} {c : Nat} {t : List ByteArray} (h : Owns base w A c t) (k : Nat) (hk : k < t.length) : ∃ g, A = some ⟨g, 0, none⟩ ∧ w.cell? ⟨g, k, none⟩ = some (.string t[k]) := by
  obtain ⟨g, cap, hv, _, _⟩ := h.form (by omega)
  injection hv with h1 h2 h3
  subst h1 h3
  refine ⟨g, rfl, ?_⟩
  have e : w.ownsRow base 9 1 (.slice (some ⟨g, 0, none⟩) t.length c) t.length (texts t) := h
  rw [e.cellAt k (by omega)]
  simp [texts, hk]
theorem size_list (s : ByteArray) : s.data.toList.length = s.size := by rw [Array.length_toList]; rfl
theorem write_n (B b : Nat) (l t : List UInt8) (s : ByteArray) (w : World) (ht : l ++ s.data.toList = t) (h : Lib.IsBuilder 46 5 B b (Lib.byteCells l) w) (hlen : t.length ≤ 140737488355328) (hBw : B ≤ w.heap.size) :
    Calls Tryd.prog 17 #[.pointer (some ⟨b, 0, none⟩), .string s] w fun e w' => e = .returned (.tuple #[.int .i64 s.size, .nilIface]) ∧ (Lib.IsBuilder 46 5 B b (Lib.byteCells t) w' ∧ Below B w w' ∧ Keeps w w') := by
  refine (write_v B b (Lib.byteCells l) s w h (by rw [Lib.byteCells_length]; rw [← ht, List.length_append, size_list] at hlen; exact hlen) hBw).mono ?_
  rintro e w' ⟨rfl, h1, h2, h3⟩
  refine ⟨rfl, .inr ?_, h2, h3⟩
  rw [← ht, Lib.byteCells_append, ← Lib.strCells_eq]; exact h1
theorem built_new (w : World) : Lib.IsBuilder 46 5 w.heap.size w.heap.size (Lib.byteCells []) (w.alloc (.cells #[.pointer none, .slice none 0 0] 46)) :=
  .inl ⟨Nat.le_refl _, .slice none 0 0, heap_alloc_new w _, World.ownsRow_nil _ _ _ _, by simp [Value.ownBlock]⟩
theorem ret_l {a b : List UInt8} (h : a = b) : Ending.returned (.string ⟨a.toArray⟩) = .returned (.string ⟨b.toArray⟩) := by rw [h]
/-- What stands while the end is written: the builder, and the fault that was found. -/
def St (w : World) (rb : Nat) (x y : Value) (l : List UInt8) (W : World) : Prop :=
  Lib.IsBuilder 46 5 w.heap.size w.heap.size (Lib.byteCells l) W ∧ W.heap[rb]? = some (.cells #[x, y] 41 (0, 0)) ∧ Below w.heap.size w W
theorem St.below {w : World} {rb : Nat} {x y : Value} {l : List UInt8} {W W' : World} (h : St w rb x y l W) (hb : Below W.heap.size W W') : St w rb x y l W' :=
  ⟨built_below h.1 hb, Keeps.below hb rb _ 41 (by decide) (by decide) h.2.1, h.2.2.trans (hb.mono h.2.2.size)⟩
theorem write_s (w : World) (rb : Nat) (x y : Value) (l t : List UInt8) (s : ByteArray) (W : World) (h : St w rb x y l W) (ht : l ++ s.data.toList = t) (hlen : t.length ≤ 140737488355328) :
    Calls Tryd.prog 17 #[.pointer (some ⟨w.heap.size, 0, none⟩), .string s] W fun e w' => e = .returned (.tuple #[.int .i64 s.size, .nilIface]) ∧ St w rb x y t w' := by
  refine (write_n w.heap.size w.heap.size l t s W ht h.1 hlen h.2.2.size).mono ?_
  rintro e w' ⟨rfl, h1, h2, h3⟩
  exact ⟨rfl, h1, h3 rb _ 41 (by decide) (by decide) h.2.1, h.2.2.trans h2⟩
theorem St.at {w : World} {rb : Nat} {x y : Value} {l : List UInt8} {W : World} (h : St w rb x y l W) : W.cell? ⟨rb, 1, none⟩ = some y := by rw [Lib.cell_of_heap h.2.1]; rfl
set_option maxRecDepth 100000 in
set_option maxHeartbeats 4000000 in
theorem text_is (code place : Int) (path : List ByteArray) (hl : path.length ≤ 1000) (hs : (heads path).length ≤ 100000000) (hc : Deci.fit code) (hp : Deci.fit place) (w : World) (hg : Glob w) :
    Calls Tryd.prog 10 #[err code place path] w fun e w' => e = .returned (.string ⟨(full code place path).toArray⟩) ∧ Below w.heap.size w w' := by
  have HG := Lib.hid (And.intro hg (And.intro hl (And.intro hs (And.intro hc hp))))
  clear hg hl hs hc hp
  obtain ⟨N, hN⟩ : ∃ N, path.length = N := ⟨_, rfl⟩
  have HN := Lib.hid hN
  have hN1 : N ≤ 1000 := by rw [← hN]; exact HG.out.2.1
  clear hN
  obtain ⟨T, v, hE⟩ := err_iface code place path
  have HE := Lib.hid hE
  rw [hE]
  clear hE
  go_enter Tryd.func10, Tryd.ntmps10
  go_wp2_with fail
  rw [← HE.out]
  refine (path_v code place path HG.out.2.1 _ (HG.out.1.alloc _)).mono ?_
  rintro e w1 ⟨A, c, rfl, ho, hb⟩
  rw [HE.out, HN.out]
  have hb1 : Below w.heap.size w w1 := ((Below.refl _ w).alloc (Nat.le_refl _) _).trans (hb.mono (by simp))
  have H1 := Lib.hid (And.intro ho (And.intro (built_below (built_new w) hb) hb1))
  clear ho hb hb1
  go_wp2_with fail
  go_loopg [12] N (fun gk i wr => ∃ k : Nat, k + gk = N ∧ i = .int .i64 (k : Int) ∧
    Hid (Owns (w.alloc (.cells #[.pointer none, .slice none 0 0] 46)).heap.size wr A c path ∧ Lib.IsBuilder 46 5 w.heap.size w.heap.size (Lib.byteCells (heads (path.take k))) wr ∧ Below w.heap.size w wr))
  case atStart => exact ⟨0, by omega, rfl, H1.out⟩
  case round =>
    obtain ⟨k, hk, rfl, HH⟩ := hrel
    by_cases hgk : gk = 0
    · subst hgk
      obtain rfl : k = N := by omega
      clear hk
      have hB : Lib.IsBuilder 46 5 w.heap.size w.heap.size (Lib.byteCells (heads path)) wr := by
        have := HH.out.2.1; rw [List.take_of_length_le (by rw [HN.out]; exact Nat.le_refl _)] at this; exact this
      have H2 := Lib.hid (And.intro hB HH.out.2.2)
      clear hB HH H1
      go_wp2_with fail
      rw [← HE.out]
      refine (inmost_v code place path _ (HG.out.1.below H2.out.2 HG.out.1.pos)).mono ?_
      rintro e w2 ⟨rfl, hb⟩
      have H3 := Lib.hid (And.intro (built_below H2.out.1 hb) (H2.out.2.trans (hb.mono H2.out.2.size)))
      clear hb H2
      obtain ⟨t1, ht1⟩ : ∃ l, Deci.txt code = l := ⟨_, rfl⟩
      obtain ⟨t2, ht2⟩ : ∃ l, Deci.txt place = l := ⟨_, rfl⟩
      have hl1 : t1.length ≤ 20 := by rw [← ht1]; exact Deci.txt_len code HG.out.2.2.2.1.1 HG.out.2.2.2.1.2
      have hl2 : t2.length ≤ 20 := by rw [← ht2]; exact Deci.txt_len place HG.out.2.2.2.2.1 HG.out.2.2.2.2.2
      have hf : full code place path = heads path ++ t1 ++ [32, 97, 116, 32] ++ t2 := by unfold full; rw [ht1, ht2]
      have HT := Lib.hid (And.intro ht1 (And.intro ht2 (And.intro hl1 (And.intro hl2 hf))))
      clear ht1 ht2 hl1 hl2 hf
      have hst : St w w2.heap.size (.int .i64 code) (.int .i64 place) (heads path) (w2.alloc (.cells #[.int .i64 code, .int .i64 place] 41)) :=
        ⟨built_below H3.out.1 ((Below.refl _ w2).alloc (Nat.le_refl _) _), heap_alloc_new w2 _, H3.out.2.alloc H3.out.2.size _⟩
      have S0 := Lib.hid hst
      clear hst
      go_wp2_with fail
      refine (Deci.put_v code t1 HT.out.1 HG.out.2.2.2.1 _).mono ?_
      rintro e w3 ⟨rfl, hb⟩
      have S1 := Lib.hid (S0.out.below hb)
      clear hb
      go_wp2_with fail
      refine (write_s w w2.heap.size _ _ (heads path) (heads path ++ t1) ⟨t1.toArray⟩ _ S1.out rfl (by have := HG.out.2.2.1; have := HT.out.2.2.1; simp; omega)).mono ?_
      rintro e w4 ⟨rfl, hb⟩
      have S2 := Lib.hid hb
      clear hb
      go_wp2_with fail
      refine (write_s w w2.heap.size _ _ (heads path ++ t1) (heads path ++ t1 ++ [32, 97, 116, 32]) ⟨#[32, 97, 116, 32]⟩ _ S2.out rfl (by have := HG.out.2.2.1; have := HT.out.2.2.1; simp; omega)).mono ?_
      rintro e w5 ⟨rfl, hb⟩
      have cp := hb.at
      have S3 := Lib.hid hb
      clear hb
      go_wp2_with fail
      refine (Deci.put_v place t2 HT.out.2.1 HG.out.2.2.2.2 _).mono ?_
      rintro e w6 ⟨rfl, hb⟩
      have S4 := Lib.hid (S3.out.below hb)
      clear hb
      go_wp2_with fail
      refine (write_s w w2.heap.size _ _ _ (full code place path) ⟨t2.toArray⟩ _ S4.out HT.out.2.2.2.2.symm (by rw [HT.out.2.2.2.2]; have := HG.out.2.2.1; have := HT.out.2.2.1; have := HT.out.2.2.2.1; simp; omega)).mono ?_
      rintro e w7 ⟨rfl, hb⟩
      have S5 := Lib.hid hb
      clear hb
      go_wp2_with fail
      refine (string_v w.heap.size w.heap.size (full code place path) _ S5.out.1 S5.out.2.2.size).mono ?_
      rintro e w8 ⟨rfl, hb⟩
      have S6 := Lib.hid (S5.out.2.2.trans hb)
      clear hb
      go_wp2_with fail
      go_ret
      exact ⟨rfl, S6.out⟩
    · obtain ⟨q, rfl⟩ : ∃ q, gk = q + 1 := ⟨gk - 1, by omega⟩
      have hkN : k < path.length := by rw [HN.out]; omega
      obtain ⟨g, hA, hcell⟩ := HH.out.1.at k hkN
      have hkN' : (k : Int) < (N : Int) := by omega
      have hkN2 : k < N := by omega
      obtain ⟨p, hp⟩ : ∃ p, path[k] = p := ⟨_, rfl⟩
      rw [hp] at hcell
      have ht := heads_take path k hkN
      rw [hp] at ht
      have hle : (heads (path.take (k + 1))).length ≤ 100000000 := Nat.le_trans (heads_le _ _) HG.out.2.2.1
      have HT := Lib.hid (And.intro ht hle)
      have HK := Lib.hid hk
      clear ht hle hp hkN hk hgk
      subst hA
      go_wp2_with fail
      refine (write_n w.heap.size w.heap.size _ _ p _ rfl HH.out.2.1 (by have := HT.out.2; rw [HT.out.1] at this; simp at this ⊢; omega) HH.out.2.2.size).mono ?_
      rintro e w2 ⟨rfl, h1, h2, h3⟩
      have H2 := Lib.hid (And.intro h1 (And.intro (HH.out.2.2.trans h2) (HH.out.1.keeps h3)))
      clear h1 h2 h3
      go_wp2_with fail
      refine (write_n w.heap.size w.heap.size _ (heads (path.take (k + 1))) ⟨#[58, 32]⟩ _ HT.out.1.symm H2.out.1 (by have := HT.out.2; omega) H2.out.2.1.size).mono ?_
      rintro e w3 ⟨rfl, h1, h2, h3⟩
      have H3 := Lib.hid (And.intro (H2.out.2.2.keeps h3) (And.intro h1 (H2.out.2.1.trans h2)))
      clear h1 h2 h3
      go_wp2_with fail
      go_roundg q
      case measure => omega
      case rel => exact ⟨k + 1, by have := HK.out; omega, by go_num, H3.out⟩
theorem text_v (code place : Int) (path : List ByteArray) (R : ByteArray) (hl : path.length ≤ 1000) (hs : (heads path).length ≤ 100000000) (hc : Deci.fit code) (hp : Deci.fit place) (hR : full code place path = R.data.toList) (w : World) (hg : Glob w) :
    Calls Tryd.prog 10 #[err code place path] w fun e w' => e = .returned (.string R) ∧ Below w.heap.size w w' := by
  have := text_is code place path hl hs hc hp w hg
  rw [hR] at this; exact this
theorem text_nil (w : World) : Calls Tryd.prog 10 #[.nilIface] w fun e w' => e = .returned (.string ⟨#[]⟩) ∧ w = w' := by
  go_enter Tryd.func10, Tryd.ntmps10
  go_wp2_with fail
  go_ret
  exact ⟨rfl, rfl⟩
end Go.Proofs.YtnpdmcgfhieepaaDoor
