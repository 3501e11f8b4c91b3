/- The walk of the statement BitsDoes. -/
import Derived.Test.YtgckoiepclgofaaDoorDoB
import Derived.Test.YtgckoiepclgofaaDoorWorks
import Derived.Deep.CutRange
namespace Go.Proofs.YtgckoiepclgofaaDoor
open Go.ChangeShapes Go.WideShapes Go.RowKit
set_option linter.unusedVariables false

/-- What holds in the loop over the deeds: both sets are bs. -/
structure DsL (w wr : World) (p g b6 gx N cx : Nat) (bs : List Bool) : Prop where
  set : SetAt w.heap.size wr p g bs
  row : Bl wr gx bs
  len : bs.length = N
  box : Boxed wr b6 29 (.slice (some ⟨gx, 0, none⟩) N cx)
  gr : w.grownBy wr none
  glob : Glob wr
  ne : gx ≠ g
  nb : gx ≠ b6
  lo : w.heap.size ≤ b6
  pb : p ≠ b6 ∧ g ≠ b6
  pos : 0 < w.heap.size
theorem DsL.grow {w wr w1 : World} {p g b6 gx N cx : Nat} {bs : List Bool} (h : DsL w wr p g b6 gx N cx bs) (hg : wr.grownBy w1 none) : DsL w w1 p g b6 gx N cx bs :=
  ⟨h.set.grow hg, h.row.grow hg, h.len, h.box.kept hg (by simp), gtrans h.gr hg, h.glob.grow hg, h.ne, h.nb, h.lo, h.pb, h.pos⟩
/-- Behind do: the new set, in a variable of its own. -/
structure DsM (w wx : World) (p g b6 gx N cx b8 g2 c2 : Nat) (T : List Bool) : Prop where
  set : SetAt w.heap.size wx p g T
  row : Bl wx g2 T
  len : T.length = N
  box : Boxed wx b6 29 (.slice (some ⟨gx, 0, none⟩) N cx)
  box8 : Boxed wx b8 29 (.slice (some ⟨g2, 0, none⟩) N c2)
  gr : w.grownBy wx none
  glob : Glob wx
  ne : g2 ≠ g
  nb : g2 ≠ b6
  lo : w.heap.size ≤ b6
  pb : p ≠ b6 ∧ g ≠ b6
  pos : 0 < w.heap.size
theorem DsM.put {w wx : World} {p g b6 gx N cx b8 g2 c2 : Nat} {T : List Bool} (h : DsM w wx p g b6 gx N cx b8 g2 c2 T) : DsL w (wx.setCell ⟨b6, 0, none⟩ (.slice (some ⟨g2, 0, none⟩) N c2)) p g b6 g2 N c2 T := by
  have hs := gset wx b6 0 (.slice (some ⟨g2, 0, none⟩) N c2)
  exact ⟨h.set.kept hs (by simpa using h.pb.1) (by simpa using h.pb.2), h.row.kept hs (by simpa using h.nb), h.len, h.box.set _, gnew h.gr hs h.lo, h.glob.kept hs (by have := h.lo; have := h.pos; simp; omega), h.ne, h.nb, h.lo, h.pb, h.pos⟩
/-- What do hands back, seen from where the round began. -/
def DoQ (p g gx : Nat) (T : List Bool) (n : Nat) (B : Nat) (wr W : World) (e : Ending) (w' : World) : Prop :=
  ∃ g' c', e = .returned (.tuple #[.agg #[.slice (some ⟨g', 0, none⟩) n c'], .bool true]) ∧ SetAt B w' p g T ∧ Bl w' g' T ∧ wr.grownBy w' (some g) ∧ W.grownBy w' (some g) ∧ g' ≠ g ∧ (g' = gx ∨ W.heap.size ≤ g')
theorem do_q {w wr : World} {p g b6 gx N cx : Nat} {bs : List Bool} (h : DsL w wr p g b6 gx N cx bs) (kd : Nat) (hk2 : kd ≤ 255) (dn : Int) (hsm : kd ≤ 1 ∨ dn ≤ 300) (a : Option Addr) (M c : Nat) (l : List Int) (hM : l.length = M) (hM2 : M ≤ 40) (hl : Ints wr a l) (W : World) (hW : wr.grownBy W none) :
    Calls Tryd.prog 9 #[.pointer (some ⟨p, 0, none⟩), .agg #[.slice (some ⟨gx, 0, none⟩) N cx], .agg #[.int .u8 (kd : Int), .int .i64 dn, .slice a M c]] W (DoQ p g gx (dstep bs kd dn l) N w.heap.size wr W) := by
  refine (do_v kd hk2 dn hsm a M c l hM hM2 w.heap.size p g gx N cx bs h.len W (hl.kept hW (by simp)) (h.set.grow hW) (h.row.grow hW) h.ne).mono ?_
  rintro e w' ⟨g', c', h1, h2, h3, h4, h5, h6⟩
  exact ⟨g', c', h1, h2, h3, gtrans (gweak _ hW) h4, h4, h5, h6⟩
/-- The variable was laid behind the call. -/
theorem after_b {w wr w2 : World} {p g b6 gx N cx g2 c2 : Nat} {bs T : List Bool} (h : DsL w wr p g b6 gx N cx bs) (hl : T.length = N) (hs : SetAt w.heap.size w2 p g T) (hB : Bl w2 g2 T) (hg : wr.grownBy w2 (some g)) (hn : g2 ≠ g) (ho : g2 = gx ∨ wr.heap.size ≤ g2) :
    DsM w (w2.alloc (.cells #[.slice (some ⟨g2, 0, none⟩) N c2] 29)) p g b6 gx N cx w2.heap.size g2 c2 T := by
  have ha := galloc w2 (.cells #[.slice (some ⟨g2, 0, none⟩) N c2] 29) none
  have hb := h.box.lt
  have hlog := h.set.log
  have hpos := h.pos
  exact ⟨hs.grow ha, hB.grow ha, hl, (h.box.kept hg (by have := h.pb.2; simp; omega)).alloc _, Boxed.new _ _ _, gtrans (gnew h.gr hg h.set.log) ha, (h.glob.kept hg (by simp; omega)).grow ha, hn, by have := h.nb; omega, h.lo, h.pb, h.pos⟩
/-- The variable was laid ahead of the call. -/
theorem after_a {w wr w2 : World} {p g b6 gx N cx g2 c2 : Nat} {bs T : List Bool} (h : DsL w wr p g b6 gx N cx bs) (hl : T.length = N) (hs : SetAt w.heap.size w2 p g T) (hB : Bl w2 g2 T) (hg : wr.grownBy w2 (some g)) (hn : g2 ≠ g) (ho : g2 = gx ∨ wr.heap.size + 1 ≤ g2) (hb8 : Boxed w2 wr.heap.size 29 (.slice none 0 0)) :
    DsM w (w2.setCell ⟨wr.heap.size, 0, none⟩ (.slice (some ⟨g2, 0, none⟩) N c2)) p g b6 gx N cx wr.heap.size g2 c2 T := by
  have ha := gset w2 wr.heap.size 0 (.slice (some ⟨g2, 0, none⟩) N c2)
  have hb := h.box.lt
  have hlog := h.set.log
  have hpos := h.pos
  have hpl := h.set.lt
  have hgl := h.set.row.lt
  have hxl := h.row.lt
  have hnb := h.nb
  have hsz := h.gr.size
  refine ⟨hs.kept ha (by simp; omega) (by simp; omega), hB.kept ha (by simp; omega), hl, (h.box.kept hg (by have := h.pb.2; simp; omega)).kept ha (by simp; omega), hb8.set _, gnew (gnew h.gr hg h.set.log) ha hsz, (h.glob.kept hg (by simp; omega)).kept ha (fun e => by injection e with e; omega), hn, by omega, h.lo, h.pb, h.pos⟩
theorem Deeds.num {w : World} {b o : Nat} {ds : List Dd} (h : Deeds w (some ⟨b, o, none⟩) ds) (k : Nat) (hk : k < ds.length) : w.cell? ⟨b, o + k * 3 + 1, none⟩ = some (.int .i64 ds[k].n) := by
  rcases h with h | ⟨b', o', e, hb, hc⟩
  · rw [h] at hk; cases hk
  · simp only [Option.some.injEq, Addr.mk.injEq, and_true] at e
    obtain ⟨rfl, rfl⟩ := e
    exact (hc k hk).2.1
/-- What the test of a round leans on, in any world of it. -/
structure DsT (w W : World) (p g b6 g2 N c2 : Nat) (T : List Bool) (b j : Nat) (dn : Int) (A : Option Addr) : Prop where
  loop : DsL w W p g b6 g2 N c2 T
  box : W.cell? ⟨b6, 0, none⟩ = some (.slice (some ⟨g2, 0, none⟩) N c2)
  num : W.cell? ⟨b, j, none⟩ = some (.int .i64 dn)
  ints : Ints W A ((all T).map fun n : Nat => (n : Int))
theorem DsT.grow {w W W' : World} {p g b6 g2 N c2 : Nat} {T : List Bool} {b j : Nat} {dn : Int} {A : Option Addr} (h : DsT w W p g b6 g2 N c2 T b j dn A) (hg : W.grownBy W' none) : DsT w W' p g b6 g2 N c2 T b j dn A :=
  ⟨h.loop.grow hg, (h.loop.grow hg).box.cell, hg.cell h.num (by simp), h.ints.kept hg (by simp)⟩
theorem box_a {wr w2 : World} {g : Nat} (hg : (wr.alloc (.cells #[.slice none 0 0] 29)).drew.grownBy w2 (some g)) (hl : g < wr.heap.size) : Boxed w2 wr.heap.size 29 (.slice none 0 0) :=
  (Boxed.new wr 29 (.slice none 0 0)).kept (gtrans (gdrew _ _) hg) (by simp; omega)
theorem list_l (B p g : Nat) (bs : List Bool) (L : Nat) (hL : (all bs).length = L) (w : World) (h : SetAt B w p g bs) (hG : Glob w) :
    Calls Tryd.prog 12 #[.pointer (some ⟨p, 0, none⟩)] w fun e w' => ∃ A c, e = .returned (.slice A L c) ∧ OwnN w.heap.size w' A c (all bs) ∧ w.grownBy w' none := by
  rw [← hL]; exact list_v B p g bs w h hG
theorem does_many (n : Int) (A : Option Addr) (M c : Nat) (ds : List Dd) (hM : ds.length = M) (hmax : M ≤ 9223372036854775807) (w : World) (h : Deeds w A ds) (hG : Glob w) (hno : ∀ b, (b = true ↔ Few n ds) → b = false) :
    Calls Tryd.prog 3 #[.int .i64 n, .slice A M c] w fun e w' => e = .returned (.bool true) ∧ w.grownBy w' none := by
  have HC := Lib.hid (And.intro (few_v n A M c ds hM hmax w h) (And.intro (works_v w hG) hno))
  clear hM h hG hno
  go_enter Tryd.func3, Tryd.ntmps3
  go_wp2_with fail
  refine HC.out.1.mono ?_
  rintro e w1 ⟨⟨b, rfl, hb⟩, rfl⟩
  obtain rfl := HC.out.2.2 b hb
  clear hb
  go_wp2_with fail
  refine HC.out.2.1.mono ?_
  rintro e w2 ⟨rfl, h1⟩
  have H1 := Lib.hid h1
  clear h1
  go_wp2_with fail
  go_ret
  exact ⟨rfl, H1.out⟩
set_option maxRecDepth 100000 in
set_option maxHeartbeats 8000000 in
theorem does_few (n : Int) (N : Nat) (hN : n.toNat = N) (A : Option Addr) (M c : Nat) (ds : List Dd) (hM : ds.length = M) (hF : Few n ds) (w : World) (h : Deeds w A ds) (hG : Glob w) (hfew : Calls Tryd.prog 5 #[.int .i64 n, .slice A M c] w fun e w' => e = .returned (.bool true) ∧ w' = w) :
    Calls Tryd.prog 3 #[.int .i64 n, .slice A M c] w fun e w' => e = .returned (.bool true) ∧ w.grownBy w' none := by
  have hM4 : M ≤ 40 := by rw [← hM]; exact hF.2.1
  have HQ := Lib.hid (And.intro hN (And.intro hM (And.intro hF (And.intro h (And.intro hG hfew)))))
  clear hN hM hF h hG hfew
  go_enter Tryd.func3, Tryd.ntmps3
  go_wp2_with fail
  refine HQ.out.2.2.2.2.2.mono ?_
  rintro e w0 ⟨rfl, rfl⟩
  go_wp2_with fail
  refine (new_v n N HQ.out.1 HQ.out.2.2.1.1 _).mono ?_
  rintro e w1 ⟨p, g, rfl, hs1, hg1⟩
  have H1 := Lib.hid (And.intro hs1 hg1)
  clear hs1 hg1
  go_wp2_with fail
  refine (rnew_v n N HQ.out.1 HQ.out.2.2.1.1 _).mono ?_
  rintro e w2 ⟨gx, cx, rfl, hlo, hB, hg2⟩
  have s1 : DsL w0 (w2.alloc (.cells #[.slice (some ⟨gx, 0, none⟩) N cx] 29)) p g w2.heap.size gx N cx (List.replicate N false) := by
    have ha := gtrans hg2 (galloc w2 (.cells #[.slice (some ⟨gx, 0, none⟩) N cx] 29) none)
    have hgr := gtrans H1.out.2 ha
    have q1 := H1.out.1.lt
    have q2 := H1.out.1.row.lt
    have q3 := hB.lt
    have q4 := hg2.size
    have q5 := H1.out.2.size
    exact ⟨H1.out.1.grow ha, hB.grow (galloc _ _ _), by simp, Boxed.new _ _ _, hgr, HQ.out.2.2.2.2.1.grow hgr, by omega, by omega, by omega, ⟨by omega, by omega⟩, HQ.out.2.2.2.2.1.1⟩
  have H2 := Lib.hid s1
  clear s1 hlo hB hg2
  go_wp2_with fail
  obtain ⟨b6, hb6⟩ : ∃ b6, w2.heap.size = b6 := ⟨_, rfl⟩
  rw [hb6] at H2 ⊢
  go_loopg [7] M (fun gk u wr => ∃ (k gx cx : Nat) (bs : List Bool), k + gk = M ∧ u = .int .i64 (k : Int) ∧ Hid (DsL w0 wr p g b6 gx N cx bs))
  case atStart => exact ⟨0, gx, cx, _, by omega, rfl, H2.out⟩
  case round =>
    obtain ⟨k, gx, cx, bs, hk, rfl, HH⟩ := hrel
    by_cases hlt : k < M
    · obtain ⟨hN, hM, hF, hd, hG, _⟩ := HQ.out
      have hkl : k < ds.length := by omega
      rcases hd.grow HH.out.gr with h0 | ⟨b, o, rfl, hb, hc⟩
      · rw [h0] at hkl; cases hkl
      obtain ⟨c0, c1, c2, c3, c4⟩ := hc k hkl
      have hFk := hF.2.2 k hkl
      obtain ⟨kd, hkd⟩ : ∃ x, ds[k].kind = x := ⟨_, rfl⟩
      obtain ⟨dn, hdn⟩ : ∃ x, ds[k].n = x := ⟨_, rfl⟩
      obtain ⟨l, hl⟩ : ∃ x, ds[k].l = x := ⟨_, rfl⟩
      obtain ⟨a, ha⟩ : ∃ x, ds[k].a = x := ⟨_, rfl⟩
      obtain ⟨cc, hcc⟩ : ∃ x, ds[k].c = x := ⟨_, rfl⟩
      rw [hkd] at c0 c4 hFk
      rw [hdn] at c1 hFk
      rw [hl, ha, hcc] at c2
      rw [hl, ha] at c3
      rw [hl] at hFk
      obtain ⟨m, hm⟩ : ∃ m, l.length = m := ⟨_, rfl⟩
      rw [hm] at c2 hFk
      obtain ⟨T, hT⟩ : ∃ T, dstep bs kd dn l = T := ⟨_, rfl⟩
      have hTl : T.length = N := by rw [← hT, dstep_len]; exact HH.out.len
      have C := do_q HH.out kd c4 dn hFk.1 a m cc l hm hFk.2 c3
      rw [hT] at C
      have e6 := HH.out.box.cell
      have hgl := HH.out.set.row.lt
      have HC := Lib.hid (And.intro C hTl)
      have HDN := Lib.hid (show ∃ h : k < ds.length, ds[k].n = dn from ⟨hkl, hdn⟩)
      have hal := galloc wr (.cells #[.slice none 0 0] 29) none
      have c0' := (hal.cell_far ⟨b, o + k * 3, none⟩ hb (by simp)).trans c0
      have c1' := (hal.cell_far ⟨b, o + k * 3 + 1, none⟩ hb (by simp)).trans c1
      have c2' := (hal.cell_far ⟨b, o + k * 3 + 2, none⟩ hb (by simp)).trans c2
      have e6' := (HH.out.grow hal).box.cell
      have kM : (k : Int) < (M : Int) := by omega
      have k0 : (0 : Int) ≤ (k : Int) := by omega
      clear hN hM hF hG hkl hc c3 c4 hFk hkd hdn hl ha hcc hm hT hTl C hb hal
      go_wp2_with fail
      go_cut [8, 9] from 22 to 81 (fun s8 s9 wx => ∃ (b8 g2 c2 : Nat), s8 = .pointer (some ⟨b8, 0, none⟩) ∧ s9 = .bool true ∧ Hid (DsM w0 wx p g b6 gx N cx b8 g2 c2 T))
      case first =>
        go_region_with ((go_at_call 9; (refine (HC.out.1 _ (by first | exact gdrew _ _ | exact gtrans (galloc _ _ _) (gdrew _ _))).mono ?_); rintro e w3 ⟨g2, c2, rfl, hs3, hB3, hg3, hg4, hn3, ho3⟩; (try (have hb8 := box_a hg4 hgl; have hc8 := hb8.cell; have hf8 := hb8.frozen)); have S1 := Lib.hid (And.intro hs3 (And.intro hB3 (And.intro hg3 (And.intro hn3 ho3)))); clear hs3 hB3 hg3 hg4 hn3 ho3))
        all_goals go_wp2_with fail
        all_goals go_meet
        all_goals first
          | exact ⟨w3.heap.size, g2, c2, rfl, rfl, after_b HH.out HC.out.2 S1.out.1 S1.out.2.1 S1.out.2.2.1 S1.out.2.2.2.1 S1.out.2.2.2.2⟩
          | exact ⟨wr.heap.size, g2, c2, rfl, rfl, after_a HH.out HC.out.2 S1.out.1 S1.out.2.1 S1.out.2.2.1 S1.out.2.2.2.1 (by have h := S1.out.2.2.2.2; simpa using h) hb8⟩
      case rest =>
        obtain ⟨b8, g2, c2, rfl, rfl, HM⟩ := hcut
        have hp := HM.out.put
        have f8 := HM.out.box8.cell
        have f6 := HM.out.box.cell
        have f7 := HM.out.box.frozen
        have f9 := hp.box.cell
        have HP := Lib.hid hp
        have HR := Lib.hid (rlist_v g2 N c2 T hp.len _ hp.row)
        clear hp c0 c0' c1' c2' e6 e6' hgl
        go_wp2_with fail
        refine HR.out.mono ?_
        rintro e w4 ⟨A4, c4, rfl, ho4, hg4⟩
        have hT4 : DsT w0 w4 p g b6 g2 N c2 T b (o + k * 3 + 1) dn A4 := by
          have hl4 := HP.out.grow hg4
          obtain ⟨hkl, hdn⟩ := HDN.out
          have hnum := (HQ.out.2.2.2.1.grow hl4.gr).num k hkl
          rw [hdn] at hnum
          exact ⟨hl4, hl4.box.cell, hnum, ho4.ints⟩
        obtain ⟨L, hL⟩ : ∃ L, (all T).length = L := ⟨_, rfl⟩
        have hL3 : L ≤ 300 := by rw [← hL]; exact Nat.le_trans (all_len T) hT4.loop.set.small
        obtain ⟨hb, hhb⟩ : ∃ hb, hasI T dn = hb := ⟨_, rfl⟩
        rw [hL]
        have q6 := hT4.box
        have q1 := hT4.num
        have n1 : ((L : Int) != (L : Int)) = false := by simp
        have n2 : (hb != hb) = false := by simp
        have n3 : ((N : Int) != (N : Int)) = false := by simp
        have HT := Lib.hid (And.intro hT4 (And.intro hL hhb))
        clear hT4 ho4 hg4 f6 f7 f8 f9 c1 HR HP HM hL hhb
        go_wp2_with fail
        go_region_held3 (fun W => W.cell? ⟨b6, 0, none⟩ = some (.slice (some ⟨g2, 0, none⟩) N c2) ∧ W.cell? ⟨b, o + k * 3 + 1, none⟩ = some (.int .i64 dn))
          (first | exact ⟨q6, q1⟩ | exact ⟨S1.out.box, S1.out.num⟩ | exact ⟨S2.out.box, S2.out.num⟩ | exact ⟨S3.out.box, S3.out.num⟩ | exact ⟨S4.out.box, S4.out.num⟩)
          (first
            | (go_at_call 12; (refine (list_l w0.heap.size p g T L HT.out.2.1 _ (HT.out.1.grow (gdrew _ _)).loop.set (HT.out.1.grow (gdrew _ _)).loop.glob).mono ?_); rintro e w5 ⟨A5, c5, rfl, ho5, hg5⟩; have S1 := Lib.hid (HT.out.1.grow (gtrans (gdrew _ _) hg5)); have O5 := Lib.hid ho5.ints; clear ho5 hg5)
            | (go_at_call 11; (refine (rsame_v A5 A4 L c5 c4 ((all T).map fun n : Nat => (n : Int)) (by rw [List.length_map]; exact HT.out.2.1) (by omega) _ O5.out S1.out.ints).mono ?_); rintro e w6 ⟨rfl, hg6⟩; have S2 := Lib.hid (S1.out.grow hg6); clear hg6)
            | (go_at_call 13; (refine (count_v w0.heap.size p g T L HT.out.2.1 _ S2.out.loop.set).mono ?_); rintro e w7 ⟨rfl, rfl⟩)
            | (go_at_call 14; (refine (has_g dn hb w0.heap.size p g T HT.out.2.2 _ S2.out.loop.set).mono ?_); rintro e w8 ⟨rfl, hg8⟩; have S3 := Lib.hid (S2.out.grow hg8); clear hg8)
            | (go_at_call 15; (refine (rhas_w dn g2 N c2 T hb S3.out.loop.len HT.out.2.2 _ S3.out.loop.row).mono ?_); rintro e w9 ⟨rfl, hg9⟩; have S4 := Lib.hid (S3.out.grow hg9); clear hg9)
            | (go_at_call 16; (refine (bound_v w0.heap.size p g T N S4.out.loop.len _ S4.out.loop.set).mono ?_); rintro e w10 ⟨rfl, rfl⟩))
        go_wp2_with fail
        go_roundg (gk - 1)
        case measure => omega
        case rel => exact ⟨k + 1, g2, c2, T, by omega, by go_num, S4.out.loop⟩
    · obtain rfl : k = M := by omega
      have hge : ¬ (k : Int) < (k : Int) := by omega
      go_wp2_with fail
      refine (works_v wr HH.out.glob).mono ?_
      rintro e w3 ⟨rfl, h3⟩
      have H3 := Lib.hid h3
      clear h3
      go_wp2_with fail
      go_ret
      exact ⟨rfl, gtrans HH.out.gr H3.out⟩
theorem does_v (n : Int) (A : Option Addr) (M c : Nat) (ds : List Dd) (hM : ds.length = M) (hmax : M ≤ 9223372036854775807) (w : World) (h : Deeds w A ds) (hG : Glob w) :
    Calls Tryd.prog 3 #[.int .i64 n, .slice A M c] w fun e w' => e = .returned (.bool true) ∧ w.grownBy w' none := by
  by_cases hF : Few n ds
  · refine does_few n _ rfl A M c ds hM hF w h hG ((few_v n A M c ds hM hmax w h).mono ?_)
    rintro e w' ⟨⟨b, rfl, hb⟩, rfl⟩
    exact ⟨by rw [hb.2 hF], rfl⟩
  · refine does_many n A M c ds hM hmax w h hG fun b hb => ?_
    cases b
    · rfl
    · exact absurd (hb.1 rfl) hF
end Go.Proofs.YtgckoiepclgofaaDoor
