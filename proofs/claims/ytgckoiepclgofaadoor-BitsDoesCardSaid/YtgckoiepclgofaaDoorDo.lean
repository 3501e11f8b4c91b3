/- What do answers: a deed done to a set both ways tells the same. -/
import Derived.Test.YtgckoiepclgofaaDoorOther
import Derived.Test.YtgckoiepclgofaaDoorTwoB
import Derived.Test.YtgckoiepclgofaaDoorMerge
import Derived.Test.YtgckoiepclgofaaDoorMergeB
import Derived.Test.YtgckoiepclgofaaDoorMergeC
namespace Go.Proofs.YtgckoiepclgofaaDoor
open Go.ChangeShapes Go.WideShapes Go.RowKit
set_option linter.unusedVariables false

/-- The set of a deed. -/
def dset (n : Int) (l : List Int) : List Bool := puts (List.replicate n.toNat false) l
/-- What a deed makes of a set. -/
def dstep (bs : List Bool) (kd : Nat) (n : Int) (l : List Int) : List Bool :=
  if kd = 0 then wth bs n true else if kd = 1 then wth bs n false else if kd = 2 then two orB bs (dset n l) else if kd = 3 then two andB bs (dset n l) else if kd = 4 then two lessB bs (dset n l) else bs
theorem dstep_len (bs : List Bool) (kd : Nat) (n : Int) (l : List Int) : (dstep bs kd n l).length = bs.length := by
  unfold dstep
  split
  · exact wth_len _ _ _
  · split
    · exact wth_len _ _ _
    · split
      · exact two_len _ _ _
      · split
        · exact two_len _ _ _
        · split
          · exact two_len _ _ _
          · rfl
/-- The boxes of do. -/
structure DoB (w wr : World) (gx n cx kd : Nat) (dn : Int) (a : Option Addr) (M c : Nat) : Prop where
  b0 : Boxed wr w.heap.size 29 (.slice (some ⟨gx, 0, none⟩) n cx)
  b1 : Bx3 wr (w.heap.size + 1) kd dn a M c
  b2 : Boxed wr (w.heap.size + 1 + 1) 29 (.slice none 0 0)
theorem DoB.kept {w wr w1 : World} {gx n cx kd : Nat} {dn : Int} {a : Option Addr} {M c : Nat} {row : Option Nat} (h : DoB w wr gx n cx kd dn a M c) (hg : wr.grownBy w1 row) (hr : ∀ k, row = some k → k < w.heap.size ∨ w.heap.size + 1 + 1 < k) : DoB w w1 gx n cx kd dn a M c :=
  ⟨h.b0.kept hg (fun e => by have := hr _ e.symm; omega), h.b1.kept hg (fun e => by have := hr _ e.symm; omega), h.b2.kept hg (fun e => by have := hr _ e.symm; omega)⟩
theorem DoB.new (w : World) (gx n cx kd : Nat) (dn : Int) (a : Option Addr) (M c : Nat) :
    DoB w (((w.alloc (.cells #[.slice (some ⟨gx, 0, none⟩) n cx] 29)).alloc (.cells #[.int .u8 (kd : Int), .int .i64 dn, .slice a M c] 35)).alloc (.cells #[.slice none 0 0] 29)) gx n cx kd dn a M c := by
  have x0 := Boxed.new w 29 (.slice (some ⟨gx, 0, none⟩) n cx)
  have x1 : Bx3 ((w.alloc (.cells #[.slice (some ⟨gx, 0, none⟩) n cx] 29)).alloc (.cells #[.int .u8 (kd : Int), .int .i64 dn, .slice a M c] 35)) (w.alloc (.cells #[.slice (some ⟨gx, 0, none⟩) n cx] 29)).heap.size kd dn a M c := heap_alloc_new _ _
  have x2 := Boxed.new ((w.alloc (.cells #[.slice (some ⟨gx, 0, none⟩) n cx] 29)).alloc (.cells #[.int .u8 (kd : Int), .int .i64 dn, .slice a M c] 35)) 29 (.slice none 0 0)
  simp only [World.size_alloc] at x1 x2
  exact ⟨(x0.alloc _).alloc _, x1.kept (galloc _ _ none) (by simp), x2⟩
theorem grow3 (w : World) (x y z : Obj) : w.grownBy (((w.alloc x).alloc y).alloc z) none := gtrans (galloc _ _ _) (gtrans (galloc _ _ _) (galloc _ _ _))
/-- What do hands back. -/
def DoP (B p g gx : Nat) (T : List Bool) (n : Nat) (w : World) (e : Ending) (w' : World) : Prop :=
  ∃ g' c', e = .returned (.tuple #[.agg #[.slice (some ⟨g', 0, none⟩) n c'], .bool true]) ∧ SetAt B w' p g T ∧ Bl w' g' T ∧ w.grownBy w' (some g) ∧ g' ≠ g ∧ (g' = gx ∨ w.heap.size ≤ g')
theorem add_b (i : Int) (b : Bool) (B p g : Nat) (bs : List Bool) (hb : chg bs i true = b) (w : World) (h : SetAt B w p g bs) :
    Calls Tryd.prog 23 #[.pointer (some ⟨p, 0, none⟩), .int .i64 i] w fun e w' => e = .returned (.bool b) ∧ SetAt B w' p g (wth bs i true) ∧ w.grownBy w' (some g) := by rw [← hb]; exact add_v i B p g bs w h
theorem drop_b (i : Int) (b : Bool) (B p g : Nat) (bs : List Bool) (hb : chg bs i false = b) (w : World) (h : SetAt B w p g bs) :
    Calls Tryd.prog 24 #[.pointer (some ⟨p, 0, none⟩), .int .i64 i] w fun e w' => e = .returned (.bool b) ∧ SetAt B w' p g (wth bs i false) ∧ w.grownBy w' (some g) := by rw [← hb]; exact drop_v i B p g bs w h
theorem with_b (i : Int) (b r : Bool) (g n c : Nat) (bs : List Bool) (hn : bs.length = n) (hr : chg bs i b = r) (w : World) (h : Bl w g bs) :
    Calls Tryd.prog 22 #[.agg #[.slice (some ⟨g, 0, none⟩) n c], .int .i64 i, .bool b] w fun e w' => ∃ g' c', e = .returned (.tuple #[.agg #[.slice (some ⟨g', 0, none⟩) n c'], .bool r]) ∧ Bl w' g' (wth bs i b) ∧ w.grownBy w' none ∧ (g' = g ∨ w.heap.size ≤ g') := by
  rw [← hr]; exact with_v i b g n c bs hn w h
/-- The end of do: the result's box is written. -/
theorem do_end {B : Nat} {w wr : World} {p g gx g' n c' : Nat} {T : List Bool} (hs : SetAt B wr p g T) (hB : Bl wr g' T) (hg : w.grownBy wr (some g)) (hlt : g < w.heap.size) (hp : p < w.heap.size) (hne : g' ≠ w.heap.size + 1 + 1) (hgg : g' ≠ g) (hor : g' = gx ∨ w.heap.size ≤ g') :
    DoP B p g gx T n w (.returned (.tuple #[.agg #[.slice (some ⟨g', 0, none⟩) n c'], .bool true])) (wr.setCell ⟨w.heap.size + 1 + 1, 0, none⟩ (.slice (some ⟨g', 0, none⟩) n c')) := by
  have h1 := gset wr (w.heap.size + 1 + 1) 0 (.slice (some ⟨g', 0, none⟩) n c')
  exact ⟨g', c', rfl, hs.kept h1 (by simp; omega) (by simp; omega), hB.kept h1 (by simpa using hne), gnew hg h1 (by omega), hgg, hor⟩
theorem do_keep {w wr w3 : World} {gx n cx kd : Nat} {dn : Int} {a : Option Addr} {M c B p g b8 g2 c2 : Nat} {bs T T' : List Bool}
    (h : DoB w wr gx n cx kd dn a M c ∧ SetAt B wr p g bs ∧ w.grownBy wr none ∧ Boxed wr b8 29 (.slice (some ⟨g2, 0, none⟩) n c2) ∧ w.heap.size + 1 + 1 < b8 ∧ Bl wr g2 T ∧ g2 ≠ w.heap.size + 1 + 1 ∧ g2 ≠ g)
    (hs : SetAt B w3 p g T') (hg : wr.grownBy w3 (some g)) (hgl : g < w.heap.size) :
    (w3.cell? ⟨b8, 0, none⟩ = some (.slice (some ⟨g2, 0, none⟩) n c2) ∧ w3.cell? ⟨w.heap.size + 1, 1, none⟩ = some (.int .i64 dn)) ∧
    (∀ v, (w3.setCell ⟨w.heap.size + 1 + 1, 0, none⟩ v).cell? ⟨b8, 0, none⟩ = some (.slice (some ⟨g2, 0, none⟩) n c2) ∧ (w3.setCell ⟨w.heap.size + 1 + 1, 0, none⟩ v).cell? ⟨w.heap.size + 1, 1, none⟩ = some (.int .i64 dn)) ∧
    DoB w w3 gx n cx kd dn a M c ∧ SetAt B w3 p g T' ∧ w.grownBy w3 (some g) ∧ Bl w3 g2 T := by
  obtain ⟨h1, h2, h3, h4, h5, h6, h7, h8⟩ := h
  have hD := h1.kept hg (fun k e => by injection e with e; omega)
  have b8' := h4.kept hg (by simp; omega)
  refine ⟨⟨b8'.cell, hD.b1.c1⟩, fun v => ?_, hD, hs, gtrans (gweak _ h3) hg, h6.kept hg (by simpa using h8)⟩
  have hv := gset w3 (w.heap.size + 1 + 1) 0 v
  exact ⟨(b8'.kept hv (by simp; omega)).cell, (hD.b1.kept hv (by simp)).c1⟩

set_option maxRecDepth 100000 in
set_option maxHeartbeats 4000000 in
theorem do_0 (dn : Int) (a : Option Addr) (M c B p g gx n cx : Nat) (bs : List Bool) (hn : bs.length = n) (w : World) (hs : SetAt B w p g bs) (hB : Bl w gx bs) (hne : gx ≠ g) :
    Calls Tryd.prog 9 #[.pointer (some ⟨p, 0, none⟩), .agg #[.slice (some ⟨gx, 0, none⟩) n cx], .agg #[.int .u8 0, .int .i64 dn, .slice a M c]] w (DoP B p g gx (wth bs dn true) n w) := by
  obtain ⟨r, hr⟩ : ∃ r, chg bs dn true = r := ⟨_, rfl⟩
  have hrr : (r == r) = true := by simp
  have hgl := hs.row.lt
  have hpl := hs.lt
  have hxl := hB.lt
  have hD : DoB w _ gx n cx 0 dn a M c := DoB.new w gx n cx 0 dn a M c
  have h3 := grow3 w (.cells #[.slice (some ⟨gx, 0, none⟩) n cx] 29) (.cells #[.int .u8 ((0 : Nat) : Int), .int .i64 dn, .slice a M c] 35) (.cells #[.slice none 0 0] 29)
  have H0 := Lib.hid (And.intro hD (And.intro (hs.grow h3) (And.intro (hB.grow h3) (And.intro h3 (And.intro hn (And.intro hr hne))))))
  have e0 := hD.b0.cell
  have e1 := hD.b1.c0
  have e2 := hD.b1.c1
  clear hD h3 hs hB hn hr hne
  go_enter Tryd.func9, Tryd.ntmps9
  go_wp2_with fail
  refine (with_b dn true r gx n cx bs H0.out.2.2.2.2.1 H0.out.2.2.2.2.2.1 _ H0.out.2.2.1).mono ?_
  rintro e w1 ⟨g2, c2, rfl, hB2, hg2, hw2⟩
  have hD1 := H0.out.1.kept (gtrans hg2 (galloc w1 (.cells #[.slice (some ⟨g2, 0, none⟩) n c2] 29) none)) (by simp)
  have hS1 := H0.out.2.1.grow (gtrans hg2 (galloc w1 (.cells #[.slice (some ⟨g2, 0, none⟩) n c2] 29) none))
  have hG1 := gtrans H0.out.2.2.2.1 (gtrans hg2 (galloc w1 (.cells #[.slice (some ⟨g2, 0, none⟩) n c2] 29) none))
  have b8 := Boxed.new w1 29 (.slice (some ⟨g2, 0, none⟩) n c2)
  have hb8 : w.heap.size + 1 + 1 < w1.heap.size := by have := hg2.size; simp at this; omega
  have hB3 := hB2.grow (galloc w1 (.cells #[.slice (some ⟨g2, 0, none⟩) n c2] 29) none)
  have hor : g2 = gx ∨ w.heap.size ≤ g2 := hw2.elim .inl (fun h => .inr (by simp at h; omega))
  have hg8 : g2 ≠ w.heap.size + 1 + 1 ∧ g2 ≠ g := by
    have q1 := H0.out.2.2.2.2.2.2
    have q2 := hB2.lt
    simp only [World.size_alloc] at hw2
    rcases hw2 with rfl | hw2
    · exact ⟨by omega, q1⟩
    · exact ⟨by omega, by omega⟩
  have f1 := hD1.b1.c1
  have f8 := b8.cell
  have HO := Lib.hid hor
  have H1 := Lib.hid (And.intro hD1 (And.intro hS1 (And.intro hG1 (And.intro b8 (And.intro hb8 (And.intro hB3 hg8))))))
  clear hor
  clear hD1 hS1 hG1 b8 hB2 hg2 hw2 hB3 hg8 hb8
  go_wp2_with fail
  go_region_held3 (fun W => W.cell? ⟨w1.heap.size, 0, none⟩ = some (.slice (some ⟨g2, 0, none⟩) n c2) ∧ W.cell? ⟨w.heap.size + 1, 1, none⟩ = some (.int .i64 dn))
    (first | exact ⟨f8, f1⟩ | exact S1.out.1 | exact S1.out.2.1 _)
    ((go_at_call 23; (refine (add_b dn r B p g bs H0.out.2.2.2.2.2.1 _ H1.out.2.1.drew).mono ?_); rintro e w3 ⟨rfl, hs3, hg3⟩; have hq := do_keep H1.out hs3 (gtrans (gdrew _ _) hg3) hgl; have f6 := hq.2.2.1.b2.cell; have f7 := hq.2.2.1.b2.frozen; have S1 := Lib.hid hq; clear hs3 hg3 hq))
  have hr := (S1.out.2.2.1.b2.set (.slice (some ⟨g2, 0, none⟩) n c2)).cell
  go_wp2_with fail
  refine bodyPost_ret (v := .tuple #[.agg #[.slice (some ⟨g2, 0, none⟩) n c2], .bool true]) (by simp [results, Tryd.f9, go_sem, hr]) rfl ?_
  obtain ⟨_, _, hD3, hs3, hG3, hB3⟩ := S1.out
  exact do_end hs3 hB3 hG3 hgl hpl H1.out.2.2.2.2.2.2.1 H1.out.2.2.2.2.2.2.2 HO.out

set_option maxRecDepth 100000 in
set_option maxHeartbeats 4000000 in
theorem do_1 (dn : Int) (a : Option Addr) (M c B p g gx n cx : Nat) (bs : List Bool) (hn : bs.length = n) (w : World) (hs : SetAt B w p g bs) (hB : Bl w gx bs) (hne : gx ≠ g) :
    Calls Tryd.prog 9 #[.pointer (some ⟨p, 0, none⟩), .agg #[.slice (some ⟨gx, 0, none⟩) n cx], .agg #[.int .u8 1, .int .i64 dn, .slice a M c]] w (DoP B p g gx (wth bs dn false) n w) := by
  obtain ⟨r, hr⟩ : ∃ r, chg bs dn false = r := ⟨_, rfl⟩
  have hrr : (r == r) = true := by simp
  have hgl := hs.row.lt
  have hpl := hs.lt
  have hxl := hB.lt
  have hD : DoB w _ gx n cx 1 dn a M c := DoB.new w gx n cx 1 dn a M c
  have h3 := grow3 w (.cells #[.slice (some ⟨gx, 0, none⟩) n cx] 29) (.cells #[.int .u8 ((1 : Nat) : Int), .int .i64 dn, .slice a M c] 35) (.cells #[.slice none 0 0] 29)
  have H0 := Lib.hid (And.intro hD (And.intro (hs.grow h3) (And.intro (hB.grow h3) (And.intro h3 (And.intro hn (And.intro hr hne))))))
  have e0 := hD.b0.cell
  have e1 := hD.b1.c0
  have e2 := hD.b1.c1
  clear hD h3 hs hB hn hr hne
  go_enter Tryd.func9, Tryd.ntmps9
  go_wp2_with fail
  refine (with_b dn false r gx n cx bs H0.out.2.2.2.2.1 H0.out.2.2.2.2.2.1 _ H0.out.2.2.1).mono ?_
  rintro e w1 ⟨g2, c2, rfl, hB2, hg2, hw2⟩
  have hD1 := H0.out.1.kept (gtrans hg2 (galloc w1 (.cells #[.slice (some ⟨g2, 0, none⟩) n c2] 29) none)) (by simp)
  have hS1 := H0.out.2.1.grow (gtrans hg2 (galloc w1 (.cells #[.slice (some ⟨g2, 0, none⟩) n c2] 29) none))
  have hG1 := gtrans H0.out.2.2.2.1 (gtrans hg2 (galloc w1 (.cells #[.slice (some ⟨g2, 0, none⟩) n c2] 29) none))
  have b8 := Boxed.new w1 29 (.slice (some ⟨g2, 0, none⟩) n c2)
  have hb8 : w.heap.size + 1 + 1 < w1.heap.size := by have := hg2.size; simp at this; omega
  have hB3 := hB2.grow (galloc w1 (.cells #[.slice (some ⟨g2, 0, none⟩) n c2] 29) none)
  have hor : g2 = gx ∨ w.heap.size ≤ g2 := hw2.elim .inl (fun h => .inr (by simp at h; omega))
  have hg8 : g2 ≠ w.heap.size + 1 + 1 ∧ g2 ≠ g := by
    have q1 := H0.out.2.2.2.2.2.2
    have q2 := hB2.lt
    simp only [World.size_alloc] at hw2
    rcases hw2 with rfl | hw2
    · exact ⟨by omega, q1⟩
    · exact ⟨by omega, by omega⟩
  have f1 := hD1.b1.c1
  have f8 := b8.cell
  have HO := Lib.hid hor
  have H1 := Lib.hid (And.intro hD1 (And.intro hS1 (And.intro hG1 (And.intro b8 (And.intro hb8 (And.intro hB3 hg8))))))
  clear hor
  clear hD1 hS1 hG1 b8 hB2 hg2 hw2 hB3 hg8 hb8
  go_wp2_with fail
  go_region_held3 (fun W => W.cell? ⟨w1.heap.size, 0, none⟩ = some (.slice (some ⟨g2, 0, none⟩) n c2) ∧ W.cell? ⟨w.heap.size + 1, 1, none⟩ = some (.int .i64 dn))
    (first | exact ⟨f8, f1⟩ | exact S1.out.1 | exact S1.out.2.1 _)
    ((go_at_call 24; (refine (drop_b dn r B p g bs H0.out.2.2.2.2.2.1 _ H1.out.2.1.drew).mono ?_); rintro e w3 ⟨rfl, hs3, hg3⟩; have hq := do_keep H1.out hs3 (gtrans (gdrew _ _) hg3) hgl; have f6 := hq.2.2.1.b2.cell; have f7 := hq.2.2.1.b2.frozen; have S1 := Lib.hid hq; clear hs3 hg3 hq))
  have hr := (S1.out.2.2.1.b2.set (.slice (some ⟨g2, 0, none⟩) n c2)).cell
  go_wp2_with fail
  refine bodyPost_ret (v := .tuple #[.agg #[.slice (some ⟨g2, 0, none⟩) n c2], .bool true]) (by simp [results, Tryd.f9, go_sem, hr]) rfl ?_
  obtain ⟨_, _, hD3, hs3, hG3, hB3⟩ := S1.out
  exact do_end hs3 hB3 hG3 hgl hpl H1.out.2.2.2.2.2.2.1 H1.out.2.2.2.2.2.2.2 HO.out
end Go.Proofs.YtgckoiepclgofaaDoor
