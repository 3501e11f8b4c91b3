/- What do answers of two sets: a deed done to a set both ways tells the same. -/
import Derived.Test.YtgckoiepclgofaaDoorDo
import Derived.Test.YtgckoiepclgofaaDoorTwoB
import Derived.Test.YtgckoiepclgofaaDoorMerge
import Derived.Test.YtgckoiepclgofaaDoorMergeB
import Derived.Test.YtgckoiepclgofaaDoorMergeC
namespace Go.Proofs.YtgckoiepclgofaaDoor
open Go.ChangeShapes Go.WideShapes Go.RowKit
set_option linter.unusedVariables false


theorem rtwo_b1 (ga gb n m ca cb : Nat) (bs cs T : List Bool) (r : Bool) (hn : bs.length = n) (hm : cs.length = m) (hT : two orB bs cs = T) (hr : (T != bs) = r) (w : World) (ha : Bl w ga bs) (hb : Bl w gb cs) :
    Calls Tryd.prog 26 #[.int .i64 1, .agg #[.slice (some ⟨ga, 0, none⟩) n ca], .agg #[.slice (some ⟨gb, 0, none⟩) m cb]] w fun e w' => ∃ g c, e = .returned (.tuple #[.agg #[.slice (some ⟨g, 0, none⟩) n c], .bool r]) ∧ Bl w' g T ∧ w.grownBy w' none ∧ w.heap.size ≤ g := by
  rw [← hr]; exact rtwo_1 ga gb n m ca cb bs cs T hn hm hT w ha hb
theorem or_r (B p g p' g' : Nat) (bs cs T : List Bool) (r : Bool) (hT : two orB bs cs = T) (hr : (T != bs) = r) (hne : p' ≠ g ∧ g' ≠ g) (w : World) (h : SetAt B w p g bs) (h' : SetAt B w p' g' cs) :
    Calls Tryd.prog 21 #[.pointer (some ⟨p, 0, none⟩), .pointer (some ⟨p', 0, none⟩)] w fun e w' => e = .returned (.bool r) ∧ SetAt B w' p g T ∧ w.grownBy w' (some g) := by
  rw [← hr]; exact or_v B p g p' g' bs cs T hT hne w h h'
set_option maxRecDepth 100000 in
set_option maxHeartbeats 4000000 in
theorem do_2 (dn : Int) (hdn : dn ≤ 300) (a : Option Addr) (M c : Nat) (l : List Int) (hM : l.length = M) (hM2 : M ≤ 40) (B p g gx n cx : Nat) (bs : List Bool) (hn : bs.length = n) (w : World) (hl : Ints w a l) (hs : SetAt B w p g bs) (hB : Bl w gx bs) (hne : gx ≠ g) :
    Calls Tryd.prog 9 #[.pointer (some ⟨p, 0, none⟩), .agg #[.slice (some ⟨gx, 0, none⟩) n cx], .agg #[.int .u8 2, .int .i64 dn, .slice a M c]] w (DoP B p g gx (two orB bs (dset dn l)) n w) := by
  obtain ⟨T, hT⟩ : ∃ T, two orB bs (dset dn l) = T := ⟨_, rfl⟩
  obtain ⟨r, hr⟩ : ∃ r, (T != bs) = r := ⟨_, rfl⟩
  obtain ⟨N, hN⟩ : ∃ N, dn.toNat = N := ⟨_, rfl⟩
  have hcl : (dset dn l).length = N := by unfold dset; rw [puts_len, hN]; simp
  rw [hT]
  have hrr : (r == r) = true := by simp
  have hgl := hs.row.lt
  have hpl := hs.lt
  have hxl := hB.lt
  have hD : DoB w _ gx n cx 2 dn a M c := DoB.new w gx n cx 2 dn a M c
  have h3 := grow3 w (.cells #[.slice (some ⟨gx, 0, none⟩) n cx] 29) (.cells #[.int .u8 ((2 : Nat) : Int), .int .i64 dn, .slice a M c] 35) (.cells #[.slice none 0 0] 29)
  have H0 := Lib.hid (And.intro hD (And.intro (hs.grow h3) (And.intro (hB.grow h3) (And.intro h3 (And.intro hn (And.intro hr (And.intro hT (And.intro (hl.kept h3 (by simp)) (And.intro hM (And.intro hN (And.intro hcl (And.intro hdn (And.intro hs.log hne)))))))))))))
  have e0 := hD.b0.cell
  have e1 := hD.b1.c0
  have e2 := hD.b1.c1
  have e3 := hD.b1.c2
  clear hD h3 hs hB hn hr hne hT hl hM hN hcl hdn
  go_enter Tryd.func9, Tryd.ntmps9
  go_wp2_with fail
  refine (other_v 2 dn N H0.out.2.2.2.2.2.2.2.2.2.1 H0.out.2.2.2.2.2.2.2.2.2.2.2.1 a M c l H0.out.2.2.2.2.2.2.2.2.1 hM2 _ H0.out.2.2.2.2.2.2.2.1).mono ?_
  rintro e w1 ⟨p2, g2, gy, cy, rfl, hs2, hBy, hg1⟩
  rw [show puts (List.replicate N false) l = dset dn l by unfold dset; rw [H0.out.2.2.2.2.2.2.2.2.2.1]] at hs2 hBy
  have ha1 := gtrans hg1 (galloc w1 (.cells #[.slice (some ⟨gy, 0, none⟩) N cy] 29) none)
  have hD1 := H0.out.1.kept ha1 (by simp)
  have hS1 := H0.out.2.1.grow ha1
  have hX1 := H0.out.2.2.1.grow ha1
  have hG1 := gtrans H0.out.2.2.2.1 ha1
  have b13 := Boxed.new w1 29 (.slice (some ⟨gy, 0, none⟩) N cy)
  have hsz1 : w.heap.size + 1 + 1 < w1.heap.size := by have := hg1.size; simp at this; omega
  have hs2' := (hs2.mono (B' := B) (by have := H0.out.2.2.2.2.2.2.2.2.2.2.2.2.1; simp; omega)).grow (galloc w1 (.cells #[.slice (some ⟨gy, 0, none⟩) N cy] 29) none)
  have hne2 : p2 ≠ g ∧ g2 ≠ g := by have q1 := hs2.lo; have q2 := hs2.log; simp at q1 q2; omega
  have hBy' := hBy.grow (galloc w1 (.cells #[.slice (some ⟨gy, 0, none⟩) N cy] 29) none)
  have f0 := hD1.b0.cell
  have f1 := hD1.b1.c0
  have f13 := b13.cell
  have H1 := Lib.hid (And.intro hD1 (And.intro hS1 (And.intro hX1 (And.intro hG1 (And.intro hs2' (And.intro hne2 (And.intro hBy' hsz1)))))))
  clear ha1 hD1 hS1 hX1 hG1 b13 hsz1 hs2 hs2' hne2 hBy hBy' hg1 e0 e1 e2 e3
  go_wp2_with fail
  refine (rtwo_b1 gx gy n N cx cy bs (dset dn l) T r H0.out.2.2.2.2.1 H0.out.2.2.2.2.2.2.2.2.2.2.1 H0.out.2.2.2.2.2.2.1 H0.out.2.2.2.2.2.1 _ H1.out.2.2.1 H1.out.2.2.2.2.2.2.1).mono ?_
  rintro e w3 ⟨g3, c3, rfl, hB3, hg3, hlo3⟩
  have ha3 := gtrans hg3 (galloc w3 (.cells #[.slice (some ⟨g3, 0, none⟩) n c3] 29) none)
  have hD3 := H1.out.1.kept ha3 (by simp)
  have hS3 := H1.out.2.1.grow ha3
  have hG3 := gtrans H1.out.2.2.2.1 ha3
  have hs3' := H1.out.2.2.2.2.1.grow ha3
  have b14 := Boxed.new w3 29 (.slice (some ⟨g3, 0, none⟩) n c3)
  have hsz3 : w.heap.size + 1 + 1 < w3.heap.size := by have q1 := hg3.size; have q2 := H1.out.2.2.2.2.2.2.2; simp at q1; omega
  have hB3' := hB3.grow (galloc w3 (.cells #[.slice (some ⟨g3, 0, none⟩) n c3] 29) none)
  have hg8 : g3 ≠ w.heap.size + 1 + 1 ∧ g3 ≠ g := by have q2 := H1.out.2.2.2.2.2.2.2; simp at hlo3; omega
  have hor : g3 = gx ∨ w.heap.size ≤ g3 := .inr (by have q2 := H1.out.2.2.2.2.2.2.2; simp at hlo3; omega)
  have HO := Lib.hid hor
  clear hor
  have k1 := hD3.b1.c0
  have H3 := Lib.hid (And.intro (And.intro hD3 (And.intro hS3 (And.intro hG3 (And.intro b14 (And.intro hsz3 (And.intro hB3' hg8)))))) (And.intro hs3' H1.out.2.2.2.2.2.1))
  clear ha3 hD3 hS3 hG3 hs3' b14 hsz3 hB3 hB3' hg8 hg3 hlo3 f0 f1 f13 H1
  go_wp2_with fail
  refine (or_r B p g p2 g2 bs (dset dn l) T r H0.out.2.2.2.2.2.2.1 H0.out.2.2.2.2.2.1 H3.out.2.2 _ H3.out.1.2.1 H3.out.2.1).mono ?_
  rintro e w5 ⟨rfl, hs5, hg5⟩
  have hq := do_keep H3.out.1 hs5 hg5 hgl
  have f14 := hq.1.1
  have f6 := hq.2.2.1.b2.cell
  have f7 := hq.2.2.1.b2.frozen
  have hres := (hq.2.2.1.b2.set (.slice (some ⟨g3, 0, none⟩) n c3)).cell
  have S1 := Lib.hid hq
  clear hs5 hg5 hq
  go_wp2_with fail
  refine bodyPost_ret (v := .tuple #[.agg #[.slice (some ⟨g3, 0, none⟩) n c3], .bool true]) (by simp [results, Tryd.f9, go_sem, hres]) rfl ?_
  obtain ⟨_, _, _, hs3, hG3, hB3⟩ := S1.out
  exact do_end hs3 hB3 hG3 hgl hpl H3.out.1.2.2.2.2.2.2.1 H3.out.1.2.2.2.2.2.2.2 HO.out

theorem rtwo_b2 (ga gb n m ca cb : Nat) (bs cs T : List Bool) (r : Bool) (hn : bs.length = n) (hm : cs.length = m) (hT : two andB bs cs = T) (hr : (T != bs) = r) (w : World) (ha : Bl w ga bs) (hb : Bl w gb cs) :
    Calls Tryd.prog 26 #[.int .i64 2, .agg #[.slice (some ⟨ga, 0, none⟩) n ca], .agg #[.slice (some ⟨gb, 0, none⟩) m cb]] w fun e w' => ∃ g c, e = .returned (.tuple #[.agg #[.slice (some ⟨g, 0, none⟩) n c], .bool r]) ∧ Bl w' g T ∧ w.grownBy w' none ∧ w.heap.size ≤ g := by
  rw [← hr]; exact rtwo_2 ga gb n m ca cb bs cs T hn hm hT w ha hb
theorem and_r (B p g p' g' : Nat) (bs cs T : List Bool) (r : Bool) (hT : two andB bs cs = T) (hr : (T != bs) = r) (hne : p' ≠ g ∧ g' ≠ g) (w : World) (h : SetAt B w p g bs) (h' : SetAt B w p' g' cs) :
    Calls Tryd.prog 27 #[.pointer (some ⟨p, 0, none⟩), .pointer (some ⟨p', 0, none⟩)] w fun e w' => e = .returned (.bool r) ∧ SetAt B w' p g T ∧ w.grownBy w' (some g) := by
  rw [← hr]; exact and_v B p g p' g' bs cs T hT hne w h h'
set_option maxRecDepth 100000 in
set_option maxHeartbeats 4000000 in
theorem do_3 (dn : Int) (hdn : dn ≤ 300) (a : Option Addr) (M c : Nat) (l : List Int) (hM : l.length = M) (hM2 : M ≤ 40) (B p g gx n cx : Nat) (bs : List Bool) (hn : bs.length = n) (w : World) (hl : Ints w a l) (hs : SetAt B w p g bs) (hB : Bl w gx bs) (hne : gx ≠ g) :
    Calls Tryd.prog 9 #[.pointer (some ⟨p, 0, none⟩), .agg #[.slice (some ⟨gx, 0, none⟩) n cx], .agg #[.int .u8 3, .int .i64 dn, .slice a M c]] w (DoP B p g gx (two andB bs (dset dn l)) n w) := by
  obtain ⟨T, hT⟩ : ∃ T, two andB bs (dset dn l) = T := ⟨_, rfl⟩
  obtain ⟨r, hr⟩ : ∃ r, (T != bs) = r := ⟨_, rfl⟩
  obtain ⟨N, hN⟩ : ∃ N, dn.toNat = N := ⟨_, rfl⟩
  have hcl : (dset dn l).length = N := by unfold dset; rw [puts_len, hN]; simp
  rw [hT]
  have hrr : (r == r) = true := by simp
  have hgl := hs.row.lt
  have hpl := hs.lt
  have hxl := hB.lt
  have hD : DoB w _ gx n cx 3 dn a M c := DoB.new w gx n cx 3 dn a M c
  have h3 := grow3 w (.cells #[.slice (some ⟨gx, 0, none⟩) n cx] 29) (.cells #[.int .u8 ((3 : Nat) : Int), .int .i64 dn, .slice a M c] 35) (.cells #[.slice none 0 0] 29)
  have H0 := Lib.hid (And.intro hD (And.intro (hs.grow h3) (And.intro (hB.grow h3) (And.intro h3 (And.intro hn (And.intro hr (And.intro hT (And.intro (hl.kept h3 (by simp)) (And.intro hM (And.intro hN (And.intro hcl (And.intro hdn (And.intro hs.log hne)))))))))))))
  have e0 := hD.b0.cell
  have e1 := hD.b1.c0
  have e2 := hD.b1.c1
  have e3 := hD.b1.c2
  clear hD h3 hs hB hn hr hne hT hl hM hN hcl hdn
  go_enter Tryd.func9, Tryd.ntmps9
  go_wp2_with fail
  refine (other_v 3 dn N H0.out.2.2.2.2.2.2.2.2.2.1 H0.out.2.2.2.2.2.2.2.2.2.2.2.1 a M c l H0.out.2.2.2.2.2.2.2.2.1 hM2 _ H0.out.2.2.2.2.2.2.2.1).mono ?_
  rintro e w1 ⟨p2, g2, gy, cy, rfl, hs2, hBy, hg1⟩
  rw [show puts (List.replicate N false) l = dset dn l by unfold dset; rw [H0.out.2.2.2.2.2.2.2.2.2.1]] at hs2 hBy
  have ha1 := gtrans hg1 (galloc w1 (.cells #[.slice (some ⟨gy, 0, none⟩) N cy] 29) none)
  have hD1 := H0.out.1.kept ha1 (by simp)
  have hS1 := H0.out.2.1.grow ha1
  have hX1 := H0.out.2.2.1.grow ha1
  have hG1 := gtrans H0.out.2.2.2.1 ha1
  have b13 := Boxed.new w1 29 (.slice (some ⟨gy, 0, none⟩) N cy)
  have hsz1 : w.heap.size + 1 + 1 < w1.heap.size := by have := hg1.size; simp at this; omega
  have hs2' := (hs2.mono (B' := B) (by have := H0.out.2.2.2.2.2.2.2.2.2.2.2.2.1; simp; omega)).grow (galloc w1 (.cells #[.slice (some ⟨gy, 0, none⟩) N cy] 29) none)
  have hne2 : p2 ≠ g ∧ g2 ≠ g := by have q1 := hs2.lo; have q2 := hs2.log; simp at q1 q2; omega
  have hBy' := hBy.grow (galloc w1 (.cells #[.slice (some ⟨gy, 0, none⟩) N cy] 29) none)
  have f0 := hD1.b0.cell
  have f1 := hD1.b1.c0
  have f13 := b13.cell
  have H1 := Lib.hid (And.intro hD1 (And.intro hS1 (And.intro hX1 (And.intro hG1 (And.intro hs2' (And.intro hne2 (And.intro hBy' hsz1)))))))
  clear ha1 hD1 hS1 hX1 hG1 b13 hsz1 hs2 hs2' hne2 hBy hBy' hg1 e0 e1 e2 e3
  go_wp2_with fail
  refine (rtwo_b2 gx gy n N cx cy bs (dset dn l) T r H0.out.2.2.2.2.1 H0.out.2.2.2.2.2.2.2.2.2.2.1 H0.out.2.2.2.2.2.2.1 H0.out.2.2.2.2.2.1 _ H1.out.2.2.1 H1.out.2.2.2.2.2.2.1).mono ?_
  rintro e w3 ⟨g3, c3, rfl, hB3, hg3, hlo3⟩
  have ha3 := gtrans hg3 (galloc w3 (.cells #[.slice (some ⟨g3, 0, none⟩) n c3] 29) none)
  have hD3 := H1.out.1.kept ha3 (by simp)
  have hS3 := H1.out.2.1.grow ha3
  have hG3 := gtrans H1.out.2.2.2.1 ha3
  have hs3' := H1.out.2.2.2.2.1.grow ha3
  have b14 := Boxed.new w3 29 (.slice (some ⟨g3, 0, none⟩) n c3)
  have hsz3 : w.heap.size + 1 + 1 < w3.heap.size := by have q1 := hg3.size; have q2 := H1.out.2.2.2.2.2.2.2; simp at q1; omega
  have hB3' := hB3.grow (galloc w3 (.cells #[.slice (some ⟨g3, 0, none⟩) n c3] 29) none)
  have hg8 : g3 ≠ w.heap.size + 1 + 1 ∧ g3 ≠ g := by have q2 := H1.out.2.2.2.2.2.2.2; simp at hlo3; omega
  have hor : g3 = gx ∨ w.heap.size ≤ g3 := .inr (by have q2 := H1.out.2.2.2.2.2.2.2; simp at hlo3; omega)
  have HO := Lib.hid hor
  clear hor
  have k1 := hD3.b1.c0
  have H3 := Lib.hid (And.intro (And.intro hD3 (And.intro hS3 (And.intro hG3 (And.intro b14 (And.intro hsz3 (And.intro hB3' hg8)))))) (And.intro hs3' H1.out.2.2.2.2.2.1))
  clear ha3 hD3 hS3 hG3 hs3' b14 hsz3 hB3 hB3' hg8 hg3 hlo3 f0 f1 f13 H1
  go_wp2_with fail
  refine (and_r B p g p2 g2 bs (dset dn l) T r H0.out.2.2.2.2.2.2.1 H0.out.2.2.2.2.2.1 H3.out.2.2 _ H3.out.1.2.1 H3.out.2.1).mono ?_
  rintro e w5 ⟨rfl, hs5, hg5⟩
  have hq := do_keep H3.out.1 hs5 hg5 hgl
  have f14 := hq.1.1
  have f6 := hq.2.2.1.b2.cell
  have f7 := hq.2.2.1.b2.frozen
  have hres := (hq.2.2.1.b2.set (.slice (some ⟨g3, 0, none⟩) n c3)).cell
  have S1 := Lib.hid hq
  clear hs5 hg5 hq
  go_wp2_with fail
  refine bodyPost_ret (v := .tuple #[.agg #[.slice (some ⟨g3, 0, none⟩) n c3], .bool true]) (by simp [results, Tryd.f9, go_sem, hres]) rfl ?_
  obtain ⟨_, _, _, hs3, hG3, hB3⟩ := S1.out
  exact do_end hs3 hB3 hG3 hgl hpl H3.out.1.2.2.2.2.2.2.1 H3.out.1.2.2.2.2.2.2.2 HO.out

theorem rtwo_b3 (ga gb n m ca cb : Nat) (bs cs T : List Bool) (r : Bool) (hn : bs.length = n) (hm : cs.length = m) (hT : two lessB bs cs = T) (hr : (T != bs) = r) (w : World) (ha : Bl w ga bs) (hb : Bl w gb cs) :
    Calls Tryd.prog 26 #[.int .i64 3, .agg #[.slice (some ⟨ga, 0, none⟩) n ca], .agg #[.slice (some ⟨gb, 0, none⟩) m cb]] w fun e w' => ∃ g c, e = .returned (.tuple #[.agg #[.slice (some ⟨g, 0, none⟩) n c], .bool r]) ∧ Bl w' g T ∧ w.grownBy w' none ∧ w.heap.size ≤ g := by
  rw [← hr]; exact rtwo_3 ga gb n m ca cb bs cs T hn hm hT w ha hb
theorem minus_r (B p g p' g' : Nat) (bs cs T : List Bool) (r : Bool) (hT : two lessB bs cs = T) (hr : (T != bs) = r) (hne : p' ≠ g ∧ g' ≠ g) (w : World) (h : SetAt B w p g bs) (h' : SetAt B w p' g' cs) :
    Calls Tryd.prog 28 #[.pointer (some ⟨p, 0, none⟩), .pointer (some ⟨p', 0, none⟩)] w fun e w' => e = .returned (.bool r) ∧ SetAt B w' p g T ∧ w.grownBy w' (some g) := by
  rw [← hr]; exact minus_v B p g p' g' bs cs T hT hne w h h'
set_option maxRecDepth 100000 in
set_option maxHeartbeats 4000000 in
theorem do_4 (dn : Int) (hdn : dn ≤ 300) (a : Option Addr) (M c : Nat) (l : List Int) (hM : l.length = M) (hM2 : M ≤ 40) (B p g gx n cx : Nat) (bs : List Bool) (hn : bs.length = n) (w : World) (hl : Ints w a l) (hs : SetAt B w p g bs) (hB : Bl w gx bs) (hne : gx ≠ g) :
    Calls Tryd.prog 9 #[.pointer (some ⟨p, 0, none⟩), .agg #[.slice (some ⟨gx, 0, none⟩) n cx], .agg #[.int .u8 4, .int .i64 dn, .slice a M c]] w (DoP B p g gx (two lessB bs (dset dn l)) n w) := by
  obtain ⟨T, hT⟩ : ∃ T, two lessB bs (dset dn l) = T := ⟨_, rfl⟩
  obtain ⟨r, hr⟩ : ∃ r, (T != bs) = r := ⟨_, rfl⟩
  obtain ⟨N, hN⟩ : ∃ N, dn.toNat = N := ⟨_, rfl⟩
  have hcl : (dset dn l).length = N := by unfold dset; rw [puts_len, hN]; simp
  rw [hT]
  have hrr : (r == r) = true := by simp
  have hgl := hs.row.lt
  have hpl := hs.lt
  have hxl := hB.lt
  have hD : DoB w _ gx n cx 4 dn a M c := DoB.new w gx n cx 4 dn a M c
  have h3 := grow3 w (.cells #[.slice (some ⟨gx, 0, none⟩) n cx] 29) (.cells #[.int .u8 ((4 : Nat) : Int), .int .i64 dn, .slice a M c] 35) (.cells #[.slice none 0 0] 29)
  have H0 := Lib.hid (And.intro hD (And.intro (hs.grow h3) (And.intro (hB.grow h3) (And.intro h3 (And.intro hn (And.intro hr (And.intro hT (And.intro (hl.kept h3 (by simp)) (And.intro hM (And.intro hN (And.intro hcl (And.intro hdn (And.intro hs.log hne)))))))))))))
  have e0 := hD.b0.cell
  have e1 := hD.b1.c0
  have e2 := hD.b1.c1
  have e3 := hD.b1.c2
  clear hD h3 hs hB hn hr hne hT hl hM hN hcl hdn
  go_enter Tryd.func9, Tryd.ntmps9
  go_wp2_with fail
  refine (other_v 4 dn N H0.out.2.2.2.2.2.2.2.2.2.1 H0.out.2.2.2.2.2.2.2.2.2.2.2.1 a M c l H0.out.2.2.2.2.2.2.2.2.1 hM2 _ H0.out.2.2.2.2.2.2.2.1).mono ?_
  rintro e w1 ⟨p2, g2, gy, cy, rfl, hs2, hBy, hg1⟩
  rw [show puts (List.replicate N false) l = dset dn l by unfold dset; rw [H0.out.2.2.2.2.2.2.2.2.2.1]] at hs2 hBy
  have ha1 := gtrans hg1 (galloc w1 (.cells #[.slice (some ⟨gy, 0, none⟩) N cy] 29) none)
  have hD1 := H0.out.1.kept ha1 (by simp)
  have hS1 := H0.out.2.1.grow ha1
  have hX1 := H0.out.2.2.1.grow ha1
  have hG1 := gtrans H0.out.2.2.2.1 ha1
  have b13 := Boxed.new w1 29 (.slice (some ⟨gy, 0, none⟩) N cy)
  have hsz1 : w.heap.size + 1 + 1 < w1.heap.size := by have := hg1.size; simp at this; omega
  have hs2' := (hs2.mono (B' := B) (by have := H0.out.2.2.2.2.2.2.2.2.2.2.2.2.1; simp; omega)).grow (galloc w1 (.cells #[.slice (some ⟨gy, 0, none⟩) N cy] 29) none)
  have hne2 : p2 ≠ g ∧ g2 ≠ g := by have q1 := hs2.lo; have q2 := hs2.log; simp at q1 q2; omega
  have hBy' := hBy.grow (galloc w1 (.cells #[.slice (some ⟨gy, 0, none⟩) N cy] 29) none)
  have f0 := hD1.b0.cell
  have f1 := hD1.b1.c0
  have f13 := b13.cell
  have H1 := Lib.hid (And.intro hD1 (And.intro hS1 (And.intro hX1 (And.intro hG1 (And.intro hs2' (And.intro hne2 (And.intro hBy' hsz1)))))))
  clear ha1 hD1 hS1 hX1 hG1 b13 hsz1 hs2 hs2' hne2 hBy hBy' hg1 e0 e1 e2 e3
  go_wp2_with fail
  refine (rtwo_b3 gx gy n N cx cy bs (dset dn l) T r H0.out.2.2.2.2.1 H0.out.2.2.2.2.2.2.2.2.2.2.1 H0.out.2.2.2.2.2.2.1 H0.out.2.2.2.2.2.1 _ H1.out.2.2.1 H1.out.2.2.2.2.2.2.1).mono ?_
  rintro e w3 ⟨g3, c3, rfl, hB3, hg3, hlo3⟩
  have ha3 := gtrans hg3 (galloc w3 (.cells #[.slice (some ⟨g3, 0, none⟩) n c3] 29) none)
  have hD3 := H1.out.1.kept ha3 (by simp)
  have hS3 := H1.out.2.1.grow ha3
  have hG3 := gtrans H1.out.2.2.2.1 ha3
  have hs3' := H1.out.2.2.2.2.1.grow ha3
  have b14 := Boxed.new w3 29 (.slice (some ⟨g3, 0, none⟩) n c3)
  have hsz3 : w.heap.size + 1 + 1 < w3.heap.size := by have q1 := hg3.size; have q2 := H1.out.2.2.2.2.2.2.2; simp at q1; omega
  have hB3' := hB3.grow (galloc w3 (.cells #[.slice (some ⟨g3, 0, none⟩) n c3] 29) none)
  have hg8 : g3 ≠ w.heap.size + 1 + 1 ∧ g3 ≠ g := by have q2 := H1.out.2.2.2.2.2.2.2; simp at hlo3; omega
  have hor : g3 = gx ∨ w.heap.size ≤ g3 := .inr (by have q2 := H1.out.2.2.2.2.2.2.2; simp at hlo3; omega)
  have HO := Lib.hid hor
  clear hor
  have k1 := hD3.b1.c0
  have H3 := Lib.hid (And.intro (And.intro hD3 (And.intro hS3 (And.intro hG3 (And.intro b14 (And.intro hsz3 (And.intro hB3' hg8)))))) (And.intro hs3' H1.out.2.2.2.2.2.1))
  clear ha3 hD3 hS3 hG3 hs3' b14 hsz3 hB3 hB3' hg8 hg3 hlo3 f0 f1 f13 H1
  go_wp2_with fail
  refine (minus_r B p g p2 g2 bs (dset dn l) T r H0.out.2.2.2.2.2.2.1 H0.out.2.2.2.2.2.1 H3.out.2.2 _ H3.out.1.2.1 H3.out.2.1).mono ?_
  rintro e w5 ⟨rfl, hs5, hg5⟩
  have hq := do_keep H3.out.1 hs5 hg5 hgl
  have f14 := hq.1.1
  have f6 := hq.2.2.1.b2.cell
  have f7 := hq.2.2.1.b2.frozen
  have hres := (hq.2.2.1.b2.set (.slice (some ⟨g3, 0, none⟩) n c3)).cell
  have S1 := Lib.hid hq
  clear hs5 hg5 hq
  go_wp2_with fail
  refine bodyPost_ret (v := .tuple #[.agg #[.slice (some ⟨g3, 0, none⟩) n c3], .bool true]) (by simp [results, Tryd.f9, go_sem, hres]) rfl ?_
  obtain ⟨_, _, _, hs3, hG3, hB3⟩ := S1.out
  exact do_end hs3 hB3 hG3 hgl hpl H3.out.1.2.2.2.2.2.2.1 H3.out.1.2.2.2.2.2.2.2 HO.out

set_option maxRecDepth 100000 in
theorem do_else (kd : Nat) (hk : 5 ≤ kd) (hk2 : kd ≤ 255) (dn : Int) (a : Option Addr) (M c B p g gx n cx : Nat) (bs : List Bool) (hn : bs.length = n) (w : World) (hs : SetAt B w p g bs) (hB : Bl w gx bs) (hne : gx ≠ g) :
    Calls Tryd.prog 9 #[.pointer (some ⟨p, 0, none⟩), .agg #[.slice (some ⟨gx, 0, none⟩) n cx], .agg #[.int .u8 (kd : Int), .int .i64 dn, .slice a M c]] w (DoP B p g gx bs n w) := by
  have hgl := hs.row.lt
  have hpl := hs.lt
  have hxl := hB.lt
  have c0 : ((kd : Int) == 0) = false := by rw [beq_eq_false_iff_ne]; omega
  have c1 : ((kd : Int) == 1) = false := by rw [beq_eq_false_iff_ne]; omega
  have c2 : ((kd : Int) == 2) = false := by rw [beq_eq_false_iff_ne]; omega
  have c3 : ((kd : Int) == 3) = false := by rw [beq_eq_false_iff_ne]; omega
  have c4 : ((kd : Int) == 4) = false := by rw [beq_eq_false_iff_ne]; omega
  have h3 := grow3 w (.cells #[.slice (some ⟨gx, 0, none⟩) n cx] 29) (.cells #[.int .u8 (kd : Int), .int .i64 dn, .slice a M c] 35) (.cells #[.slice (some ⟨gx, 0, none⟩) n cx] 29)
  have H0 := Lib.hid (And.intro (hs.grow h3) (And.intro (hB.grow h3) (And.intro h3 hne)))
  clear h3 hs hB hne
  go_enter Tryd.func9, Tryd.ntmps9
  go_wp2_with fail
  refine bodyPost_ret (v := .tuple #[.agg #[.slice (some ⟨gx, 0, none⟩) n cx], .bool true]) (by simp [results, Tryd.f9, go_sem]) rfl ?_
  exact ⟨gx, cx, rfl, H0.out.1, H0.out.2.1, gweak _ H0.out.2.2.1, H0.out.2.2.2, .inl rfl⟩
theorem do_v (kd : Nat) (hk2 : kd ≤ 255) (dn : Int) (hsm : kd ≤ 1 ∨ dn ≤ 300) (a : Option Addr) (M c : Nat) (l : List Int) (hM : l.length = M) (hM2 : M ≤ 40) (B p g gx n cx : Nat) (bs : List Bool) (hn : bs.length = n) (w : World) (hl : Ints w a l) (hs : SetAt B w p g bs) (hB : Bl w gx bs) (hne : gx ≠ g) :
    Calls Tryd.prog 9 #[.pointer (some ⟨p, 0, none⟩), .agg #[.slice (some ⟨gx, 0, none⟩) n cx], .agg #[.int .u8 (kd : Int), .int .i64 dn, .slice a M c]] w (DoP B p g gx (dstep bs kd dn l) n w) := by
  unfold dstep
  by_cases k0 : kd = 0
  · subst k0; exact do_0 dn a M c B p g gx n cx bs hn w hs hB hne
  rw [if_neg k0]
  by_cases k1 : kd = 1
  · subst k1; exact do_1 dn a M c B p g gx n cx bs hn w hs hB hne
  rw [if_neg k1]
  have hdn : dn ≤ 300 := by omega
  by_cases k2 : kd = 2
  · subst k2; exact do_2 dn hdn a M c l hM hM2 B p g gx n cx bs hn w hl hs hB hne
  rw [if_neg k2]
  by_cases k3 : kd = 3
  · subst k3; exact do_3 dn hdn a M c l hM hM2 B p g gx n cx bs hn w hl hs hB hne
  rw [if_neg k3]
  by_cases k4 : kd = 4
  · subst k4; exact do_4 dn hdn a M c l hM hM2 B p g gx n cx bs hn w hl hs hB hne
  rw [if_neg k4]
  exact do_else kd (by omega) hk2 dn a M c B p g gx n cx bs hn w hs hB hne
end Go.Proofs.YtgckoiepclgofaaDoor
