
/- How units come in. -/
import Derived.Test.YtakfoncdiejhaaaDoorNotRefU
import Derived.Test.YtakfoncdiejhaaaDoorShoLen
namespace Go.Proofs.YtakfoncdiejhaaaDoor
open Go.ChangeShapes Go.WideShapes Go.RowKit
set_option linter.unusedVariables false
set_option maxRecDepth 20000

structure Tgt where
  r0 : Int
  r1 : Int
  c0 : List Int
  c1 : List Int
  slots : Int
structure TgtV where
  a0 : Option Addr
  n0 : Nat
  p0 : Nat
  a1 : Option Addr
  n1 : Nat
  p1 : Nat
structure Alo where
  slots : Int
  segs : List Sg
structure AloV where
  sa : Option Addr
  sn : Nat
  sc : Nat
/-- A unit, and where its lists are. -/
structure Unt where
  t : Tgt
  f : Fun
  has : Bool
  al : Alo
structure UntV where
  t : TgtV
  f : FunV
  al : AloV
def untR (i : Unt) (r : UntV) : Array Value := #[.int .i64 i.t.r0, .int .i64 i.t.r1, .slice r.t.a0 r.t.n0 r.t.p0, .slice r.t.a1 r.t.n1 r.t.p1, .int .i64 i.t.slots, .bool i.f.machine, .string i.f.name, .slice r.f.ra r.f.rn r.f.rc, .slice r.f.pa r.f.pn r.f.pc, .slice r.f.ba r.f.bn r.f.bc, .bool i.has, .int .i64 i.al.slots, .slice r.al.sa r.al.sn r.al.sc]
/-- It lies in memory; its numbers are numbers of 64 bits; its lists are no longer than what comes in. -/
structure UntG (W : World) (i : Unt) (r : UntV) : Prop where
  c0 : IsInts W r.t.a0 r.t.n0 i.t.c0
  c1 : IsInts W r.t.a1 r.t.n1 i.t.c1
  f : IsFun W i.f r.f
  al : IsSegs W r.al.sa r.al.sn i.al.segs
  fr0 : Deci.fit i.t.r0
  fr1 : Deci.fit i.t.r1
  fsl : Deci.fit i.t.slots
  fas : Deci.fit i.al.slots
  g0 : ∀ n ∈ i.t.c0, Deci.fit n
  g1 : ∀ n ∈ i.t.c1, Deci.fit n
  gs : ∀ s ∈ i.al.segs, SgF s
  ff : FunG i.f
  wf : wF i.f ≤ 1048576
  n0 : i.t.c0.length ≤ 1048576
  n1 : i.t.c1.length ≤ 1048576
  ns : i.al.segs.length ≤ 1048576
  cap : r.al.sn ≤ r.al.sc
instance : Inhabited Sg := ⟨⟨0, 0, 0, 0, 0, 0⟩⟩
theorem list_n13 {α : Type} {l : List α} (h : l.length = 13) : ∃ c0 c1 c2 c3 c4 c5 c6 c7 c8 c9 c10 c11 c12, l = [c0, c1, c2, c3, c4, c5, c6, c7, c8, c9, c10, c11, c12] := by
  match l, h with
  | [c0, c1, c2, c3, c4, c5, c6, c7, c8, c9, c10, c11, c12], _ => exact ⟨c0, c1, c2, c3, c4, c5, c6, c7, c8, c9, c10, c11, c12, rfl⟩
section
variable {H : Type} {enc : TypeId × Value → H} {W : World} {B : Nat}
theorem un3 : Tryd.prog.cellsOf 3 = 1 := by kernel_rfl
theorem un4 : Tryd.prog.cellsOf 4 = 1 := by kernel_rfl
theorem un22 : Tryd.prog.cellsOf 22 = 2 := by kernel_rfl
theorem un23 : Tryd.prog.cellsOf 23 = 1 := by kernel_rfl
theorem un24 : Tryd.prog.cellsOf 24 = 2 := by kernel_rfl
theorem un26 : Tryd.prog.cellsOf 26 = 5 := by kernel_rfl
theorem un31 : Tryd.prog.cellsOf 31 = 5 := by kernel_rfl
theorem un32 : Tryd.prog.cellsOf 32 = 1 := by kernel_rfl
theorem un34 : Tryd.prog.cellsOf 34 = 2 := by kernel_rfl
theorem un36 : Tryd.prog.cellsOf 36 = 13 := by kernel_rfl
theorem un46 : Tryd.prog.cellsOf 46 = 3 := by kernel_rfl
theorem un48 : Tryd.prog.cellsOf 48 = 6 := by kernel_rfl
theorem arr2_w {fuel : Nat} {a b : Value} {x : DataW H × List MemPlace} (h : DataW.trod enc Tryd.prog W 0 (fun _ => true) true fuel 22 [a, b] = some x) (hB : Rows.uptoBulk x.1 ≤ 1048576) : ∃ y z : Int, a = .int .i64 y ∧ b = .int .i64 z ∧ Deci.fit y ∧ Deci.fit z := by
  obtain ⟨xs, m, _, hx, _, hlen, hf⟩ := DataW.trod_array (n := 2) (e := 3) Tryd.underlying22 h
  obtain ⟨x0, x1, rfl⟩ := list_n2 hlen
  have g0 := hf 0 (by omega)
  have g1 := hf 1 (by omega)
  rw [un3] at g0 g1
  replace g0 : DataW.trod enc Tryd.prog W 0 (fun _ => true) true m 3 [a] = some x0 := g0
  replace g1 : DataW.trod enc Tryd.prog W 0 (fun _ => true) true m 3 [b] = some x1 := g1
  obtain ⟨y, e0, _, w0⟩ := DataW.trod_int Tryd.underlying3 g0
  obtain ⟨z, e1, _, w1⟩ := DataW.trod_int Tryd.underlying3 g1
  injection e0 with e0
  injection e1 with e1
  exact ⟨y, z, e0, e1, wf_fit w0, wf_fit w1⟩
theorem arr2s_w {fuel : Nat} {a b : Value} {x : DataW H × List MemPlace} (h : DataW.trod enc Tryd.prog W 0 (fun _ => true) true fuel 24 [a, b] = some x) (hB : Rows.uptoBulk x.1 ≤ 1048576) : ∃ A n c l A' n' c' l', a = .slice A n c ∧ b = .slice A' n' c' ∧ IsInts W A n l ∧ IsInts W A' n' l' ∧ l.length ≤ 1048576 ∧ l'.length ≤ 1048576 ∧ (∀ y ∈ l, Deci.fit y) ∧ ∀ y ∈ l', Deci.fit y := by
  obtain ⟨xs, m, _, hx, _, hlen, hf⟩ := DataW.trod_array (n := 2) (e := 23) Tryd.underlying24 h
  obtain ⟨x0, x1, rfl⟩ := list_n2 hlen
  have g0 := hf 0 (by omega)
  have g1 := hf 1 (by omega)
  rw [un23] at g0 g1
  replace g0 : DataW.trod enc Tryd.prog W 0 (fun _ => true) true m 23 [a] = some x0 := g0
  replace g1 : DataW.trod enc Tryd.prog W 0 (fun _ => true) true m 23 [b] = some x1 := g1
  have b01 : Rows.uptoBulk x0.1 ≤ 1048576 ∧ Rows.uptoBulk x1.1 ≤ 1048576 := by
    rw [hx] at hB
    simp only [List.map_cons, List.map_nil, Rows.uptoBulk, Rows.uptoBulkAll] at hB
    omega
  obtain ⟨A, n, c, l, e0, h0, l0, w0⟩ := ints_w g0 b01.1
  obtain ⟨A', n', c', l', e1, h1, l1, w1⟩ := ints_w g1 b01.2
  injection e0 with e0
  injection e1 with e1
  exact ⟨A, n, c, l, A', n', c', l', e0, e1, h0, h1, Nat.le_trans l0 b01.1, Nat.le_trans l1 b01.2, w0, w1⟩
theorem loc_w {fuel : Nat} {a b c : Value} {x : DataW H × List MemPlace} (h : DataW.trod enc Tryd.prog W 0 (fun _ => true) true fuel 46 [a, b, c] = some x) (hB : Rows.uptoBulk x.1 ≤ 1048576) : ∃ k cl n : Int, a = .int .i64 k ∧ b = .int .i64 cl ∧ c = .int .i64 n ∧ Deci.fit n := by
  generalize hcs : [a, b, c] = cs at h
  obtain ⟨xs, n, _, hx, hl, hlen, hf⟩ := DataW.trod_struct Tryd.underlying46 h
  rw [un46] at hl
  subst hx
  obtain ⟨c0, c1, c2, rfl⟩ := list_n3 hl
  obtain ⟨x0, x1, x2, rfl⟩ := list_n3 (show xs.length = 3 from hlen)
  simp only [List.map_cons, List.map_nil, Rows.uptoBulk, Rows.uptoBulkAll] at hB ⊢
  have B0 : Rows.uptoBulk x0.1 ≤ 1048576 := by omega
  have B1 : Rows.uptoBulk x1.1 ≤ 1048576 := by omega
  have B2 : Rows.uptoBulk x2.1 ≤ 1048576 := by omega
  have g0 : DataW.trod enc Tryd.prog W 0 (fun _ => true) true n 3 (List.take (Tryd.prog.cellsOf 3) (List.drop 0 [c0, c1, c2])) = some x0 := hf 0 _ rfl
  rw [un3] at g0
  replace g0 : DataW.trod enc Tryd.prog W 0 (fun _ => true) true n 3 [c0] = some x0 := g0
  have g1 : DataW.trod enc Tryd.prog W 0 (fun _ => true) true n 3 (List.take (Tryd.prog.cellsOf 3) (List.drop 1 [c0, c1, c2])) = some x1 := hf 1 _ rfl
  rw [un3] at g1
  replace g1 : DataW.trod enc Tryd.prog W 0 (fun _ => true) true n 3 [c1] = some x1 := g1
  have g2 : DataW.trod enc Tryd.prog W 0 (fun _ => true) true n 3 (List.take (Tryd.prog.cellsOf 3) (List.drop 2 [c0, c1, c2])) = some x2 := hf 2 _ rfl
  rw [un3] at g2
  replace g2 : DataW.trod enc Tryd.prog W 0 (fun _ => true) true n 3 [c2] = some x2 := g2
  obtain ⟨z0, e0, w0⟩ := int_w g0 B0
  injection e0 with e0
  subst e0
  obtain ⟨z1, e1, w1⟩ := int_w g1 B1
  injection e1 with e1
  subst e1
  obtain ⟨z2, e2, w2⟩ := int_w g2 B2
  injection e2 with e2
  subst e2
  injection hcs with h1 hcs
  injection hcs with h2 hcs
  injection hcs with h3 hcs
  exact ⟨z0, z1, z2, h1, h2, h3, w2⟩
theorem seg_w {fuel : Nat} {cs : List Value} {x : DataW H × List MemPlace} (h : DataW.trod enc Tryd.prog W 0 (fun _ => true) true fuel 48 cs = some x) (hB : Rows.uptoBulk x.1 ≤ 1048576) : ∃ d : Sg, cs = d.cs ∧ SgF d := by
  obtain ⟨xs, n, _, hx, hl, hlen, hf⟩ := DataW.trod_struct Tryd.underlying48 h
  rw [un48] at hl
  subst hx
  obtain ⟨c0, c1, c2, c3, c4, c5, rfl⟩ := list_n6 hl
  obtain ⟨x0, x1, x2, x3, rfl⟩ := list_n4 (show xs.length = 4 from hlen)
  simp only [List.map_cons, List.map_nil, Rows.uptoBulk, Rows.uptoBulkAll] at hB ⊢
  have B0 : Rows.uptoBulk x0.1 ≤ 1048576 := by omega
  have B1 : Rows.uptoBulk x1.1 ≤ 1048576 := by omega
  have B2 : Rows.uptoBulk x2.1 ≤ 1048576 := by omega
  have B3 : Rows.uptoBulk x3.1 ≤ 1048576 := by omega
  have g0 : DataW.trod enc Tryd.prog W 0 (fun _ => true) true n 3 (List.take (Tryd.prog.cellsOf 3) (List.drop 0 [c0, c1, c2, c3, c4, c5])) = some x0 := hf 0 _ rfl
  rw [un3] at g0
  replace g0 : DataW.trod enc Tryd.prog W 0 (fun _ => true) true n 3 [c0] = some x0 := g0
  have g1 : DataW.trod enc Tryd.prog W 0 (fun _ => true) true n 3 (List.take (Tryd.prog.cellsOf 3) (List.drop 1 [c0, c1, c2, c3, c4, c5])) = some x1 := hf 1 _ rfl
  rw [un3] at g1
  replace g1 : DataW.trod enc Tryd.prog W 0 (fun _ => true) true n 3 [c1] = some x1 := g1
  have g2 : DataW.trod enc Tryd.prog W 0 (fun _ => true) true n 3 (List.take (Tryd.prog.cellsOf 3) (List.drop 2 [c0, c1, c2, c3, c4, c5])) = some x2 := hf 2 _ rfl
  rw [un3] at g2
  replace g2 : DataW.trod enc Tryd.prog W 0 (fun _ => true) true n 3 [c2] = some x2 := g2
  have g3 : DataW.trod enc Tryd.prog W 0 (fun _ => true) true n 46 (List.take (Tryd.prog.cellsOf 46) (List.drop 3 [c0, c1, c2, c3, c4, c5])) = some x3 := hf 3 _ rfl
  rw [un46] at g3
  replace g3 : DataW.trod enc Tryd.prog W 0 (fun _ => true) true n 46 [c3, c4, c5] = some x3 := g3
  obtain ⟨z0, e0, w0⟩ := int_w g0 B0
  injection e0 with e0
  subst e0
  obtain ⟨z1, e1, w1⟩ := int_w g1 B1
  injection e1 with e1
  subst e1
  obtain ⟨z2, e2, w2⟩ := int_w g2 B2
  injection e2 with e2
  subst e2
  obtain ⟨k, cl, n2, e3, e4, e5, w5⟩ := loc_w g3 B3
  subst e3 e4 e5
  exact ⟨⟨z0, z1, z2, k, cl, n2⟩, rfl, w0, w1, w2, w5⟩
theorem segs_w {fuel : Nat} {cs : List Value} {x : DataW H × List MemPlace} (h : DataW.trod enc Tryd.prog W 0 (fun _ => true) true fuel 32 cs = some x) (hB : Rows.uptoBulk x.1 ≤ 1048576) : ∃ A n c l, cs = [.slice A n c] ∧ IsSegs W A n l ∧ l.length ≤ Rows.uptoBulk x.1 ∧ (∀ y ∈ l, SgF y) ∧ n ≤ c := by
  obtain ⟨A, c, n, F, rfl, hn, hnB, hS, hI, hF⟩ := rows_open_w (B := 1048576) (α := Sg) (fun d cs => cs = d.cs ∧ SgF d) (fun _ => 0) Tryd.underlying32 un48 (by omega) (fun h hB => (seg_w h hB).imp fun _ e => ⟨e, Nat.zero_le _⟩) h hB
  have hcap : n ≤ c := by
    rcases Deep.open_slice Tryd.underlying32 h with ⟨e, _⟩ | ⟨a, ln, cp, m, k, D, Pl, e, _, hl, _⟩
    · injection e with e _
      injection e with _ e1 e2
      omega
    · injection e with e _
      injection e with _ e1 e2
      omega
  refine ⟨A, n, c, (List.range n).map F, rfl, ⟨by simp, hn, ?_⟩, by simpa using hnB, fun x hx => by
    obtain ⟨k, hk, rfl⟩ := List.mem_map.1 hx
    obtain ⟨_, _, e⟩ := hI k (List.mem_range.1 hk)
    exact e, hcap⟩
  rcases hF with rfl | ⟨b, o, rfl, hb, hF⟩
  · exact .inl rfl
  · refine .inr ⟨b, o, rfl, hb, fun k hk => ?_⟩
    have hk2 : k < n := by simpa using hk
    obtain ⟨cs', ⟨rfl, _⟩, hc⟩ := hF k hk2
    rw [range_map_get]
    exact ⟨hc 0 _ (by omega) rfl, hc 1 _ (by omega) rfl, hc 2 _ (by omega) rfl, hc 3 _ (by omega) rfl, hc 4 _ (by omega) rfl, hc 5 _ (by omega) rfl⟩
theorem tgt_w {fuel : Nat} {cs : List Value} {x : DataW H × List MemPlace} (h : DataW.trod enc Tryd.prog W 0 (fun _ => true) true fuel 26 cs = some x) (hB : Rows.uptoBulk x.1 ≤ 1048576) : ∃ (t : Tgt) (r : TgtV), cs = [.int .i64 t.r0, .int .i64 t.r1, .slice r.a0 r.n0 r.p0, .slice r.a1 r.n1 r.p1, .int .i64 t.slots] ∧ IsInts W r.a0 r.n0 t.c0 ∧ IsInts W r.a1 r.n1 t.c1 ∧ t.c0.length ≤ 1048576 ∧ t.c1.length ≤ 1048576 ∧ (∀ y ∈ t.c0, Deci.fit y) ∧ (∀ y ∈ t.c1, Deci.fit y) ∧ Deci.fit t.r0 ∧ Deci.fit t.r1 ∧ Deci.fit t.slots := by
  obtain ⟨xs, n, _, hx, hl, hlen, hf⟩ := DataW.trod_struct Tryd.underlying26 h
  rw [un26] at hl
  subst hx
  obtain ⟨c0, c1, c2, c3, c4, rfl⟩ := list_n5 hl
  obtain ⟨x0, x1, x2, rfl⟩ := list_n3 (show xs.length = 3 from hlen)
  simp only [List.map_cons, List.map_nil, Rows.uptoBulk, Rows.uptoBulkAll] at hB ⊢
  have B0 : Rows.uptoBulk x0.1 ≤ 1048576 := by omega
  have B1 : Rows.uptoBulk x1.1 ≤ 1048576 := by omega
  have B2 : Rows.uptoBulk x2.1 ≤ 1048576 := by omega
  have g0 : DataW.trod enc Tryd.prog W 0 (fun _ => true) true n 22 (List.take (Tryd.prog.cellsOf 22) (List.drop 0 [c0, c1, c2, c3, c4])) = some x0 := hf 0 _ rfl
  rw [un22] at g0
  replace g0 : DataW.trod enc Tryd.prog W 0 (fun _ => true) true n 22 [c0, c1] = some x0 := g0
  have g1 : DataW.trod enc Tryd.prog W 0 (fun _ => true) true n 24 (List.take (Tryd.prog.cellsOf 24) (List.drop 2 [c0, c1, c2, c3, c4])) = some x1 := hf 1 _ rfl
  rw [un24] at g1
  replace g1 : DataW.trod enc Tryd.prog W 0 (fun _ => true) true n 24 [c2, c3] = some x1 := g1
  have g2 : DataW.trod enc Tryd.prog W 0 (fun _ => true) true n 3 (List.take (Tryd.prog.cellsOf 3) (List.drop 4 [c0, c1, c2, c3, c4])) = some x2 := hf 2 _ rfl
  rw [un3] at g2
  replace g2 : DataW.trod enc Tryd.prog W 0 (fun _ => true) true n 3 [c4] = some x2 := g2
  obtain ⟨y0, y1, e0, e1, w0, w1⟩ := arr2_w g0 B0
  obtain ⟨A, n1, c, l, A', n', c', l', e2, e3, h0, h1, l0, l1, v0, v1⟩ := arr2s_w g1 B1
  subst e0 e1 e2 e3
  obtain ⟨z2, e2, w2⟩ := int_w g2 B2
  injection e2 with e2
  subst e2
  exact ⟨⟨y0, y1, l, l', z2⟩, ⟨A, n1, c, A', n', c'⟩, rfl, h0, h1, l0, l1, v0, v1, w0, w1, w2⟩
theorem alo_w {fuel : Nat} {cs : List Value} {x : DataW H × List MemPlace} (h : DataW.trod enc Tryd.prog W 0 (fun _ => true) true fuel 34 cs = some x) (hB : Rows.uptoBulk x.1 ≤ 1048576) : ∃ (t : Alo) (r : AloV), cs = [.int .i64 t.slots, .slice r.sa r.sn r.sc] ∧ IsSegs W r.sa r.sn t.segs ∧ t.segs.length ≤ 1048576 ∧ (∀ y ∈ t.segs, SgF y) ∧ Deci.fit t.slots ∧ r.sn ≤ r.sc := by
  obtain ⟨xs, n, _, hx, hl, hlen, hf⟩ := DataW.trod_struct Tryd.underlying34 h
  rw [un34] at hl
  subst hx
  obtain ⟨c0, c1, rfl⟩ := list_n2 hl
  obtain ⟨x0, x1, rfl⟩ := list_n2 (show xs.length = 2 from hlen)
  simp only [List.map_cons, List.map_nil, Rows.uptoBulk, Rows.uptoBulkAll] at hB ⊢
  have B0 : Rows.uptoBulk x0.1 ≤ 1048576 := by omega
  have B1 : Rows.uptoBulk x1.1 ≤ 1048576 := by omega
  have g0 : DataW.trod enc Tryd.prog W 0 (fun _ => true) true n 3 (List.take (Tryd.prog.cellsOf 3) (List.drop 0 [c0, c1])) = some x0 := hf 0 _ rfl
  rw [un3] at g0
  replace g0 : DataW.trod enc Tryd.prog W 0 (fun _ => true) true n 3 [c0] = some x0 := g0
  have g1 : DataW.trod enc Tryd.prog W 0 (fun _ => true) true n 32 (List.take (Tryd.prog.cellsOf 32) (List.drop 1 [c0, c1])) = some x1 := hf 1 _ rfl
  rw [un32] at g1
  replace g1 : DataW.trod enc Tryd.prog W 0 (fun _ => true) true n 32 [c1] = some x1 := g1
  obtain ⟨z0, e0, w0⟩ := int_w g0 B0
  injection e0 with e0
  subst e0
  obtain ⟨pa, pn, pc, pl, e1, ph, pB, pF, pC⟩ := segs_w g1 B1
  injection e1 with e1
  subst e1
  exact ⟨⟨z0, pl⟩, ⟨pa, pn, pc⟩, rfl, ph, Nat.le_trans pB B1, pF, w0, pC⟩
theorem unt_w {fuel : Nat} {cs : List Value} {x : DataW H × List MemPlace} (h : DataW.trod enc Tryd.prog W 0 (fun _ => true) true fuel 36 cs = some x) (hB : Rows.uptoBulk x.1 ≤ 1048576) : ∃ (i : Unt) (r : UntV), cs = (untR i r).toList ∧ UntG W i r := by
  obtain ⟨xs, n, _, hx, hl, hlen, hf⟩ := DataW.trod_struct Tryd.underlying36 h
  rw [un36] at hl
  subst hx
  obtain ⟨c0, c1, c2, c3, c4, c5, c6, c7, c8, c9, c10, c11, c12, rfl⟩ := list_n13 hl
  obtain ⟨x0, x1, x2, x3, rfl⟩ := list_n4 (show xs.length = 4 from hlen)
  simp only [List.map_cons, List.map_nil, Rows.uptoBulk, Rows.uptoBulkAll] at hB ⊢
  have B0 : Rows.uptoBulk x0.1 ≤ 1048576 := by omega
  have B1 : Rows.uptoBulk x1.1 ≤ 1048576 := by omega
  have B2 : Rows.uptoBulk x2.1 ≤ 1048576 := by omega
  have B3 : Rows.uptoBulk x3.1 ≤ 1048576 := by omega
  have g0 : DataW.trod enc Tryd.prog W 0 (fun _ => true) true n 26 (List.take (Tryd.prog.cellsOf 26) (List.drop 0 [c0, c1, c2, c3, c4, c5, c6, c7, c8, c9, c10, c11, c12])) = some x0 := hf 0 _ rfl
  rw [un26] at g0
  replace g0 : DataW.trod enc Tryd.prog W 0 (fun _ => true) true n 26 [c0, c1, c2, c3, c4] = some x0 := g0
  have g1 : DataW.trod enc Tryd.prog W 0 (fun _ => true) true n 31 (List.take (Tryd.prog.cellsOf 31) (List.drop 5 [c0, c1, c2, c3, c4, c5, c6, c7, c8, c9, c10, c11, c12])) = some x1 := hf 1 _ rfl
  rw [un31] at g1
  replace g1 : DataW.trod enc Tryd.prog W 0 (fun _ => true) true n 31 [c5, c6, c7, c8, c9] = some x1 := g1
  have g2 : DataW.trod enc Tryd.prog W 0 (fun _ => true) true n 4 (List.take (Tryd.prog.cellsOf 4) (List.drop 10 [c0, c1, c2, c3, c4, c5, c6, c7, c8, c9, c10, c11, c12])) = some x2 := hf 2 _ rfl
  rw [un4] at g2
  replace g2 : DataW.trod enc Tryd.prog W 0 (fun _ => true) true n 4 [c10] = some x2 := g2
  have g3 : DataW.trod enc Tryd.prog W 0 (fun _ => true) true n 34 (List.take (Tryd.prog.cellsOf 34) (List.drop 11 [c0, c1, c2, c3, c4, c5, c6, c7, c8, c9, c10, c11, c12])) = some x3 := hf 3 _ rfl
  rw [un34] at g3
  replace g3 : DataW.trod enc Tryd.prog W 0 (fun _ => true) true n 34 [c11, c12] = some x3 := g3
  obtain ⟨t, tv, e0, h0, h1, l0, l1, v0, v1, w0, w1, w2⟩ := tgt_w g0 B0
  simp only [List.cons.injEq, and_true] at e0
  obtain ⟨rfl, rfl, rfl, rfl, rfl⟩ := e0
  obtain ⟨f, ⟨e1, fh, fG⟩, fw⟩ := fun_w g1 B1
  unfold funR at e1
  simp only [List.cons.injEq, and_true] at e1
  obtain ⟨rfl, rfl, rfl, rfl, rfl⟩ := e1
  obtain ⟨has, e2, _⟩ := DataW.trod_bool Tryd.underlying4 g2
  injection e2 with e2
  subst e2
  obtain ⟨al, av, e3, ah, al1, aF, aw, aC⟩ := alo_w g3 B3
  simp only [List.cons.injEq, and_true] at e3
  obtain ⟨rfl, rfl⟩ := e3
  exact ⟨⟨t, f.1, has, al⟩, ⟨tv, f.2, av⟩, rfl, ⟨h0, h1, fh, ah, w0, w1, w2, aw, v0, v1, aF, fG, Nat.le_trans fw B1, l0, l1, al1, aC⟩⟩
theorem open_unt {base : Nat} {v : Value} {d : DataW H} {p : List MemPlace} (hv : Value.okWide Tryd.prog W .any base 36 v) (h : DataW.Trod enc Tryd.prog W 0 (fun _ => true) true 36 v d p) (hB : Rows.uptoBulk d ≤ 1048576) : ∃ (i : Unt) (r : UntV), v = .agg (untR i r) ∧ UntG W i r := by
  obtain ⟨cs, rfl, hsz, _⟩ : ∃ cs, v = .agg cs ∧ cs.size = Tryd.prog.cellsOf 36 ∧ Row.okWide Tryd.prog W .any base 36 cs := by
    simpa [Value.okWide, Tryd.underlying36] using hv
  obtain ⟨fuel, hf⟩ := h
  obtain ⟨i, r, hd, hu⟩ := unt_w hf hB
  have hd' : cs.toList = (untR i r).toList := by simpa [Value.cells] using hd
  refine ⟨i, r, ?_, hu⟩
  congr 1
  exact Array.ext' hd'
end
end Go.Proofs.YtakfoncdiejhaaaDoor
