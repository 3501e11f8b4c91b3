
/- The document's walk: blocks as they are left, by calls within calls. -/
import Derived.Test.YtojfbcfbnadboaaGraRea
import Derived.Test.YtojfbcfbnadboaaGraRefS
namespace Go.Proofs.Ytojfbcfbnadboaa.Gra
open Go.ChangeShapes Go.WideShapes Go.RowKit
set_option linter.unusedVariables false
set_option maxRecDepth 20000
set_option maxHeartbeats 4000000

theorem Wk.len {s : Gr} {l : List Nat} {sn sn' : List Bool} {out out' : List Nat} (hs : Ok s) (h : Wk s l sn out sn' out') : sn.length = s.length → (∀ j ∈ l, j < s.length) → out'.length + cnt sn ≤ out.length + cnt sn' := by
  induction h with
  | nil => intro _ _; omega
  | skip h1 h2 ih => intro hl hj; exact ih hl (fun j h => hj j (List.mem_cons_of_mem _ h))
  | @go j l sn sn1 sn' out out1 out' h1 h2 h3 ih1 ih2 =>
    intro hl hj
    have hjl : j < sn.length := by rw [hl]; exact hj j (List.mem_cons_self ..)
    have a1 := ih1 (by rw [List.length_set]; exact hl) (fun k hk => hs j k hk)
    have a2 := ih2 (by rw [← h2.le.1, List.length_set]; exact hl) (fun k h => hj k (List.mem_cons_of_mem _ h))
    have a3 := set_cnt hjl h1
    rw [List.length_append] at a2
    simp at a2
    omega
/-- Bools, and a row of numbers, of the call's own. -/
structure Wm (w0 W : World) (g : Nat) (sn : List Bool) (B : Option Addr) (m d : Nat) (out : List Nat) : Prop where
  bel : Below w0.heap.size w0 W
  bo : Bo w0.heap.size W g sn
  row : OwnL 3 1 intC w0.heap.size W B d (nn out)
  len : out.length = m
  ap : Value.ownBlock (.slice B m d) ≠ some g
theorem Wm.put {w0 W : World} {g : Nat} {sn : List Bool} {B : Option Addr} {m d : Nat} {out : List Nat} (h : Wm w0 W g sn B m d out) {k : Nat} (hk : k < sn.length) : Wm w0 (W.setCell ⟨g, k, none⟩ (.bool true)) g (sn.set k true) B m d out := by
  refine ⟨h.bel.setCell (p := ⟨g, k, none⟩) h.bo.lo _, h.bo.put hk, ?_, h.len, h.ap⟩
  refine mown_mv h.row (put_mv (M := fun k => k = g) _ rfl) (fun j hj e => ?_)
  rw [nn_len, h.len] at hj
  subst e
  exact h.ap hj
theorem Wm.below {w0 W W' : World} {g : Nat} {sn : List Bool} {B : Option Addr} {m d : Nat} {out : List Nat} (h : Wm w0 W g sn B m d out) (hb : Below W.heap.size W W') : Wm w0 W' g sn B m d out :=
  ⟨h.bel.trans (hb.mono h.bel.size), h.bo.below hb, h.row.below hb, h.len, h.ap⟩
theorem Wm.grow {w0 W W' : World} {g : Nat} {sn : List Bool} {B : Option Addr} {m d : Nat} {out : List Nat} (h : Wm w0 W g sn B m d out) {g' c' j : Nat} (ho : OwnL 3 1 intC w0.heap.size W' (some ⟨g', 0, none⟩) c' (nn out ++ [(j : Int)])) (hg : W.grownBy W' (Value.ownBlock (.slice B m d))) (hat : Value.ownBlock (.slice B m d) = some g' ∨ g' = W.heap.size) :
    Wm w0 W' g sn (some ⟨g', 0, none⟩) (m + 1) c' (out ++ [j]) := by
  have hlo : ∀ k, Value.ownBlock (.slice B m d) = some k → w0.heap.size ≤ k := fun k hk => (h.row.lo k (by rw [nn_len, h.len]; exact hk)).1
  refine ⟨⟨hg.os.trans h.bel.os, hg.tape.trans h.bel.tape, hg.output.trans h.bel.output, Nat.le_trans h.bel.size hg.size, fun k hk => (hg.block k (Nat.lt_of_lt_of_le hk h.bel.size) (fun e => by have := hlo k e.symm; omega)).trans (h.bel.block k hk)⟩, ⟨h.bo.lo, Nat.lt_of_lt_of_le h.bo.lt hg.size, fun k hk => (hg.cell_far ⟨g, k, none⟩ h.bo.lt (fun e => h.ap e.symm)).trans (h.bo.cell k hk), fun k => (hg.frozen_far ⟨g, k, none⟩ h.bo.lt (fun e => h.ap e.symm)).trans (h.bo.free k)⟩, by rw [nn_app]; exact ho, by rw [List.length_append, h.len]; rfl, fun e => ?_⟩
  have e : g' = g := by injection e
  subst e
  exact hat.elim h.ap (fun e => by have := h.bo.lt; omega)
theorem rwalk_v (A : Option Addr) (n c : Nat) (s : Gr) (w0 : World) (h : IsGr w0 A n s) (hs : Ok s) (hn : n ≤ 1000000) (g : Nat) :
    ∀ (f i : Nat) (sn : List Bool) (out : List Nat) (B : Option Addr) (m d : Nat) (w : World) (sn1 : List Bool) (out1 : List Nat), Wm w0 w g sn B m d out → i < n → sn.length = n → at_ sn i = false → out.length ≤ cnt sn → n ≤ cnt sn + f → Wk s (nx s i) (sn.set i true) out sn1 out1 →
      Calls Try.prog 51 #[.slice A n c, .int .i64 (i : Int), .slice (some ⟨g, 0, none⟩) n n, .slice B m d] w fun e w' => ∃ B' m' d', e = .returned (.slice B' m' d') ∧ Wm w0 w' g sn1 B' m' d' (out1 ++ [i]) := by
  intro f
  induction f with
  | zero =>
    intro i sn out B m d w sn1 out1 hw hi hl hf ho hc
    exfalso
    have h1 := set_cnt (by omega) hf
    have h2 := cnt_le (sn.set i true)
    rw [List.length_set] at h2
    omega
  | succ f ih =>
    intro i sn out B m d w sn1 out1 hw hi hl hf ho hc hk
    have y0 := hw.bo.cell i (by omega)
    have y1 := hw.bo.free i
    have h0 := set_cnt (by omega) hf
    have H := Lib.hid (And.intro h hs)
    have IH := Lib.hid ih
    obtain ⟨ll, hll⟩ : ∃ ll, nx s i = ll := ⟨_, rfl⟩
    rw [hll] at hk
    have HLl := Lib.hid hll
    have hle : Le (sn.set i true) (sn.set i true) := Le.refl _
    have HS := Lib.hid (show ∃ cu oc, Wm w0 (w.setCell ⟨g, i, none⟩ (.bool true)) g cu B m d oc ∧ cu.length = n ∧ n ≤ cnt cu + f ∧ oc.length + 1 ≤ cnt cu ∧ Wk s (ll.drop 0) cu oc sn1 out1 from ⟨_, _, hw.put (by omega), by rw [List.length_set]; exact hl, by omega, by omega, hk⟩)
    have t0 : (i : Int) < (n : Int) := by omega
    clear h hs ih hll hk hle hw hl hf ho hc h0
    go_enter Try.func51, Try.ntmps51
    go_wp2_with fail
    clear y0 y1
    go_loopg [3, 9] ll.length (fun gk q3 q9 wr => ∃ (k m d : Nat) (B : Option Addr), k + gk = ll.length ∧ q3 = .slice B m d ∧ q9 = .int .i64 (k : Int) ∧ Hid (∃ cu oc, Wm w0 wr g cu B m d oc ∧ cu.length = n ∧ n ≤ cnt cu + f ∧ oc.length + 1 ≤ cnt cu ∧ Wk s (ll.drop k) cu oc sn1 out1))
    case atStart => exact ⟨0, m, d, B, by omega, rfl, rfl, HS⟩
    case round =>
      obtain ⟨k, m, d, B, hk, rfl, rfl, HK⟩ := hrel
      obtain ⟨cu, oc, hwm, hcl, hcf, hoc, hwk⟩ := HK.out
      have HW := Lib.hid hwm
      obtain ⟨rb, ro, rfl, -, C, p, q, c0, c1⟩ := (H.out.1.below hwm.bel).at hi
      rw [HLl.out] at c1
      have HIn := Lib.hid c1
      have hpl : ll.length = p := by rw [← nn_len]; exact c1.1
      have hpm : p ≤ 9223372036854775807 := c1.2.1
      have HN := Lib.hid (And.intro hcl (And.intro hcf hoc))
      clear HK hwm c1 hcl hcf hoc
      by_cases hkl : k < ll.length
      · have t1 : (k : Int) < (p : Int) := by omega
        obtain ⟨vb, vo, rfl, -, y, hy, v0⟩ := HIn.out.at (k := k) (by omega)
        obtain ⟨j, hj, rfl⟩ : ∃ j, ll[k]? = some j ∧ y = (j : Int) := by
          unfold nn at hy
          rw [List.getElem?_map] at hy
          obtain ⟨j, h1, h2⟩ := Option.map_eq_some_iff.1 hy
          exact ⟨j, h1, h2.symm⟩
        have hjn : j < n := by
          have h1 := H.out.2 i j (by rw [HLl.out]; exact List.mem_of_getElem? hj)
          rw [H.out.1.1] at h1
          exact h1
        have t2 : (j : Int) < (n : Int) := by omega
        have hd : ll.drop k = j :: ll.drop (k + 1) := by
          obtain ⟨h1, h2⟩ := List.getElem?_eq_some_iff.1 hj
          rw [List.drop_eq_getElem_cons h1, h2]
        rw [hd] at hwk
        have s0 := HW.out.bo.cell j (by rw [HN.out.1]; exact hjn)
        clear hy hj hd
        cases hb : at_ cu j
        · rw [hb] at s0
          have hgo : ∃ sn2 out2, Wk s (nx s j) (cu.set j true) oc sn2 out2 ∧ Wk s (ll.drop (k + 1)) sn2 (out2 ++ [j]) sn1 out1 := by
            cases hwk with
            | skip k1 k2 => rw [hb] at k1; cases k1
            | go k1 k2 k3 => exact ⟨_, _, k2, k3⟩
          obtain ⟨sn2, out2, g1, g2⟩ := hgo
          have hln := g1.len H.out.2 (by rw [List.length_set, HN.out.1]; exact H.out.1.1.symm) (fun k h => H.out.2 j k h)
          have hst := set_cnt (by rw [HN.out.1]; exact hjn) hb
          have hle := (le_cnt _ _ g1.le).1
          have hl2 := g1.le.1
          rw [List.length_set, HN.out.1] at hl2
          have HG := Lib.hid (And.intro g2 (And.intro hl2.symm (show n ≤ cnt sn2 + f ∧ (out2 ++ [j]).length + 1 ≤ cnt sn2 by
            have h1 := HN.out.2
            rw [List.length_append]
            simp
            omega)))
          have HC := Lib.hid (IH.out j cu oc B m d wr sn2 out2 HW.out hjn HN.out.1 hb (by have := HN.out.2; omega) HN.out.2.1 g1)
          clear hwk hb g1 g2 hln hst hle hl2
          go_wp2_with fail
          refine HC.out.mono ?_
          rintro e w2 ⟨B', m', d', rfl, hw2⟩
          have H2 := Lib.hid hw2
          clear hw2
          go_wp2_with fail
          go_roundg (gk - 1)
          case measure => omega
          case rel => exact ⟨k + 1, m', d', B', by omega, rfl, by go_num, Lib.hid ⟨sn2, out2 ++ [j], H2.out, HG.out.2.1, HG.out.2.2.1, HG.out.2.2.2, HG.out.1⟩⟩
        · rw [hb] at s0
          have HG := Lib.hid (show Wk s (ll.drop (k + 1)) cu oc sn1 out1 by
            cases hwk with
            | skip k1 k2 => exact k2
            | go k1 k2 k3 => rw [hb] at k1; cases k1)
          clear hwk hb
          go_wp2_with fail
          go_roundg (gk - 1)
          case measure => omega
          case rel => exact ⟨k + 1, m, d, B, by omega, rfl, by go_num, Lib.hid ⟨cu, oc, HW.out, HN.out.1, HN.out.2.1, HN.out.2.2, HG.out⟩⟩
      · obtain rfl : k = ll.length := by omega
        have t1 : ¬ ((ll.length : Nat) : Int) < (p : Int) := by omega
        rw [List.drop_length] at hwk
        have he : cu = sn1 ∧ oc = out1 := by cases hwk; exact ⟨rfl, rfl⟩
        obtain ⟨rfl, rfl⟩ := he
        obtain ⟨wn, hwn⟩ : ∃ wn, wr.alloc (.cells #[.int .i64 (i : Int)] 3) = wn := ⟨_, rfl⟩
        have mb := m_box wr _ 3 hwn
        have HP := Lib.hid (HW.out.below mb.1)
        have Fn := Lib.hid mb.2
        have hsz : w0.heap.size ≤ wn.heap.size := HP.out.bel.size
        have hmm : m ≤ 2000000 := by
          have h1 := HW.out.len
          have h2 := cnt_le cu
          have h3 := HN.out
          omega
        clear mb hwk
        go_wp2_with (at_builtin; refine mapp1 (N := w0.heap.size) mInt rfl _ _ rfl ((nn_len _).trans HP.out.len) rfl HP.out.row wr.heap.size (i : Int) rfl Fn.out hmm hsz ?_)
        intro g' c' wh ho hgr hat hlt2
        have HF := Lib.hid (HP.out.grow ho hgr hat)
        clear ho hgr hat hlt2
        go_wp2_with fail
        go_ret
        exact ⟨_, _, _, rfl, HF.out⟩
end Go.Proofs.Ytojfbcfbnadboaa.Gra
