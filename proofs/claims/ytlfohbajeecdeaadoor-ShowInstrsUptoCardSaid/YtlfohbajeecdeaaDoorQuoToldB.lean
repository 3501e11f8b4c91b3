
/- What the program's told answers: a byte by its digits; and in all. -/
import Derived.Test.YtlfohbajeecdeaaDoorQuoTold
import Derived.Deep.RegionLaw
namespace Go.Proofs.YtlfohbajeecdeaaDoor.Quo
open Go.ChangeShapes Go.WideShapes Go.RowKit
set_option linter.unusedVariables false

theorem and_15 : ∀ n : Nat, n < 256 → bits BinOp.and IntKind.u8 (n : Int) 15 = ((n % 16 : Nat) : Int) := by decide +kernel
theorem tab_at : ∀ k : Nat, k < 16 → (⟨#[48, 49, 50, 51, 52, 53, 54, 55, 56, 57, 97, 98, 99, 100, 101, 102]⟩ : ByteArray)[k]! = hexd k := by decide +kernel
theorem tab_run (z : Int) (k : Nat) (hz : z = (k : Int)) (hk : k < 16) (W : World) :
    (Instr.index 9 (.string ⟨#[48, 49, 50, 51, 52, 53, 54, 55, 56, 57, 97, 98, 99, 100, 101, 102]⟩) (.int .u8 z)).run Tryd.prog W = .ok (.int .u8 ((hexd k).toNat : Int)) W := by
  subst hz
  rw [run_index_string W 9 _ .u8 _ Tryd.underlying9]
  have e := tab_at k hk
  have hs : (⟨#[48, 49, 50, 51, 52, 53, 54, 55, 56, 57, 97, 98, 99, 100, 101, 102]⟩ : ByteArray).size = 16 := rfl
  rw [dif_pos ⟨by omega, by rw [hs]; omega⟩]
  rw [getElem!_pos _ k (by rw [hs]; omega)] at e
  rw [← e]; rfl
theorem own_ret {base : Nat} {w w1 : World} {A : Option Addr} {c g cap : Nat} {t x : List UInt8} {o : Obj}
    (ho : w1.ownsRow base 5 1 (.slice (some ⟨g, 0, none⟩) (t.length + x.length) cap) (t.length + x.length) (cellsOf t ++ cellsOf x))
    (hg : (w.alloc o).drew.grownBy w1 (Value.ownBlock (.slice A t.length c))) (hown : Own base w A c t) (hB : base ≤ w.heap.size) :
    ToldP base (t ++ x) w (.returned (.slice (some ⟨g, 0, none⟩) (t.length + x.length) cap)) w1 := by
  have e1 : (t ++ x).length = t.length + x.length := by simp
  have e2 : cellsOf (t ++ x) = cellsOf t ++ cellsOf x := by unfold cellsOf; rw [List.map_append]
  unfold ToldP Own
  rw [e1, e2]
  refine ⟨_, _, rfl, ho, ?_⟩
  have h1 : Below base w (w.alloc o).drew := ((Below.refl _ _).alloc hB o).drew
  exact h1.grown hg (by simp; omega) (fun k hk => (hown.lt k hk).1)
set_option maxHeartbeats 400000 in
theorem told_hex (base : Nat) (A : Option Addr) (c : Nat) (t : List UInt8) (b : UInt8) (w : World) (h : Own base w A c t) (hl : t.length ≤ 100000000) (hB : base ≤ w.heap.size) (h1 : b.toNat ≠ 34) (h2 : b.toNat ≠ 92) (h3 : b.toNat ≠ 10) (h4 : b.toNat ≠ 9) (h5 : ¬ (32 ≤ b.toNat ∧ b.toNat ≤ 126)) :
    Calls Tryd.prog 58 #[.slice A t.length c, .int .u8 (b.toNat : Int)] w (ToldP base (t ++ [92, 120, hexd (b.toNat / 16), hexd (b.toNat % 16)]) w) := by
  obtain ⟨i0, hi0, hz0, hz1, hz2⟩ := info_parts info5
  have I0 := Lib.hid (And.intro hi0 (And.intro hz0 (And.intro hz1 hz2)))
  have HH := Lib.hid h
  clear hi0 hz0 hz1 hz2 h
  have c1 : ((b.toNat : Int) == 34) = false := nat_bne h1
  have c2 : ((b.toNat : Int) == 92) = false := nat_bne h2
  have c3 : ((b.toNat : Int) == 10) = false := nat_bne h3
  have c4 : ((b.toNat : Int) == 9) = false := nat_bne h4
  have hbl := b.toNat_lt
  have ways : b.toNat < 32 ∨ 126 < b.toNat := by omega
  have x1 := tab_run ((b.toNat : Int) / 16) (b.toNat / 16) (by omega) (by omega)
  have x2 := tab_run ((b.toNat : Int) % 16) (b.toNat % 16) (by omega) (by omega)
  have x3 := and_15 b.toNat hbl
  generalize hexd (b.toNat / 16) = y1 at *
  generalize hexd (b.toNat % 16) = y2 at *
  rw [show ((b.toNat % 16 : Nat) : Int) = (b.toNat : Int) % 16 by omega] at x3
  clear h1 h2 h3 h4 h5
  rcases ways with h | h
  all_goals
    go_enter Tryd.func58, Tryd.ntmps58
    go_wp2_with fail
    go_region_law (refine step_append_lies _ rfl (.tmp 39) (.tmp 46) 45 rfl base 5 i0 (.int .u8 0) 1 1 Tryd.underlying45 I0.out.1 I0.out.2.1 I0.out.2.2.1 I0.out.2.2.2 rfl (by decide) (.slice A t.length c) t.length (cellsOf t) (by simp [Act.eval]) (HH.out.alloc _).drew ⟨w.heap.size, 0, none⟩ 4 4 (cellsOf [92, 120, y1, y2]) (by simp [Act.eval]) rfl (fun j u hj => news_new w _ 5 _ rfl j u hj) (one_cell _) (by decide) (by unfold maxLen; omega) (by omega) (by simp; omega) _ rfl ?_; intro g cap w1 hown hgrow hat hlt)
    all_goals
      have H2 := Lib.hid (And.intro hown hgrow)
      clear hown hgrow hat hlt
      go_wp2_with fail
      go_ret
      exact own_ret (x := [92, 120, y1, y2]) H2.out.1 H2.out.2 HH.out hB
theorem told_v (base : Nat) (A : Option Addr) (c : Nat) (t : List UInt8) (b : UInt8) (w : World) (h : Own base w A c t) (hl : t.length ≤ 100000000) (hB : base ≤ w.heap.size) :
    Calls Tryd.prog 58 #[.slice A t.length c, .int .u8 (b.toNat : Int)] w (ToldP base (t ++ one b) w) := by
  unfold one
  by_cases k1 : b = 34
  · rw [if_pos (.inl k1)]; subst k1; exact told_34 base A c t _ w h hl hB rfl
  · by_cases k2 : b = 92
    · rw [if_pos (.inr k2)]; subst k2; exact told_92 base A c t _ w h hl hB rfl
    · rw [if_neg (fun k => k.elim k1 k2)]
      by_cases k3 : b = 10
      · rw [if_pos k3]; exact told_10 base A c t _ w h hl hB k3
      · rw [if_neg k3]
        by_cases k4 : b = 9
        · rw [if_pos k4]; exact told_9 base A c t _ w h hl hB k4
        · rw [if_neg k4]
          have n1 : b.toNat ≠ 34 := fun k => k1 ((byte_is _ 34 (by decide)).2 k)
          have n2 : b.toNat ≠ 92 := fun k => k2 ((byte_is _ 92 (by decide)).2 k)
          have n3 : b.toNat ≠ 10 := fun k => k3 ((byte_is _ 10 (by decide)).2 k)
          have n4 : b.toNat ≠ 9 := fun k => k4 ((byte_is _ 9 (by decide)).2 k)
          by_cases k5 : 32 ≤ b.toNat ∧ b.toNat ≤ 126
          · rw [if_pos k5]; exact told_plain base A c t b w h hl hB n1 n2 n3 n4 k5.1 k5.2
          · rw [if_neg k5]; exact told_hex base A c t b w h hl hB n1 n2 n3 n4 k5
end Go.Proofs.YtlfohbajeecdeaaDoor.Quo
