/- What the document's own Text answers. -/
import Derived.Test.YtnpdmcgfhieepaaDoorMade
namespace Go.Proofs.YtnpdmcgfhieepaaDoor
open Go.RowKit Go.Extern.Stop Go.Stop Go.Extern
set_option linter.unusedVariables false

theorem heads_size {ss : List ByteArray} {k : Nat} (h : k < ss.length) : ss[k].size ≤ (heads ss).length := by
  have h1 := heads_take ss k h
  have h2 := heads_le ss (k + 1)
  rw [h1] at h2
  simp at h2
  have h3 : ss[k].data.size = ss[k].size := rfl
  omega
theorem cat_mk (a : List UInt8) (p : ByteArray) (b : List UInt8) : ByteArray.mk a.toArray ++ p ++ ByteArray.mk b.toArray = ByteArray.mk (a ++ p.data.toList ++ b).toArray := by
  obtain ⟨⟨q⟩⟩ := p
  rw [show (ByteArray.mk (Array.mk q)) = ByteArray.mk q.toArray from rfl, ByteArray.mk_append_mk, ByteArray.mk_append_mk]
set_option maxRecDepth 100000 in
set_option maxHeartbeats 1000000 in
theorem reftext_v (code place : Int) (hc : ¬ code = 0) (A : Option Addr) (cap N : Nat) (ss : List ByteArray) (R : ByteArray) (hN : ss.length = N) (hl : N ≤ 1000) (hs : (heads ss).length ≤ 100000000) (fc : Deci.fit code) (fp : Deci.fit place) (hR : full code place ss = R.data.toList) (w : World) (h : Strs w A ss) :
    Calls Tryd.prog 12 #[.int .i64 code, .int .i64 place, .slice A N cap] w fun e w' => e = .returned (.string R) ∧ Below w.heap.size w w' := by
  have HN := Lib.hid (And.intro hN (And.intro h (And.intro hs (And.intro fc (And.intro fp hR)))))
  have hb := int_beq hc
  clear hN h hc hs fc fp hR
  go_enter Tryd.func12, Tryd.ntmps12
  go_wp2_with fail
  go_loopg [7, 8] N (fun gk v i wr => ∃ (k : Nat) (t : List UInt8), k + gk = N ∧ i = .int .i64 (k : Int) ∧ v = .string ⟨t.toArray⟩ ∧ w = wr ∧ Hid (t = heads (ss.take k)))
  case atStart => exact ⟨0, [], by omega, rfl, rfl, rfl, rfl⟩
  case round =>
    obtain ⟨k, t, hk, rfl, rfl, rfl, HT⟩ := hrel
    have htl : t.length ≤ 100000000 := by rw [HT.out]; exact Nat.le_trans (heads_le _ _) HN.out.2.2.1
    by_cases hg : gk = 0
    · subst hg
      obtain rfl : k = N := by omega
      obtain ⟨t1, ht1⟩ : ∃ l, Deci.txt code = l := ⟨_, rfl⟩
      obtain ⟨t2, ht2⟩ : ∃ l, Deci.txt place = l := ⟨_, rfl⟩
      have hl1 : t1.length ≤ 20 := by rw [← ht1]; exact Deci.txt_len code HN.out.2.2.2.1.1 HN.out.2.2.2.1.2
      have hl2 : t2.length ≤ 20 := by rw [← ht2]; exact Deci.txt_len place HN.out.2.2.2.2.1.1 HN.out.2.2.2.2.1.2
      have hf : R = ByteArray.mk t.toArray ++ ByteArray.mk t1.toArray ++ ByteArray.mk #[32, 97, 116, 32] ++ ByteArray.mk t2.toArray := by
        have h1 := HN.out.2.2.2.2.2
        have h2 : t = heads ss := by rw [HT.out, List.take_of_length_le (by rw [HN.out.1]; exact Nat.le_refl _)]
        obtain ⟨⟨q⟩⟩ := R
        rw [ByteArray.mk_append_mk, show ByteArray.mk #[32, 97, 116, 32] = ByteArray.mk [32, 97, 116, 32].toArray from rfl, ByteArray.mk_append_mk, ByteArray.mk_append_mk]
        have h3 : q = t ++ t1 ++ [32, 97, 116, 32] ++ t2 := by
          have : q = full code place ss := h1.symm
          rw [this, h2, ← ht1, ← ht2]; rfl
        rw [h3]
      have HF := Lib.hid (And.intro hf (And.intro ht1 ht2))
      clear hf ht1 ht2 hk
      go_wp2_with fail
      refine (Deci.refput_v code t1 HF.out.2.1 HN.out.2.2.2.1 _).mono ?_
      rintro e w1 ⟨rfl, hb⟩
      have B1 := Lib.hid hb
      clear hb
      go_wp2_with fail
      refine (Deci.refput_v place t2 HF.out.2.2 HN.out.2.2.2.2.1 _).mono ?_
      rintro e w2 ⟨rfl, hb⟩
      have B2 := Lib.hid (B1.out.trans (hb.mono B1.out.size))
      clear hb
      go_wp2_with fail
      go_ret
      exact ⟨by rw [HF.out.1]; rfl, B2.out⟩
    · obtain ⟨q, rfl⟩ : ∃ q, gk = q + 1 := ⟨gk - 1, by omega⟩
      have hq : k < ss.length := by rw [HN.out.1]; omega
      obtain ⟨b, off, p, hA, hp, hcell⟩ := HN.out.2.1.at k hq
      have hps : p.size ≤ 100000000 := by rw [← hp]; exact Nat.le_trans (heads_size hq) HN.out.2.2.1
      have hnx : t ++ p.data.toList ++ [58, 32] = heads (ss.take (k + 1)) := by rw [heads_take ss k hq, HT.out, hp]
      have HX := Lib.hid hnx
      have hqN : k < N := by omega
      have hqN' : (k : Int) < (N : Int) := by omega
      have HK := Lib.hid hk
      clear hp hnx hk hg hq
      subst hA
      go_wp2_with fail
      go_roundg q
      case measure => omega
      case rel => exact ⟨k + 1, t ++ p.data.toList ++ [58, 32], by have := HK.out; omega, by go_num, by rw [← cat_mk], rfl, HX.out⟩
end Go.Proofs.YtnpdmcgfhieepaaDoor
