
/- The small check's function: its branches; a graph as it is made. -/
import Derived.Test.YtojfbcfbnadboaaGraNew
import Derived.Test.YtojfbcfbnadboaaGraReached
import Derived.Test.YtojfbcfbnadboaaBitQ
namespace Go.Proofs.Ytojfbcfbnadboaa.Gra
open Go.ChangeShapes Go.WideShapes Go.RowKit
set_option linter.unusedVariables false
set_option maxRecDepth 20000
set_option maxHeartbeats 2000000

theorem mStr : MRow 9 64 1 strC := ⟨Try.underlying64, minfo (z := .string ⟨#[]⟩) (by kernel_rfl) rfl, by decide, fun x => rfl, fun x u hu => by simp [strC] at hu; rw [hu]; rfl⟩
theorem mIns : MRow 66 59 10 insC := ⟨Try.underlying59, minfo (z := .agg #[.int .i64 0, .int .i64 0, .int .i64 0, .int .i64 0, .int .i64 0, .slice none 0 0, .string ⟨#[]⟩, .int .i64 0, .slice none 0 0, .slice none 0 0]) (by kernel_rfl) rfl, by decide, fun x => rfl, fun x u hu => by simp [insC, insR] at hu; rcases hu with rfl | rfl | rfl | rfl | rfl | rfl | rfl | rfl | rfl | rfl <;> rfl⟩
theorem mBlk : MRow 61 24 4 blkC := ⟨Try.underlying24, minfo (z := .agg #[.string ⟨#[]⟩, .bool false, .slice none 0 0, .slice none 0 0]) (by kernel_rfl) rfl, by decide, fun x => rfl, fun x u hu => by simp [blkC, blkR] at hu; rcases hu with rfl | rfl | rfl | rfl <;> rfl⟩
/-- An instruction that goes on by labels. -/
def brI (ll : List ByteArray) : Ins := ⟨21, ⟨0, 0, 0, 0⟩, [], ⟨#[]⟩, 0, ll, []⟩
def brV (A : Option Addr) (n c : Nat) : InsV := ⟨none, 0, 0, A, n, c, none, 0, 0⟩
theorem strs_box {w : World} {g : Nat} (l : List ByteArray) (h : w.heap[g]? = some (.cells (l.flatMap strC).toArray 9 (0, 0))) (hl : l.length ≤ 1000000) : IsStrs w (some ⟨g, 0, none⟩) l.length l :=
  (mfirst mStr (N := 0) h (Nat.zero_le _) rfl hl).strs
theorem code_box {w : World} {g n c : Nat} {A : Option Addr} {ll : List ByteArray} (h : w.heap[g]? = some (.cells #[.int .i64 21, .int .i64 0, .int .i64 0, .int .i64 0, .int .i64 0, .slice none 0 0, .string ⟨#[]⟩, .int .i64 0, .slice A n c, .slice none 0 0] 66 (0, 0))) (hs : IsStrs w A n ll) : IsCode w (some ⟨g, 0, none⟩) 1 (viewI [(brI ll, brV A n c)]) [brI ll] := by
  refine OwnL.code (l := [(brI ll, brV A n c)]) (mfirst mIns (N := 0) (l := [(brI ll, brV A n c)]) h (Nat.zero_le _) rfl (by show 1 ≤ 1000000; decide)) ?_
  intro x hx
  rw [List.mem_singleton] at hx
  subst hx
  exact ⟨⟨rfl, Nat.zero_le _, .inl rfl⟩, hs, ⟨rfl, Nat.zero_le _, .inl rfl⟩⟩
def BrP (A : Option Addr) (n c : Nat) (ll : List ByteArray) (w : World) (e : Ending) (w' : World) : Prop :=
  ∃ g, e = .returned (.slice (some ⟨g, 0, none⟩) 1 1) ∧ IsCode w' (some ⟨g, 0, none⟩) 1 (viewI [(brI ll, brV A n c)]) [brI ll] ∧ Below w.heap.size w w'
theorem br19_v (A : Option Addr) (n c : Nat) (ll : List ByteArray) (w : World) (h : IsStrs w A n ll) : Calls Try.prog 35 #[.slice A n c] w (BrP A n c ll w) := by
  obtain ⟨w1, hw1⟩ : ∃ w1, w.alloc (.cells #[.int .i64 21, .int .i64 0, .int .i64 0, .int .i64 0, .int .i64 0, .slice none 0 0, .string ⟨#[]⟩, .int .i64 0, .slice A n c, .slice none 0 0] 66) = w1 := ⟨_, rfl⟩
  have mb := m_box w _ 66 hw1
  have H := Lib.hid (And.intro (code_box mb.2 (h.below mb.1)) mb.1)
  clear mb h
  go_enter Try.func35, Try.ntmps35
  go_wp2_with fail
  try rw [hw1]
  go_ret
  exact ⟨_, rfl, H.out⟩
theorem br20_v (A : Option Addr) (n c : Nat) (ll : List ByteArray) (w : World) (h : IsStrs w A n ll) : Calls Try.prog 53 #[.slice A n c] w (BrP A n c ll w) := by
  obtain ⟨w1, hw1⟩ : ∃ w1, w.alloc (.cells #[.int .i64 21, .int .i64 0, .int .i64 0, .int .i64 0, .int .i64 0, .slice none 0 0, .string ⟨#[]⟩, .int .i64 0, .slice A n c, .slice none 0 0] 66) = w1 := ⟨_, rfl⟩
  have mb := m_box w _ 66 hw1
  have H := Lib.hid (And.intro (code_box mb.2 (h.below mb.1)) mb.1)
  clear mb h
  go_enter Try.func53, Try.ntmps53
  go_wp2_with fail
  try rw [hw1]
  go_ret
  exact ⟨_, rfl, H.out⟩
/-- A graph that was made. -/
theorem Gm.isG {w0 W : World} {p gA gB n : Nat} {u : Nat → Il} {s : Gr} (h : Gm w0 W p gA gB n u) (hn : n ≤ 300) (hl : s.length = n) (h1 : ∀ k, k < n → (u k).l = nx s k) (h2 : ∀ t, t < n → (u (n + t)).l = preds s t) : IsG W p ⟨some ⟨gA, 0, none⟩, n, n, some ⟨gB, 0, none⟩, n⟩ s (prs s) :=
  ⟨h.box, h.a.gr (by omega) (fun k hk => ⟨h.f.own k (by omega), h.f.len k (by omega)⟩) hl (fun k hk => (h1 k hk).symm), h.b.gr (by omega) (fun k hk => ⟨h.f.own (n + k) (by omega), h.f.len (n + k) (by omega)⟩) (by rw [prs_len]; exact hl) (fun k hk => by rw [prs_at s (by omega)]; exact (h2 k hk).symm)⟩
/-- What New hands back, as a graph. -/
theorem newg_v (f : Fun) (v : FunV) (w : World) (hI : IsFun w f v) (hbn : f.blocks.length ≤ 300) :
    Calls Try.prog 9 #[.agg (funR f v)] w fun e w' => (∃ p, e = .returned (.pointer (some ⟨p, 0, none⟩)) ∧ ∃ q, q.n = f.blocks.length ∧ IsG w' p q (sucs f.blocks) (prs (sucs f.blocks)) ∧ w.heap.size ≤ p) ∧ Below w.heap.size w w' := by
  refine (new_v f v w hI hbn).mono ?_
  rintro e w' ⟨⟨p, gA, gB, u, rfl, hg, h1, h2⟩, hb⟩
  exact ⟨⟨p, rfl, _, rfl, hg.isG hbn (sucs_len _) h1 h2, hg.lp⟩, hb⟩
theorem at_ext {a b : List Bool} (hl : a.length = b.length) (h : ∀ k, k < a.length → at_ a k = at_ b k) : a = b := by
  refine List.ext_getElem hl fun k h1 h2 => ?_
  have := h k h1
  unfold at_ at this
  rw [List.getD_eq_getElem?_getD, List.getD_eq_getElem?_getD, List.getElem?_eq_getElem h1, List.getElem?_eq_getElem h2] at this
  exact this
end Go.Proofs.Ytojfbcfbnadboaa.Gra
