/- Packed texts of one proof. Conditions: none. -/
import Derived.Test.YtbpichjmkllfaaaGreatDoorPq37
namespace Go.Proofs.YtbpichjmkllfaaaGreatDoor.Par
open Go.ChangeShapes Go.WideShapes Go.RowKit
open Lex (Tok tcl tkv tk tc)
set_option linter.unusedVariables false
set_option maxRecDepth 20000
section
variable {w : World} {p : Nat} {A : Option Addr} {n cp : Nat} {ts : List Tok} {s : St}
theorem argsN_step {M m : Nat} {acc : List Opn} (h : m < M) (l : List Tok) : argsN (M - m) acc l = (if acc = [] then .ok () l else must [44] l).bind fun _ l => (operand l).bind fun a l => argsN (M - (m + 1)) (acc ++ [a]) l := by
 obtain ⟨j, hj⟩ : ∃ j, M - m = j + 1 := ⟨M - m - 1, by omega⟩
 have hj2 : M - (m + 1) = j := by omega
 rw [hj, hj2]
 rfl
theorem plus_small {m m1 : Nat} (h1 : m + 1 = m1) (h : m ≤ 1000) : (m : Int) + 1 = (m1 : Int) ∧ wrap64 ((m : Int) + 1) = (m1 : Int) ∧ wrap64 (m1 : Int) = (m1 : Int) := by
 have q1 : (m : Int) + 1 = (m1 : Int) := by omega
 refine ⟨q1, by rw [q1]; unfold wrap64; omega, by unfold wrap64; omega⟩
theorem RsD.grown {W W' : World} {op dk dc dn dt : Int} {B : Option Addr} {an ac : Nat} {nm : ByteArray} {off : Int} {L : Option Addr} {ln lc : Nat} {C : Option Addr} {cn cc : Nat} {row : Option Nat} (h : RsD w W p A n cp ts s op dk dc dn dt B an ac nm off L ln lc C cn cc)
  (hg : W.grownBy W' row) (hr : ∀ k, row = some k → w.heap.size + 1 ≤ k) (hn : ∀ k, row = some k → k ≠ w.heap.size + 1) : RsD w W' p A n cp ts s op dk dc dn dt B an ac nm off L ln lc C cn cc := by
 obtain ⟨s0, h0⟩ := h.old
 have hi := h.hi
 have hb : Below w.heap.size W W' := (Below.refl w.heap.size W).grown hg (by omega) (fun k e => by have := hr k e; omega)
 have hb2 : Below (w.heap.size + 2) W W' := (Below.refl (w.heap.size + 2) W).grown hg (by omega) (fun k e => by have := hr k e; have := hn k e; omega)
 exact ⟨h.step.trans (Step.of hb), h.rd.keep h0 (below_agree hb), by rw [hb2.block _ (by omega)]; exact h.ib, by rw [hb2.block _ (by omega)]; exact h.z, s0, h0⟩
structure RsQ (w W : World) (p : Nat) (A : Option Addr) (n cp : Nat) (ts : List Tok) (s : St) (O dk dc dn dt off : Int) (acc : List Opn) (ls : List ByteArray) (cs : List Int) (B : Option Addr) (m c : Nat) (L : Option Addr) (ln lc : Nat) (C : Option Addr) (cn cc : Nat) : Prop where
 r : RsD w W p A n cp ts s O dk dc dn dt B m c ⟨#[]⟩ off L ln lc C cn cc
 oa : OwnL 64 4 Opn.cs (w.heap.size + 1) W B c acc
 ol : OwnL 9 1 strC (w.heap.size + 1) W L lc ls
 oc : OwnL 3 1 intC (w.heap.size + 1) W C cc cs
 la : acc.length = m
 ll : ls.length = ln
 lk : cs.length = cn
section
variable {W W' : World} {s' : St} {O dk dc dn dt off : Int} {acc : List Opn} {ls : List ByteArray} {cs : List Int} {B : Option Addr} {m c : Nat} {L : Option Addr} {ln lc : Nat} {C : Option Addr} {cn cc : Nat} {g c' : Nat}
theorem RsQ.call (h : RsQ w W p A n cp ts s O dk dc dn dt off acc ls cs B m c L ln lc C cn cc) (hs : Step W.heap.size p W W') (hr : Rd W' p A n cp ts s') : RsQ w W' p A n cp ts s' O dk dc dn dt off acc ls cs B m c L ln lc C cn cc := by
 have hp := h.r.plt
 exact ⟨h.r.call hs hr, h.oa.step hs (by omega), h.ol.step hs (by omega), h.oc.step hs (by omega), h.la, h.ll, h.lk⟩
theorem RsQ.below (h : RsQ w W p A n cp ts s O dk dc dn dt off acc ls cs B m c L ln lc C cn cc) (hb : Below W.heap.size W W') : RsQ w W' p A n cp ts s O dk dc dn dt off acc ls cs B m c L ln lc C cn cc := h.call (Step.of hb) (h.r.rd.below hb)
theorem RsQ.setO (h : RsQ w W p A n cp ts s O dk dc dn dt off acc ls cs B m c L ln lc C cn cc) (x : Int) : RsQ w (W.setCell ⟨w.heap.size, 7, none⟩ (.int .i64 x)) p A n cp ts s O dk dc dn dt x acc ls cs B m c L ln lc C cn cc :=
 ⟨h.r.setO x, own_put h.oa (Nat.lt_succ_self _), own_put h.ol (Nat.lt_succ_self _), own_put h.oc (Nat.lt_succ_self _), h.la, h.ll, h.lk⟩
theorem own_away {α : Type} {T : TypeId} {sz : Nat} {f : α → List Value} {X : Option Addr} {xc xn : Nat} {l : List α} (h : RsQ w W p A n cp ts s O dk dc dn dt off acc ls cs B m c L ln lc C cn cc) (ho : OwnL T sz f (w.heap.size + 1) W X xc l) (hl : l.length = xn) (hT : T ≠ 67) :
  (∀ k, Value.ownBlock (.slice X xn xc) = some k → w.heap.size + 1 ≤ k) ∧ ∀ k, Value.ownBlock (.slice X xn xc) = some k → k ≠ w.heap.size + 1 := by
 subst hl
 refine ⟨fun k hk => (ho.lo k hk).1, fun k hk e => ?_⟩
 obtain ⟨cur, hc⟩ := own_type ho hk
 rw [e, h.r.z] at hc
 injection hc with hc
 injection hc with _ hc
 exact hT hc.symm
theorem own_keep {α β : Type} {T T' : TypeId} {sz sz' : Nat} {f : α → List Value} {f' : β → List Value} {N N' : Nat} {X X' : Option Addr} {xc xc' xn : Nat} {l : List α} {l' : List β} (h : OwnL T sz f N W X xc l) (h' : OwnL T' sz' f' N' W X' xc' l') (hl : l'.length = xn) (hT : T ≠ T') (hg : W.grownBy W' (Value.ownBlock (.slice X' xn xc'))) : OwnL T sz f N W' X xc l := by
 subst hl
 exact own_other h hg fun k e => own_apart h h' hT e
theorem RsQ.midA (h : RsQ w W p A n cp ts s O dk dc dn dt off acc ls cs B m c L ln lc C cn cc) (hg : W.grownBy W' (Value.ownBlock (.slice B m c))) : RsD w W' p A n cp ts s O dk dc dn dt B m c ⟨#[]⟩ off L ln lc C cn cc :=
 h.r.grown hg (own_away h h.oa h.la (by decide)).1 (own_away h h.oa h.la (by decide)).2
theorem RsQ.midL (h : RsQ w W p A n cp ts s O dk dc dn dt off acc ls cs B m c L ln lc C cn cc) (hg : W.grownBy W' (Value.ownBlock (.slice L ln lc))) : RsD w W' p A n cp ts s O dk dc dn dt B m c ⟨#[]⟩ off L ln lc C cn cc :=
 h.r.grown hg (own_away h h.ol h.ll (by decide)).1 (own_away h h.ol h.ll (by decide)).2
theorem RsQ.midC (h : RsQ w W p A n cp ts s O dk dc dn dt off acc ls cs B m c L ln lc C cn cc) (hg : W.grownBy W' (Value.ownBlock (.slice C cn cc))) : RsD w W' p A n cp ts s O dk dc dn dt B m c ⟨#[]⟩ off L ln lc C cn cc :=
 h.r.grown hg (own_away h h.oc h.lk (by decide)).1 (own_away h h.oc h.lk (by decide)).2
theorem RsQ.goA {x : Opn} (h : RsQ w W p A n cp ts s O dk dc dn dt off acc ls cs B m c L ln lc C cn cc) (hg : W.grownBy W' (Value.ownBlock (.slice B m c))) (ho : OwnL 64 4 Opn.cs (w.heap.size + 1) W' (some ⟨g, 0, none⟩) c' (acc ++ [x])) :
  RsQ w (W'.setCell ⟨w.heap.size, 5, none⟩ (.slice (some ⟨g, 0, none⟩) (m + 1) c')) p A n cp ts s O dk dc dn dt off (acc ++ [x]) ls cs (some ⟨g, 0, none⟩) (m + 1) c' L ln lc C cn cc :=
 ⟨(h.midA hg).setA _ _ _, own_put ho (Nat.lt_succ_self _), own_put (own_keep h.ol h.oa h.la (by decide) hg) (Nat.lt_succ_self _), own_put (own_keep h.oc h.oa h.la (by decide) hg) (Nat.lt_succ_self _), by rw [List.length_append, h.la]; rfl, h.ll, h.lk⟩
theorem RsQ.goL {x : ByteArray} (h : RsQ w W p A n cp ts s O dk dc dn dt off acc ls cs B m c L ln lc C cn cc) (hg : W.grownBy W' (Value.ownBlock (.slice L ln lc))) (ho : OwnL 9 1 strC (w.heap.size + 1) W' (some ⟨g, 0, none⟩) c' (ls ++ [x])) :
  RsQ w (W'.setCell ⟨w.heap.size, 8, none⟩ (.slice (some ⟨g, 0, none⟩) (ln + 1) c')) p A n cp ts s O dk dc dn dt off acc (ls ++ [x]) cs B m c (some ⟨g, 0, none⟩) (ln + 1) c' C cn cc :=
 ⟨(h.midL hg).setL _ _ _, own_put (own_keep h.oa h.ol h.ll (by decide) hg) (Nat.lt_succ_self _), own_put ho (Nat.lt_succ_self _), own_put (own_keep h.oc h.ol h.ll (by decide) hg) (Nat.lt_succ_self _), h.la, by rw [List.length_append, h.ll]; rfl, h.lk⟩
theorem RsQ.goC {x : Int} (h : RsQ w W p A n cp ts s O dk dc dn dt off acc ls cs B m c L ln lc C cn cc) (hg : W.grownBy W' (Value.ownBlock (.slice C cn cc))) (ho : OwnL 3 1 intC (w.heap.size + 1) W' (some ⟨g, 0, none⟩) c' (cs ++ [x])) :
  RsQ w (W'.setCell ⟨w.heap.size, 9, none⟩ (.slice (some ⟨g, 0, none⟩) (cn + 1) c')) p A n cp ts s O dk dc dn dt off acc ls (cs ++ [x]) B m c L ln lc (some ⟨g, 0, none⟩) (cn + 1) c' :=
 ⟨(h.midC hg).setC _ _ _, own_put (own_keep h.oa h.oc h.lk (by decide) hg) (Nat.lt_succ_self _), own_put (own_keep h.ol h.oc h.lk (by decide) hg) (Nat.lt_succ_self _), own_put ho (Nat.lt_succ_self _), h.la, h.ll, by rw [List.length_append, h.lk]; rfl⟩
theorem RsQ.fin {o : Nat} (hO : (o : Int) = O) (h : RsQ w W p A n cp ts s' O dk dc dn dt off acc ls cs B m c L ln lc C cn cc) (ht : Tr ts (rest o) s s' ⟨acc, ⟨#[]⟩, off, ls, cs⟩) :
  (ten W (w.heap.size + 1) (.int .i64 O) (.int .i64 dk) (.int .i64 dc) (.int .i64 dn) (.int .i64 dt) (.slice B m c) (.string ⟨#[]⟩) (.int .i64 off) (.slice L ln lc) (.slice C cn cc)).heap[w.heap.size + 1]? = some (.cells (ic O dk dc dn dt B m c ⟨#[]⟩ off L ln lc C cn cc) 67 (0, 0)) ∧
  DRest w p A n cp ts s o ⟨dk, dc, dn, dt⟩ (.returned (.agg (ic O dk dc dn dt B m c ⟨#[]⟩ off L ln lc C cn cc))) (ten W (w.heap.size + 1) (.int .i64 O) (.int .i64 dk) (.int .i64 dc) (.int .i64 dn) (.int .i64 dt) (.slice B m c) (.string ⟨#[]⟩) (.int .i64 off) (.slice L ln lc) (.slice C cn cc)) := by
 obtain ⟨r, oa, ol, oc, rfl, rfl, rfl⟩ := h
 subst hO
 exact RsD.fin (o := o) (d := ⟨dk, dc, dn, dt⟩) (x := ⟨acc, ⟨#[]⟩, off, ls, cs⟩) r oa ol oc ht
end
def rk (o : Nat) (acc : List Opn) (off : Int) (l : List Tok) : Res Has :=
 if o = 20 then (label l).bind fun u l => .ok ⟨acc, ⟨#[]⟩, off, [⟨u.toArray⟩], []⟩ l
 else if o = 21 then (must [44] l).bind fun _ l => (label l).bind fun u l => (must [44] l).bind fun _ l => (label l).bind fun v l => .ok ⟨acc, ⟨#[]⟩, off, [⟨u.toArray⟩, ⟨v.toArray⟩], []⟩ l
 else if o = 22 then (must [91] l).bind fun _ l => (cases [] [] l).bind fun x l => .ok ⟨acc, ⟨#[]⟩, off, x.2, x.1⟩ l
 else .ok ⟨acc, ⟨#[]⟩, off, [], []⟩ l
def rj (o : Nat) (acc : List Opn) (l : List Tok) : Res Has := if ((decide (o = 17) || decide (o = 18)) && isB l [43]) = true then (value l.tail).bind fun n l => rk o acc n l else rk o acc 0 l
theorem rk_else {o : Nat} (h20 : o ≠ 20) (h21 : o ≠ 21) (h22 : o ≠ 22) (acc : List Opn) (off : Int) (l : List Tok) : rk o acc off l = .ok ⟨acc, ⟨#[]⟩, off, [], []⟩ l := by
 unfold rk
 rw [if_neg h20, if_neg h21, if_neg h22]
theorem rest_rj {o : Nat} (h19 : o ≠ 19) (l : List Tok) : rest o l = (argsN (Opr.many (o : Int)) [] l).bind fun acc l => rj o acc l := by
 unfold rest
 rw [if_neg h19]
 refine congrArg _ (funext fun a => funext fun l => ?_)
 unfold rj
 by_cases h : o = 17 ∨ o = 18
 ·have hd : (decide (o = 17) || decide (o = 18)) = true := by simpa using h
  rw [if_pos h, hd, Bool.true_and]
  simp only [rk_else (show o ≠ 20 by omega) (show o ≠ 21 by omega) (show o ≠ 22 by omega)]
 ·have hd : (decide (o = 17) || decide (o = 18)) = false := by simpa using h
  rw [if_neg h, hd, Bool.false_and, if_neg Bool.false_ne_true]
  rfl
def swT (cs : List Int) (ls : List ByteArray) (l : List Tok) : Res (List Int × List ByteArray) := (must elseL l).bind fun _ l => (must [58] l).bind fun _ l => (label l).bind fun s l => (must [93] l).bind fun _ l => .ok (cs, ls ++ [⟨s.toArray⟩]) l
theorem cases_more {s0 s1 sa sb sc sd : St} {cs : List Int} {ls : List ByteArray} {v : Int} {y : List UInt8} (h : Via ts (cases [] []) (cases cs ls) s0 s1) (he : isB (ts.drop s1.at_) elseL = false) (ha : Tr ts value s1 sa v) (hb : Tr ts (must [58]) sa sb ()) (hc : Tr ts label sb sc y) (hd : Tr ts (must [44]) sc sd ()) :
  Tr ts case1 s1 sd (v, y) ∧ Via ts (cases [] []) (cases (cs ++ [v]) (ls ++ [⟨y.toArray⟩])) s0 sd := by
 have h1 : Tr ts case1 s1 sd (v, y) := Via.tr (Tr.next ha) (Via.tr (Tr.next hb) (Via.tr (Tr.next hc) (Tr.map hd fun _ => (v, y))))
 refine ⟨h1, h.trans ((via_eq (k := fun l => (case1 l).bind fun x r => cases (cs ++ [x.1]) (ls ++ [⟨x.2.toArray⟩]) r) fun _ => ?_).trans (Tr.next h1))⟩
 rw [cases_eq, he]
 rfl
theorem cases_end {s0 s1 : St} {cs : List Int} {ls : List ByteArray} (h : Via ts (cases [] []) (cases cs ls) s0 s1) (hd : s1.code ≠ 0 ∨ isB (ts.drop s1.at_) elseL = true) : Via ts (cases [] []) (swT cs ls) s0 s1 := by
 rcases hd with hd | hd
 ·exact h.stuck hd
 ·refine h.trans (via_eq fun _ => ?_)
  rw [cases_eq, if_pos hd]
  unfold swT
  rw [must_yes hd]
  rfl
set_option maxHeartbeats 4000000 in
theorem drest_any {o : Nat} (h1 : 1 ≤ o) (h2 : o ≤ 27) (h19 : o ≠ 19) (hS : ∀ t ∈ ts, t.text.length ≤ 70000) (d : Opn) (h : Rd w p A n cp ts s) : Calls Tryz.prog 126 #[.pointer (some ⟨p, 0, none⟩), insB o d] w (DRest w p A n cp ts s o d) := by
 obtain ⟨dk, dc, dn, dt⟩ := d
 obtain ⟨k, hk⟩ : ∃ k, k + 1 = o := ⟨o - 1, by omega⟩
 obtain ⟨O, hO⟩ : ∃ O : Int, (o : Int) = O := ⟨_, rfl⟩
 obtain ⟨M, hM⟩ : ∃ M, (Opr.tab.getD k Opr.rw0).ar.length = M := ⟨_, rfl⟩
 have hMm : Opr.many (o : Int) = M := by
  unfold Opr.many
  rw [← hk, ← hM]
  have := Opr.rowOf_op k (by omega)
  rw [show ((k + 1 : Nat) : Int) = (k : Int) + 1 by omega, this]
 have hM3 : M ≤ 1000 := by rw [← hMm]; exact many_le ⟨o, by omega⟩
 have q19 : (O == 19) = false := by rw [Bqf]; omega
 have qk : O - 1 = (k : Int) := by omega
 have qw : wrap64 (O - 1) = (k : Int) := by rw [qk]; unfold wrap64; omega
 have qv : wrap64 (k : Int) = (k : Int) := by unfold wrap64; omega
 have qi : IntKind.i64.wrap (k : Int) = (k : Int) := IntWalk.i64_in _ ⟨by omega, by omega⟩
 have k0 : (0 : Int) ≤ (k : Int) := by omega
 have k1 : (k : Int) < 27 := by omega
 obtain ⟨w0, hw0⟩ : ∃ w0, w.alloc (.cells (ic O dk dc dn dt none 0 0 ⟨#[]⟩ 0 none 0 0 none 0 0) 67) = w0 := ⟨_, rfl⟩
 obtain ⟨w1, hw1⟩ : ∃ w1, w0.alloc (.cells icZ 67) = w1 := ⟨_, rfl⟩
 have R1 := Hh (RsD.start h hw0 hw1)
 have hsz : w0.heap.size = w.heap.size + 1 := by rw [← hw0]; simp
 have HW := Hh (Ai hw0 (Ai hw1 hsz))
 have HK := Hh (Ai hM3 (Ai (show k < 27 by omega) hM))
 have HS := Hh hS
 have HO : Hid ((o : Int) = O ∧ ∀ s1 acc, Tr ts (argsN M []) s s1 acc → Via ts (rest o) (rj o acc) s s1) := Hh ⟨hO, fun s1 acc ht => (via_eq (k := fun l => (argsN M [] l).bind fun acc l => rj o acc l) fun _ => by rw [rest_rj h19, hMm]).trans (Tr.next ht)⟩
 obtain ⟨⟨c0, c5, c6, c7, c8, c9⟩, _, f5, f6, f7, f8, f9⟩ := box10 R1.out.ib
 unfold insB
 dsimp only
 rw [hO]
 clear h hw0 hw1 hsz hO hM hMm hM3 h1 h2 h19 hk hS
 go_enter Tryz.func126, Tryz.ntmps126
 have e0 := HW.out.1
 have e1 := HW.out.2.1
 have e2 := HW.out.2.2
 unfold ic at e0
 unfold icZ at e1
 go_wp2_with fail
 try rw [e0]
 try rw [e1]
 try rw [e2]
 clear e0 e1 e2 c0 c5 c6 c7 c8 c9 f5 f6 f7 f8 f9
 obtain ⟨wd, hwd⟩ : ∃ wd, w1.drew = wd := ⟨_, rfl⟩
 have bd : Below w1.heap.size w1 wd := hwd ▸ (Below.refl w1.heap.size w1).drew
 have c0' := R1.out.ib
 obtain ⟨⟨c0, _⟩, _⟩ := box10 c0'
 clear c0'
 refine wp_region_held_drew (S := fun W => W.cell? ⟨w.heap.size, 0, none⟩ = some (.int .i64 O)) (by kernel_rfl) c0 (fun hHeld => ?_)
 try rw [hwd]
 try rw [hwd] at hHeld
 have Rd := Hh (R1.out.below bd)
 clear hwd bd c0
 refine wpAnyH_take (i := 1) (v := .pointer (some ⟨w.heap.size, 0, none⟩)) rfl (by kernel_rfl) (by kernel_rfl) (by kernel_rfl) (fun _ _ _ h => h) (Or.inl ⟨by rfl, by intro W hSw; (try dsimp only at hSw); go_simp; try with_reducible rfl⟩) (by assumption) ?_
 try simp only [Act.put, Lzs]
 refine wpAnyH_take (i := 2) (v := .int .i64 O) rfl (by kernel_rfl) (by kernel_rfl) (by kernel_rfl) (fun _ _ _ h => h) (Or.inl ⟨by rfl, by intro W hSw; (try dsimp only at hSw); go_simp; try with_reducible rfl⟩) (by assumption) ?_
 try simp only [Act.put]
 refine wpAnyH_take (i := 3) (v := .int .i64 (k : Int)) rfl (by kernel_rfl) (by kernel_rfl) (by kernel_rfl) (fun _ _ _ h => h) (Or.inl ⟨by rfl, by intro W hSw; (try dsimp only at hSw); go_simp; try with_reducible rfl⟩) (by assumption) ?_
 try simp only [Act.put]
 refine wpAnyH_ready (rs := [0]) (by kernel_rfl) (by simp) ?_
 refine AllReadyH.cons rfl (fun K hK => ?_) AllReadyH.nil
 go_simp
 refine Calls.mono (Opr.all_v _) ?_
 rintro e w2 ⟨g, c, l, rfl, htb⟩
 have R2 := Hh (Rd.out.below htb.below)
 obtain ⟨AA, _, _, _, x2, _⟩ := htb.at k HK.out.2.1
 rw [HK.out.2.2] at x2
 obtain ⟨⟨y0, _⟩, _⟩ := box10 R2.out.ib
 clear htb
 go_simp
 refine hK.out _ _ y0 (fun hHeld => ?_)
 clear hK K
 try simp only [Act.put, Lzs, Lz0, Lz1]
 refine wpAnyH_ready (rs := [4]) (by kernel_rfl) (by simp) ?_
 refine AllReadyH.cons rfl (fun K hK => ?_) AllReadyH.nil
 go_simp
 refine hK.out _ _ y0 (fun hHeld => ?_)
 clear hK K
 try simp only [Act.put, Lzs, Lz0, Lz1]
 refine wpAnyH_ready (rs := [5]) (by kernel_rfl) (by simp) ?_
 refine AllReadyH.cons rfl (fun K hK => ?_) AllReadyH.nil
 go_simp
 refine hK.out _ _ y0 (fun hHeld => ?_)
 clear hK K
 try simp only [Act.put, Lzs, Lz0, Lz1]
 refine wpAnyH_ready (rs := [6]) (by kernel_rfl) (by simp) ?_
 refine AllReadyH.cons rfl (fun K hK => ?_) AllReadyH.nil
 go_simp
 refine hK.out _ _ y0 (fun hHeld => ?_)
 clear hK K
 try simp only [Act.put, Lzs, Lz0, Lz1]
 refine wpAnyH_ready (rs := [7]) (by kernel_rfl) (by simp) ?_
 refine AllReadyH.cons rfl (fun K hK => ?_) AllReadyH.nil
 go_simp
 refine hK.out _ _ y0 (fun hHeld => ?_)
 clear hK K
 try simp only [Act.put, Lzs, Lz0, Lz1]
 refine wpAnyH_ready (rs := [8]) (by kernel_rfl) (by simp) ?_
 refine AllReadyH.cons rfl (fun K hK => ?_) AllReadyH.nil
 go_simp
 refine hK.out _ _ y0 (fun hHeld => ?_)
 clear hK K
 try simp only [Act.put, Lzs, Lz0, Lz1]
 refine wpAnyH_done (by kernel_rfl) ?_ _
 clear y0 x2 k0 k1
 go_step
 go_step
 go_step
 go_cut [] from 7 (fun wc => ∃ (s1 : St) (acc : List Opn) (B : Option Addr) (m c : Nat), Hid (RsQ w wc p A n cp ts s1 O dk dc dn dt 0 acc [] [] B m c none 0 0 none 0 0 ∧ Tr ts (argsN M []) s s1 acc))
 case first =>
  go_wp2_with fail
  go_loopg [6] M (fun gk v wr => ∃ (s1 : St) (acc : List Opn) (B : Option Addr) (m c : Nat), gk = M - m ∧ v = .int .i64 (m : Int) ∧ Hid (m ≤ M ∧ RsQ w wr p A n cp ts s1 O dk dc dn dt 0 acc [] [] B m c none 0 0 none 0 0 ∧ Via ts (argsN M []) (argsN (M - m) acc) s s1))
  case atStart => exact ⟨s, [], none, 0, 0, rfl, rfl, Nat.zero_le _, ⟨R2.out, OwnL.nil, OwnL.nil, OwnL.nil, rfl, rfl, rfl⟩, Via.refl⟩
  case round =>
   obtain ⟨s1, acc, B, m, c, hk, rfl, RI⟩ := hrel
   by_cases hmM : m < M
   ·have i1 : (m : Int) < (M : Int) := by omega
    have HM := Hh (Ai hk (show m + 1 ≤ M from hmM))
    have HM3 : Hid (m ≤ 1000) := Hh (by have := HK.out.1; omega)
    have HLna : Hid (m ≤ 2000000) := Hh (by have := HM3.out; omega)
    by_cases hc : s1.code = 0
    ·have hcb : (s1.code == 0) = true := by rw [hc]; rfl
     have HC := Hh (Ai hc hcb)
     clear hc hcb hk
     go_wp2_with fail
     refine (rok_v true HC.out.2 RI.out.2.1.r.rd).mono ?_
     rintro e w3 ⟨rfl, rfl⟩
     have HV0 : Hid (Via ts (argsN M []) (fun l => (if acc = [] then .ok () l else must [44] l).bind fun _ l => (operand l).bind fun a l => argsN (M - (m + 1)) (acc ++ [a]) l) s s1) := Hh (RI.out.2.2.trans (via_eq fun _ => argsN_step hmM _))
     clear hmM i1
     go_upto_if 38 with fail
     go_cut [] from 37 to 47 (fun wc => ∃ s4, Hid (RsQ w wc p A n cp ts s4 O dk dc dn dt 0 acc [] [] B m c none 0 0 none 0 0 ∧ Via ts (argsN M []) (fun l => (operand l).bind fun a l => argsN (M - (m + 1)) (acc ++ [a]) l) s s4))
     case first =>
      by_cases h0 : m = 0
      ·have i2 : ¬ (0 : Int) < (m : Int) := by omega
       have hac : acc = [] := List.length_eq_zero_iff.1 (by rw [RI.out.2.1.la]; exact h0)
       have HV : Hid (Via ts (argsN M []) (fun l => (operand l).bind fun a l => argsN (M - (m + 1)) (acc ++ [a]) l) s s1) := Hh (HV0.out.trans (via_eq fun _ => by rw [if_pos hac]; rfl))
       clear h0 hac
       go_wp2_with fail
       go_meet
       case rel => exact ⟨s1, Hh ⟨RI.out.2.1, HV.out⟩⟩
      ·have i2 : (0 : Int) < (m : Int) := by omega
       have hac : acc ≠ [] := fun e => h0 (by rw [← RI.out.2.1.la, e]; rfl)
       have HV1 : Hid (Via ts (argsN M []) (fun l => (must [44] l).bind fun _ l => (operand l).bind fun a l => argsN (M - (m + 1)) (acc ++ [a]) l) s s1) := Hh (HV0.out.trans (via_eq fun _ => by rw [if_neg hac]))
       clear h0 hac
       go_wp2_with fail
       refine (rmust_v ⟨#[44]⟩ RI.out.2.1.r.rd).mono ?_
       rintro e w4 ⟨s4, rfl, hs4, hr4, htr4⟩
       have RR := Hh (RI.out.2.1.call hs4 hr4)
       have HV := Hh (HV1.out.trans (Tr.next htr4))
       clear hs4 hr4 htr4
       go_wp2_with fail
       go_meet
       case rel => exact ⟨s4, Hh ⟨RR.out, HV.out⟩⟩
     obtain ⟨s4, RG⟩ := hcut
     have RR := Hh RG.out.1
     have HV := Hh RG.out.2
     clear RG HV0
     go_wp2_with fail
     have bd := (Below.refl wc.heap.size wc).drew
     obtain ⟨wda, hwd⟩ : ∃ wd, wc.drew = wd := ⟨_, rfl⟩
     rw [hwd] at bd
     have Rqa := Hh (RR.out.below bd)
     obtain ⟨⟨_, c8, _⟩, _⟩ := box10 Rqa.out.r.ib
     clear bd
     refine region_z 7 (fun W => W.cell? ⟨w.heap.size, 5, none⟩ = some (.slice B m c)) (by kernel_rfl) ?_
     rw [hwd]
     clear hwd
     refine anyZ_take (i := 0) (v := .pointer (some ⟨w.heap.size, 5, none⟩)) rfl (by kernel_rfl) (fun _ _ _ h => h) (Or.inl ⟨by rfl, by intro W hSw; go_simp; try with_reducible rfl⟩) c8 ?_
     try dsimp only [Act.put, Lzs, Lz0, Lz1]
     refine anyZ_take (i := 1) (v := .slice B m c) rfl (by kernel_rfl) (fun _ _ _ h => h) (Or.inl ⟨by rfl, by intro W hSw; go_simp; try with_reducible rfl⟩) c8 ?_
     try dsimp only [Act.put, Lzs, Lz0, Lz1]
     refine anyZ_take (i := 2) (v := .pointer (some ⟨p, 0, none⟩)) rfl (by kernel_rfl) (fun _ _ _ h => h) (Or.inl ⟨by rfl, by intro W hSw; go_simp; try with_reducible rfl⟩) c8 ?_
     try dsimp only [Act.put, Lzs, Lz0, Lz1]
     refine anyZ_one (i := 3) (by kernel_rfl) rfl (fun K hK => ?_)
     go_simp
     refine Calls.mono (roperand_v Rqa.out.r.rd) ?_
     rintro e w5a ⟨s5a, ya, rfl, hs5, hr5, htr5⟩
     have R5a := Hh (Rqa.out.call hs5 hr5)
     have HT5a := Hh htr5
     clear hs5 hr5 htr5
     obtain ⟨⟨_, c8, _⟩, _⟩ := box10 R5a.out.r.ib
     unfold opV
     go_simp
     refine hK.out _ _ (fun _ => c8) ?_
     clear hK K
     try dsimp only [Act.put, Lzs, Lz0, Lz1]
     refine anyZ_one (i := 4) (by kernel_rfl) rfl (fun K hK => ?_)
     obtain ⟨w6a, hw6⟩ : ∃ w6, w5a.alloc (.cells #[.int .i64 ya.k, .int .i64 ya.c, .int .i64 ya.n, .int .i64 ya.t] 64) = w6 := ⟨_, rfl⟩
     have nb := new_box w5a _ 64 hw6
     have R6a := Hh (R5a.out.below nb.1)
     have HB6a := Hh nb.2
     clear nb
     obtain ⟨⟨_, c8, _⟩, _⟩ := box10 R6a.out.r.ib
     go_simp
     try rw [hw6]
     clear hw6
     refine hK.out _ _ (fun _ => c8) ?_
     clear hK K
     try dsimp only [Act.put, Lzs, Lz0, Lz1]
     refine anyZ_one (i := 5) (by kernel_rfl) rfl (fun K hK => ?_)
     rw [if_pos (by rfl)]
     refine own_app_wp rowOp _ _ rfl R6a.out.la rfl R6a.out.oa w5a.heap.size ya rfl HB6a.out HLna.out (by have := R6a.out.r.hi; omega) ?_
     intro ga ca w7a ho hg _
     have R7a := Hh (Ai (R6a.out.midA hg) (R6a.out.goA hg ho))
     clear ho hg
     obtain ⟨⟨_, c8, _⟩, _, f8, _⟩ := box10 R7a.out.1.ib
     refine hK.out _ _ (fun _ => c8) ?_
     clear hK K
     try dsimp only [Act.put, Lzs, Lz0, Lz1]
     refine anyZ_take (i := 6) (v := .pointer (some ⟨w.heap.size, 5, none⟩)) rfl (by kernel_rfl) (fun _ _ _ h => h) (Or.inl ⟨by rfl, by intro W hSw; go_simp; try with_reducible rfl⟩) c8 ?_
     try dsimp only [Act.put, Lzs, Lz0, Lz1]
     refine anyZ_one (i := 7) (by kernel_rfl) rfl (fun K hK => ?_)
     obtain ⟨w8a, hw8⟩ : ∃ w8, w7a.setCell ⟨w.heap.size, 5, none⟩ (.slice (some ⟨ga, 0, none⟩) (m + 1) ca) = w8 := ⟨_, rfl⟩
     have R8a := Hh (hw8 ▸ R7a.out.2)
     go_simp
     try rw [hw8]
     clear hw8
     refine hK.out _ _ (fun h => absurd rfl h) ?_
     clear hK K
     try dsimp only [Act.put, Lzs, Lz0, Lz1]
     refine anyZ_done (by kernel_rfl) ?_ _
     have HV9 := Hh (HV.out.trans (Tr.next HT5a.out))
     have HM2 := HM.out.2
     have hgk := HM.out.1
     obtain ⟨m1, hm1'⟩ : ∃ m1, m + 1 = m1 := ⟨_, rfl⟩
     obtain ⟨q1, q2, q3⟩ := plus_small hm1' HM3.out
     rw [hm1'] at R8a HV9
     have HM4 := Hh (Ai hm1' (Ai HM2 hgk))
     clear HM2 hgk hm1'
     go_wp2_with fail
     go_roundg (M - m1)
     case measure => have := HM4.out.1; have := HM4.out.2.1; have := HM4.out.2.2; omega
     case rel => exact ⟨s5a, acc ++ [ya], _, m1, _, rfl, (by first | rfl | rw [q3]), by have := HM4.out.1; have := HM4.out.2.1; omega, R8a.out, HV9.out⟩
    ·have hcb : (s1.code == 0) = false := by rw [Bqf]; exact hc
     have HC := Hh (Ai hc hcb)
     have HD : Hid (Tr ts (argsN M []) s s1 acc) := Hh (RI.out.2.2.stuck hc)
     clear hc hcb hk hmM
     go_wp2_with fail
     refine (rok_v false HC.out.2 RI.out.2.1.r.rd).mono ?_
     rintro e w3 ⟨rfl, rfl⟩
     go_wp2_with fail
     go_meet
     case rel => exact ⟨s1, acc, B, m, c, Hh ⟨RI.out.2.1, HD.out⟩⟩
   ·have i1 : ¬ (m : Int) < (M : Int) := by omega
    have HD : Hid (Tr ts (argsN M []) s s1 acc) := Hh (by
     have h := RI.out.2.2
     rw [show M - m = 0 by omega] at h
     exact h)
    clear hk hmM
    go_wp2_with fail
    go_meet
    case rel => exact ⟨s1, acc, B, m, c, Hh ⟨RI.out.2.1, HD.out⟩⟩
 obtain ⟨s1, acc, B, m, c, RH⟩ := hcut
 have R3 := Hh RH.out.1
 have HV3 := Hh (HO.out.2 s1 acc RH.out.2)
 clear RH R2
 obtain ⟨v, hv⟩ : ∃ v, ((O == 17 || O == 18) && isB (ts.drop s1.at_) [43]) = v := ⟨_, rfl⟩
 have Hv := Hh hv
 clear hv
 obtain ⟨⟨c0, _⟩, _⟩ := box10 R3.out.r.ib
 go_upto_region 13 with fail
 go_cut [59] from 7 (fun s59 wc => s59 = .bool v ∧ Hid (RsQ w wc p A n cp ts s1 O dk dc dn dt 0 acc [] [] B m c none 0 0 none 0 0))
 case first =>
  by_cases hx : (O == 17 || O == 18) = true
  ·obtain ⟨bp, hbp⟩ : ∃ bp, isB (ts.drop s1.at_) [43] = bp := ⟨_, rfl⟩
   have HP := Hh hbp
   have ev : bp = v := by rw [← Hv.out, hx, hbp, Bool.true_and]
   rw [Bool.or_eq_true] at hx
   clear hbp
   by_cases e17 : (O == 17) = true
   ·clear hx
    go_wp2_with fail
    refine (rIs_v ⟨#[43]⟩ bp HP.out R3.out.r.rd).mono ?_
    rintro e w4 ⟨rfl, hb4⟩
    have R4 := Hh (R3.out.below hb4)
    clear hb4 c0
    go_wp2_with fail
    go_meet
    case rel => exact ⟨by first | rfl | rw [ev], R4⟩
   ·have e17' : (O == 17) = false := by simpa using e17
    have e18 : (O == 18) = true := hx.resolve_left e17
    clear hx e17
    go_wp2_with fail
    refine (rIs_v ⟨#[43]⟩ bp HP.out R3.out.r.rd).mono ?_
    rintro e w4 ⟨rfl, hb4⟩
    have R4 := Hh (R3.out.below hb4)
    clear hb4 c0
    go_wp2_with fail
    go_meet
    case rel => exact ⟨by first | rfl | rw [ev], R4⟩
  ·have hx' : (O == 17 || O == 18) = false := by simpa using hx
   have ev : v = false := by rw [← Hv.out, hx']; rfl
   rw [Bool.or_eq_false_iff] at hx'
   obtain ⟨e17, e18⟩ := hx'
   clear hx
   go_wp2_with fail
   go_meet
   case rel => exact ⟨by first | rfl | rw [ev], R3⟩
 obtain ⟨rfl, R4⟩ := hcut
 clear R3 c0
 go_upto_if 59 with fail
 go_cut [] from 7 (fun wc => ∃ (s2 : St) (off : Int), Hid (RsQ w wc p A n cp ts s2 O dk dc dn dt off acc [] [] B m c none 0 0 none 0 0 ∧ Via ts (rest o) (rk o acc off) s s2))
 case first =>
  have HW2 : Hid ((O == 17 || O == 18) = (decide (o = 17) || decide (o = 18))) := Hh (by
   rw [← HO.out.1, Bool.eq_iff_iff, Bool.or_eq_true, Bool.or_eq_true, beq_iff_eq, beq_iff_eq, decide_eq_true_iff, decide_eq_true_iff]
   omega)
  cases v with
  | false =>
   go_wp2_with fail
   go_meet
   case rel =>
    refine ⟨s1, 0, Hh ⟨R4.out, HV3.out.trans (via_eq fun _ => ?_)⟩⟩
    have := Hv.out
    rw [HW2.out] at this
    unfold rj
    rw [this]
    rfl
  | true =>
   go_wp2_with fail
   refine (rmust_v ⟨#[43]⟩ R4.out.r.rd).mono ?_
   rintro e w4p ⟨s4p, rfl, hs4, hr4, htr4⟩
   have RMp := Hh (R4.out.call hs4 hr4)
   have HM4p := Hh htr4
   clear hs4 hr4 htr4
   go_wp2_with fail
   refine (rvalue_v RMp.out.r.rd).mono ?_
   rintro e w6 ⟨s6, v, rfl, hs6, hr6, htr6⟩
   have R6 := Hh (RMp.out.call hs6 hr6)
   have HT6 := Hh htr6
   clear hs6 hr6 htr6
   obtain ⟨⟨_, _, _, c7, _⟩, _, _, _, f7, _⟩ := box10 R6.out.r.ib
   obtain ⟨w7, hw7⟩ : ∃ w7, w6.setCell ⟨w.heap.size, 7, none⟩ (.int .i64 v) = w7 := ⟨_, rfl⟩
   have R7 := Hh (hw7 ▸ R6.out.setO v)
   go_wp2_with fail
   try rw [hw7]
   go_meet
   case rel =>
    refine ⟨s6, v, Hh ⟨R7.out, ((HV3.out.trans (via_eq (k := fun l => (must [43] l).bind fun _ l => (value l).bind fun n l => rk o acc n l) fun _ => ?_)).trans (Tr.next HM4p.out)).trans (Tr.next HT6.out)⟩⟩
    have h := Hv.out
    rw [HW2.out] at h
    have h2 := h
    rw [Bool.and_eq_true] at h2
    unfold rj
    rw [if_pos h, must_yes h2.2]
    rfl
 obtain ⟨s2, off, RH⟩ := hcut
 have R5 := Hh RH.out.1
 have HV5 := Hh RH.out.2
 clear RH R4 HV3 Hv
 obtain ⟨⟨c0, _⟩, _⟩ := box10 R5.out.r.ib
 by_cases h20 : o = 20
 ·have q20 : (O == 20) = true := by rw [beq_iff_eq]; have := HO.out.1; omega
  have HV6 : Hid (Via ts (rest o) (fun l => (label l).bind fun u l => .ok (⟨acc, ⟨#[]⟩, off, [⟨u.toArray⟩], []⟩ : Has) l) s s2) := Hh (HV5.out.trans (via_eq fun _ => by unfold rk; rw [if_pos h20]))
  have HLnb : Hid (0 ≤ 2000000) := Hh (by omega)
  clear h20
  go_wp2_with fail
  clear c0
  have bd := (Below.refl wc.heap.size wc).drew
  obtain ⟨wdb, hwd⟩ : ∃ wd, wc.drew = wd := ⟨_, rfl⟩
  rw [hwd] at bd
  have Rqb := Hh (R5.out.below bd)
  obtain ⟨⟨_, _, _, _, c8, _⟩, _⟩ := box10 Rqb.out.r.ib
  clear bd
  refine region_z 7 (fun W => W.cell? ⟨w.heap.size, 8, none⟩ = some (.slice none 0 0)) (by kernel_rfl) ?_
  rw [hwd]
  clear hwd
  refine anyZ_take (i := 0) (v := .pointer (some ⟨w.heap.size, 8, none⟩)) rfl (by kernel_rfl) (fun _ _ _ h => h) (Or.inl ⟨by rfl, by intro W hSw; go_simp; try with_reducible rfl⟩) c8 ?_
  try dsimp only [Act.put, Lzs, Lz0, Lz1]
  refine anyZ_take (i := 1) (v := .slice none 0 0) rfl (by kernel_rfl) (fun _ _ _ h => h) (Or.inl ⟨by rfl, by intro W hSw; go_simp; try with_reducible rfl⟩) c8 ?_
  try dsimp only [Act.put, Lzs, Lz0, Lz1]
  refine anyZ_take (i := 2) (v := .pointer (some ⟨p, 0, none⟩)) rfl (by kernel_rfl) (fun _ _ _ h => h) (Or.inl ⟨by rfl, by intro W hSw; go_simp; try with_reducible rfl⟩) c8 ?_
  try dsimp only [Act.put, Lzs, Lz0, Lz1]
  refine anyZ_one (i := 3) (by kernel_rfl) rfl (fun K hK => ?_)
  go_simp
  refine Calls.mono (rlabel_v HS.out Rqb.out.r.rd) ?_
  rintro e w5b ⟨s5b, yb, rfl, hs5, hr5, htr5⟩
  have R5b := Hh (Rqb.out.call hs5 hr5)
  have HT5b := Hh htr5
  clear hs5 hr5 htr5
  obtain ⟨⟨_, _, _, _, c8, _⟩, _⟩ := box10 R5b.out.r.ib
  go_simp
  refine hK.out _ _ (fun _ => c8) ?_
  clear hK K
  try dsimp only [Act.put, Lzs, Lz0, Lz1]
  refine anyZ_one (i := 4) (by kernel_rfl) rfl (fun K hK => ?_)
  obtain ⟨w6b, hw6⟩ : ∃ w6, w5b.alloc (.cells #[.string ⟨yb.toArray⟩] 9) = w6 := ⟨_, rfl⟩
  have nb := new_box w5b _ 9 hw6
  have R6b := Hh (R5b.out.below nb.1)
  have HB6b := Hh nb.2
  clear nb
  obtain ⟨⟨_, _, _, _, c8, _⟩, _⟩ := box10 R6b.out.r.ib
  go_simp
  try rw [hw6]
  clear hw6
  refine hK.out _ _ (fun _ => c8) ?_
  clear hK K
  try dsimp only [Act.put, Lzs, Lz0, Lz1]
  refine anyZ_one (i := 5) (by kernel_rfl) rfl (fun K hK => ?_)
  rw [if_pos (by rfl)]
  refine own_app_wp rowStr _ _ rfl R6b.out.ll rfl R6b.out.ol w5b.heap.size (⟨yb.toArray⟩ : ByteArray) rfl HB6b.out HLnb.out (by have := R6b.out.r.hi; omega) ?_
  intro gb cb w7b ho hg _
  have R7b := Hh (Ai (R6b.out.midL hg) (R6b.out.goL hg ho))
  clear ho hg
  obtain ⟨⟨_, _, _, _, c8, _⟩, _, _, _, _, f8, _⟩ := box10 R7b.out.1.ib
  refine hK.out _ _ (fun _ => c8) ?_
  clear hK K
  try dsimp only [Act.put, Lzs, Lz0, Lz1]
  refine anyZ_take (i := 6) (v := .pointer (some ⟨w.heap.size, 8, none⟩)) rfl (by kernel_rfl) (fun _ _ _ h => h) (Or.inl ⟨by rfl, by intro W hSw; go_simp; try with_reducible rfl⟩) c8 ?_
  try dsimp only [Act.put, Lzs, Lz0, Lz1]
  refine anyZ_one (i := 7) (by kernel_rfl) rfl (fun K hK => ?_)
  obtain ⟨w8b, hw8⟩ : ∃ w8, w7b.setCell ⟨w.heap.size, 8, none⟩ (.slice (some ⟨gb, 0, none⟩) (0 + 1) cb) = w8 := ⟨_, rfl⟩
  have R8b := Hh (hw8 ▸ R7b.out.2)
  go_simp
  try rw [hw8]
  clear hw8
  refine hK.out _ _ (fun h => absurd rfl h) ?_
  clear hK K
  try dsimp only [Act.put, Lzs, Lz0, Lz1]
  refine anyZ_done (by kernel_rfl) ?_ _
  have ht : Tr ts (rest o) s s5b ⟨acc, ⟨#[]⟩, off, [⟨yb.toArray⟩], []⟩ := HV6.out.tr (Tr.map HT5b.out fun u => (⟨acc, ⟨#[]⟩, off, [⟨u.toArray⟩], []⟩ : Has))
  have HF := R8b.out.fin HO.out.1 ht
  clear ht
  have HFF := Hh HF
  clear HF
  have R9e := R8b.out.r.ib
  unfold ic at R9e
  obtain ⟨d0, d1, d2, d3, d4, d5, d6, d7, d8, d9⟩ := (boxT R9e)
  have R10e := R8b.out.r.z
  unfold icZ at R10e
  obtain ⟨z0, z1, z2, z3, z4, z5, z6, z7, z8, z9⟩ := (boxT R10e)
  clear R9e R10e
  go_wp2_with fail
  refine fin_ins (fn := Tryz.f126) rfl rfl HFF.out.1 rfl ?_
  exact HFF.out.2
 have q20 : (O == 20) = false := by rw [Bqf]; have := HO.out.1; omega
 by_cases h21 : o = 21
 ·have q21 : (O == 21) = true := by rw [beq_iff_eq]; have := HO.out.1; omega
  have HV6 : Hid (Via ts (rest o) (fun l => (must [44] l).bind fun _ l => (label l).bind fun u l => (must [44] l).bind fun _ l => (label l).bind fun v l => .ok (⟨acc, ⟨#[]⟩, off, [⟨u.toArray⟩, ⟨v.toArray⟩], []⟩ : Has) l) s s2) := Hh (HV5.out.trans (via_eq fun _ => by unfold rk; rw [if_neg h20, if_pos h21]))
  have HLnb : Hid (0 ≤ 2000000) := Hh (by omega)
  clear h20 h21
  go_wp2_with fail
  clear c0
  refine (rmust_v ⟨#[44]⟩ R5.out.r.rd).mono ?_
  rintro e w4m ⟨s4m, rfl, hs4, hr4, htr4⟩
  have RMm := Hh (R5.out.call hs4 hr4)
  have HM4m := Hh htr4
  clear hs4 hr4 htr4
  have HV7 := Hh (HV6.out.trans (Tr.next HM4m.out))
  go_upto_region 21 with fail
  go_cut [] from 7 (fun wc => ∃ (s3 : St) (u : List UInt8) (L : Option Addr) (ln lc : Nat), Hid (RsQ w wc p A n cp ts s3 O dk dc dn dt off acc [⟨u.toArray⟩] [] B m c L ln lc none 0 0 ∧ Via ts (rest o) (fun l => (must [44] l).bind fun _ l => (label l).bind fun v l => .ok (⟨acc, ⟨#[]⟩, off, [⟨u.toArray⟩, ⟨v.toArray⟩], []⟩ : Has) l) s s3))
  case first =>
   have bd := (Below.refl w4m.heap.size w4m).drew
   obtain ⟨wdb, hwd⟩ : ∃ wd, w4m.drew = wd := ⟨_, rfl⟩
   rw [hwd] at bd
   have Rqb := Hh (RMm.out.below bd)
   obtain ⟨⟨_, _, _, _, c8, _⟩, _⟩ := box10 Rqb.out.r.ib
   clear bd
   refine region_z 7 (fun W => W.cell? ⟨w.heap.size, 8, none⟩ = some (.slice none 0 0)) (by kernel_rfl) ?_
   rw [hwd]
   clear hwd
   refine anyZ_take (i := 0) (v := .pointer (some ⟨w.heap.size, 8, none⟩)) rfl (by kernel_rfl) (fun _ _ _ h => h) (Or.inl ⟨by rfl, by intro W hSw; go_simp; try with_reducible rfl⟩) c8 ?_
   try dsimp only [Act.put, Lzs, Lz0, Lz1]
   refine anyZ_take (i := 1) (v := .slice none 0 0) rfl (by kernel_rfl) (fun _ _ _ h => h) (Or.inl ⟨by rfl, by intro W hSw; go_simp; try with_reducible rfl⟩) c8 ?_
   try dsimp only [Act.put, Lzs, Lz0, Lz1]
   refine anyZ_take (i := 2) (v := .pointer (some ⟨p, 0, none⟩)) rfl (by kernel_rfl) (fun _ _ _ h => h) (Or.inl ⟨by rfl, by intro W hSw; go_simp; try with_reducible rfl⟩) c8 ?_
   try dsimp only [Act.put, Lzs, Lz0, Lz1]
   refine anyZ_one (i := 3) (by kernel_rfl) rfl (fun K hK => ?_)
   go_simp
   refine Calls.mono (rlabel_v HS.out Rqb.out.r.rd) ?_
   rintro e w5b ⟨s5b, yb, rfl, hs5, hr5, htr5⟩
   have R5b := Hh (Rqb.out.call hs5 hr5)
   have HT5b := Hh htr5
   clear hs5 hr5 htr5
   obtain ⟨⟨_, _, _, _, c8, _⟩, _⟩ := box10 R5b.out.r.ib
   go_simp
   refine hK.out _ _ (fun _ => c8) ?_
   clear hK K
   try dsimp only [Act.put, Lzs, Lz0, Lz1]
   refine anyZ_one (i := 4) (by kernel_rfl) rfl (fun K hK => ?_)
   obtain ⟨w6b, hw6⟩ : ∃ w6, w5b.alloc (.cells #[.string ⟨yb.toArray⟩] 9) = w6 := ⟨_, rfl⟩
   have nb := new_box w5b _ 9 hw6
   have R6b := Hh (R5b.out.below nb.1)
   have HB6b := Hh nb.2
   clear nb
   obtain ⟨⟨_, _, _, _, c8, _⟩, _⟩ := box10 R6b.out.r.ib
   go_simp
   try rw [hw6]
   clear hw6
   refine hK.out _ _ (fun _ => c8) ?_
   clear hK K
   try dsimp only [Act.put, Lzs, Lz0, Lz1]
   refine anyZ_one (i := 5) (by kernel_rfl) rfl (fun K hK => ?_)
   rw [if_pos (by rfl)]
   refine own_app_wp rowStr _ _ rfl R6b.out.ll rfl R6b.out.ol w5b.heap.size (⟨yb.toArray⟩ : ByteArray) rfl HB6b.out HLnb.out (by have := R6b.out.r.hi; omega) ?_
   intro gb cb w7b ho hg _
   have R7b := Hh (Ai (R6b.out.midL hg) (R6b.out.goL hg ho))
   clear ho hg
   obtain ⟨⟨_, _, _, _, c8, _⟩, _, _, _, _, f8, _⟩ := box10 R7b.out.1.ib
   refine hK.out _ _ (fun _ => c8) ?_
   clear hK K
   try dsimp only [Act.put, Lzs, Lz0, Lz1]
   refine anyZ_take (i := 6) (v := .pointer (some ⟨w.heap.size, 8, none⟩)) rfl (by kernel_rfl) (fun _ _ _ h => h) (Or.inl ⟨by rfl, by intro W hSw; go_simp; try with_reducible rfl⟩) c8 ?_
   try dsimp only [Act.put, Lzs, Lz0, Lz1]
   refine anyZ_one (i := 7) (by kernel_rfl) rfl (fun K hK => ?_)
   obtain ⟨w8b, hw8⟩ : ∃ w8, w7b.setCell ⟨w.heap.size, 8, none⟩ (.slice (some ⟨gb, 0, none⟩) (0 + 1) cb) = w8 := ⟨_, rfl⟩
   have R8b := Hh (hw8 ▸ R7b.out.2)
   go_simp
   try rw [hw8]
   clear hw8
   refine hK.out _ _ (fun h => absurd rfl h) ?_
   clear hK K
   try dsimp only [Act.put, Lzs, Lz0, Lz1]
   refine anyZ_done (by kernel_rfl) ?_ _
   go_wp2_with fail
   go_meet
   case rel => exact ⟨s5b, yb, _, _, _, Hh ⟨R8b.out, HV7.out.trans (Tr.next HT5b.out)⟩⟩
  obtain ⟨s3, u, L, ln, lc, RH⟩ := hcut
  have R6 := Hh RH.out.1
  have HV8 := Hh RH.out.2
  have HLnd : Hid (ln ≤ 2000000) := Hh (by rw [← RH.out.1.ll]; show 1 ≤ 2000000; omega)
  clear RH R5 HV7 HV6 HV5
  go_wp2_with fail
  refine (rmust_v ⟨#[44]⟩ R6.out.r.rd).mono ?_
  rintro e w4n ⟨s4n, rfl, hs4, hr4, htr4⟩
  have RMn := Hh (R6.out.call hs4 hr4)
  have HM4n := Hh htr4
  clear hs4 hr4 htr4
  have HV9 := Hh (HV8.out.trans (Tr.next HM4n.out))
  go_wp2_with fail
  have bd := (Below.refl w4n.heap.size w4n).drew
  obtain ⟨wdd, hwd⟩ : ∃ wd, w4n.drew = wd := ⟨_, rfl⟩
  rw [hwd] at bd
  have Rqd := Hh (RMn.out.below bd)
  obtain ⟨⟨_, _, _, _, c8, _⟩, _⟩ := box10 Rqd.out.r.ib
  clear bd
  refine region_z 7 (fun W => W.cell? ⟨w.heap.size, 8, none⟩ = some (.slice L ln lc)) (by kernel_rfl) ?_
  rw [hwd]
  clear hwd
  refine anyZ_take (i := 0) (v := .pointer (some ⟨w.heap.size, 8, none⟩)) rfl (by kernel_rfl) (fun _ _ _ h => h) (Or.inl ⟨by rfl, by intro W hSw; go_simp; try with_reducible rfl⟩) c8 ?_
  try dsimp only [Act.put, Lzs, Lz0, Lz1]
  refine anyZ_take (i := 1) (v := .slice L ln lc) rfl (by kernel_rfl) (fun _ _ _ h => h) (Or.inl ⟨by rfl, by intro W hSw; go_simp; try with_reducible rfl⟩) c8 ?_
  try dsimp only [Act.put, Lzs, Lz0, Lz1]
  refine anyZ_take (i := 2) (v := .pointer (some ⟨p, 0, none⟩)) rfl (by kernel_rfl) (fun _ _ _ h => h) (Or.inl ⟨by rfl, by intro W hSw; go_simp; try with_reducible rfl⟩) c8 ?_
  try dsimp only [Act.put, Lzs, Lz0, Lz1]
  refine anyZ_one (i := 3) (by kernel_rfl) rfl (fun K hK => ?_)
  go_simp
  refine Calls.mono (rlabel_v HS.out Rqd.out.r.rd) ?_
  rintro e w5d ⟨s5d, yd, rfl, hs5, hr5, htr5⟩
  have R5d := Hh (Rqd.out.call hs5 hr5)
  have HT5d := Hh htr5
  clear hs5 hr5 htr5
  obtain ⟨⟨_, _, _, _, c8, _⟩, _⟩ := box10 R5d.out.r.ib
  go_simp
  refine hK.out _ _ (fun _ => c8) ?_
  clear hK K
  try dsimp only [Act.put, Lzs, Lz0, Lz1]
  refine anyZ_one (i := 4) (by kernel_rfl) rfl (fun K hK => ?_)
  obtain ⟨w6d, hw6⟩ : ∃ w6, w5d.alloc (.cells #[.string ⟨yd.toArray⟩] 9) = w6 := ⟨_, rfl⟩
  have nb := new_box w5d _ 9 hw6
  have R6d := Hh (R5d.out.below nb.1)
  have HB6d := Hh nb.2
  clear nb
  obtain ⟨⟨_, _, _, _, c8, _⟩, _⟩ := box10 R6d.out.r.ib
  go_simp
  try rw [hw6]
  clear hw6
  refine hK.out _ _ (fun _ => c8) ?_
  clear hK K
  try dsimp only [Act.put, Lzs, Lz0, Lz1]
  refine anyZ_one (i := 5) (by kernel_rfl) rfl (fun K hK => ?_)
  rw [if_pos (by rfl)]
  refine own_app_wp rowStr _ _ rfl R6d.out.ll rfl R6d.out.ol w5d.heap.size (⟨yd.toArray⟩ : ByteArray) rfl HB6d.out HLnd.out (by have := R6d.out.r.hi; omega) ?_
  intro gd cd w7d ho hg _
  have R7d := Hh (Ai (R6d.out.midL hg) (R6d.out.goL hg ho))
  clear ho hg
  obtain ⟨⟨_, _, _, _, c8, _⟩, _, _, _, _, f8, _⟩ := box10 R7d.out.1.ib
  refine hK.out _ _ (fun _ => c8) ?_
  clear hK K
  try dsimp only [Act.put, Lzs, Lz0, Lz1]
  refine anyZ_take (i := 6) (v := .pointer (some ⟨w.heap.size, 8, none⟩)) rfl (by kernel_rfl) (fun _ _ _ h => h) (Or.inl ⟨by rfl, by intro W hSw; go_simp; try with_reducible rfl⟩) c8 ?_
  try dsimp only [Act.put, Lzs, Lz0, Lz1]
  refine anyZ_one (i := 7) (by kernel_rfl) rfl (fun K hK => ?_)
  obtain ⟨w8d, hw8⟩ : ∃ w8, w7d.setCell ⟨w.heap.size, 8, none⟩ (.slice (some ⟨gd, 0, none⟩) (ln + 1) cd) = w8 := ⟨_, rfl⟩
  have R8d := Hh (hw8 ▸ R7d.out.2)
  go_simp
  try rw [hw8]
  clear hw8
  refine hK.out _ _ (fun h => absurd rfl h) ?_
  clear hK K
  try dsimp only [Act.put, Lzs, Lz0, Lz1]
  refine anyZ_done (by kernel_rfl) ?_ _
  have ht : Tr ts (rest o) s s5d ⟨acc, ⟨#[]⟩, off, [⟨u.toArray⟩, ⟨yd.toArray⟩], []⟩ := HV9.out.tr (Tr.map HT5d.out fun v => (⟨acc, ⟨#[]⟩, off, [⟨u.toArray⟩, ⟨v.toArray⟩], []⟩ : Has))
  have HF := RsQ.fin (ls := [⟨u.toArray⟩, ⟨yd.toArray⟩]) HO.out.1 R8d.out ht
  clear ht
  have HFF := Hh HF
  clear HF
  have R9e := R8d.out.r.ib
  unfold ic at R9e
  obtain ⟨d0, d1, d2, d3, d4, d5, d6, d7, d8, d9⟩ := (boxT R9e)
  have R10e := R8d.out.r.z
  unfold icZ at R10e
  obtain ⟨z0, z1, z2, z3, z4, z5, z6, z7, z8, z9⟩ := (boxT R10e)
  clear R9e R10e
  go_wp2_with fail
  refine fin_ins (fn := Tryz.f126) rfl rfl HFF.out.1 rfl ?_
  exact HFF.out.2
 have q21 : (O == 21) = false := by rw [Bqf]; have := HO.out.1; omega
 by_cases h22 : o = 22
 ·have q22 : (O == 22) = true := by rw [beq_iff_eq]; have := HO.out.1; omega
  have HV6 : Hid (Via ts (rest o) (fun l => (must [91] l).bind fun _ l => (cases [] [] l).bind fun x l => .ok (⟨acc, ⟨#[]⟩, off, x.2, x.1⟩ : Has) l) s s2) := Hh (HV5.out.trans (via_eq fun _ => by unfold rk; rw [if_neg h20, if_neg h21, if_pos h22]))
  clear h20 h21 h22
  go_wp2_with fail
  clear c0
  refine (rmust_v ⟨#[91]⟩ R5.out.r.rd).mono ?_
  rintro e w4m ⟨s4m, rfl, hs4, hr4, htr4⟩
  have RMm := Hh (R5.out.call hs4 hr4)
  have HM4m := Hh htr4
  clear hs4 hr4 htr4
  have HV7 := Hh (HV6.out.trans (Tr.next HM4m.out))
  obtain ⟨s0, hs0⟩ : ∃ s0, s4m = s0 := ⟨_, rfl⟩
  rw [hs0] at RMm HV7 HM4m
  clear hs0 HV6 HV5 R5 HM4m
  clear s4m
  simp only []
  go_step
  go_step
  go_step
  go_step
  go_step
  go_cut [] from 98 (fun wc => ∃ (sx : St) (ls : List ByteArray) (L : Option Addr) (ln lc : Nat) (cs : List Int) (C : Option Addr) (cn cc : Nat), Hid (RsQ w wc p A n cp ts sx O dk dc dn dt off acc ls cs B m c L ln lc C cn cc ∧ Via ts (cases [] []) (swT cs ls) s0 sx ∧ ln ≤ 2000000))
  case first =>
   go_wp2_with fail
   go_loopg [] (togo ts.length s0) (fun gk wr => ∃ (s1 : St) (ls : List ByteArray) (L : Option Addr) (ln lc : Nat) (cs : List Int) (C : Option Addr) (cn cc : Nat), gk = togo ts.length s1 ∧ Hid (RsQ w wr p A n cp ts s1 O dk dc dn dt off acc ls cs B m c L ln lc C cn cc ∧ Via ts (cases [] []) (cases cs ls) s0 s1 ∧ (s1.code = 0 → ln ≤ s1.at_ ∧ cn ≤ s1.at_) ∧ ln ≤ 2000000))
   case atStart => exact ⟨s0, [], none, 0, 0, [], none, 0, 0, rfl, RMm.out, Via.refl, fun _ => ⟨Nat.zero_le _, Nat.zero_le _⟩, Nat.zero_le _⟩
   case round =>
    obtain ⟨sx, ls, L, ln, lc, cs, C, cn, cc, hk, SI⟩ := hrel
    have HLQ : Hid (sx.code = 0 → ln ≤ 2000000 ∧ cn ≤ 2000000) := Hh (fun hc => by have h1 := SI.out.2.2.1 hc; have h2 := SI.out.1.r.rd.lt; have h3 := SI.out.1.r.rd.few; omega)
    have HK2 := Hh hk
    clear hk RMm
    by_cases hc2 : sx.code = 0
    ·have hcb2 : (sx.code == 0) = true := by rw [hc2]; rfl
     have HC2 := Hh (Ai hc2 hcb2)
     clear hc2 hcb2
     go_wp2_with fail
     refine (rok_v true HC2.out.2 SI.out.1.r.rd).mono ?_
     rintro e w3 ⟨rfl, rfl⟩
     cases hel : isB (ts.drop sx.at_) elseL with
     | false =>
      have HE := Hh hel
      clear hel
      go_wp2_with fail
      refine (rIs_v ⟨#[101, 108, 115, 101]⟩ false HE.out SI.out.1.r.rd).mono ?_
      rintro e wz ⟨rfl, hbz⟩
      have RZ := Hh (SI.out.1.below hbz)
      clear hbz
      have HLnb : Hid (cn ≤ 2000000) := Hh (HLQ.out HC2.out.1).2
      go_upto_region 27 with fail
      go_cut [] from 100 to 124 (fun wc => ∃ (s3 : St) (x : Int) (C' : Option Addr) (cn' cc' : Nat), Hid (RsQ w wc p A n cp ts s3 O dk dc dn dt off acc ls (cs ++ [x]) B m c L ln lc C' cn' cc' ∧ Tr ts value sx s3 x))
      case first =>
       have bd := (Below.refl wz.heap.size wz).drew
       obtain ⟨wdb, hwd⟩ : ∃ wd, wz.drew = wd := ⟨_, rfl⟩
       rw [hwd] at bd
       have Rqb := Hh (RZ.out.below bd)
       obtain ⟨⟨_, _, _, _, _, c8⟩, _⟩ := box10 Rqb.out.r.ib
       clear bd
       refine region_z 7 (fun W => W.cell? ⟨w.heap.size, 9, none⟩ = some (.slice C cn cc)) (by kernel_rfl) ?_
       rw [hwd]
       clear hwd
       refine anyZ_take (i := 0) (v := .pointer (some ⟨w.heap.size, 9, none⟩)) rfl (by kernel_rfl) (fun _ _ _ h => h) (Or.inl ⟨by rfl, by intro W hSw; go_simp; try with_reducible rfl⟩) c8 ?_
       try dsimp only [Act.put, Lzs, Lz0, Lz1]
       refine anyZ_take (i := 1) (v := .slice C cn cc) rfl (by kernel_rfl) (fun _ _ _ h => h) (Or.inl ⟨by rfl, by intro W hSw; go_simp; try with_reducible rfl⟩) c8 ?_
       try dsimp only [Act.put, Lzs, Lz0, Lz1]
       refine anyZ_take (i := 2) (v := .pointer (some ⟨p, 0, none⟩)) rfl (by kernel_rfl) (fun _ _ _ h => h) (Or.inl ⟨by rfl, by intro W hSw; go_simp; try with_reducible rfl⟩) c8 ?_
       try dsimp only [Act.put, Lzs, Lz0, Lz1]
       refine anyZ_one (i := 3) (by kernel_rfl) rfl (fun K hK => ?_)
       go_simp
       refine Calls.mono (rvalue_v Rqb.out.r.rd) ?_
       rintro e w5b ⟨s5b, yb, rfl, hs5, hr5, htr5⟩
       have R5b := Hh (Rqb.out.call hs5 hr5)
       have HT5b := Hh htr5
       clear hs5 hr5 htr5
       obtain ⟨⟨_, _, _, _, _, c8⟩, _⟩ := box10 R5b.out.r.ib
       go_simp
       refine hK.out _ _ (fun _ => c8) ?_
       clear hK K
       try dsimp only [Act.put, Lzs, Lz0, Lz1]
       refine anyZ_one (i := 4) (by kernel_rfl) rfl (fun K hK => ?_)
       obtain ⟨w6b, hw6⟩ : ∃ w6, w5b.alloc (.cells #[.int .i64 yb] 3) = w6 := ⟨_, rfl⟩
       have nb := new_box w5b _ 3 hw6
       have R6b := Hh (R5b.out.below nb.1)
       have HB6b := Hh nb.2
       clear nb
       obtain ⟨⟨_, _, _, _, _, c8⟩, _⟩ := box10 R6b.out.r.ib
       go_simp
       try rw [hw6]
       clear hw6
       refine hK.out _ _ (fun _ => c8) ?_
       clear hK K
       try dsimp only [Act.put, Lzs, Lz0, Lz1]
       refine anyZ_one (i := 5) (by kernel_rfl) rfl (fun K hK => ?_)
       rw [if_pos (by rfl)]
       refine own_app_wp rowInt _ _ rfl R6b.out.lk rfl R6b.out.oc w5b.heap.size yb rfl HB6b.out HLnb.out (by have := R6b.out.r.hi; omega) ?_
       intro gb cb w7b ho hg _
       have R7b := Hh (Ai (R6b.out.midC hg) (R6b.out.goC hg ho))
       clear ho hg
       obtain ⟨⟨_, _, _, _, _, c8⟩, _, _, _, _, _, f8⟩ := box10 R7b.out.1.ib
       refine hK.out _ _ (fun _ => c8) ?_
       clear hK K
       try dsimp only [Act.put, Lzs, Lz0, Lz1]
       refine anyZ_take (i := 6) (v := .pointer (some ⟨w.heap.size, 9, none⟩)) rfl (by kernel_rfl) (fun _ _ _ h => h) (Or.inl ⟨by rfl, by intro W hSw; go_simp; try with_reducible rfl⟩) c8 ?_
       try dsimp only [Act.put, Lzs, Lz0, Lz1]
       refine anyZ_one (i := 7) (by kernel_rfl) rfl (fun K hK => ?_)
       obtain ⟨w8b, hw8⟩ : ∃ w8, w7b.setCell ⟨w.heap.size, 9, none⟩ (.slice (some ⟨gb, 0, none⟩) (cn + 1) cb) = w8 := ⟨_, rfl⟩
       have R8b := Hh (hw8 ▸ R7b.out.2)
       go_simp
       try rw [hw8]
       clear hw8
       refine hK.out _ _ (fun h => absurd rfl h) ?_
       clear hK K
       try dsimp only [Act.put, Lzs, Lz0, Lz1]
       refine anyZ_done (by kernel_rfl) ?_ _
       go_wp2_with fail
       go_meet
       case rel => exact ⟨s5b, yb, _, _, _, Hh ⟨R8b.out, HT5b.out⟩⟩
      obtain ⟨s3, x, C', cn', cc', RG⟩ := hcut
      have R8 := Hh RG.out.1
      have HTx := Hh RG.out.2
      have HLnd : Hid (ln ≤ 2000000) := Hh (HLQ.out HC2.out.1).1
      clear RG RZ
      go_wp2_with fail
      refine (rmust_v ⟨#[58]⟩ R8.out.r.rd).mono ?_
      rintro e w4n ⟨s4n, rfl, hs4, hr4, htr4⟩
      have RMn := Hh (R8.out.call hs4 hr4)
      have HM4n := Hh htr4
      clear hs4 hr4 htr4
      go_upto_region 29 with fail
      go_cut [] from 100 to 124 (fun wc => ∃ (s5 : St) (y : List UInt8) (L' : Option Addr) (ln' lc' : Nat), Hid (RsQ w wc p A n cp ts s5 O dk dc dn dt off acc (ls ++ [⟨y.toArray⟩]) (cs ++ [x]) B m c L' ln' lc' C' cn' cc' ∧ Tr ts label s4n s5 y))
      case first =>
       have bd := (Below.refl w4n.heap.size w4n).drew
       obtain ⟨wdd, hwd⟩ : ∃ wd, w4n.drew = wd := ⟨_, rfl⟩
       rw [hwd] at bd
       have Rqd := Hh (RMn.out.below bd)
       obtain ⟨⟨_, _, _, _, c8, _⟩, _⟩ := box10 Rqd.out.r.ib
       clear bd
       refine region_z 7 (fun W => W.cell? ⟨w.heap.size, 8, none⟩ = some (.slice L ln lc)) (by kernel_rfl) ?_
       rw [hwd]
       clear hwd
       refine anyZ_take (i := 0) (v := .pointer (some ⟨w.heap.size, 8, none⟩)) rfl (by kernel_rfl) (fun _ _ _ h => h) (Or.inl ⟨by rfl, by intro W hSw; go_simp; try with_reducible rfl⟩) c8 ?_
       try dsimp only [Act.put, Lzs, Lz0, Lz1]
       refine anyZ_take (i := 1) (v := .slice L ln lc) rfl (by kernel_rfl) (fun _ _ _ h => h) (Or.inl ⟨by rfl, by intro W hSw; go_simp; try with_reducible rfl⟩) c8 ?_
       try dsimp only [Act.put, Lzs, Lz0, Lz1]
       refine anyZ_take (i := 2) (v := .pointer (some ⟨p, 0, none⟩)) rfl (by kernel_rfl) (fun _ _ _ h => h) (Or.inl ⟨by rfl, by intro W hSw; go_simp; try with_reducible rfl⟩) c8 ?_
       try dsimp only [Act.put, Lzs, Lz0, Lz1]
       refine anyZ_one (i := 3) (by kernel_rfl) rfl (fun K hK => ?_)
       go_simp
       refine Calls.mono (rlabel_v HS.out Rqd.out.r.rd) ?_
       rintro e w5d ⟨s5d, yd, rfl, hs5, hr5, htr5⟩
       have R5d := Hh (Rqd.out.call hs5 hr5)
       have HT5d := Hh htr5
       clear hs5 hr5 htr5
       obtain ⟨⟨_, _, _, _, c8, _⟩, _⟩ := box10 R5d.out.r.ib
       go_simp
       refine hK.out _ _ (fun _ => c8) ?_
       clear hK K
       try dsimp only [Act.put, Lzs, Lz0, Lz1]
       refine anyZ_one (i := 4) (by kernel_rfl) rfl (fun K hK => ?_)
       obtain ⟨w6d, hw6⟩ : ∃ w6, w5d.alloc (.cells #[.string ⟨yd.toArray⟩] 9) = w6 := ⟨_, rfl⟩
       have nb := new_box w5d _ 9 hw6
       have R6d := Hh (R5d.out.below nb.1)
       have HB6d := Hh nb.2
       clear nb
       obtain ⟨⟨_, _, _, _, c8, _⟩, _⟩ := box10 R6d.out.r.ib
       go_simp
       try rw [hw6]
       clear hw6
       refine hK.out _ _ (fun _ => c8) ?_
       clear hK K
       try dsimp only [Act.put, Lzs, Lz0, Lz1]
       refine anyZ_one (i := 5) (by kernel_rfl) rfl (fun K hK => ?_)
       rw [if_pos (by rfl)]
       refine own_app_wp rowStr _ _ rfl R6d.out.ll rfl R6d.out.ol w5d.heap.size (⟨yd.toArray⟩ : ByteArray) rfl HB6d.out HLnd.out (by have := R6d.out.r.hi; omega) ?_
       intro gd cd w7d ho hg _
       have R7d := Hh (Ai (R6d.out.midL hg) (R6d.out.goL hg ho))
       clear ho hg
       obtain ⟨⟨_, _, _, _, c8, _⟩, _, _, _, _, f8, _⟩ := box10 R7d.out.1.ib
       refine hK.out _ _ (fun _ => c8) ?_
       clear hK K
       try dsimp only [Act.put, Lzs, Lz0, Lz1]
       refine anyZ_take (i := 6) (v := .pointer (some ⟨w.heap.size, 8, none⟩)) rfl (by kernel_rfl) (fun _ _ _ h => h) (Or.inl ⟨by rfl, by intro W hSw; go_simp; try with_reducible rfl⟩) c8 ?_
       try dsimp only [Act.put, Lzs, Lz0, Lz1]
       refine anyZ_one (i := 7) (by kernel_rfl) rfl (fun K hK => ?_)
       obtain ⟨w8d, hw8⟩ : ∃ w8, w7d.setCell ⟨w.heap.size, 8, none⟩ (.slice (some ⟨gd, 0, none⟩) (ln + 1) cd) = w8 := ⟨_, rfl⟩
       have R8d := Hh (hw8 ▸ R7d.out.2)
       go_simp
       try rw [hw8]
       clear hw8
       refine hK.out _ _ (fun h => absurd rfl h) ?_
       clear hK K
       try dsimp only [Act.put, Lzs, Lz0, Lz1]
       refine anyZ_done (by kernel_rfl) ?_ _
       go_wp2_with fail
       go_meet
       case rel => exact ⟨s5d, yd, _, _, _, Hh ⟨R8d.out, HT5d.out⟩⟩
      obtain ⟨s5, y, L', ln', lc', RG⟩ := hcut
      have R9 := Hh RG.out.1
      have HTy := Hh RG.out.2
      clear RG R8
      go_wp2_with fail
      refine (rmust_v ⟨#[44]⟩ R9.out.r.rd).mono ?_
      rintro e w4h ⟨s4h, rfl, hs4, hr4, htr4⟩
      have RMh := Hh (R9.out.call hs4 hr4)
      have HM4h := Hh htr4
      clear hs4 hr4 htr4
      have hm := cases_more SI.out.2.1 HE.out HTx.out HM4n.out HTy.out HM4h.out
      have e1 : ln' = ln + 1 := by rw [← RMh.out.ll, List.length_append, SI.out.1.ll]; rfl
      have e2 : cn' = cn + 1 := by rw [← RMh.out.lk, List.length_append, SI.out.1.lk]; rfl
      have hfar : s4h.code = 0 → ln' ≤ s4h.at_ ∧ cn' ≤ s4h.at_ := by
       intro hc2
       have h1 := SI.out.2.2.1 HC2.out.1
       have h2 := hm.1.far (fun l r a h => case1_sub h) SI.out.1.r.rd.tlen hc2
       omega
      have hbig : ln' ≤ 2000000 := by have h1 := SI.out.2.2.1 HC2.out.1; have h2 := SI.out.1.r.rd.lt; have h3 := SI.out.1.r.rd.few; omega
      have hless := (hm.1.less HC2.out.1 SI.out.1.r.rd.tlen RMh.out.r.rd.tlen (fun l r a h => case1_sub h)).1
      have HZ := Hh (Ai (Ai RMh.out (Ai hm.2 (Ai hfar hbig))) hless)
      have hgk := HK2.out
      clear hm hfar hless hbig e1 e2
      go_wp2_with fail
      go_roundg (togo ts.length s4h)
      case measure => rw [hgk]; exact HZ.out.2
      case rel => exact ⟨s4h, _, _, _, _, _, _, _, _, rfl, HZ.out.1⟩
     | true =>
      have HE := Hh hel
      clear hel
      go_wp2_with fail
      refine (rIs_v ⟨#[101, 108, 115, 101]⟩ true HE.out SI.out.1.r.rd).mono ?_
      rintro e wz ⟨rfl, hbz⟩
      have RE := Hh (SI.out.1.below hbz)
      clear hbz
      go_wp2_with fail
      go_meet
      case rel => exact ⟨sx, ls, L, ln, lc, cs, C, cn, cc, Hh ⟨RE.out, cases_end SI.out.2.1 (.inr HE.out), SI.out.2.2.2⟩⟩
    ·have hcb2 : (sx.code == 0) = false := by rw [Bqf]; exact hc2
     have HC2 := Hh (Ai hc2 hcb2)
     clear hc2 hcb2
     go_wp2_with fail
     refine (rok_v false HC2.out.2 SI.out.1.r.rd).mono ?_
     rintro e w3 ⟨rfl, rfl⟩
     go_wp2_with fail
     go_meet
     case rel => exact ⟨sx, ls, L, ln, lc, cs, C, cn, cc, Hh ⟨SI.out.1, cases_end SI.out.2.1 (.inl HC2.out.1), SI.out.2.2.2⟩⟩
  obtain ⟨sx, ls, L, ln, lc, cs, C, cn, cc, RH⟩ := hcut
  have RE := Hh RH.out.1
  have SE := Hh RH.out.2.1
  have HLnf : Hid (ln ≤ 2000000) := Hh RH.out.2.2
  clear RH RMm
  go_wp2_with fail
  refine (rmust_v ⟨#[101, 108, 115, 101]⟩ RE.out.r.rd).mono ?_
  rintro e w4d ⟨s4d, rfl, hs4, hr4, htr4⟩
  have RMd := Hh (RE.out.call hs4 hr4)
  have HM4d := Hh htr4
  clear hs4 hr4 htr4
  go_wp2_with fail
  refine (rmust_v ⟨#[58]⟩ RMd.out.r.rd).mono ?_
  rintro e w4q ⟨s4q, rfl, hs4, hr4, htr4⟩
  have RMq := Hh (RMd.out.call hs4 hr4)
  have HM4q := Hh htr4
  clear hs4 hr4 htr4
  go_upto_region 33 with fail
  go_cut [] from 98 (fun wc => ∃ (s5 : St) (y : List UInt8) (L' : Option Addr) (ln' lc' : Nat), Hid (RsQ w wc p A n cp ts s5 O dk dc dn dt off acc (ls ++ [⟨y.toArray⟩]) cs B m c L' ln' lc' C cn cc ∧ Tr ts label s4q s5 y))
  case first =>
   have bd := (Below.refl w4q.heap.size w4q).drew
   obtain ⟨wdf, hwd⟩ : ∃ wd, w4q.drew = wd := ⟨_, rfl⟩
   rw [hwd] at bd
   have Rqf := Hh (RMq.out.below bd)
   obtain ⟨⟨_, _, _, _, c8, _⟩, _⟩ := box10 Rqf.out.r.ib
   clear bd
   refine region_z 7 (fun W => W.cell? ⟨w.heap.size, 8, none⟩ = some (.slice L ln lc)) (by kernel_rfl) ?_
   rw [hwd]
   clear hwd
   refine anyZ_take (i := 0) (v := .pointer (some ⟨w.heap.size, 8, none⟩)) rfl (by kernel_rfl) (fun _ _ _ h => h) (Or.inl ⟨by rfl, by intro W hSw; go_simp; try with_reducible rfl⟩) c8 ?_
   try dsimp only [Act.put, Lzs, Lz0, Lz1]
   refine anyZ_take (i := 1) (v := .slice L ln lc) rfl (by kernel_rfl) (fun _ _ _ h => h) (Or.inl ⟨by rfl, by intro W hSw; go_simp; try with_reducible rfl⟩) c8 ?_
   try dsimp only [Act.put, Lzs, Lz0, Lz1]
   refine anyZ_take (i := 2) (v := .pointer (some ⟨p, 0, none⟩)) rfl (by kernel_rfl) (fun _ _ _ h => h) (Or.inl ⟨by rfl, by intro W hSw; go_simp; try with_reducible rfl⟩) c8 ?_
   try dsimp only [Act.put, Lzs, Lz0, Lz1]
   refine anyZ_one (i := 3) (by kernel_rfl) rfl (fun K hK => ?_)
   go_simp
   refine Calls.mono (rlabel_v HS.out Rqf.out.r.rd) ?_
   rintro e w5f ⟨s5f, yf, rfl, hs5, hr5, htr5⟩
   have R5f := Hh (Rqf.out.call hs5 hr5)
   have HT5f := Hh htr5
   clear hs5 hr5 htr5
   obtain ⟨⟨_, _, _, _, c8, _⟩, _⟩ := box10 R5f.out.r.ib
   go_simp
   refine hK.out _ _ (fun _ => c8) ?_
   clear hK K
   try dsimp only [Act.put, Lzs, Lz0, Lz1]
   refine anyZ_one (i := 4) (by kernel_rfl) rfl (fun K hK => ?_)
   obtain ⟨w6f, hw6⟩ : ∃ w6, w5f.alloc (.cells #[.string ⟨yf.toArray⟩] 9) = w6 := ⟨_, rfl⟩
   have nb := new_box w5f _ 9 hw6
   have R6f := Hh (R5f.out.below nb.1)
   have HB6f := Hh nb.2
   clear nb
   obtain ⟨⟨_, _, _, _, c8, _⟩, _⟩ := box10 R6f.out.r.ib
   go_simp
   try rw [hw6]
   clear hw6
   refine hK.out _ _ (fun _ => c8) ?_
   clear hK K
   try dsimp only [Act.put, Lzs, Lz0, Lz1]
   refine anyZ_one (i := 5) (by kernel_rfl) rfl (fun K hK => ?_)
   rw [if_pos (by rfl)]
   refine own_app_wp rowStr _ _ rfl R6f.out.ll rfl R6f.out.ol w5f.heap.size (⟨yf.toArray⟩ : ByteArray) rfl HB6f.out HLnf.out (by have := R6f.out.r.hi; omega) ?_
   intro gf cf w7f ho hg _
   have R7f := Hh (Ai (R6f.out.midL hg) (R6f.out.goL hg ho))
   clear ho hg
   obtain ⟨⟨_, _, _, _, c8, _⟩, _, _, _, _, f8, _⟩ := box10 R7f.out.1.ib
   refine hK.out _ _ (fun _ => c8) ?_
   clear hK K
   try dsimp only [Act.put, Lzs, Lz0, Lz1]
   refine anyZ_take (i := 6) (v := .pointer (some ⟨w.heap.size, 8, none⟩)) rfl (by kernel_rfl) (fun _ _ _ h => h) (Or.inl ⟨by rfl, by intro W hSw; go_simp; try with_reducible rfl⟩) c8 ?_
   try dsimp only [Act.put, Lzs, Lz0, Lz1]
   refine anyZ_one (i := 7) (by kernel_rfl) rfl (fun K hK => ?_)
   obtain ⟨w8f, hw8⟩ : ∃ w8, w7f.setCell ⟨w.heap.size, 8, none⟩ (.slice (some ⟨gf, 0, none⟩) (ln + 1) cf) = w8 := ⟨_, rfl⟩
   have R8f := Hh (hw8 ▸ R7f.out.2)
   go_simp
   try rw [hw8]
   clear hw8
   refine hK.out _ _ (fun h => absurd rfl h) ?_
   clear hK K
   try dsimp only [Act.put, Lzs, Lz0, Lz1]
   refine anyZ_done (by kernel_rfl) ?_ _
   go_wp2_with fail
   go_meet
   case rel => exact ⟨s5f, yf, _, _, _, Hh ⟨R8f.out, HT5f.out⟩⟩
  obtain ⟨s5, y, L', ln', lc', RG⟩ := hcut
  have R9 := Hh RG.out.1
  have HTy := Hh RG.out.2
  clear RG
  go_wp2_with fail
  refine (rmust_v ⟨#[93]⟩ R9.out.r.rd).mono ?_
  rintro e w4g ⟨s4g, rfl, hs4, hr4, htr4⟩
  have RMg := Hh (R9.out.call hs4 hr4)
  have HM4g := Hh htr4
  clear hs4 hr4 htr4
  have ht : Tr ts (rest o) s s4g ⟨acc, ⟨#[]⟩, off, ls ++ [⟨y.toArray⟩], cs⟩ := HV7.out.tr (Tr.map (Via.tr SE.out (Via.tr (Tr.next HM4d.out) (Via.tr (Tr.next HM4q.out) (Via.tr (Tr.next HTy.out) (Tr.map HM4g.out fun _ => (cs, ls ++ [(⟨y.toArray⟩ : ByteArray)])))))) fun x => (⟨acc, ⟨#[]⟩, off, x.2, x.1⟩ : Has))
  have HF := RMg.out.fin HO.out.1 ht
  clear ht
  have HFF := Hh HF
  clear HF
  have R9e := RMg.out.r.ib
  unfold ic at R9e
  obtain ⟨d0, d1, d2, d3, d4, d5, d6, d7, d8, d9⟩ := (boxT R9e)
  have R10e := RMg.out.r.z
  unfold icZ at R10e
  obtain ⟨z0, z1, z2, z3, z4, z5, z6, z7, z8, z9⟩ := (boxT R10e)
  clear R9e R10e
  go_wp2_with fail
  refine fin_ins (fn := Tryz.f126) rfl rfl HFF.out.1 rfl ?_
  exact HFF.out.2
 have q22 : (O == 22) = false := by rw [Bqf]; have := HO.out.1; omega
 have ht : Tr ts (rest o) s s2 ⟨acc, ⟨#[]⟩, off, [], []⟩ := HV5.out.trans (via_eq fun _ => by unfold rk; rw [if_neg h20, if_neg h21, if_neg h22])
 have HF := R5.out.fin HO.out.1 ht
 clear c0
 clear ht
 have HFF := Hh HF
 clear HF
 have R9e := R5.out.r.ib
 unfold ic at R9e
 obtain ⟨d0, d1, d2, d3, d4, d5, d6, d7, d8, d9⟩ := (boxT R9e)
 have R10e := R5.out.r.z
 unfold icZ at R10e
 obtain ⟨z0, z1, z2, z3, z4, z5, z6, z7, z8, z9⟩ := (boxT R10e)
 clear R9e R10e
 go_wp2_with fail
 refine fin_ins (fn := Tryz.f126) rfl rfl HFF.out.1 rfl ?_
 exact HFF.out.2
end
end Go.Proofs.YtbpichjmkllfaaaGreatDoor.Par
