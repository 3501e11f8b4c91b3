/- Packed texts of one proof. Conditions: none. -/
import Derived.Test.YtbpichjmkllfaaaGreatDoorPq50
namespace Go.Proofs.YtbpichjmkllfaaaGreatDoor.Par
open Go.ChangeShapes Go.WideShapes Go.RowKit
open Lex (Tok tcl tkv tk tc)
set_option linter.unusedVariables false
set_option maxRecDepth 20000
section
variable {w : World} {p : Nat} {A : Option Addr} {n cp : Nat} {ts : List Tok} {s : St}
def EndP (w : World) (p : Nat) (A : Option Addr) (n cp : Nat) (ts : List Tok) (s : St) (e : Ending) (w' : World) : Prop :=
 ∃ (a c : Int) (q : Nat) (t : Tok), e = .returned (tkv t) ∧ Step w.heap.size p w w' ∧ w'.heap[p]? = some (.cells #[.slice A n cp, .int .i64 a, .int .i64 c, .int .i64 (q : Int)] 57 (0, 0)) ∧
  ((c = 0 ∧ s.code = 0 ∧ ∃ t r, ofk 0 (ts.drop s.at_) = .ok t r) ∨ (c ≠ 0 ∧ ((s.code ≠ 0 ∧ c = s.code ∧ q = s.pos) ∨ (s.code = 0 ∧ ofk 0 (ts.drop s.at_) = .bad c q))))
set_option maxHeartbeats 2000000 in
theorem rofz_yes {t : Tok} (hk : t.kind = 0) (ht : ts[s.at_]? = some t) (hc : s.code = 0) (h : Rd w p A n cp ts s) : Calls Tryz.prog 27 #[.pointer (some ⟨p, 0, none⟩), .int .i64 0] w (EndP w p A n cp ts s) := by
 have hn : s.at_ < n := h.lt
 have hm := h.few
 have hkk : ((t.kind : Int) != 0) = false := by rw [hk]; rfl
 have HA := Hh (Ai hk (Ai ht (Ai hc (Ai h hn))))
 clear hk ht hc h hn
 go_enter Tryz.func27, Tryz.ntmps27
 go_wp2_with fail
 refine (rkind_v HA.out.2.1 (HA.out.2.2.2.1.alloc _)).mono ?_
 rintro e w1 ⟨rfl, hb1⟩
 have R1 := Hh ((HA.out.2.2.2.1.alloc (.cells #[.int .i64 0, .string ⟨#[]⟩, .int .i64 0, .int .i64 0, .int .i64 0] 72)).below hb1)
 have HB := Hh hb1
 clear hb1
 go_wp2_with fail
 refine (rok_v true (by rw [HA.out.2.2.1]; rfl) R1.out).mono ?_
 rintro e w2 ⟨rfl, rfl⟩
 have hp := HA.out.2.2.2.1.plt
 have z1 : w1.heap[w.heap.size]? = some (.cells #[.int .i64 0, .string ⟨#[]⟩, .int .i64 0, .int .i64 0, .int .i64 0] 72 (0, 0)) := by
  rw [HB.out.block w.heap.size (by simp)]
  exact heap_alloc_new w _
 have f1 := box_frozen R1.out.box 1
 obtain ⟨c0, c1, c2, c3⟩ := R1.out.cells
 obtain ⟨a1, ha1⟩ : ∃ a1, s.at_ + 1 = a1 := ⟨_, rfl⟩
 obtain ⟨w3, hw3⟩ : ∃ w3, w1.setCell ⟨p, 1, none⟩ (.int .i64 (a1 : Int)) = w3 := ⟨_, rfl⟩
 have g : Step w1.heap.size p w1 w3 ∧ w3.heap[p]? = some (.cells #[.slice A n cp, .int .i64 (a1 : Int), .int .i64 s.code, .int .i64 (s.pos : Int)] 57 (0, 0)) ∧ IsToks w3 A n ts := by
  rw [← hw3]
  exact ⟨(Step.refl _ _ w1).put _ _, (set_box R1.out.box).1 _, R1.out.toks.agree (set_agree w1 p 1 _) (fun b o e => R1.out.sep b o e)⟩
 have z3 : w3.heap[w.heap.size]? = some (.cells #[.int .i64 0, .string ⟨#[]⟩, .int .i64 0, .int .i64 0, .int .i64 0] 72 (0, 0)) := by
  rw [← hw3, Below.heap_setCell _ _ _ _ (by simp; omega)]
  exact z1
 have S3 : Step w.heap.size p w w3 := ((Step.refl _ _ w).alloc (Nat.le_refl _) _).trans ((Step.of (hb1' HB.out)).trans (g.1.mono (by have := HB.out.size; simp at this; omega)))
 have G := Hh (Ai g (Ai z3 S3))
 have HA1 := Hh ha1
 have hl := HA.out.2.2.2.2
 obtain ⟨a, ha⟩ : ∃ a, s.at_ = a := ⟨_, rfl⟩
 have HA2 := Hh ha
 rw [ha] at ha1 hl c1
 have q1 : (a : Int) + 1 = (a1 : Int) := by omega
 have q2 : wrap64 ((a : Int) + 1) = (a1 : Int) := by rw [q1]; unfold wrap64; omega
 have q3 : wrap64 (a1 : Int) = (a1 : Int) := by unfold wrap64; omega
 clear g ha1 z1 z3 S3
 go_wp2_with fail
 try rw [hw3]
 clear c0 c1 c2 c3 f1 q1 q2
 have c0 := cell_in G.out.1.2.1 0
 have c1 := cell_in G.out.1.2.1 1
 have c2 := cell_in G.out.1.2.1 2
 have c3 := cell_in G.out.1.2.1 3
 simp only [List.getElem?_toArray, List.getElem?_cons_zero, List.getElem?_cons_succ] at c0 c1 c2 c3
 obtain ⟨b, o, rfl, hlt, d0, d1, d2, d3, d4⟩ := G.out.1.2.2.at HA.out.2.1
 rw [ha] at d0 d1 d2 d3 d4
 have l1 : (0 : Int) ≤ (a : Int) := Int.natCast_nonneg _
 have l2 : (a : Int) < (n : Int) := by clear q3; omega
 have q1 : (a1 : Int) - 1 = (a : Int) := by have := HA1.out; clear q3; omega
 have q2 : wrap64 ((a1 : Int) - 1) = (a : Int) := by rw [q1]; unfold wrap64; omega
 have q4 : wrap64 (a : Int) = (a : Int) := by unfold wrap64; omega
 have e0 := box_frozen G.out.2.1 0
 have e1 := box_frozen G.out.2.1 1
 have e2 := box_frozen G.out.2.1 2
 have e3 := box_frozen G.out.2.1 3
 have e4 := box_frozen G.out.2.1 4
 have x0 : w3.cell? ⟨w.heap.size, 0, none⟩ = some (.int .i64 0) := cell_in G.out.2.1 0
 have x1 : w3.cell? ⟨w.heap.size, 1, none⟩ = some (.string ⟨#[]⟩) := cell_in G.out.2.1 1
 have x2 : w3.cell? ⟨w.heap.size, 2, none⟩ = some (.int .i64 0) := cell_in G.out.2.1 2
 have x3 : w3.cell? ⟨w.heap.size, 3, none⟩ = some (.int .i64 0) := cell_in G.out.2.1 3
 have x4 : w3.cell? ⟨w.heap.size, 4, none⟩ = some (.int .i64 0) := cell_in G.out.2.1 4
 clear ha hl hw3 hlt
 go_region
 go_wp2_with fail
 go_wp2_with fail
 refine fin_tok (fn := Tryz.f27) rfl rfl (Lex.five_heap G.out.2.1) rfl ?_
 have hg : Agree (fun k => k < w.heap.size) w3 (Lex.five w3 w.heap.size (.int .i64 t.kind) (.string ⟨t.text.toArray⟩) (.int .i64 t.n) (.int .i64 t.cls) (.int .i64 t.at_)).drew :=
  (below_agree (Lex.five_below (Below.refl _ w3) (Nat.le_refl _))).trans (drew_agree _ _)
 have hc := HA.out.2.2.1
 refine ⟨(a1 : Int), 0, s.pos, t, rfl, ?_, ?_, .inl ⟨rfl, hc, t, ts.drop (s.at_ + 1), ?_⟩⟩
 ·exact (G.out.2.2.trans (Step.of (Lex.five_below (Below.refl _ w3) (Nat.le_refl _)))).drew
 ·refine (hg.2 p (Array.getElem?_eq_some_iff.1 G.out.1.2.1).1 HA.out.2.2.2.1.plt).trans ?_
  rw [G.out.1.2.1, hc]
 ·rw [drop_at HA.out.2.1]
  unfold ofk
  simp only
  rw [if_pos HA.out.1]
theorem end_of {e : Ending} {w' : World} (h : OfP w p A n cp ts s 0 e w') : EndP w p A n cp ts s e w' := by
 obtain ⟨s', t, he, hs, hr, ht⟩ := h
 refine ⟨(s'.at_ : Int), s'.code, s'.pos, t, he, hs, hr.box, ?_⟩
 rcases ht with ⟨h1, rfl⟩ | ⟨h1, h2, h3⟩ | ⟨h1, h2, h3⟩
 ·exact .inr ⟨h1, .inl ⟨h1, rfl, rfl⟩⟩
 ·exact .inl ⟨h2, h1, _, _, h3⟩
 ·exact .inr ⟨h2, .inr ⟨h1, h3⟩⟩
theorem rofz_v (h : Rd w p A n cp ts s) : Calls Tryz.prog 27 #[.pointer (some ⟨p, 0, none⟩), .int .i64 0] w (EndP w p A n cp ts s) := by
 obtain ⟨t, ht, _⟩ := h.tok
 by_cases hk : t.kind = 0
 ·by_cases hc : s.code = 0
  ·exact rofz_yes hk ht hc h
  ·exact (rof_idle 0 hk ht hc h).mono fun e w' h => end_of h
 ·exact (rof_bad 0 hk ht h).mono fun e w' h => end_of h
theorem rok_box {a b d : Value} {c : Int} (r : Bool) (hr : (c == 0) = r) (h : w.heap[p]? = some (.cells #[a, b, .int .i64 c, d] 57 (0, 0))) : Calls Tryz.prog 22 #[.pointer (some ⟨p, 0, none⟩)] w fun e w' => e = .returned (.bool r) ∧ w = w' := by
 have c2 : w.cell? ⟨p, 2, none⟩ = some (.int .i64 c) := cell_in h 2
 clear h
 go_enter Tryz.func22, Tryz.ntmps22
 go_wp2_with fail
 go_ret
 exact ⟨rfl, rfl⟩
end
theorem toks_of {s : ByteArray} {w1 : World} {N0 : Nat} {m : List Tok} {q : Nat} {A : Option Addr} {c : Nat} (hm : Lex.all s.data.toList = (m, 0, q)) (ho : Lex.OwnK N0 w1 A c m) :
  ∃ g, A = some ⟨g, 0, none⟩ ∧ N0 ≤ g ∧ g < w1.heap.size ∧ IsToks w1 A m.length m ∧ Ends m ∧ (∀ t ∈ m, Wf t) ∧ (∀ t ∈ m, t.text.length ≤ 70000) := by
 have hE := all_ends hm
 obtain ⟨g, rfl, hlo, hlt, hc⟩ := ho.form (List.length_pos_iff.2 hE.ne)
 have hl : s.data.toList.length ≤ 65536 := by
  rcases Nat.lt_or_ge 65536 s.data.toList.length with h1 | h1
  ·rw [Lex.all_long h1] at hm
   injection hm with _ h
   injection h with h _
   exact absurd h (by decide)
  ·exact h1
 obtain ⟨t1, t2⟩ := Lex.all_text hm
 exact ⟨g, rfl, hlo, hlt, toks_of_own ho (by omega), hE, all_wf hm, fun t ht => by have := t1 t ht; omega⟩
theorem results_cell4 {P : Program} {fn : Func} {p u v x : Tmp} {ty : TypeId} (h : fn.results = #[.cell p ty, .tmp u, .tmp v, .tmp x]) (tmps : Array Value) (w : World) (g : Nat) (t : TypeId) (cs : Array Value) (fr : Nat × Nat) (d : TypeDesc)
  (hp : tmps.getD p undef = .pointer (some ⟨g, 0, none⟩)) (hg : w.heap[g]? = some (.cells cs t fr))
  (hu : P.underlying ty = some d) (hd : (match d with | .struct _ | .array _ _ => true | _ => false) = true) (hi : (P.info? ty).map (·.size) = some cs.size) :
  (results fn tmps).run P w = .ok (.tuple #[.agg cs, tmps.getD u undef, tmps.getD v undef, tmps.getD x undef]) w := by
 have hp' : tmps[p]?.getD undef = .pointer (some ⟨g, 0, none⟩) := by simpa using hp
 simp [results, h, hp', asAddr, run_loadVar_row w g t ty cs fr d hg hu hd hi]
theorem fin_text4 {fn : Func} {q u v x : Tmp} (h : fn.results = #[.cell q 27, .tmp u, .tmp v, .tmp x]) {act : Act} {w : World} {g : Nat} {x0 x1 x2 x3 x4 : Value} {R : Ending → World → Prop}
  (hp : act.tmps.getD q undef = .pointer (some ⟨g, 0, none⟩)) (hg : w.heap[g]? = some (.cells #[x0, x1, x2, x3, x4] 27 (0, 0))) (hd : act.defers = [])
  (hR : R (.returned (.tuple #[.agg #[x0, x1, x2, x3, x4], act.tmps.getD u undef, act.tmps.getD v undef, act.tmps.getD x undef])) w) : bodyPost Tryz.prog fn R .ret act w :=
 bodyPost_ret (results_cell4 h _ _ g 27 _ (0, 0) _ hp hg Tryz.underlying27 rfl sizeFun) hd hR
def DText (s : ByteArray) (w : World) (e : Ending) (w' : World) : Prop :=
 Below w.heap.size w w' ∧ ((∃ m code q, code ≠ 0 ∧ Lex.all s.data.toList = (m, code, q) ∧ e = .returned (.tuple #[funZ, .int .i64 code, .int .i64 (q : Int), .bool true])) ∨
  (∃ m q x l r, Lex.all s.data.toList = (m, 0, q) ∧ whole m = .ok x l ∧ e = .returned (.tuple #[.agg (funR x r), .int .i64 0, .int .i64 0, .bool false]) ∧ IsFun w' x r) ∨
  (∃ m q c p, Lex.all s.data.toList = (m, 0, q) ∧ c ≠ 0 ∧ whole m = .bad c p ∧ e = .returned (.tuple #[funZ, .int .i64 c, .int .i64 (p : Int), .bool false])))
theorem whole_ok {m : List Tok} {x : Fun} {r r2 : List Tok} {t : Tok} (h : func m = .ok x r) (h2 : ofk 0 r = .ok t r2) : whole m = .ok x r2 := by
 unfold whole
 rw [h]
 show (ofk 0 r).bind _ = _
 rw [h2]
 rfl
theorem whole_bad {m : List Tok} {c : Int} {q : Nat} (h : func m = .bad c q) : whole m = .bad c q := by
 unfold whole
 rw [h]
 rfl
theorem whole_bad2 {m : List Tok} {x : Fun} {r : List Tok} {c : Int} {q : Nat} (h : func m = .ok x r) (h2 : ofk 0 r = .bad c q) : whole m = .bad c q := by
 unfold whole
 rw [h]
 show (ofk 0 r).bind _ = _
 rw [h2]
 rfl
set_option maxHeartbeats 4000000 in
theorem rtext_v (s : ByteArray) (w : World) : Calls Tryz.prog 9 #[.string s] w (DText s w) := by
 obtain ⟨w0, hw0⟩ : ∃ w0, w.alloc (.cells #[.bool false, .string ⟨#[]⟩, .slice none 0 0, .slice none 0 0, .slice none 0 0] 27) = w0 := ⟨_, rfl⟩
 have nb := new_box w _ 27 hw0
 have HA := Hh nb
 clear nb
 go_enter Tryz.func9, Tryz.ntmps9
 go_wp2_with fail
 try rw [hw0]
 clear hw0
 refine (Lex.doc_v s w0).mono ?_
 rintro e w1 ⟨m, code, q, hm, hb, ⟨rfl, A, c, rfl, ho⟩ | ⟨hc, rfl⟩⟩
 ·obtain ⟨g, rfl, hglo, hglt, hT, hE, hW, hS⟩ := toks_of hm ho
  obtain ⟨n, hn⟩ : ∃ n, m.length = n := ⟨_, rfl⟩
  rw [hn] at hT
  have z1 := kept_box HA.out.2 hb
  have HB := Hh (Ai hm (Ai (HA.out.1.trans (hb.mono HA.out.1.size)) (Ai hT (Ai hE (Ai hW (Ai hS z1))))))
  rw [hn]
  clear hm hb ho hT hE hW hS z1 hglo hglt hn
  go_wp2_with fail
  refine (rnew_v HB.out.2.2.1 HB.out.2.2.2.1 HB.out.2.2.2.2.1).mono ?_
  rintro e w2 ⟨rfl, hb2, hr2⟩
  have hsz := HB.out.2.1.size
  obtain ⟨p, hp⟩ : ∃ p, w1.heap.size = p := ⟨_, rfl⟩
  have hpz : w.heap.size < p := by rw [← hp]; exact (Array.getElem?_eq_some_iff.1 HB.out.2.2.2.2.2.2).1
  have z2 := kept_box HB.out.2.2.2.2.2.2 hb2
  have b2 := HB.out.2.1.trans (hb2.mono hsz)
  rw [hp] at hr2
  have HC := Hh (Ai hr2 (Ai z2 (Ai b2 hpz)))
  rw [hp]
  clear hb2 hr2 hsz hp hpz z2 b2
  go_wp2_with fail
  refine (rfunc_v HB.out.2.2.2.2.2.1 HC.out.1).mono ?_
  rintro e w3 ⟨s3, x, val, rfl, hs3, hr3, htr3, r, rfl, hH⟩
  obtain ⟨w4, hw4⟩ : ∃ w4, w3.alloc (.cells #[.bool false, .string ⟨#[]⟩, .slice none 0 0, .slice none 0 0, .slice none 0 0] 27) = w4 := ⟨_, rfl⟩
  have nb := new_box w3 _ 27 hw4
  have z3 : w3.heap[w.heap.size]? = some (.cells #[.bool false, .string ⟨#[]⟩, .slice none 0 0, .slice none 0 0, .slice none 0 0] 27 (0, 0)) := by
   rw [hs3.2.2.2.2 _ (Array.getElem?_eq_some_iff.1 HC.out.2.1).1 (by have := HC.out.2.2.2; omega)]
   exact HC.out.2.1
  have b3 : Below w.heap.size w w3 := HC.out.2.2.1.trans (step_below' hs3 HC.out.2.2.1.size (Nat.le_of_lt HC.out.2.2.2))
  have hsz3 := hs3.size
  obtain ⟨F, hF⟩ : ∃ F, w3.heap.size = F := ⟨_, rfl⟩
  have hpF : p < F := by rw [← hF]; exact hr3.plt
  have hwF : w2.heap.size ≤ F := by rw [← hF]; exact hsz3
  have b4 : Below w.heap.size w w4 := b3.trans (nb.1.mono b3.size)
  have r4 := hr3.below nb.1
  have z4 := kept_box z3 nb.1
  have hp2 := HC.out.1.plt
  obtain ⟨w5, hw5⟩ : ∃ w5, Lex.five w4 F (.bool x.machine) (.string x.name) (.slice r.ra r.rn r.rc) (.slice r.pa r.pn r.pc) (.slice r.ba r.bn r.bc) = w5 := ⟨_, rfl⟩
  have hb5 : Below F w4 w5 := hw5 ▸ Lex.five_below (Below.refl _ w4) (Nat.le_refl _)
  have H5 : Held (fun k => w2.heap.size ≤ k) w5 fun W => IsFun W x r :=
   hH.keep ⟨Nat.le_trans nb.1.size hb5.size, fun k hk hs => (hb5.block k (by rw [← hF]; exact hk)).trans (nb.1.block k hk)⟩
  rw [hF] at nb
  have F5 : w5.heap[F]? = some (.cells #[.bool x.machine, .string x.name, .slice r.ra r.rn r.rc, .slice r.pa r.pn r.pc, .slice r.ba r.bn r.bc] 27 (0, 0)) := hw5 ▸ Lex.five_heap nb.2
  have r5 : Rd w5 p (some ⟨g, 0, none⟩) n c m s3 := r4.keep HC.out.1 (below_agree (hb5.mono hwF))
  have z5 : w5.heap[w.heap.size]? = some (.cells #[.bool false, .string ⟨#[]⟩, .slice none 0 0, .slice none 0 0, .slice none 0 0] 27 (0, 0)) := by
   rw [hb5.block _ (by have := HC.out.2.2.2; omega)]
   exact z4
  have b5 : Below w.heap.size w w5 := b4.trans (hb5.mono (by have := HC.out.2.2.2; omega))
  have HD := Hh (Ai r5 (Ai z5 (Ai b5 (Ai F5 (Ai H5 (Ai htr3 (Ai hpF hp2)))))))
  obtain ⟨⟨n0, n1, n2, n3, n4⟩, m0, m1, m2, m3, m4⟩ := box5 nb.2
  unfold Lex.five at hw5
  clear hs3 hr3 htr3 hH nb z3 b3 hsz3 hpF hwF b4 r4 z4 hp2 hb5 H5 F5 r5 z5 b5
  unfold funR
  go_wp2_with fail
  try rw [hw5]
  clear n0 n1 n2 n3 n4 m0 m1 m2 m3 m4 hw5 hF hw4
  refine (rofz_v HD.out.1).mono ?_
  rintro e w6 ⟨a, cc, q2, tt, rfl, hs6, box6, hor⟩
  have z6 : w6.heap[w.heap.size]? = some (.cells #[.bool false, .string ⟨#[]⟩, .slice none 0 0, .slice none 0 0, .slice none 0 0] 27 (0, 0)) := by
   rw [hs6.2.2.2.2 _ (Array.getElem?_eq_some_iff.1 HD.out.2.1).1 (by have := HC.out.2.2.2; omega)]
   exact HD.out.2.1
  have F6 : w6.heap[F]? = some (.cells #[.bool x.machine, .string x.name, .slice r.ra r.rn r.rc, .slice r.pa r.pn r.pc, .slice r.ba r.bn r.bc] 27 (0, 0)) := by
   rw [hs6.2.2.2.2 _ (Array.getElem?_eq_some_iff.1 HD.out.2.2.2.1).1 (by have := HD.out.2.2.2.2.2.2.1; omega)]
   exact HD.out.2.2.2.1
  have b6 : Below w.heap.size w w6 := HD.out.2.2.1.trans (step_below' hs6 HD.out.2.2.1.size (Nat.le_of_lt HC.out.2.2.2))
  have H6 : Held (fun k => w2.heap.size ≤ k) w6 fun W => IsFun W x r := HD.out.2.2.2.2.1.keep ⟨hs6.size, fun k hk hs => hs6.2.2.2.2 k hk (by have := HD.out.2.2.2.2.2.2.2; omega)⟩
  have HE := Hh (Ai box6 (Ai z6 (Ai b6 (Ai F6 (Ai H6 hor)))))
  clear hs6 box6 z6 F6 b6 H6 hor
  go_wp2_with fail
  by_cases hc : cc = 0
  ·subst hc
   refine (rok_box true rfl HE.out.1).mono ?_
   rintro e w7 ⟨rfl, rfl⟩
   obtain ⟨⟨n0, n1, n2, n3, n4⟩, m0, m1, m2, m3, m4⟩ := box5 HE.out.2.2.2.1
   obtain ⟨⟨u0, u1, u2, u3, u4⟩, v0, v1, v2, v3, v4⟩ := box5 HE.out.2.1
   go_wp2_with fail
   refine fin_text4 (fn := Tryz.f9) rfl rfl (Lex.five_heap HE.out.2.1) rfl ?_
   have hb : Below w.heap.size w6 (Lex.five w6 w.heap.size (.bool x.machine) (.string x.name) (.slice r.ra r.rn r.rc) (.slice r.pa r.pn r.pc) (.slice r.ba r.bn r.bc)) := Lex.five_below (Below.refl _ w6) (Nat.le_refl _)
   refine ⟨HE.out.2.2.1.trans hb, .inr (.inl ?_)⟩
   rcases HE.out.2.2.2.2.2 with ⟨_, h0, t, rr, h1⟩ | ⟨h0, _⟩
   ·have hg := HD.out.2.2.2.2.2.1.good h0
    exact ⟨m, q, x, rr, r, HB.out.1, whole_ok hg.2 h1, rfl, (HE.out.2.2.2.2.1.keep ((five_agree w6 w.heap.size _ _ _ _ _).weak fun k _ hk => by have := HD.out.2.2.2.2.2.2.2; have := HC.out.2.2.2; omega)).here⟩
   ·exact absurd rfl h0
  ·have hcb : (cc == 0) = false := by rw [Bqf]; exact hc
   have HCc := Hh hc
   refine (rok_box false hcb HE.out.1).mono ?_
   rintro e w7 ⟨rfl, rfl⟩
   obtain ⟨⟨u0, u1, u2, u3, u4⟩, v0, v1, v2, v3, v4⟩ := box5 HE.out.2.1
   have k2 : w6.cell? ⟨p, 2, none⟩ = some (.int .i64 cc) := cell_in HE.out.1 2
   have k3 : w6.cell? ⟨p, 3, none⟩ = some (.int .i64 (q2 : Int)) := cell_in HE.out.1 3
   have hpw : p ≠ w.heap.size := by have := HC.out.2.2.2; omega
   have k2b := (five_agree w6 w.heap.size (.bool false) (.string ⟨#[]⟩) (.slice none 0 0) (.slice none 0 0) (.slice none 0 0)).cell (a := ⟨p, 2, none⟩) hpw k2
   have k3b := (five_agree w6 w.heap.size (.bool false) (.string ⟨#[]⟩) (.slice none 0 0) (.slice none 0 0) (.slice none 0 0)).cell (a := ⟨p, 3, none⟩) hpw k3
   unfold Lex.five at k2b k3b
   clear hc hcb hpw
   go_wp2_with fail
   go_region
   go_wp2_with fail
   have hb : Below w.heap.size w6 (Lex.five w6 w.heap.size (.bool false) (.string ⟨#[]⟩) (.slice none 0 0) (.slice none 0 0) (.slice none 0 0)) := Lex.five_below (Below.refl _ w6) (Nat.le_refl _)
   refine fin_text4 (fn := Tryz.f9) rfl rfl (Lex.five_heap HE.out.2.1) rfl ?_
   refine ⟨(HE.out.2.2.1.trans hb).drew, .inr (.inr ⟨m, q, cc, q2, HB.out.1, HCc.out, ?_, rfl⟩)⟩
   rcases HE.out.2.2.2.2.2 with ⟨h0, _⟩ | ⟨_, ⟨h1, h2, h3⟩ | ⟨h1, h2⟩⟩
   ·exact absurd h0 HCc.out
   ·rw [h2, h3]
    exact whole_bad (HD.out.2.2.2.2.2.1.bad rfl h1)
   ·exact whole_bad2 (HD.out.2.2.2.2.2.1.good h1).2 h2
 ·have z1 := kept_box HA.out.2 hb
  have hcb : (code != 0) = true := by rw [bne_iff_ne]; exact hc
  have HB := Hh (Ai z1 (Ai (HA.out.1.trans (hb.mono HA.out.1.size)) (Ai hc hm)))
  obtain ⟨⟨u0, u1, u2, u3, u4⟩, v0, v1, v2, v3, v4⟩ := box5 z1
  clear hb hm hc z1
  go_wp2_with fail
  refine fin_text4 (fn := Tryz.f9) rfl rfl (Lex.five_heap HB.out.1) rfl ?_
  exact ⟨HB.out.2.1.trans (Lex.five_below (Below.refl _ w1) (Nat.le_refl _)), .inl ⟨m, code, q, HB.out.2.2.1, HB.out.2.2.2, rfl⟩⟩
theorem texts_long (s : ByteArray) (hs : 4000 < s.size) (w : World) (hG : Opr.Glob w) (hF : Flt.Glob w) : Calls Tryz.prog 3 #[.string s] w fun e w' => e = .returned (.bool true) ∧ Below w.heap.size w w' := by
 have h1 : (4000 : Int) < (s.size : Int) := by omega
 have HA := Hh (Ai hG hF)
 clear hG hF hs
 go_enter Tryz.func3, Tryz.ntmps3
 go_wp2_with fail
 refine (works_v w HA.out.1 HA.out.2).mono ?_
 rintro e w1 ⟨rfl, hb⟩
 go_wp2_with fail
 go_ret
 exact ⟨rfl, hb⟩
set_option maxHeartbeats 4000000 in
theorem texts_v (s : ByteArray) (w : World) (hG : Opr.Glob w) (hF : Flt.Glob w) : Calls Tryz.prog 3 #[.string s] w fun e w' => e = .returned (.bool true) ∧ Below w.heap.size w w' := by
 by_cases hs : 4000 < s.size
 ·exact texts_long s hs w hG hF
 have h1 : ¬ (4000 : Int) < (s.size : Int) := by omega
 have HA := Hh (Ai hG hF)
 clear hG hF hs
 go_enter Tryz.func3, Tryz.ntmps3
 go_wp2_with fail
 refine (text_v s w HA.out.1).mono ?_
 rintro e w1 ⟨hb1, ⟨m, code, q, hc, hm, rfl⟩ | ⟨m, q, x, l, r, hm, hw, rfl, hfn⟩ | ⟨m, q, c, p, hm, hc, hw, rfl⟩⟩
 ·have HM := Hh (Ai hm hc)
  clear hm hc
  obtain ⟨T, v, hE⟩ := Flt.err_iface code (q : Int) [textB]
  have HE := Hh hE
  rw [hE]
  clear hE
  obtain ⟨w2, hw2⟩ : ∃ w2, w1.alloc (.cells #[.bool false, .string ⟨#[]⟩, .slice none 0 0, .slice none 0 0, .slice none 0 0] 27) = w2 := ⟨_, rfl⟩
  obtain ⟨w3, hw3⟩ : ∃ w3, Lex.five w2 w1.heap.size (.bool false) (.string ⟨#[]⟩) (.slice none 0 0) (.slice none 0 0) (.slice none 0 0) = w3 := ⟨_, rfl⟩
  have lw3 := laid hw2 hw3
  have Lw3 := Hh lw3
  obtain ⟨⟨n0, n1, n2, n3, n4⟩, m0, m1, m2, m3, m4⟩ := box5 lw3.2.2
  unfold Lex.five at hw3
  clear lw3
  have HB := Hh (hb1.trans (Lw3.out.1.mono hb1.size))
  clear hb1
  unfold funZ
  go_wp2_with fail
  try rw [hw3]
  clear n0 n1 n2 n3 n4 m0 m1 m2 m3 m4
  clear hw3 hw2
  refine (rtext_v s w3).mono ?_
  rintro e w4 ⟨hb4, hor⟩
  have h4 : e = .returned (.tuple #[funZ, .int .i64 code, .int .i64 (q : Int), .bool true]) := by
   rcases hor with ⟨m2, code2, q2, hc2, hm2, rfl⟩ | ⟨m2, q2, x2, l2, r2, hm2, _⟩ | ⟨m2, q2, c2, p2, hm2, _⟩
   ·rw [HM.out.1] at hm2
    injection hm2 with _ hm2
    injection hm2 with e1 e2
    rw [e1, e2]
   ·rw [HM.out.1] at hm2
    injection hm2 with _ hm2
    injection hm2 with e1 e2
    exact absurd e1 HM.out.2
   ·rw [HM.out.1] at hm2
    injection hm2 with _ hm2
    injection hm2 with e1 e2
    exact absurd e1 HM.out.2
  subst h4
  have HC := Hh (Ai (HB.out.trans (hb4.mono HB.out.size)) (kept_box Lw3.out.2.1 hb4))
  clear hb4 hor
  obtain ⟨w5, hw5⟩ : ∃ w5, w4.alloc (.cells #[.bool false, .string ⟨#[]⟩, .slice none 0 0, .slice none 0 0, .slice none 0 0] 27) = w5 := ⟨_, rfl⟩
  obtain ⟨w6, hw6⟩ : ∃ w6, Lex.five w5 w4.heap.size (.bool false) (.string ⟨#[]⟩) (.slice none 0 0) (.slice none 0 0) (.slice none 0 0) = w6 := ⟨_, rfl⟩
  have lw6 := laid hw5 hw6
  have Lw6 := Hh lw6
  obtain ⟨⟨n0, n1, n2, n3, n4⟩, m0, m1, m2, m3, m4⟩ := box5 lw6.2.2
  unfold Lex.five at hw6
  clear lw6
  have HD := Hh (Ai (HC.out.1.trans (Lw6.out.1.mono HC.out.1.size)) (Ai (kept_box HC.out.2 Lw6.out.1) Lw6.out.2.1))
  unfold funZ
  go_wp2_with fail
  try rw [hw6]
  clear n0 n1 n2 n3 n4 m0 m1 m2 m3 m4
  clear hw5 hw6
  rw [← HE.out]
  refine (Flt.path_v code (q : Int) [textB] (by decide) w6 (next_flt HA.out.2 HD.out.1)).mono ?_
  rintro e w7 ⟨A, cA, rfl, ho, hb7⟩
  obtain ⟨g, rfl, hglt, hg0⟩ := path_one ho
  have HP := Hh (Ai (HD.out.1.trans (hb7.mono HD.out.1.size)) (Ai (kept_box HD.out.2.1 hb7) (Ai hglt hg0)))
  clear ho hb7 hglt hg0
  have q1 : (code == 0) = false := by rw [Bqf]; exact HM.out.2
  rw [HE.out]
  go_wp2_with fail
  rw [← HE.out]
  refine (Flt.of_v code (q : Int) [textB] _ (next_flt HA.out.2 HP.out.1)).mono ?_
  rintro e w8 ⟨rfl, hb8⟩
  have HQ := Hh (Ai (HP.out.1.trans (hb8.mono HP.out.1.size)) (Ai (kept_box HP.out.2.1 hb8) (Ai (Nat.lt_of_lt_of_le HP.out.2.2.1 hb8.size) ((hb8.cell HP.out.2.2.1).trans HP.out.2.2.2))))
  have q2 : (code == code) = true := by rw [beq_iff_eq]
  clear hb8
  rw [HE.out]
  go_wp2_with fail
  rw [← HE.out]
  refine (Flt.at_v code (q : Int) [textB] _ (next_flt HA.out.2 HQ.out.1)).mono ?_
  rintro e w9 ⟨rfl, hb9⟩
  have HR := Hh (Ai (HQ.out.1.trans (hb9.mono HQ.out.1.size)) (Ai (kept_box HQ.out.2.1 hb9) ((hb9.cell HQ.out.2.2.1).trans HQ.out.2.2.2)))
  have q3 : ((q : Int) == (q : Int)) = true := by rw [beq_iff_eq]
  have c0 := HR.out.2.2
  obtain ⟨⟨n0, n1, n2, n3, n4⟩, m0, m1, m2, m3, m4⟩ := box5 HR.out.2.1
  clear hb9
  unfold textB at c0
  rw [HE.out]
  go_wp2_with fail
  refine (eq11_v fun0 fun0 fun0V fun0V w9 (fun0_is w9) (fun0_is w9)).mono ?_
  rintro e wa ⟨rfl, hba⟩
  have HS := Hh (HR.out.1.trans (hba.mono HR.out.1.size))
  clear hba n0 n1 n2 n3 n4 m0 m1 m2 m3 m4 c0
  rw [funEq_refl]
  go_wp2_with fail
  refine (works_v _ (next_opr HA.out.1 HS.out) (next_flt HA.out.2 HS.out)).mono ?_
  rintro e wb ⟨rfl, hbb⟩
  have HY := Hh (HS.out.trans (hbb.mono HS.out.size))
  clear hbb
  go_wp2_with fail
  go_ret
  exact ⟨rfl, HY.out⟩
 ·have HM := Hh (Ai hm hw)
  clear hm hw
  obtain ⟨w2, hw2⟩ : ∃ w2, w1.alloc (.cells #[.bool false, .string ⟨#[]⟩, .slice none 0 0, .slice none 0 0, .slice none 0 0] 27) = w2 := ⟨_, rfl⟩
  obtain ⟨w3, hw3⟩ : ∃ w3, Lex.five w2 w1.heap.size (.bool x.machine) (.string x.name) (.slice r.ra r.rn r.rc) (.slice r.pa r.pn r.pc) (.slice r.ba r.bn r.bc) = w3 := ⟨_, rfl⟩
  have lw3 := laid hw2 hw3
  have Lw3 := Hh lw3
  obtain ⟨⟨n0, n1, n2, n3, n4⟩, m0, m1, m2, m3, m4⟩ := box5 lw3.2.2
  unfold Lex.five at hw3
  clear lw3
  have HB := Hh (Ai (hb1.trans (Lw3.out.1.mono hb1.size)) (hfn.below Lw3.out.1))
  clear hb1 hfn
  unfold funR
  go_wp2_with fail
  try rw [hw3]
  clear n0 n1 n2 n3 n4 m0 m1 m2 m3 m4
  clear hw3 hw2
  refine (rtext_v s w3).mono ?_
  rintro e w4 ⟨hb4, hor⟩
  have h4 : ∃ r2, e = .returned (.tuple #[.agg (funR x r2), .int .i64 0, .int .i64 0, .bool false]) ∧ IsFun w4 x r2 := by
   rcases hor with ⟨m2, code2, q2, hc2, hm2, rfl⟩ | ⟨m2, q2, x2, l2, r2, hm2, hw2, rfl, hfn2⟩ | ⟨m2, q2, c2, p2, hm2, hc2, hw2, rfl⟩
   ·rw [HM.out.1] at hm2
    injection hm2 with _ hm2
    injection hm2 with e1 e2
    exact absurd e1.symm hc2
   ·rw [HM.out.1] at hm2
    injection hm2 with e0 _
    rw [← e0, HM.out.2] at hw2
    injection hw2 with e1 _
    rw [← e1] at hfn2
    exact ⟨r2, by rw [e1], hfn2⟩
   ·rw [HM.out.1] at hm2
    injection hm2 with e0 _
    rw [← e0, HM.out.2] at hw2
    cases hw2
  obtain ⟨r2, rfl, hfn2⟩ := h4
  have HC := Hh (Ai (HB.out.1.trans (hb4.mono HB.out.1.size)) (Ai (kept_box Lw3.out.2.1 hb4) (Ai (HB.out.2.below hb4) hfn2)))
  clear hb4 hor hfn2
  obtain ⟨w5, hw5⟩ : ∃ w5, w4.alloc (.cells #[.bool false, .string ⟨#[]⟩, .slice none 0 0, .slice none 0 0, .slice none 0 0] 27) = w5 := ⟨_, rfl⟩
  obtain ⟨w6, hw6⟩ : ∃ w6, Lex.five w5 w4.heap.size (.bool x.machine) (.string x.name) (.slice r2.ra r2.rn r2.rc) (.slice r2.pa r2.pn r2.pc) (.slice r2.ba r2.bn r2.bc) = w6 := ⟨_, rfl⟩
  have lw6 := laid hw5 hw6
  have Lw6 := Hh lw6
  obtain ⟨⟨n0, n1, n2, n3, n4⟩, m0, m1, m2, m3, m4⟩ := box5 lw6.2.2
  unfold Lex.five at hw6
  clear lw6
  have HD := Hh (Ai (HC.out.1.trans (Lw6.out.1.mono HC.out.1.size)) (Ai (kept_box HC.out.2.1 Lw6.out.1) (Ai Lw6.out.2.1 (Ai (HC.out.2.2.1.below Lw6.out.1) (HC.out.2.2.2.below Lw6.out.1)))))
  unfold funR
  go_wp2_with fail
  try rw [hw6]
  clear n0 n1 n2 n3 n4 m0 m1 m2 m3 m4
  clear hw5 hw6
  refine (Flt.path_nil w6).mono ?_
  rintro e w7 ⟨rfl, hb7⟩
  have HP := Hh (Ai (HD.out.1.trans (hb7.mono HD.out.1.size)) (Ai (kept_box HD.out.2.1 hb7) (Ai (kept_box HD.out.2.2.1 hb7) (Ai (HD.out.2.2.2.1.below hb7) (HD.out.2.2.2.2.below hb7)))))
  obtain ⟨⟨n0, n1, n2, n3, n4⟩, m0, m1, m2, m3, m4⟩ := box5 HP.out.2.1
  obtain ⟨⟨k0, k1, k2, k3, k4⟩, j0, j1, j2, j3, j4⟩ := box5 HP.out.2.2.1
  clear hb7
  go_wp2_with fail
  refine (eq11_v x x r r2 w7 HP.out.2.2.2.1 HP.out.2.2.2.2).mono ?_
  rintro e wa ⟨rfl, hba⟩
  have HS := Hh (HP.out.1.trans (hba.mono HP.out.1.size))
  clear hba n0 n1 n2 n3 n4 m0 m1 m2 m3 m4 k0 k1 k2 k3 k4 j0 j1 j2 j3 j4
  rw [funEq_refl]
  go_wp2_with fail
  refine (works_v _ (next_opr HA.out.1 HS.out) (next_flt HA.out.2 HS.out)).mono ?_
  rintro e wb ⟨rfl, hbb⟩
  have HY := Hh (HS.out.trans (hbb.mono HS.out.size))
  clear hbb
  go_wp2_with fail
  go_ret
  exact ⟨rfl, HY.out⟩
 ·have HM := Hh (Ai (Ai hm hw) hc)
  clear hm hw hc
  obtain ⟨T, v, hE⟩ := Flt.err_iface c (p : Int) [funcB]
  have HE := Hh hE
  rw [hE]
  clear hE
  obtain ⟨w2, hw2⟩ : ∃ w2, w1.alloc (.cells #[.bool false, .string ⟨#[]⟩, .slice none 0 0, .slice none 0 0, .slice none 0 0] 27) = w2 := ⟨_, rfl⟩
  obtain ⟨w3, hw3⟩ : ∃ w3, Lex.five w2 w1.heap.size (.bool false) (.string ⟨#[]⟩) (.slice none 0 0) (.slice none 0 0) (.slice none 0 0) = w3 := ⟨_, rfl⟩
  have lw3 := laid hw2 hw3
  have Lw3 := Hh lw3
  obtain ⟨⟨n0, n1, n2, n3, n4⟩, m0, m1, m2, m3, m4⟩ := box5 lw3.2.2
  unfold Lex.five at hw3
  clear lw3
  have HB := Hh (hb1.trans (Lw3.out.1.mono hb1.size))
  clear hb1
  unfold funZ
  go_wp2_with fail
  try rw [hw3]
  clear n0 n1 n2 n3 n4 m0 m1 m2 m3 m4
  clear hw3 hw2
  refine (rtext_v s w3).mono ?_
  rintro e w4 ⟨hb4, hor⟩
  have h4 : e = .returned (.tuple #[funZ, .int .i64 c, .int .i64 (p : Int), .bool false]) := by
   rcases hor with ⟨m2, code2, q2, hc2, hm2, rfl⟩ | ⟨m2, q2, x2, l2, r2, hm2, hw2, _⟩ | ⟨m2, q2, c2, p2, hm2, hc2, hw2, rfl⟩
   ·rw [HM.out.1.1] at hm2
    injection hm2 with _ hm2
    injection hm2 with e1 e2
    exact absurd e1.symm hc2
   ·rw [HM.out.1.1] at hm2
    injection hm2 with e0 _
    rw [← e0, HM.out.1.2] at hw2
    cases hw2
   ·rw [HM.out.1.1] at hm2
    injection hm2 with e0 _
    rw [← e0, HM.out.1.2] at hw2
    injection hw2 with e1 e2
    rw [e1, e2]
  subst h4
  have HC := Hh (Ai (HB.out.trans (hb4.mono HB.out.size)) (kept_box Lw3.out.2.1 hb4))
  clear hb4 hor
  obtain ⟨w5, hw5⟩ : ∃ w5, w4.alloc (.cells #[.bool false, .string ⟨#[]⟩, .slice none 0 0, .slice none 0 0, .slice none 0 0] 27) = w5 := ⟨_, rfl⟩
  obtain ⟨w6, hw6⟩ : ∃ w6, Lex.five w5 w4.heap.size (.bool false) (.string ⟨#[]⟩) (.slice none 0 0) (.slice none 0 0) (.slice none 0 0) = w6 := ⟨_, rfl⟩
  have lw6 := laid hw5 hw6
  have Lw6 := Hh lw6
  obtain ⟨⟨n0, n1, n2, n3, n4⟩, m0, m1, m2, m3, m4⟩ := box5 lw6.2.2
  unfold Lex.five at hw6
  clear lw6
  have HD := Hh (Ai (HC.out.1.trans (Lw6.out.1.mono HC.out.1.size)) (Ai (kept_box HC.out.2 Lw6.out.1) Lw6.out.2.1))
  unfold funZ
  go_wp2_with fail
  try rw [hw6]
  clear n0 n1 n2 n3 n4 m0 m1 m2 m3 m4
  clear hw5 hw6
  rw [← HE.out]
  refine (Flt.path_v c (p : Int) [funcB] (by decide) w6 (next_flt HA.out.2 HD.out.1)).mono ?_
  rintro e w7 ⟨A, cA, rfl, ho, hb7⟩
  obtain ⟨g, rfl, hglt, hg0⟩ := path_one ho
  have HP := Hh (Ai (HD.out.1.trans (hb7.mono HD.out.1.size)) (Ai (kept_box HD.out.2.1 hb7) (Ai hglt hg0)))
  clear ho hb7 hglt hg0
  have q1 : (c == 0) = false := by rw [Bqf]; exact HM.out.2
  rw [HE.out]
  go_wp2_with fail
  rw [← HE.out]
  refine (Flt.of_v c (p : Int) [funcB] _ (next_flt HA.out.2 HP.out.1)).mono ?_
  rintro e w8 ⟨rfl, hb8⟩
  have HQ := Hh (Ai (HP.out.1.trans (hb8.mono HP.out.1.size)) (Ai (kept_box HP.out.2.1 hb8) (Ai (Nat.lt_of_lt_of_le HP.out.2.2.1 hb8.size) ((hb8.cell HP.out.2.2.1).trans HP.out.2.2.2))))
  have q2 : (c == c) = true := by rw [beq_iff_eq]
  clear hb8
  rw [HE.out]
  go_wp2_with fail
  rw [← HE.out]
  refine (Flt.at_v c (p : Int) [funcB] _ (next_flt HA.out.2 HQ.out.1)).mono ?_
  rintro e w9 ⟨rfl, hb9⟩
  have HR := Hh (Ai (HQ.out.1.trans (hb9.mono HQ.out.1.size)) (Ai (kept_box HQ.out.2.1 hb9) ((hb9.cell HQ.out.2.2.1).trans HQ.out.2.2.2)))
  have q3 : ((p : Int) == (p : Int)) = true := by rw [beq_iff_eq]
  have c0 := HR.out.2.2
  obtain ⟨⟨n0, n1, n2, n3, n4⟩, m0, m1, m2, m3, m4⟩ := box5 HR.out.2.1
  clear hb9
  unfold funcB at c0
  rw [HE.out]
  go_wp2_with fail
  refine (eq11_v fun0 fun0 fun0V fun0V w9 (fun0_is w9) (fun0_is w9)).mono ?_
  rintro e wa ⟨rfl, hba⟩
  have HS := Hh (HR.out.1.trans (hba.mono HR.out.1.size))
  clear hba n0 n1 n2 n3 n4 m0 m1 m2 m3 m4 c0
  rw [funEq_refl]
  go_wp2_with fail
  refine (works_v _ (next_opr HA.out.1 HS.out) (next_flt HA.out.2 HS.out)).mono ?_
  rintro e wb ⟨rfl, hbb⟩
  have HY := Hh (HS.out.trans (hbb.mono HS.out.size))
  clear hbb
  go_wp2_with fail
  go_ret
  exact ⟨rfl, HY.out⟩
end Go.Proofs.YtbpichjmkllfaaaGreatDoor.Par
