/- The pile and the document's list, side by side: what each deed makes of them. -/
import Derived.Test.YthnpjaklcebgfaaRefDrain
import Derived.Test.YthnpjaklcebgfaaOpen
namespace Go.Proofs.Ythnpjaklcebgfaa
open Go.ChangeShapes Go.WideShapes Go.RowKit
set_option linter.unusedVariables false

/-- What is so at a round's beginning: the pile, and the document's list. -/
structure St (w wr : World) (p q g cap : Nat) (m : List It) (A : Option Addr) (c : Nat) (x : List It) : Prop where
  pl : Pl w.heap.size wr p q g cap m
  own : OwnI w.heap.size wr A c x
  ne : ∀ k, blk A x.length c = some k → k ≠ p ∧ k ≠ q ∧ k ≠ g
  perm : m.Perm x
  gr : w.grownBy wr none
theorem St.grow {w wr w2 : World} {p q g cap : Nat} {m : List It} {A : Option Addr} {c : Nat} {x : List It} (h : St w wr p q g cap m A c x) (hg : wr.grownBy w2 none) : St w w2 p q g cap m A c x :=
  ⟨h.pl.grow hg, h.own.grow hg, h.ne, h.perm, gtrans h.gr hg⟩
/-- .. whatever stands in them. -/
structure Sx (w wr : World) (p q : Nat) (A : Option Addr) (N c : Nat) : Prop where
  ex : ∃ g cap m x, St w wr p q g cap m A c x ∧ x.length = N
/-- A new list beside the pile. -/
theorem st_start {w w1 w2 : World} {p q g cap : Nat} {m l : List It} {A : Option Addr} {c : Nat} (hp : Pl w.heap.size w1 p q g cap m) (hm : m.Perm l) (g1 : w.grownBy w1 none) (ho : OwnI w1.heap.size w2 A c l) (g2 : w1.grownBy w2 none) : St w w2 p q g cap m A c l :=
  ⟨hp.grow g2, ho.mono g1.size, fun k e => by have h1 := (ho.lo k e).1; have h2 := hp.lt; have h3 := hp.at_.lt; have h4 := hp.at_.ltg; omega, hm, gtrans g1 g2⟩
theorem St.kp {w wr w2 : World} {p q g cap : Nat} {m : List It} {A : Option Addr} {c : Nat} {x : List It} (h : St w wr p q g cap m A c x) (hk : Kp q g wr w2) : OwnI w.heap.size w2 A c x ∧ w.grownBy w2 none :=
  ⟨hk.owns h.own (fun k e => ⟨(h.ne k e).2.1, (h.ne k e).2.2⟩), hk.new h.gr h.pl.at_.lo h.pl.at_.log⟩
theorem St.push {w wr w2 W w3 : World} {p q g g1 cap cap1 : Nat} {m m1 : List It} {A : Option Addr} {c N g' cap' : Nat} {x : List It} {y : It} (h : St w wr p q g cap m A c x) (hN : x.length = N) (hp : Pl w.heap.size w2 p q g1 cap1 m1) (hm : m1.Perm (m ++ [y])) (hk : Kp q g wr w2) (hg1 : g1 = g ∨ wr.heap.size ≤ g1)
    (hW : w2.grownBy W none) (hown : w3.ownsRow w.heap.size 28 2 (.slice (some ⟨g', 0, none⟩) (N + 1) cap') (N + 1) (cs x ++ cs [y])) (hg : W.grownBy w3 (blk A N c)) (hat : blk A N c = some g' ∨ g' = W.heap.size) :
    St w w3 p q g1 cap1 m1 (some ⟨g', 0, none⟩) cap' (x ++ [y]) := by
  obtain ⟨o2, gr2⟩ := h.kp hk
  have hb : ∀ i, blk A N c = some i → w.heap.size ≤ i ∧ i < wr.heap.size ∧ i ≠ p ∧ i ≠ q ∧ i ≠ g1 := fun i e => by
    have e' : blk A x.length c = some i := by rw [hN]; exact e
    have h1 := h.own.lo i e'
    have h2 := h.ne i e'
    refine ⟨h1.1, h1.2, h2.1, h2.2.1, ?_⟩
    rcases hg1 with e1 | e1
    · rw [e1]; exact h2.2.2
    · omega
  have hpW := hp.grow hW
  have grW := gtrans gr2 hW
  have e1 : (x ++ [y]).length = N + 1 := by simp [hN]
  refine ⟨hpW.kept hg (fun e => (hb p e.symm).2.2.1 rfl) (fun e => (hb q e.symm).2.2.2.1 rfl) (fun e => (hb g1 e.symm).2.2.2.2 rfl), ?_, fun i e => ?_, hm.trans (h.perm.append_right [y]), ?_⟩
  · unfold OwnI; rw [e1, cs_append]; exact hown
  · have e3 : g' = i := by simpa [Value.ownBlock] using e
    subst e3
    rcases hat with e4 | e4
    · exact (hb _ e4).2.2
    · have h2 := hpW.lt; have h3 := hpW.at_.lt; have h4 := hpW.at_.ltg; omega
  · exact ⟨hg.os.trans grW.os, hg.tape.trans grW.tape, hg.output.trans grW.output, Nat.le_trans grW.size hg.size, fun i hi hne => (hg.block i (Nat.lt_of_lt_of_le hi grW.size) (fun e => by have := (hb i e.symm).1; omega)).trans (grW.block i hi hne)⟩
theorem St.change {w wr w2 w3 : World} {p q g cap : Nat} {m m1 : List It} {A A' : Option Addr} {c c' : Nat} {x : List It} {v key : Int} (h : St w wr p q g cap m A c x) (ho : OwnI wr.heap.size w2 A' c' (x.map (chg v key))) (g2 : wr.grownBy w2 none)
    (hp : Pl w.heap.size w3 p q g cap m1) (hm : m1.Perm (m.map (chg v key))) (hk : Kp q g w2 w3) : St w w3 p q g cap m1 A' c' (x.map (chg v key)) := by
  have a2 := h.pl.lt
  have a3 := h.pl.at_.lt
  have a4 := h.pl.at_.ltg
  refine ⟨hp, ?_, fun k e => by have := (ho.lo k e).1; omega, hm.trans (chg_perm h.perm v key), hk.new (gtrans h.gr g2) h.pl.at_.lo h.pl.at_.log⟩
  refine OwnI.mono (N := wr.heap.size) (hk.owns ho (fun k e => by have := (ho.lo k e).1; omega)) h.gr.size
/-- What is drained hangs on nothing but what waits. -/
theorem drn_same {out out' : List It} : ∀ {l x rest rest' : List It}, Drn l out rest → Drn x out' rest' → l.Perm x → out.length = out'.length → out = out' ∧ rest.Perm rest' := by
  induction out generalizing out' with
  | nil =>
    intro l x rest rest' h h' hp hl
    obtain rfl : out' = [] := List.eq_nil_of_length_eq_zero hl.symm
    exact ⟨rfl, by simpa using h.1.trans (hp.trans h'.1.symm)⟩
  | cons a o ih =>
    intro l x rest rest' h h' hp hl
    cases out' with
    | nil => simp at hl
    | cons b o' =>
      have first : ∀ {l a : _} {o rest : List It}, Drn l (a :: o) rest → ∀ z ∈ a :: (o ++ rest), ¬bef z a := by
        intro l a o rest h z hz
        rcases List.mem_cons.1 hz with e | hz
        · rw [e]; exact bef_self _
        · rcases List.mem_append.1 hz with hz | hz
          · obtain ⟨j, hj, rfl⟩ := List.getElem_of_mem hz
            have := h.2.1 0 (j + 1) (by omega) (by simpa using hj)
            rw [ia_eq (by simpa using hj), ia_eq (by simp)] at this
            simpa using this
          · exact h.2.2 a (List.mem_cons_self ..) z hz
      have tl : ∀ {l a : _} {o rest : List It}, Drn l (a :: o) rest → Drn (o ++ rest) o rest := by
        intro l a o rest h
        refine ⟨List.Perm.refl _, fun i j hij hj => ?_, fun u hu v hv => h.2.2 u (List.mem_cons_of_mem _ hu) v hv⟩
        have := h.2.1 (i + 1) (j + 1) (by omega) (by simpa using hj)
        rw [ia_eq (by simpa using hj), ia_eq (by simp; omega)] at this
        rw [ia_eq hj, ia_eq (by omega)]
        simpa using this
      have hpp : (a :: (o ++ rest)).Perm (b :: (o' ++ rest')) := h.1.trans (hp.trans h'.1.symm)
      have hab : a = b := by
        refine nbef_eq ?_ ?_
        · exact first h b (hpp.mem_iff.2 (List.mem_cons_self ..))
        · exact first h' a (hpp.mem_iff.1 (List.mem_cons_self ..))
      subst hab
      obtain ⟨e1, e2⟩ := ih (tl h) (tl h') hpp.cons_inv (by simpa using hl)
      exact ⟨by rw [e1], e2⟩
theorem St.drain {w wr w2 w3 : World} {p q g cap : Nat} {m m3 out out2 m4 : List It} {A A1 A2 A3 : Option Addr} {c c1 c2 c3 : Nat} {x : List It} {most : Int} (h : St w wr p q g cap m A c x) (hd : Dr w.heap.size wr w2 p q g cap m A3 c3 out m3) (hl : out.length = min most.toNat m.length)
    (hL : Ld w.heap.size w2 w3 A c x A1 c1 m4 A2 c2 out2) (hl2 : out2.length = min most.toNat x.length) : St w w3 p q g cap m3 A1 c1 m4 ∧ out2 = out ∧ Its w3 A3 out ∧ Its w3 A2 out := by
  obtain ⟨e1, e2⟩ := drn_same hd.drn hL.drn h.perm (by rw [hl, hl2, h.perm.length_eq])
  have gr2 := (h.kp hd.kp).2
  refine ⟨⟨hd.pl.grow hL.gr, hL.rest, fun k e => ?_, e2, gtrans gr2 hL.gr⟩, e1.symm, hd.own.its.grow hL.gr, by rw [e1]; exact hL.got.its⟩
  rcases hL.src k e with e3 | e3
  · exact h.ne k e3
  · have h2 := hd.pl.lt; have h3 := hd.pl.at_.lt; have h4 := hd.pl.at_.ltg; omega
end Go.Proofs.Ythnpjaklcebgfaa
