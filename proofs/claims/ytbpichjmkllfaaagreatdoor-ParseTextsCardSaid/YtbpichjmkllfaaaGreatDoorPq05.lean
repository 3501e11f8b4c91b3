/- Packed texts of one proof. Conditions: none. -/
import Derived.Test.YtbpichjmkllfaaaGreatDoorPq04
import Derived.LaidEql
import Derived.Stop.Asserts
import Derived.RowKitTokens
import Derived.Lib.Builder
import Derived.Deep.Light
import Derived.StillTailTactics
import Derived.BigQuiet
import Derived.Test.YtbpichjmkllfaaaGreatDoorRows
import Derived.Outline
import Derived.WalkLawsBesides
import Derived.LoopTactic
import Derived.IntWalk
import Derived.Deep.LoopGhost
import Derived.Deep.WholeRow
import Derived.Laws.IdiomStrings
namespace Go.Proofs.YtbpichjmkllfaaaGreatDoor.Par
open Lex (Tok)
open Go.RowKit
set_option linter.unusedVariables false
set_option maxRecDepth 20000
inductive Md where
 | fac
 | pro
 | proL (x : Int)
 | sum
 | sumL (x : Int)
def negIf (m : Bool) (n : Int) : Int := if m = true then subV 0 n else n
def negR (m : Bool) : Fol.Res → Fol.Res
 | .val n a => .val (negIf m n) a
 | .bad c p => .bad c p
inductive Ev (ts : List Tok) : Md → Nat → Nat → Fol.Res → Prop where
 | deep {d a p : Nat} {t0 t : Tok} (h0 : ts[a]? = some t0) (hp : (if Fol.isT t0 [45] = true then a + 1 else a) = p) (ht : ts[p]? = some t) (h1 : Fol.isT t [40] = true) (h2 : d = 32) : Ev ts .fac d a (.bad 21 t.at_)
 | paren {d a p : Nat} {t0 t : Tok} {R : Fol.Res} (h0 : ts[a]? = some t0) (hp : (if Fol.isT t0 [45] = true then a + 1 else a) = p) (ht : ts[p]? = some t) (h1 : Fol.isT t [40] = true) (h2 : 0 < d) (h3 : d < 32) (h4 : Ev ts .sum (d + 1) (p + 1) R) : Ev ts .fac d a (negR (Fol.isT t0 [45]) R)
 | none {d a p : Nat} {t0 t : Tok} (h0 : ts[a]? = some t0) (hp : (if Fol.isT t0 [45] = true then a + 1 else a) = p) (ht : ts[p]? = some t) (h1 : Fol.isT t [40] = false ∨ (d = 0 ∧ Fol.isT t0 [45] = true)) (h2 : t.kind ≠ 2) : Ev ts .fac d a (.bad 20 t.at_)
 | range {d a : Nat} {t : Tok} (h0 : ts[a]? = some t) (h1 : Fol.isT t [45] = false) (h2 : t.kind = 2) (h3 : t.n = -9223372036854775808) : Ev ts .fac d a (.bad 2 t.at_)
 | num {d a p : Nat} {t0 t : Tok} (h0 : ts[a]? = some t0) (hp : (if Fol.isT t0 [45] = true then a + 1 else a) = p) (ht : ts[p]? = some t) (h1 : t.kind = 2) (h2 : Fol.isT t0 [45] = true ∨ t.n ≠ -9223372036854775808) : Ev ts .fac d a (.val (negIf (Fol.isT t0 [45]) t.n) (p + 1))
 | proBad {d a p : Nat} {c : Int} (h : Ev ts .fac d a (.bad c p)) : Ev ts .pro d a (.bad c p)
 | proGo {d a b : Nat} {x : Int} {R : Fol.Res} (h : Ev ts .fac d a (.val x b)) (k : Ev ts (.proL x) d b R) : Ev ts .pro d a R
 | proStop {d a : Nat} {x : Int} {t : Tok} (ht : ts[a]? = some t) (h : Fol.isT t [42] = false) : Ev ts (.proL x) d a (.val x a)
 | proLBad {d a p : Nat} {x c : Int} {t : Tok} (ht : ts[a]? = some t) (h : Fol.isT t [42] = true) (k : Ev ts .fac d (a + 1) (.bad c p)) : Ev ts (.proL x) d a (.bad c p)
 | proLGo {d a b : Nat} {x y : Int} {t : Tok} {R : Fol.Res} (ht : ts[a]? = some t) (h : Fol.isT t [42] = true) (k : Ev ts .fac d (a + 1) (.val y b)) (k2 : Ev ts (.proL (mulV x y)) d b R) : Ev ts (.proL x) d a R
 | sumBad {d a p : Nat} {c : Int} (h : Ev ts .pro d a (.bad c p)) : Ev ts .sum d a (.bad c p)
 | sumGo {d a b : Nat} {x : Int} {R : Fol.Res} (h : Ev ts .pro d a (.val x b)) (k : Ev ts (.sumL x) d b R) : Ev ts .sum d a R
 | sumEnd {d a : Nat} {x : Int} {t : Tok} (ht : ts[a]? = some t) (h1 : Fol.isT t [43] = false) (h2 : Fol.isT t [45] = false) (h3 : Fol.isT t [41] = true) : Ev ts (.sumL x) d a (.val x (a + 1))
 | sumNo {d a : Nat} {x : Int} {t : Tok} (ht : ts[a]? = some t) (h1 : Fol.isT t [43] = false) (h2 : Fol.isT t [45] = false) (h3 : Fol.isT t [41] = false) (h4 : Fol.isT t [42] = false) : Ev ts (.sumL x) d a (.bad 20 t.at_)
 | sumLBad {d a p : Nat} {x c : Int} {t : Tok} (ht : ts[a]? = some t) (h : Fol.isT t [43] = true ∨ Fol.isT t [45] = true) (k : Ev ts .pro d (a + 1) (.bad c p)) : Ev ts (.sumL x) d a (.bad c p)
 | sumLGo {d a b : Nat} {x y : Int} {t : Tok} {R : Fol.Res} (ht : ts[a]? = some t) (h : Fol.isT t [43] = true ∨ Fol.isT t [45] = true) (k : Ev ts .pro d (a + 1) (.val y b)) (k2 : Ev ts (.sumL (addV x (negIf (Fol.isT t [45]) y))) d b R) : Ev ts (.sumL x) d a R
theorem Ev.as {ts : List Tok} {md : Md} {d a : Nat} {R R' : Fol.Res} (h : Ev ts md d a R) (e : R = R') : Ev ts md d a R' := e ▸ h
def EvV (ts : List Tok) (a : Nat) (R : Fol.Res) : Prop := (∃ t, ts[a]? = some t ∧ Fol.isT t [40] = true ∧ Ev ts .sum 1 (a + 1) R) ∨ (∃ t, ts[a]? = some t ∧ Fol.isT t [40] = false ∧ Ev ts .fac 0 a R)
def Fit64 (n : Int) : Prop := -9223372036854775808 ≤ n ∧ n ≤ 9223372036854775807
theorem reck1 (a b : Int) : Fol.reck 1 a b = addV a b := rfl
theorem reck2 (a b : Int) : Fol.reck 2 a b = subV a b := rfl
theorem reck3 (a b : Int) : Fol.reck 3 a b = mulV a b := rfl
theorem wrap_fit {n : Int} (h : Fit64 n) : wrap64 n = n := by unfold wrap64; unfold Fit64 at h; omega
theorem wrap_in (n : Int) : Fit64 (wrap64 n) := by unfold wrap64 Fit64; omega
theorem add_neg (x y : Int) : addV x (subV 0 y) = subV x y := by unfold addV subV wrap64; omega
theorem mul_one {n : Int} (h : Fit64 n) : mulV 1 n = n := by unfold mulV; rw [Int.one_mul, wrap_fit h]
theorem add_zero {n : Int} (h : Fit64 n) : addV 0 n = n := by unfold addV; rw [Int.zero_add, wrap_fit h]
theorem negIf_fit {m : Bool} {n : Int} (h : Fit64 n) : Fit64 (negIf m n) := by
 unfold negIf
 split
 ·exact wrap_in _
 ·exact h
def FitR : Fol.Res → Prop
 | .val n _ => Fit64 n
 | .bad _ _ => True
theorem negR_fit {m : Bool} {R : Fol.Res} (h : FitR R) : FitR (negR m R) := by
 cases R with
 | val n a => exact negIf_fit h
 | bad c p => trivial
def FitM : Md → Prop
 | .proL x => Fit64 x
 | .sumL x => Fit64 x
 | _ => True
theorem Ev.fit {ts : List Tok} (ht : ∀ t ∈ ts, Fit64 t.n) {md : Md} {d a : Nat} {R : Fol.Res} (h : Ev ts md d a R) : FitM md → FitR R := by
 induction h with
 | deep => intro _; trivial
 | paren h0 hp h1 h2 h3 h4 h5 ih => intro _; exact negR_fit (ih trivial)
 | none => intro _; trivial
 | range => intro _; trivial
 | num h0 hp h1 h2 h3 => intro _; exact negIf_fit (ht _ (List.mem_of_getElem? h1))
 | proBad h ih => intro _; trivial
 | proGo h k ih1 ih2 => intro _; exact ih2 (ih1 trivial)
 | proStop => intro h; exact h
 | proLBad => intro _; trivial
 | proLGo h1 h2 h3 h4 ih1 ih2 => intro _; exact ih2 (wrap_in _)
 | sumBad h ih => intro _; trivial
 | sumGo h k ih1 ih2 => intro _; exact ih2 (ih1 trivial)
 | sumEnd => intro h; exact h
 | sumNo => intro _; trivial
 | sumLBad => intro _; trivial
 | sumLGo h1 h2 h3 h4 ih1 ih2 => intro _; exact ih2 (wrap_in _)
def Leads (ts : List Tok) (md : Fol.Mode) (a : Nat) (stk : List Fol.Opn) (md' : Fol.Mode) (b : Nat) (stk' : List Fol.Opn) : Prop := ∀ k R, Fol.mach ts k md' b stk' = some R → ∃ j, Fol.mach ts j md a stk = some R
theorem Leads.refl (ts : List Tok) (md : Fol.Mode) (a : Nat) (stk : List Fol.Opn) : Leads ts md a stk md a stk := fun k R h => ⟨k, h⟩
theorem Leads.trans {ts : List Tok} {m1 m2 m3 : Fol.Mode} {a b c : Nat} {s1 s2 s3 : List Fol.Opn} (h : Leads ts m1 a s1 m2 b s2) (k : Leads ts m2 b s2 m3 c s3) : Leads ts m1 a s1 m3 c s3 := fun j R e => by
 obtain ⟨j1, e1⟩ := k j R e
 exact h j1 R e1
def Ends_ (ts : List Tok) (md : Fol.Mode) (a : Nat) (stk : List Fol.Opn) (R : Fol.Res) : Prop := ∃ j, Fol.mach ts j md a stk = some R
theorem Leads.ends {ts : List Tok} {m1 m2 : Fol.Mode} {a b : Nat} {s1 s2 : List Fol.Opn} {R : Fol.Res} (h : Leads ts m1 a s1 m2 b s2) (k : Ends_ ts m2 b s2 R) : Ends_ ts m1 a s1 R := by
 obtain ⟨j, e⟩ := k
 exact h j R e
def SameO (o o' : Fol.Opn) : Prop := o'.minus = o.minus ∧ o'.sum = o.sum ∧ o'.joins = o.joins
def SumOut (ts : List Tok) (md : Fol.Mode) (a : Nat) (stk : List Fol.Opn) (m : Bool) (r : List Fol.Opn) (R : Fol.Res) : Prop :=
 match R with
 | .val n b => Leads ts md a stk (.beh (negIf m n)) b r
 | .bad c p => Ends_ ts md a stk (.bad c p)
def Means (ts : List Tok) (md : Md) (d a : Nat) (R : Fol.Res) : Prop :=
 match md with
 | .fac => ∀ stk : List Fol.Opn, stk.length = d → (match R with | .val n b => Leads ts .fac a stk (.beh n) b stk | .bad c p => Ends_ ts .fac a stk (.bad c p))
 | .pro => ∀ (o : Fol.Opn) (r : List Fol.Opn), (o :: r).length = d → o.product = 1 → (match R with | .val n b => ∃ o' n', SameO o o' ∧ mulV o'.product n' = n ∧ Leads ts .fac a (o :: r) (.beh n') b (o' :: r) | .bad c p => Ends_ ts .fac a (o :: r) (.bad c p))
 | .proL x => ∀ (o : Fol.Opn) (r : List Fol.Opn) (n0 : Int), (o :: r).length = d → mulV o.product n0 = x → (match R with | .val n b => ∃ o' n', SameO o o' ∧ mulV o'.product n' = n ∧ Leads ts (.beh n0) a (o :: r) (.beh n') b (o' :: r) | .bad c p => Ends_ ts (.beh n0) a (o :: r) (.bad c p))
 | .sum => ∀ (m : Bool) (r : List Fol.Opn), r.length + 1 = d → SumOut ts .fac a (Fol.opened m :: r) m r R
 | .sumL x => ∀ (o : Fol.Opn) (r : List Fol.Opn) (n0 : Int), r.length + 1 = d → (Fol.reck o.joins o.sum (mulV o.product n0)) = x → SumOut ts (.beh n0) a (o :: r) o.minus r R
theorem beh_step (l : List Tok) (k a : Nat) (x : Int) (o : Fol.Opn) (r : List Fol.Opn) (t : Tok) (ht : l[a]? = some t) : Fol.mach l (k + 1) (.beh x) a (o :: r) =
  (if Fol.isT t [41] = true then Fol.mach l k (.beh (o.times x).closed) (a + 1) r
  else if Fol.isT t [42] = true then Fol.mach l k .fac (a + 1) (o.times x :: r)
  else if Fol.isT t [43] = true then Fol.mach l k .fac (a + 1) ((o.times x).join 1 :: r)
  else if Fol.isT t [45] = true then Fol.mach l k .fac (a + 1) ((o.times x).join 2 :: r)
  else some (.bad 20 t.at_)) := by rw [Fol.mach, ht]
theorem isT_one {t : Tok} {a b : List UInt8} (h : Fol.isT t a = true) (hab : a ≠ b) : Fol.isT t b = false := by
 unfold Fol.isT at h ⊢
 simp at h ⊢
 intro _ e
 exact hab (h.2.symm.trans e)
theorem Ev.means {ts : List Tok} (hf : ∀ t ∈ ts, Fit64 t.n) {md : Md} {d a : Nat} {R : Fol.Res} (h : Ev ts md d a R) : Means ts md d a R := by
 induction h with
 | @deep d a p t0 t h0 hp ht h1 h2 =>
  intro stk hd
  have hm : Fol.mayT stk.length (Fol.isT t0 [45]) = 21 := by unfold Fol.mayT; rw [if_neg (by omega), if_pos (by omega)]
  exact ⟨1, by rw [mach_fac_eq ts 0 a stk t0 h0 p hp t ht, if_pos h1, hm, if_neg (by decide)]⟩
 | @paren d a p t0 t R h0 hp ht h1 h2 h3 h4 ih =>
  intro stk hd
  have step : ∀ j, Fol.mach ts (j + 1) .fac a stk = Fol.mach ts j .fac (p + 1) (Fol.opened (Fol.isT t0 [45]) :: stk) := fun j => by
   rw [mach_fac_eq ts j a stk t0 h0 p hp t ht, if_pos h1, if_pos (by unfold Fol.mayT; rw [if_neg (by omega), if_neg (by omega)])]
  have g := ih (Fol.isT t0 [45]) stk (by rw [hd])
  cases R with
  | val n b =>
   intro j R e
   obtain ⟨j1, e1⟩ := g j R e
   exact ⟨j1 + 1, by rw [step]; exact e1⟩
  | bad c q =>
   obtain ⟨j1, e1⟩ := g
   exact ⟨j1 + 1, by rw [step]; exact e1⟩
 | @none d a p t0 t h0 hp ht h1 h2 =>
  intro stk hd
  refine ⟨1, ?_⟩
  rw [mach_fac_eq ts 0 a stk t0 h0 p hp t ht]
  have hn : (Fol.numT t (Fol.isT t0 [45])) = (0, 20) := by unfold Fol.numT; rw [if_pos h2]
  by_cases h3 : Fol.isT t [40] = true
  ·rcases h1 with h4 | ⟨h4, h5⟩
   ·rw [h4] at h3; cases h3
   ·have hm : Fol.mayT stk.length (Fol.isT t0 [45]) = 20 := by unfold Fol.mayT; rw [if_pos ⟨by omega, h5⟩]
    rw [if_pos h3, hm, if_neg (by decide)]
  ·rw [if_neg h3, hn]; rfl
 | @range d a t h0 h1 h2 h3 =>
  intro stk hd
  refine ⟨1, ?_⟩
  rw [mach_fac_eq ts 0 a stk t h0 a (by rw [h1]; rfl) t h0]
  have h4 : Fol.isT t [40] = false := by unfold Fol.isT; simp [h2]
  have hn : (Fol.numT t (Fol.isT t [45])) = (0, 2) := by unfold Fol.numT; rw [if_neg (by rw [h2]; decide), h1, if_neg (by decide), if_pos h3]
  rw [if_neg (by rw [h4]; decide), hn]; rfl
 | @num d a p t0 t h0 hp ht h1 h2 =>
  intro stk hd
  intro j R e
  refine ⟨j + 1, ?_⟩
  rw [mach_fac_eq ts j a stk t0 h0 p hp t ht]
  have h4 : Fol.isT t [40] = false := by unfold Fol.isT; simp [h1]
  have hn : (Fol.numT t (Fol.isT t0 [45])) = (negIf (Fol.isT t0 [45]) t.n, 0) := by
   unfold Fol.numT negIf
   rw [if_neg (by rw [h1]; decide)]
   cases hm : Fol.isT t0 [45] with
   | true => rfl
   | false =>
    rcases h2 with h2 | h2
    ·rw [hm] at h2; cases h2
    ·simp [h2]
  rw [if_neg (by rw [h4]; decide), hn]
  exact e
 | @proBad d a p c h ih =>
  intro o r hd ho
  exact ih (o :: r) hd
 | @proGo d a b x R h k ih1 ih2 =>
  intro o r hd ho
  have g1 := ih1 (o :: r) hd
  have hx : Fit64 x := h.fit hf trivial
  have g2 := ih2 o r x hd (by rw [ho, mul_one hx])
  cases R with
  | val n b' =>
   obtain ⟨o', n', s1, s2, s3⟩ := g2
   exact ⟨o', n', s1, s2, Leads.trans g1 s3⟩
  | bad c q => exact Leads.ends g1 g2
 | @proStop d a x t ht h =>
  intro o r n0 hd hx
  exact ⟨o, n0, ⟨rfl, rfl, rfl⟩, hx, Leads.refl _ _ _ _⟩
 | @proLBad d a p x c t ht h k ih =>
  intro o r n0 hd hx
  have g := ih (o.times n0 :: r) hd
  refine Leads.ends (fun j R e => ⟨j + 1, ?_⟩) g
  rw [beh_step ts j a n0 o r t ht, if_neg (by rw [isT_one h (by decide)]; decide), if_pos h]; exact e
 | @proLGo d a b x y t R ht h k k2 ih1 ih2 =>
  intro o r n0 hd hx
  have g1 := ih1 (o.times n0 :: r) hd
  have step : Leads ts (.beh n0) a (o :: r) .fac (a + 1) (o.times n0 :: r) := fun j R e => ⟨j + 1, by rw [beh_step ts j a n0 o r t ht, if_neg (by rw [isT_one h (by decide)]; decide), if_pos h]; exact e⟩
  have g2 := ih2 (o.times n0) r y hd (by show mulV (Fol.reck 3 o.product n0) y = _; rw [reck3, hx])
  cases R with
  | val n b' =>
   obtain ⟨o', n', s1, s2, s3⟩ := g2
   exact ⟨o', n', s1, s2, Leads.trans step (Leads.trans g1 s3)⟩
  | bad c q => exact Leads.ends step (Leads.ends g1 g2)
 | @sumBad d a p c h ih =>
  intro m r hd
  exact ih (Fol.opened m) r hd rfl
 | @sumGo d a b x R h k ih1 ih2 =>
  intro m r hd
  obtain ⟨o', n', s1, s2, s3⟩ := ih1 (Fol.opened m) r hd rfl
  have hx : Fit64 x := h.fit hf trivial
  have g2 := ih2 o' r n' hd (by
   rw [s1.2.2, s1.2.1, s2]
   exact add_zero hx)
  have hm : o'.minus = m := s1.1
  cases R with
  | val n b' =>
   have g3 : Leads ts (.beh n') b (o' :: r) (.beh (negIf o'.minus n)) b' r := g2
   rw [hm] at g3
   exact Leads.trans s3 g3
  | bad c q => exact Leads.ends s3 g2
 | @sumEnd d a x t ht h1 h2 h3 =>
  intro o r n0 hd hx
  intro j R e
  refine ⟨j + 1, ?_⟩
  rw [beh_step ts j a n0 o r t ht, if_pos h3]
  have : (o.times n0).closed = negIf o.minus x := by
   unfold Fol.Opn.closed Fol.Opn.all negIf
   have e1 : Fol.reck (o.times n0).joins (o.times n0).sum (o.times n0).product = x := hx
   rw [e1]
   have e2 : (o.times n0).minus = o.minus := rfl
   rw [e2, reck2]
  rw [this]
  exact e
 | @sumNo d a x t ht h1 h2 h3 h4 =>
  intro o r n0 hd hx
  exact ⟨1, by rw [beh_step ts 0 a n0 o r t ht, if_neg (by rw [h3]; decide), if_neg (by rw [h4]; decide), if_neg (by rw [h1]; decide), if_neg (by rw [h2]; decide)]⟩
 | @sumLBad d a p x c t ht h k ih =>
  intro o r n0 hd hx
  rcases h with h | h
  ·have g := ih ((o.times n0).join 1) r hd rfl
   refine Leads.ends (fun j R e => ⟨j + 1, ?_⟩) g
   rw [beh_step ts j a n0 o r t ht, if_neg (by rw [isT_one h (by decide)]; decide), if_neg (by rw [isT_one h (by decide)]; decide), if_pos h]; exact e
  ·have g := ih ((o.times n0).join 2) r hd rfl
   refine Leads.ends (fun j R e => ⟨j + 1, ?_⟩) g
   rw [beh_step ts j a n0 o r t ht, if_neg (by rw [isT_one h (by decide)]; decide), if_neg (by rw [isT_one h (by decide)]; decide), if_neg (by rw [isT_one h (by decide)]; decide), if_pos h]; exact e
 | @sumLGo d a b x y t R ht h k k2 ih1 ih2 =>
  intro o r n0 hd hx
  have main : ∀ op : Int, Leads ts (.beh n0) a (o :: r) .fac (a + 1) ((o.times n0).join op :: r) → Fol.reck op x y = addV x (negIf (Fol.isT t [45]) y) →
    SumOut ts (.beh n0) a (o :: r) o.minus r R := by
   intro op step hop
   obtain ⟨o', n', s1, s2, s3⟩ := ih1 ((o.times n0).join op) r hd rfl
   have e1 : o'.joins = op := s1.2.2
   have e2 : o'.sum = x := s1.2.1.trans (by show Fol.reck (o.times n0).joins (o.times n0).sum (o.times n0).product = x; exact hx)
   have hm : o'.minus = o.minus := s1.1
   have g2 := ih2 o' r n' hd (by rw [e1, e2, s2, hop])
   cases R with
   | val n b' =>
    have g3 : Leads ts (.beh n') b (o' :: r) (.beh (negIf o'.minus n)) b' r := g2
    rw [hm] at g3
    exact Leads.trans step (Leads.trans s3 g3)
   | bad c q => exact Leads.ends step (Leads.ends s3 g2)
  rcases h with h | h
  ·refine main 1 (fun j R e => ⟨j + 1, ?_⟩) (by rw [isT_one h (by decide), reck1]; rfl)
   rw [beh_step ts j a n0 o r t ht, if_neg (by rw [isT_one h (by decide)]; decide), if_neg (by rw [isT_one h (by decide)]; decide), if_pos h]; exact e
  ·refine main 2 (fun j R e => ⟨j + 1, ?_⟩) (by rw [h, reck2]; exact (add_neg x y).symm)
   rw [beh_step ts j a n0 o r t ht, if_neg (by rw [isT_one h (by decide)]; decide), if_neg (by rw [isT_one h (by decide)]; decide), if_neg (by rw [isT_one h (by decide)]; decide), if_pos h]; exact e
theorem EvV.mach {ts : List Tok} (hf : ∀ t ∈ ts, Fit64 t.n) {a : Nat} {R : Fol.Res} (h : EvV ts a R) : ∃ k, Fol.mach ts k .fac a [] = some R := by
 rcases h with ⟨t, ht, h1, h2⟩ | ⟨t, ht, h1, h2⟩
 ·have h45 : Fol.isT t [45] = false := isT_one h1 (by decide)
  have step : ∀ j, Fol.mach ts (j + 1) .fac a [] = Fol.mach ts j .fac (a + 1) [Fol.opened false] := fun j => by
   rw [mach_fac_eq ts j a [] t ht a (by rw [h45]; rfl) t ht, if_pos h1, h45]; rfl
  have g := h2.means hf false [] rfl
  cases R with
  | val n b =>
   obtain ⟨j, e⟩ := g 1 (.val n b) rfl
   exact ⟨j + 1, by rw [step]; exact e⟩
  | bad c q =>
   obtain ⟨j, e⟩ := g
   exact ⟨j + 1, by rw [step]; exact e⟩
 ·have g := h2.means hf [] rfl
  cases R with
  | val n b => exact g 1 (.val n b) rfl
  | bad c q => exact g
theorem Ev.stop {ts : List Tok} {md : Md} {d a : Nat} {R : Fol.Res} (h : Ev ts md d a R) : (md = .pro ∨ ∃ x, md = .proL x) → ∀ n b, R = .val n b → ∃ t, ts[b]? = some t ∧ Fol.isT t [42] = false := by
 induction h with
 | proGo h k ih1 ih2 => intro _; exact ih2 (.inr ⟨_, rfl⟩)
 | proStop ht h =>
  intro _ n b e
  injection e with _ e
  subst e
  exact ⟨_, ht, h⟩
 | proLGo h1 h2 h3 h4 ih1 ih2 => intro _; exact ih2 (.inr ⟨_, rfl⟩)
 | proBad => intro _ n b e; cases e
 | proLBad => intro _ n b e; cases e
 | _ => intro h; rcases h with h | ⟨x, h⟩ <;> cases h
def shiftR (a : Nat) : Fol.Res → Fol.Res
 | .val n c => .val n (a + c)
 | .bad c p => .bad c p
theorem mach_drop (l : List Tok) (a : Nat) : ∀ (k : Nat) (md : Fol.Mode) (b : Nat) (stk : List Fol.Opn), Fol.mach l k md (a + b) stk = (Fol.mach (l.drop a) k md b stk).map (shiftR a) := by
 intro k
 induction k with
 | zero => intro md b stk; cases md <;> rfl
 | succ k ih =>
  intro md b stk
  have hget : ∀ j, (l.drop a)[j]? = l[a + j]? := fun j => List.getElem?_drop
  cases md with
  | fac =>
   rw [Fol.mach, Fol.mach, hget]
   cases h0 : l[a + b]? with
   | none => rfl
   | some t0 =>
    simp only
    have e1 : (if Fol.isT t0 [45] = true then a + b + 1 else a + b) = a + (if Fol.isT t0 [45] = true then b + 1 else b) := by split <;> omega
    rw [e1, hget]
    cases h1 : l[a + (if Fol.isT t0 [45] = true then b + 1 else b)]? with
    | none => rfl
    | some t =>
     simp only
     split
     ·split
      ·rw [Nat.add_assoc]; exact ih _ _ _
      ·rfl
     ·split
      ·rw [Nat.add_assoc]; exact ih _ _ _
      ·rfl
  | beh x =>
   cases stk with
   | nil => rfl
   | cons o r =>
    rw [Fol.mach, Fol.mach, hget]
    cases h0 : l[a + b]? with
    | none => rfl
    | some t =>
     simp only
     split
     ·rw [Nat.add_assoc]; exact ih _ _ _
     ·split
      ·rw [Nat.add_assoc]; exact ih _ _ _
      ·split
       ·rw [Nat.add_assoc]; exact ih _ _ _
       ·split
        ·rw [Nat.add_assoc]; exact ih _ _ _
        ·rfl
def valueR (ts : List Tok) : Fol.Res → Res Int
 | .val n b => .ok n (ts.drop b)
 | .bad c p => .bad c p
theorem value_mach {ts : List Tok} {a k : Nat} {R : Fol.Res} (hE : Ends (ts.drop a)) (h : Fol.mach ts k .fac a [] = some R) : value (ts.drop a) = valueR ts R := by
 have h1 := mach_drop ts a k .fac 0 []
 rw [Nat.add_zero, h] at h1
 cases h2 : Fol.mach (ts.drop a) k .fac 0 [] with
 | none => rw [h2] at h1; cases h1
 | some R0 =>
  rw [h2] at h1
  injection h1 with h1
  rw [h1, value_of hE h2]
  cases R0 with
  | val n c =>
   show Res.ok n ((ts.drop a).drop c) = Res.ok n (ts.drop (a + c))
   rw [List.drop_drop]
  | bad c p => rfl
theorem value_at {ts : List Tok} (hf : ∀ t ∈ ts, Fit64 t.n) {a : Nat} {R : Fol.Res} (hE : Ends (ts.drop a)) (h : EvV ts a R) : value (ts.drop a) = valueR ts R := by
 obtain ⟨k, e⟩ := h.mach hf
 exact value_mach hE e
end Go.Proofs.YtbpichjmkllfaaaGreatDoor.Par
namespace Go.Proofs.YtbpichjmkllfaaaGreatDoor.Fau
open Go.RowKit Go.Extern.Stop Go.Stop Go.Extern
set_option linter.unusedVariables false
def bare (code place : Int) : Value := .iface 84 (.agg #[.int .i64 code, .int .i64 place])
theorem fresh0 {w : World} {b : Nat} {cs : Array Value} {T : TypeId} (h : w.heap[b]? = some (.cells cs T (0, 0))) : b < w.heap.size := by
 rcases Nat.lt_or_ge b w.heap.size with h' | h'
 ·exact h'
 ·simp [Array.getElem?_eq_none h'] at h
theorem int_beq {x y : Int} (h : ¬ x = y) : (x == y) = false := by simpa using h
theorem new_v (code place : Int) (hc : ¬ code = 0) (w : World) : Calls Tryz.prog 26 #[.int .i64 code, .int .i64 place] w fun e w' => e = .returned (bare code place) ∧ w = w' := by
 have h := int_beq hc
 go_enter Tryz.func26, Tryz.ntmps26
 go_wp2_with fail
 go_ret
 exact ⟨rfl, rfl⟩
end Go.Proofs.YtbpichjmkllfaaaGreatDoor.Fau
namespace Go.Proofs.YtbpichjmkllfaaaGreatDoor.Nam
open Go.ChangeShapes Go.WideShapes Go.RowKit
set_option linter.unusedVariables false
theorem len_list (s : ByteArray) : s.data.toList.length = s.size := rfl
theorem nat_beq {c : UInt8} {n : Nat} (h : c.toNat = n) : ((c.toNat : Int) == (n : Int)) = true := by rw [beq_iff_eq]; omega
theorem nat_bne {c : UInt8} {n : Nat} (h : c.toNat ≠ n) : ((c.toNat : Int) == (n : Int)) = false := by rw [Bqf]; omega
theorem ret_b {x y : Bool} (h : x = y) : Ending.returned (.bool x) = .returned (.bool y) := by rw [h]
theorem letter_yes {c : UInt8} (h : (97 ≤ c.toNat ∧ c.toNat ≤ 122) ∨ c.toNat = 95) : letter c = true := by unfold letter; simp; exact h
theorem letter_no {c : UInt8} (h : ¬ ((97 ≤ c.toNat ∧ c.toNat ≤ 122) ∨ c.toNat = 95)) : letter c = false := by
 unfold letter; rw [Bool.or_eq_false_iff, decide_eq_false_iff_not, decide_eq_false_iff_not]; exact ⟨fun k => h (.inl k), fun k => h (.inr k)⟩
theorem letter_v (c : UInt8) (b : Bool) (hb : letter c = b) (w : World) : Calls Tryz.prog 91 #[.int .u8 (c.toNat : Int)] w fun e w' => e = .returned (.bool b) ∧ w = w' := by
 have ways : (97 ≤ c.toNat ∧ c.toNat ≤ 122) ∨ c.toNat = 95 ∨ (c.toNat < 97 ∧ c.toNat ≠ 95) ∨ 122 < c.toNat := by omega
 rcases ways with ⟨h1, h2⟩ | h | ⟨h1, h2⟩ | h
 ·rw [letter_yes (.inl ⟨h1, h2⟩)] at hb; subst hb
  go_enter Tryz.func91, Tryz.ntmps91
  go_wp2
  go_ret
  exact ⟨ret_b (by first | rfl | assumption | (rw [decide_eq_true_iff]; omega) | (rw [decide_eq_false_iff_not]; omega) | (rw [Bool.or_eq_false_iff, decide_eq_false_iff_not, Bqf]; omega)), rfl⟩
 ·rw [letter_yes (.inr h)] at hb; subst hb
  have c1 := nat_beq h
  have h1 : c.toNat < 97 := by omega
  have h2 : c.toNat ≤ 122 := by omega
  clear h
  go_enter Tryz.func91, Tryz.ntmps91
  go_wp2
  go_ret
  exact ⟨ret_b (by first | rfl | assumption | (rw [decide_eq_true_iff]; omega) | (rw [decide_eq_false_iff_not]; omega) | (rw [Bool.or_eq_false_iff, decide_eq_false_iff_not, Bqf]; omega)), rfl⟩
 ·rw [letter_no (by omega)] at hb; subst hb
  have c1 := nat_bne h2
  clear h2
  go_enter Tryz.func91, Tryz.ntmps91
  go_wp2
  go_ret
  exact ⟨ret_b (by first | rfl | assumption | (rw [decide_eq_true_iff]; omega) | (rw [decide_eq_false_iff_not]; omega) | (rw [Bool.or_eq_false_iff, decide_eq_false_iff_not, Bqf]; omega)), rfl⟩
 ·rw [letter_no (by omega)] at hb; subst hb
  have c1 : ((c.toNat : Int) == ((95 : Nat) : Int)) = false := nat_bne (by omega)
  have h1 : 97 ≤ c.toNat := by omega
  go_enter Tryz.func91, Tryz.ntmps91
  go_wp2
  go_ret
  exact ⟨ret_b (by first | rfl | assumption | (rw [decide_eq_true_iff]; omega) | (rw [decide_eq_false_iff_not]; omega) | (rw [Bool.or_eq_false_iff, decide_eq_false_iff_not, Bqf]; omega)), rfl⟩
theorem refletter_v (c : UInt8) (b : Bool) (hb : letter c = b) (w : World) : Calls Tryz.prog 112 #[.int .u8 (c.toNat : Int)] w fun e w' => e = .returned (.bool b) ∧ w = w' := by
 have ways : (97 ≤ c.toNat ∧ c.toNat ≤ 122) ∨ c.toNat = 95 ∨ (c.toNat < 97 ∧ c.toNat ≠ 95) ∨ 122 < c.toNat := by omega
 rcases ways with ⟨h1, h2⟩ | h | ⟨h1, h2⟩ | h
 ·rw [letter_yes (.inl ⟨h1, h2⟩)] at hb; subst hb
  go_enter Tryz.func112, Tryz.ntmps112
  go_wp2
  go_ret
  exact ⟨ret_b (by first | rfl | assumption | (rw [decide_eq_true_iff]; omega) | (rw [decide_eq_false_iff_not]; omega) | (rw [Bool.or_eq_false_iff, decide_eq_false_iff_not, Bqf]; omega)), rfl⟩
 ·rw [letter_yes (.inr h)] at hb; subst hb
  have c1 := nat_beq h
  have h1 : c.toNat < 97 := by omega
  have h2 : c.toNat ≤ 122 := by omega
  clear h
  go_enter Tryz.func112, Tryz.ntmps112
  go_wp2
  go_ret
  exact ⟨ret_b (by first | rfl | assumption | (rw [decide_eq_true_iff]; omega) | (rw [decide_eq_false_iff_not]; omega) | (rw [Bool.or_eq_false_iff, decide_eq_false_iff_not, Bqf]; omega)), rfl⟩
 ·rw [letter_no (by omega)] at hb; subst hb
  have c1 := nat_bne h2
  clear h2
  go_enter Tryz.func112, Tryz.ntmps112
  go_wp2
  go_ret
  exact ⟨ret_b (by first | rfl | assumption | (rw [decide_eq_true_iff]; omega) | (rw [decide_eq_false_iff_not]; omega) | (rw [Bool.or_eq_false_iff, decide_eq_false_iff_not, Bqf]; omega)), rfl⟩
 ·rw [letter_no (by omega)] at hb; subst hb
  have c1 : ((c.toNat : Int) == ((95 : Nat) : Int)) = false := nat_bne (by omega)
  have h1 : 97 ≤ c.toNat := by omega
  go_enter Tryz.func112, Tryz.ntmps112
  go_wp2
  go_ret
  exact ⟨ret_b (by first | rfl | assumption | (rw [decide_eq_true_iff]; omega) | (rw [decide_eq_false_iff_not]; omega) | (rw [Bool.or_eq_false_iff, decide_eq_false_iff_not, Bqf]; omega)), rfl⟩
theorem sign_v (c : UInt8) (b : Bool) (hb : sign c = b) (w : World) : Calls Tryz.prog 149 #[.int .u8 (c.toNat : Int)] w fun e w' => e = .returned (.bool b) ∧ w = w' := by
 obtain ⟨x, hx⟩ : ∃ x, letter c = x := ⟨_, rfl⟩
 have HX := Hh hx
 cases x
 ·have hs : sign c = decide (48 ≤ c.toNat ∧ c.toNat ≤ 57) := by unfold sign; rw [hx]; rfl
  rw [hs] at hb
  clear hs hx
  have ways : (48 ≤ c.toNat ∧ c.toNat ≤ 57) ∨ c.toNat < 48 ∨ 57 < c.toNat := by omega
  rcases ways with h | h | h
  ·rw [decide_eq_true h] at hb; subst hb
   obtain ⟨h1, h2⟩ := h
   go_enter Tryz.func149, Tryz.ntmps149
   go_wp2_with fail
   refine (letter_v c _ HX.out _).mono ?_
   rintro e w1 ⟨rfl, rfl⟩
   go_wp2_with fail
   go_ret
   exact ⟨ret_b (by first | rfl | assumption | (rw [decide_eq_true_iff]; omega) | (rw [decide_eq_false_iff_not]; omega) | (rw [Bool.or_eq_false_iff, decide_eq_false_iff_not, Bqf]; omega)), rfl⟩
  ·rw [decide_eq_false (by omega)] at hb; subst hb
   go_enter Tryz.func149, Tryz.ntmps149
   go_wp2_with fail
   refine (letter_v c _ HX.out _).mono ?_
   rintro e w1 ⟨rfl, rfl⟩
   go_wp2_with fail
   go_ret
   exact ⟨ret_b (by first | rfl | assumption | (rw [decide_eq_true_iff]; omega) | (rw [decide_eq_false_iff_not]; omega) | (rw [Bool.or_eq_false_iff, decide_eq_false_iff_not, Bqf]; omega)), rfl⟩
  ·rw [decide_eq_false (by omega)] at hb; subst hb
   have h1 : 48 ≤ c.toNat := by omega
   go_enter Tryz.func149, Tryz.ntmps149
   go_wp2_with fail
   refine (letter_v c _ HX.out _).mono ?_
   rintro e w1 ⟨rfl, rfl⟩
   go_wp2_with fail
   go_ret
   exact ⟨ret_b (by first | rfl | assumption | (rw [decide_eq_true_iff]; omega) | (rw [decide_eq_false_iff_not]; omega) | (rw [Bool.or_eq_false_iff, decide_eq_false_iff_not, Bqf]; omega)), rfl⟩
 ·rw [letter_sign hx] at hb; subst hb
  clear hx
  go_enter Tryz.func149, Tryz.ntmps149
  go_wp2_with fail
  refine (letter_v c _ HX.out _).mono ?_
  rintro e w1 ⟨rfl, rfl⟩
  go_wp2_with fail
  go_ret
  exact ⟨ret_b (by first | rfl | assumption | (rw [decide_eq_true_iff]; omega) | (rw [decide_eq_false_iff_not]; omega) | (rw [Bool.or_eq_false_iff, decide_eq_false_iff_not, Bqf]; omega)), rfl⟩
theorem at_list (s : ByteArray) (a : Nat) (h : a < s.size) : s.data.toList[a]'(by rw [len_list]; exact h) = s[a] := by
 rw [ByteArray.getElem_eq_getElem_data]; simp
theorem scan_far (s : ByteArray) (z : Int) (h : z < 0 ∨ (s.size : Int) ≤ z) (w : World) : Calls Tryz.prog 129 #[.string s, .int .i64 z] w fun e w' => e = .returned (.int .i64 z) ∧ w = w' := by
 by_cases h0 : z < 0
 ·have h1 : decide (z < 0) = true := by rw [decide_eq_true_iff]; exact h0
  clear h
  go_enter Tryz.func129, Tryz.ntmps129
  go_wp2_with fail
  go_ret
  exact ⟨rfl, rfl⟩
 ·have h1 : (s.size : Int) ≤ z := by omega
  have h2 : 0 ≤ z := by omega
  clear h h0
  go_enter Tryz.func129, Tryz.ntmps129
  go_wp2_with fail
  go_ret
  exact ⟨rfl, rfl⟩
theorem scan_no (s : ByteArray) (a : Nat) (h : a < s.size) (hc : letter s[a] = false) (w : World) : Calls Tryz.prog 129 #[.string s, .int .i64 (a : Int)] w fun e w' => e = .returned (.int .i64 (a : Int)) ∧ w = w' := by
 have HC := Hh hc
 have h1 : decide ((a : Int) < 0) = false := by rw [decide_eq_false_iff_not]; omega
 have h2 : decide (s.size ≤ a) = false := by rw [decide_eq_false_iff_not]; omega
 have h3 : (a : Int) < (s.size : Int) := by omega
 clear hc
 go_enter Tryz.func129, Tryz.ntmps129
 go_wp2_with fail
 refine (letter_v s[a] _ HC.out _).mono ?_
 rintro e w1 ⟨rfl, rfl⟩
 go_wp2_with fail
 go_ret
 exact ⟨rfl, rfl⟩
theorem ret_i {x y : Int} {k : IntKind} (h : x = y) : Ending.returned (.int k x) = .returned (.int k y) := by rw [h]
set_option maxHeartbeats 400000 in
theorem scan_yes (s : ByteArray) (a y : Nat) (hs : s.size ≤ 9223372036854775806) (h : a < s.size) (hc : letter s[a] = true) (hy : a + run (s.data.toList.drop a) = y) (w : World) : Calls Tryz.prog 129 #[.string s, .int .i64 (a : Int)] w fun e w' => e = .returned (.int .i64 (y : Int)) ∧ w = w' := by
 have HC := Hh hc
 have HY := Hh hy
 have h1 : decide ((a : Int) < 0) = false := by rw [decide_eq_false_iff_not]; omega
 have h2 : decide (s.size ≤ a) = false := by rw [decide_eq_false_iff_not]; omega
 have h3 : (a : Int) < (s.size : Int) := by omega
 clear hc hy
 go_enter Tryz.func129, Tryz.ntmps129
 go_wp2_with fail
 refine (letter_v s[a] _ HC.out _).mono ?_
 rintro e w1 ⟨rfl, rfl⟩
 go_wp2_with fail
 clear h1 h2
 go_loopg [1] (s.size - a) (fun gk x wr => ∃ n : Nat, n ≤ s.size ∧ x = .int .i64 (n : Int) ∧ Hid (gk = s.size - n ∧ n + run (s.data.toList.drop n) = y ∧ w = wr))
 case atStart => exact ⟨a, by omega, rfl, rfl, HY.out, rfl⟩
 case round =>
  obtain ⟨n, hn, rfl, HH⟩ := hrel
  by_cases hl : n < s.size
  ·have hl' : (n : Int) < (s.size : Int) := by omega
   obtain ⟨b, hb⟩ : ∃ b, sign s[n] = b := ⟨_, rfl⟩
   have HB := Hh hb
   cases b
   ·clear hb
    go_wp2_with fail
    refine (sign_v s[n] _ HB.out _).mono ?_
    rintro e w1 ⟨rfl, rfl⟩
    go_wp2_with fail
    go_ret
    refine ⟨ret_i ?_, HH.out.2.2⟩
    have := HH.out.2.1
    rw [run_stop _ n (by rw [len_list]; exact hl) (by rw [at_list s n hl]; exact HB.out)] at this
    omega
   ·clear hb
    go_wp2_with fail
    refine (sign_v s[n] _ HB.out _).mono ?_
    rintro e w1 ⟨rfl, rfl⟩
    go_wp2_with fail
    go_roundg (s.size - (n + 1))
    case measure => have := HH.out.1; omega
    case rel =>
     refine ⟨n + 1, by omega, by go_num, rfl, ?_, HH.out.2.2⟩
     have := HH.out.2.1
     rw [run_at _ n (by rw [len_list]; exact hl) (by rw [at_list s n hl]; exact HB.out)] at this
     exact this
  ·obtain rfl : n = s.size := by omega
   clear hn
   go_wp2_with fail
   go_ret
   refine ⟨ret_i ?_, HH.out.2.2⟩
   have := HH.out.2.1
   rw [run_end _ _ (by rw [len_list]; exact Nat.le_refl _)] at this
   omega
def scanZ (l : List UInt8) (z : Int) : Int := if z < 0 then z else (scan l z.toNat : Int)
theorem scan_v (s : ByteArray) (z y : Int) (hs : s.size ≤ 9223372036854775806) (hy : scanZ s.data.toList z = y) (w : World) : Calls Tryz.prog 129 #[.string s, .int .i64 z] w fun e w' => e = .returned (.int .i64 y) ∧ w = w' := by
 subst hy
 unfold scanZ
 by_cases h0 : z < 0
 ·rw [if_pos h0]; exact scan_far s z (.inl h0) w
 ·rw [if_neg h0]
  obtain ⟨a, rfl⟩ : ∃ a : Nat, z = a := ⟨z.toNat, by omega⟩
  rw [show ((a : Int)).toNat = a by omega]
  by_cases h1 : a < s.size
  ·have hl : a < s.data.toList.length := by rw [len_list]; exact h1
   cases hc : letter s[a]
   ·rw [scan_not _ a hl (by rw [at_list s a h1]; exact hc)]; exact scan_no s a h1 hc w
   ·rw [scan_name _ a hl (by rw [at_list s a h1]; exact hc)]; exact scan_yes s a _ hs h1 hc rfl w
  ·rw [scan_out _ a (by rw [len_list]; omega)]; exact scan_far s a (.inr (by omega)) w
end Go.Proofs.YtbpichjmkllfaaaGreatDoor.Nam
