/- All operands of a function in memory of its own turned: each step. -/
import Derived.Test.YtocelaebokikcaaTurnF
namespace Go.Proofs.Ytocelaebokikcaa
open Go.ChangeShapes Go.WideShapes Go.RowKit
set_option linter.unusedVariables false
set_option maxRecDepth 20000

/-- A function's memory, the first so many operands turned. -/
structure MF (F : FuncId) (d : FunD) (S : Spots) (G : Pos → Nat) (base P C : Nat) (w0 : World) (BX RS : Array Value) (n : Nat) (W : World) : Prop where
  lay : Lay W base d.valid G (turnR d S (d.funV S) n)
  box : W.heap[P]? = some (.cells BX 31 (0, 0))
  res : W.heap[P + 1]? = some (.cells RS 31 (0, 0))
  clo : W.heap[C]? = some (.cells #[.func (.func F) #[] #[]] 58 (0, 0))
  low : Below P w0 W
/-- What doesn't turn. -/
structure MK (d : FunD) (S : Spots) (G : Pos → Nat) (base P C : Nat) (w0 : World) : Prop where
  up : P + 1 < base
  top : ∀ p, d.valid p → G p ≠ C
  spots : ∀ p, d.valid p → S p = (some ⟨G p, 0, none⟩, d.len p)
  small : ∀ p, d.valid p → d.len p ≤ 1048576
  size : w0.heap.size = P
section
variable {F : FuncId} {d : FunD} {S : Spots} {G : Pos → Nat} {base P C : Nat} {w0 : World} {BX RS : Array Value} {n : Nat} {W : World}
theorem MF.keep {W' : World} (h : MF F d S G base P C w0 BX RS n W) (hk : MK d S G base P C w0) (hb : Below W.heap.size W W') : MF F d S G base P C w0 BX RS n W' :=
  ⟨h.lay.below hb, kept_box h.box hb, kept_box h.res hb, kept_box h.clo hb, h.low.trans (hb.mono (by have := h.low.size; have := hk.size; omega))⟩
theorem MF.put (h : MF F d S G base P C w0 BX RS n W) (hk : MK d S G base P C w0) (p : Pos) (hp : d.valid p) (o : Nat) (y : Opn)
    (hc : (put4 W (G p) o y).heap[G p]? = some (.cells (turnR d S (d.funV S) (n + 1) p).toArray p.ty (0, 0)))
    (hsame : ∀ q, d.valid q → q ≠ p → turnR d S (d.funV S) (n + 1) q = turnR d S (d.funV S) n q) : MF F d S G base P C w0 BX RS (n + 1) (put4 W (G p) o y) := by
  have hlo := (h.lay.mem p hp).1
  have hup := hk.up
  refine ⟨(h.lay.put p hp _ hc (fun x _ _ hne => put4_block _ _ _ _ _ hne)).congr (fun _ e => e) (fun _ _ => rfl) (fun q hq => ?_), (put4_block _ _ _ _ _ (by omega)).trans h.box, (put4_block _ _ _ _ _ (by omega)).trans h.res, (put4_block _ _ _ _ _ (fun e => hk.top p hp e.symm)).trans h.clo, put4_below _ h.low (by omega)⟩
  by_cases e : q = p
  · subst e; rw [if_pos rfl]
  · rw [if_neg e]; exact hsame q hq e
theorem MF.call (hF : Inpl F) (h : MF F d S G base P C w0 BX RS n W) (hk : MK d S G base P C w0) (p : Pos) (hp : d.valid p) (o : Nat) (x : Opn)
    (c0 : W.cell? ⟨G p, o, none⟩ = some (.int .i64 x.k)) (c1 : W.cell? ⟨G p, o + 1, none⟩ = some (.int .i64 x.c)) (c2 : W.cell? ⟨G p, o + 2, none⟩ = some (.int .i64 x.n)) (c3 : W.cell? ⟨G p, o + 3, none⟩ = some (.int .i64 x.t))
    (hc : ∀ W2 : World, W2.heap[G p]? = some (.cells (turnR d S (d.funV S) n p).toArray p.ty (0, 0)) → (put4 W2 (G p) o x.T).heap[G p]? = some (.cells (turnR d S (d.funV S) (n + 1) p).toArray p.ty (0, 0)))
    (hsame : ∀ q, d.valid q → q ≠ p → turnR d S (d.funV S) (n + 1) q = turnR d S (d.funV S) n q) :
    Calls Try.prog 71 #[.pointer (some ⟨G p, o, none⟩), .pointer (some ⟨C, 0, none⟩)] W fun e w' => e = .returned (.tuple #[]) ∧ MF F d S G base P C w0 BX RS (n + 1) w' := by
  have hm := (h.lay.mem p hp).2
  have hC : W.cell? ⟨C, 0, none⟩ = some (.func (.func F) #[] #[]) := cell_in h.clo 0
  have hcall := hF (G p) o C x W hC c0 c1 c2 c3 (froz_in hm _) (froz_in hm _) (froz_in hm _) (froz_in hm _)
  clear c0 c1 c2 c3 hC hm
  refine hcall.mono ?_
  rintro e w' ⟨⟨rfl, w3, hb, rfl⟩⟩
  have h3 := h.keep hk hb
  exact ⟨rfl, h3.put hk p hp o x.T (hc w3 (h3.lay.mem p hp).2) hsame⟩
theorem MF.list (hF : Inpl F) (h : MF F d S G base P C w0 BX RS n W) (hk : MK d S G base P C w0) (p : Pos) (hp : d.valid p) (hty : p.ty = 44) (l : List Opn) (k : Nat) (hl : l.length ≤ 1048576) (hkl : k < l.length)
    (hrow : turnR d S (d.funV S) n p = (turnTo k l).flatMap Opn.cs) (hnext : turnR d S (d.funV S) (n + 1) p = (turnTo (k + 1) l).flatMap Opn.cs)
    (hsame : ∀ q, d.valid q → q ≠ p → turnR d S (d.funV S) (n + 1) q = turnR d S (d.funV S) n q) :
    Calls Try.prog 71 #[.pointer (some ⟨G p, 0 + k * 4, none⟩), .pointer (some ⟨C, 0, none⟩)] W fun e w' => e = .returned (.tuple #[]) ∧ MF F d S G base P C w0 BX RS (n + 1) w' := by
  have hm := (h.lay.mem p hp).2
  rw [hty, hrow] at hm
  have hops := ops_own hm (by rw [turnTo_len]; exact hl)
  obtain ⟨b, o, e, _, x, hx, c0, c1, c2, c3⟩ := hops.at (k := k) (by rw [turnTo_len]; exact hkl)
  injection e with e
  injection e with e1 e2
  subst e1; subst e2
  have hx2 : l[k]? = some x := by
    have := turnTo_at k l l[k] (List.getElem?_eq_getElem hkl)
    rw [List.getElem?_eq_getElem hkl]
    exact this.symm.trans hx
  refine h.call hF hk p hp (0 + k * 4) x c0 c1 c2 c3 (fun W2 h2 => ?_) hsame
  rw [hty, hrow] at h2
  rw [hty, hnext, turnTo_step k l x hx2, show 0 + k * 4 = k * 4 from Nat.zero_add _]
  exact put4_flat h2 k (by rw [turnTo_len]; exact hkl) x.T
theorem MF.dst (hF : Inpl F) (h : MF F d S G base P C w0 BX RS n W) (hk : MK d S G base P C w0) (b k : Nat) (hb : b < d.nb) (hkb : k < d.nk b) (hn : (d.funV S).offI b k = n)
    (hsame : ∀ q, d.valid q → q ≠ .code b → turnR d S (d.funV S) (n + 1) q = turnR d S (d.funV S) n q) :
    Calls Try.prog 71 #[.pointer (some ⟨G (.code b), 0 + k * 10 + 1, none⟩), .pointer (some ⟨C, 0, none⟩)] W fun e w' => e = .returned (.tuple #[]) ∧ MF F d S G base P C w0 BX RS (n + 1) w' := by
  have hm := (h.lay.mem (.code b) hb).2
  have hd : dstN d (d.funV S) n b k = d.dst b k := by unfold dstN; rw [if_neg (by omega)]
  have hc : ∀ j, j < 10 → ∀ u, (insT d S (d.funV S) n b k)[j]? = some u → W.cell? ⟨G (.code b), 0 + k * 10 + j, none⟩ = some u := fun j hj u hu =>
    flat_cell (insT d S (d.funV S) n b) 10 (insT_len d S (d.funV S) n b) (List.range (d.nk b)) hm k j (by simpa using hkb) hj u (by rw [List.getElem_range]; exact hu)
  have c0 := hc 1 (by omega) _ rfl
  have c1 := hc 2 (by omega) _ rfl
  have c2 := hc 3 (by omega) _ rfl
  have c3 := hc 4 (by omega) _ rfl
  rw [hd] at c0 c1 c2 c3
  refine h.call hF hk (.code b) hb (0 + k * 10 + 1) (d.dst b k) c0 c1 c2 c3 (fun W2 h2 => ?_) hsame
  rw [show 0 + k * 10 + 1 = k * 10 + 1 by omega]
  refine put4_row (insT_len d S (d.funV S) n b) hkb (d.dst b k).T h2 ?_ (fun x hx hne => ?_)
  · unfold insT
    rw [show dstN d (d.funV S) (n + 1) b k = (d.dst b k).T by unfold dstN; rw [if_pos (by omega)]]
    rfl
  · unfold insT
    rw [show dstN d (d.funV S) (n + 1) b x = dstN d (d.funV S) n b x by
      unfold dstN
      have : (d.funV S).offI b x ≠ n := by
        rcases Nat.lt_or_gt_of_ne hne with e | e
        · have := offI_lt (d.funV S) b e; omega
        · have := offI_lt (d.funV S) b e; omega
      by_cases hl : (d.funV S).offI b x < n
      · rw [if_pos hl, if_pos (by omega)]
      · rw [if_neg hl, if_neg (by omega)]]
/-- A parameter. -/
theorem MF.params (hF : Inpl F) (hk : MK d S G base P C w0) (k : Nat) (hkn : k < (d.funV S).pn) (h : MF F d S G base P C w0 BX RS k W) :
    ∃ g o, (d.funV S).pa = some ⟨g, o, none⟩ ∧ Calls Try.prog 71 #[.pointer (some ⟨g, o + k * 4, none⟩), .pointer (some ⟨C, 0, none⟩)] W fun e w' => e = .returned (.tuple #[]) ∧ MF F d S G base P C w0 BX RS (k + 1) w' := by
  refine ⟨G .params, 0, congrArg Prod.fst (hk.spots .params trivial), h.list hF hk .params trivial rfl (d.ops .params) k (hk.small .params trivial) hkn rfl rfl (fun q hq hne => ?_)⟩
  have hpn : (d.funV S).pn = (d.ops .params).length := rfl
  refine turnR_same d S (d.funV S) k q (fun e => absurd e hne) (fun b e => ?_) (fun b j e => ?_) (fun b e j hj => ?_)
  · have := off_lo (d.funV S) b; omega
  · have := off_lo (d.funV S) b; have := offI_lo (d.funV S) b j; omega
  · have := off_lo (d.funV S) b; have := offI_lo (d.funV S) b j; omega
/-- What is there at a block's beginning. -/
theorem MF.ins (hF : Inpl F) (hk : MK d S G base P C w0) (b k : Nat) (hb : b < d.nb) (hkn : k < ((d.funV S).R b).il) (h : MF F d S G base P C w0 BX RS ((d.funV S).off b + k) W) :
    ∃ g o, ((d.funV S).R b).ia = some ⟨g, o, none⟩ ∧ Calls Try.prog 71 #[.pointer (some ⟨g, o + k * 4, none⟩), .pointer (some ⟨C, 0, none⟩)] W fun e w' => e = .returned (.tuple #[]) ∧ MF F d S G base P C w0 BX RS ((d.funV S).off b + k + 1) w' := by
  have e1 : (d.funV S).off b + k - (d.funV S).off b = k := by omega
  have e2 : (d.funV S).off b + k + 1 - (d.funV S).off b = k + 1 := by omega
  refine ⟨G (.ins b), 0, congrArg Prod.fst (hk.spots (.ins b) hb), h.list hF hk (.ins b) hb rfl (d.ops (.ins b)) k (hk.small (.ins b) hb) hkn (by show (turnTo _ _).flatMap _ = _; rw [e1]) (by show (turnTo _ _).flatMap _ = _; rw [e2]) (fun q hq hne => ?_)⟩
  have hpn : (d.funV S).pn = (d.ops .params).length := rfl
  have hil : ∀ b, ((d.funV S).R b).il = (d.ops (.ins b)).length := fun _ => rfl
  have han : ∀ b k, (((d.funV S).R b).R k).an = (d.ops (.args b k)).length := fun _ _ => rfl
  have hil0 := hil b
  have hhi := off_hi (d.funV S) b
  refine turnR_same d S (d.funV S) _ q (fun e => ?_) (fun c e => ?_) (fun c j e => ?_) (fun c e j hj => ?_)
  · have := off_lo (d.funV S) b; omega
  · subst e
    have hcb : c ≠ b := fun e => hne (by rw [e])
    have hilc := hil c
    rcases Nat.lt_or_gt_of_ne hcb with hlt | hlt
    · have := off_hi (d.funV S) c; have := off_le (d.funV S) (b := c + 1) (c := b) hlt; omega
    · have := off_le (d.funV S) (b := b + 1) (c := c) hlt; omega
  · subst e
    have hanc := han c j
    have hj : j < ((d.funV S).R c).kn := hq.2
    have hlo := offI_lo (d.funV S) c j
    rcases Nat.lt_trichotomy c b with hlt | rfl | hlt
    · have := offI_hi (d.funV S) c hj; have := off_le (d.funV S) (b := c + 1) (c := b) hlt; omega
    · omega
    · have := off_le (d.funV S) (b := b + 1) (c := c) hlt; omega
  · subst e
    have hj : j < ((d.funV S).R c).kn := hj
    have hlo := offI_lo (d.funV S) c j
    rcases Nat.lt_trichotomy c b with hlt | rfl | hlt
    · have := offI_hi (d.funV S) c hj; have := off_le (d.funV S) (b := c + 1) (c := b) hlt; omega
    · omega
    · have := off_le (d.funV S) (b := b + 1) (c := c) hlt; omega
/-- Where an instruction gives to. -/
theorem MF.give (hF : Inpl F) (hk : MK d S G base P C w0) (b k : Nat) (hb : b < d.nb) (hkn : k < ((d.funV S).R b).kn) (h : MF F d S G base P C w0 BX RS ((d.funV S).offI b k) W) :
    Calls Try.prog 71 #[.pointer (some ⟨G (.code b), 0 + k * 10 + 1, none⟩), .pointer (some ⟨C, 0, none⟩)] W fun e w' => e = .returned (.tuple #[]) ∧ MF F d S G base P C w0 BX RS ((d.funV S).offI b k + 1) w' := by
  refine h.dst hF hk b k hb hkn rfl (fun q hq hne => ?_)
  have hpn : (d.funV S).pn = (d.ops .params).length := rfl
  have hil : ∀ b, ((d.funV S).R b).il = (d.ops (.ins b)).length := fun _ => rfl
  have han : ∀ b k, (((d.funV S).R b).R k).an = (d.ops (.args b k)).length := fun _ _ => rfl
  have hil0 := hil b
  have han0 := han b k
  have hlo0 := offI_lo (d.funV S) b k
  have hhi := offI_hi (d.funV S) b hkn
  refine turnR_same d S (d.funV S) _ q (fun e => ?_) (fun c e => ?_) (fun c j e => ?_) (fun c e j hj => ?_)
  · have := off_lo (d.funV S) b; omega
  · subst e
    have hilc := hil c
    rcases Nat.lt_trichotomy c b with hlt | rfl | hlt
    · have := off_hi (d.funV S) c; have := off_le (d.funV S) (b := c + 1) (c := b) hlt; omega
    · omega
    · have := off_le (d.funV S) (b := b + 1) (c := c) hlt; omega
  · subst e
    have hanc := han c j
    have hj : j < ((d.funV S).R c).kn := hq.2
    have hlo := offI_lo (d.funV S) c j
    rcases Nat.lt_trichotomy c b with hlt | rfl | hlt
    · have := offI_hi (d.funV S) c hj; have := off_le (d.funV S) (b := c + 1) (c := b) hlt; omega
    · rcases Nat.lt_or_ge j k with hjk | hjk
      · have := offI_lt (d.funV S) c hjk; omega
      · have := offI_le (d.funV S) c hjk; omega
    · have := off_le (d.funV S) (b := b + 1) (c := c) hlt; omega
  · subst e
    have hcb : c ≠ b := fun e => hne (by rw [e])
    have hj : j < ((d.funV S).R c).kn := hj
    have hlo := offI_lo (d.funV S) c j
    rcases Nat.lt_or_gt_of_ne hcb with hlt | hlt
    · have := offI_hi (d.funV S) c hj; have := off_le (d.funV S) (b := c + 1) (c := b) hlt; omega
    · have := off_le (d.funV S) (b := b + 1) (c := c) hlt; omega
/-- What an instruction takes. -/
theorem MF.args (hF : Inpl F) (hk : MK d S G base P C w0) (b k j : Nat) (hb : b < d.nb) (hkn : k < ((d.funV S).R b).kn) (hjn : j < (((d.funV S).R b).R k).an) (h : MF F d S G base P C w0 BX RS ((d.funV S).offI b k + 1 + j) W) :
    ∃ g o, (((d.funV S).R b).R k).aa = some ⟨g, o, none⟩ ∧ Calls Try.prog 71 #[.pointer (some ⟨g, o + j * 4, none⟩), .pointer (some ⟨C, 0, none⟩)] W fun e w' => e = .returned (.tuple #[]) ∧ MF F d S G base P C w0 BX RS ((d.funV S).offI b k + 1 + j + 1) w' := by
  have e1 : (d.funV S).offI b k + 1 + j - ((d.funV S).offI b k + 1) = j := by omega
  have e2 : (d.funV S).offI b k + 1 + j + 1 - ((d.funV S).offI b k + 1) = j + 1 := by omega
  refine ⟨G (.args b k), 0, congrArg Prod.fst (hk.spots (.args b k) ⟨hb, hkn⟩), h.list hF hk (.args b k) ⟨hb, hkn⟩ rfl (d.ops (.args b k)) j (hk.small (.args b k) ⟨hb, hkn⟩) hjn (by show (turnTo _ _).flatMap _ = _; rw [e1]) (by show (turnTo _ _).flatMap _ = _; rw [e2]) (fun q hq hne => ?_)⟩
  have hpn : (d.funV S).pn = (d.ops .params).length := rfl
  have hil : ∀ b, ((d.funV S).R b).il = (d.ops (.ins b)).length := fun _ => rfl
  have han : ∀ b k, (((d.funV S).R b).R k).an = (d.ops (.args b k)).length := fun _ _ => rfl
  have hil0 := hil b
  have han0 := han b k
  have hlo0 := offI_lo (d.funV S) b k
  have hhi := offI_hi (d.funV S) b hkn
  refine turnR_same d S (d.funV S) _ q (fun e => ?_) (fun c e => ?_) (fun c i e => ?_) (fun c e i hi => ?_)
  · have := off_lo (d.funV S) b; omega
  · subst e
    have hilc := hil c
    rcases Nat.lt_trichotomy c b with hlt | rfl | hlt
    · have := off_hi (d.funV S) c; have := off_le (d.funV S) (b := c + 1) (c := b) hlt; omega
    · omega
    · have := off_le (d.funV S) (b := b + 1) (c := c) hlt; omega
  · subst e
    have hanc := han c i
    have hi : i < ((d.funV S).R c).kn := hq.2
    have hlo := offI_lo (d.funV S) c i
    rcases Nat.lt_trichotomy c b with hlt | rfl | hlt
    · have := offI_hi (d.funV S) c hi; have := off_le (d.funV S) (b := c + 1) (c := b) hlt; omega
    · rcases Nat.lt_trichotomy i k with hik | rfl | hik
      · have := offI_lt (d.funV S) c hik; omega
      · exact absurd rfl hne
      · have := offI_lt (d.funV S) c hik; omega
    · have := off_le (d.funV S) (b := b + 1) (c := c) hlt; omega
  · subst e
    have hi : i < ((d.funV S).R c).kn := hi
    have hlo := offI_lo (d.funV S) c i
    rcases Nat.lt_trichotomy c b with hlt | rfl | hlt
    · have := offI_hi (d.funV S) c hi; have := off_le (d.funV S) (b := c + 1) (c := b) hlt; omega
    · rcases Nat.lt_trichotomy i k with hik | rfl | hik
      · have := offI_lt (d.funV S) c hik; omega
      · omega
      · have := offI_lt (d.funV S) c hik; omega
    · have := off_le (d.funV S) (b := b + 1) (c := c) hlt; omega
/-- Where the lists are told stays. -/
theorem MF.str (h : MF F d S G base P C w0 BX RS n W) (hk : MK d S G base P C w0) (c3 : BX[3]? = some (.slice (d.funV S).pa (d.funV S).pn (d.funV S).pc)) (c4 : BX[4]? = some (.slice (d.funV S).ba (d.funV S).bn (d.funV S).bc)) : IsStr W P (d.funV S) := by
  refine ⟨(cell_in h.box 3).trans c3, (cell_in h.box 4).trans c4, fun b hb => ?_, fun b k hb hkb => ?_, hk.small .params trivial, hk.small .blocks trivial, fun b hb => ⟨hk.small (.ins b) hb, hk.small (.code b) hb, fun k hkb => hk.small (.args b k) ⟨hb, hkb⟩⟩⟩
  · have hm := (h.lay.mem .blocks trivial).2
    have hc : ∀ j (hj : j < 4) u, ((blkR (d.blkAt b) (d.blkV S b)).toList)[j]? = some u → W.cell? ⟨G .blocks, 0 + b * 4 + j, none⟩ = some u := fun j hj u hu =>
      flat_cell (fun k => (blkR (d.blkAt k) (d.blkV S k)).toList) 4 (fun _ => rfl) (List.range d.nb) hm b j (by rw [List.length_range]; exact hb) hj u (by rw [List.getElem_range]; exact hu)
    exact ⟨G .blocks, 0, congrArg Prod.fst (hk.spots .blocks trivial), hc 2 (by omega) _ rfl, hc 3 (by omega) _ rfl⟩
  · have hm := (h.lay.mem (.code b) hb).2
    have hc : ∀ j (hj : j < 10) u, (insT d S (d.funV S) n b k)[j]? = some u → W.cell? ⟨G (.code b), 0 + k * 10 + j, none⟩ = some u := fun j hj u hu =>
      flat_cell (insT d S (d.funV S) n b) 10 (insT_len d S (d.funV S) n b) (List.range (d.nk b)) hm k j (by rw [List.length_range]; exact hkb) hj u (by rw [List.getElem_range]; exact hu)
    exact ⟨G (.code b), 0, congrArg Prod.fst (hk.spots (.code b) hb), hc 5 (by omega) _ rfl⟩
theorem MF.each (hF : Inpl F) (hk : MK d S G base P C w0) (c3 : BX[3]? = some (.slice (d.funV S).pa (d.funV S).pn (d.funV S).pc)) (c4 : BX[4]? = some (.slice (d.funV S).ba (d.funV S).bn (d.funV S).bc)) (h : MF F d S G base P C w0 BX RS 0 W) :
    Calls Try.prog 56 #[.pointer (some ⟨P, 0, none⟩), .func (.func 71) #[] #[.pointer (some ⟨C, 0, none⟩)]] W fun e w' => e = .returned (.tuple #[]) ∧ MF F d S G base P C w0 BX RS ((d.funV S).off d.nb) w' :=
  each71_v C P (d.funV S) (MF F d S G base P C w0 BX RS) W h (fun n w h => h.str hk c3 c4)
    (fun k w hkn h => MF.params hF hk k hkn h)
    (fun b k w hb hkn h => MF.ins hF hk b k hb hkn h)
    (fun b k g o w hb hkn h hg => by
      have e := congrArg Prod.fst (hk.spots (.code b) hb)
      have e2 : some (⟨G (.code b), 0, none⟩ : Addr) = some ⟨g, o, none⟩ := e.symm.trans hg
      injection e2 with e2
      injection e2 with e3 e4
      subst e3; subst e4
      exact MF.give hF hk b k hb hkn h)
    (fun b k j w hb hkn hj h => MF.args hF hk b k j hb hkn hj h)
theorem MF.done (h : MF F d S G base P C w0 BX RS ((d.funV S).off d.nb) W) (hk : MK d S G base P C w0) : Own W base G d.T S :=
  ⟨h.lay.congr (fun p hp => by cases p <;> exact hp) (fun _ _ => rfl) (fun p hp => turnR_all d S p (by cases p <;> exact hp)), fun p hp => by rw [d.T_len]; exact hk.spots p (by cases p <;> exact hp), fun p hp => by rw [d.T_len]; exact hk.small p (by cases p <;> exact hp)⟩
end
end Go.Proofs.Ytocelaebokikcaa
