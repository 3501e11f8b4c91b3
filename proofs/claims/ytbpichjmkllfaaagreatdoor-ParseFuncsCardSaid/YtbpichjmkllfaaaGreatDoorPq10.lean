/- Packed texts of one proof. Conditions: none. -/
import Derived.Test.YtbpichjmkllfaaaGreatDoorPq09
namespace Go.Proofs.YtbpichjmkllfaaaGreatDoor.Lex
open Go.ChangeShapes Go.WideShapes Go.RowKit
set_option linter.unusedVariables false
set_option maxRecDepth 20000
theorem well_iff (D : List UInt8) : Deci.well D false ↔ ¬ (D = [] ∨ (D.head? = some 48 ∧ 1 < D.length)) := by
 unfold Deci.well
 constructor
 ·rintro ⟨h1, h2⟩ (h | ⟨h3, h4⟩)
  ·exact h1 h
  ·have := (h2 48 h3 (by decide)).1; omega
 ·intro h
  refine ⟨fun e => h (.inl e), fun c hc h48 => ⟨?_, rfl⟩⟩
  have e : c = 48 := (u8_eq (n := 48) (by omega)).2 h48
  subst e
  have : 0 < D.length := by cases D with
   | nil => cases hc
   | cons => simp
  have : ¬ 1 < D.length := fun k => h (.inr ⟨hc, k⟩)
  omega
theorem well_neg (D : List UInt8) (h : Deci.well D false) (h0 : 0 < Deci.val D) : Deci.well D true := by
 refine ⟨h.1, fun c hc h48 => ?_⟩
 exfalso
 have h1 := (h.2 c hc h48).1
 have e : c = 48 := (u8_eq (n := 48) (by omega)).2 h48
 subst e
 match D, hc, h1 with
 | [x], hc, _ =>
  simp at hc
  subst hc
  revert h0; decide
theorem vcode_ways (top : Nat) (D : List UInt8) : (¬ Deci.well D false ∧ vcode top D = 12) ∨ (Deci.well D false ∧ top < Deci.val D ∧ vcode top D = 2) ∨ (Deci.well D false ∧ Deci.val D ≤ top ∧ vcode top D = 0) := by
 unfold vcode
 by_cases h : D = [] ∨ (D.head? = some 48 ∧ 1 < D.length)
 ·exact .inl ⟨fun k => (well_iff D).1 k h, by rw [if_pos h]⟩
 ·rw [if_neg h]
  by_cases h2 : top < Deci.val D
  ·exact .inr (.inl ⟨(well_iff D).2 h, h2, by rw [if_pos h2]⟩)
  ·exact .inr (.inr ⟨(well_iff D).2 h, by omega, by rw [if_neg h2]⟩)
theorem isDig_of {c : UInt8} (h : dgt c = true) : Deci.isDig c := by
 unfold dgt at h; unfold Deci.isDig
 simp at h; exact h
theorem scn_dig (d : ByteArray) (hd : ∀ c ∈ d.data.toList, dgt c = true) : Deci.Scn d 0 false 0 d.size := by
 have hi : ∀ i (h : i < d.size), Deci.isDig d[i] := fun i h => by
  have := hd (d.data.toList[i]'(by rw [Nam.len_list]; exact h)) (List.getElem_mem _)
  rw [Nam.at_list d i h] at this
  exact isDig_of this
 exact ⟨Nat.zero_le _, (fun h => by cases h), fun _ h e => by have := hi 0 h; unfold Deci.isDig at this; omega, rfl, Nat.zero_le _, Nat.le_refl _, fun i h _ _ => hi i h, fun h => absurd h (Nat.lt_irrefl _)⟩
theorem dgs_all (d : ByteArray) : Deci.dgs d 0 d.size = d.data.toList := by
 unfold Deci.dgs; rw [ByteArray.data_extract]; simp
 exact List.take_of_length_le (Nat.le_refl _)
theorem getT_ok {n : Nat} {x y : Int} (h : ¬ y < (n : Int)) : Deci.getT n (x, y, 0) = (x, 0) := by unfold Deci.getT; exact (if_pos rfl).trans (if_neg h)
theorem get_dig (d : ByteArray) (hs : d.size ≤ 100000) (hd : ∀ c ∈ d.data.toList, dgt c = true) :
  (vcode 9223372036854775807 d.data.toList = 0 → Gets d (Deci.val d.data.toList) 0) ∧ (∀ cd, vcode 9223372036854775807 d.data.toList = cd → cd ≠ 0 → Gets d 0 cd) := by
 have hn := scn_dig d hd
 rcases vcode_ways 9223372036854775807 d.data.toList with ⟨h1, h2⟩ | ⟨h1, h2, h3⟩ | ⟨h1, h2, h3⟩
 ·refine ⟨(fun h => by rw [h2] at h; cases h), fun cd hc _ w => ?_⟩
  rw [h2] at hc; subst hc
  exact Deci.get_v d false 0 d.size 0 0 12 0 12 (by omega) hn (by rw [dgs_all, Deci.scanT_bad h1]) (by unfold Deci.getT; rw [if_neg (by decide)]) w
 ·refine ⟨(fun h => by rw [h3] at h; cases h), fun cd hc _ w => ?_⟩
  rw [h3] at hc; subst hc
  exact Deci.get_v d false 0 d.size 0 0 2 0 2 (by omega) hn (by rw [dgs_all, Deci.scanT_range h1 (by unfold Deci.top; simp; omega)]) (by unfold Deci.getT; rw [if_neg (by decide)]) w
 ·refine ⟨fun _ w => ?_, fun cd hc h => absurd (h3 ▸ hc).symm h⟩
  exact Deci.get_v d false 0 d.size (Deci.val d.data.toList) d.size 0 _ 0 (by omega) hn (by rw [dgs_all, Deci.scanT_ok h1 (by unfold Deci.top; simp; omega)]; rfl) (getT_ok (by omega)) w
theorem cat_size (d : ByteArray) : ((⟨#[45]⟩ : ByteArray) ++ d).size = d.size + 1 := by rw [ByteArray.size_append]; show 1 + d.size = _; omega
theorem cat_zero (d : ByteArray) (h : 0 < ((⟨#[45]⟩ : ByteArray) ++ d).size) : ((⟨#[45]⟩ : ByteArray) ++ d)[0] = 45 := by
 rw [ByteArray.getElem_append_left (by decide)]; rfl
theorem cat_dgs (d : ByteArray) : Deci.dgs ((⟨#[45]⟩ : ByteArray) ++ d) 1 ((⟨#[45]⟩ : ByteArray) ++ d).size = d.data.toList := by
 unfold Deci.dgs; rw [Quo.extract_list, ByteArray.data_append]; simp
theorem scn_neg (d : ByteArray) (hd : ∀ c ∈ d.data.toList, dgt c = true) : Deci.Scn (⟨#[45]⟩ ++ d) 0 true 1 (⟨#[45]⟩ ++ d : ByteArray).size := by
 have hz := cat_size d
 have hi : ∀ i (h : i < ((⟨#[45]⟩ : ByteArray) ++ d).size), 1 ≤ i → Deci.isDig ((⟨#[45]⟩ : ByteArray) ++ d)[i] := fun i h h1 => by
  rw [ByteArray.getElem_append_right (by show 1 ≤ i; exact h1)]
  have hj : i - (⟨#[45]⟩ : ByteArray).size < d.size := by show i - 1 < d.size; omega
  have := hd (d.data.toList[i - (⟨#[45]⟩ : ByteArray).size]'(by rw [Nam.len_list]; exact hj)) (List.getElem_mem _)
  rw [Nam.at_list d _ hj] at this
  exact isDig_of this
 exact ⟨Nat.zero_le _, fun _ => ⟨by omega, by rw [cat_zero]; rfl⟩, (fun h => by cases h), rfl, by omega, Nat.le_refl _, fun i h h1 _ => hi i h h1, fun h => absurd h (Nat.lt_irrefl _)⟩
theorem get_neg (d : ByteArray) (hs : d.size ≤ 100000) (hd : ∀ c ∈ d.data.toList, dgt c = true) (hv : vcode 9223372036854775807 d.data.toList = 2) :
  (Deci.val d.data.toList ≤ 9223372036854775808 → Gets (⟨#[45]⟩ ++ d) (-(Deci.val d.data.toList : Int)) 0) ∧ (9223372036854775808 < Deci.val d.data.toList → Gets (⟨#[45]⟩ ++ d) 0 2) := by
 have hn := scn_neg d hd
 have hz := cat_size d
 rcases vcode_ways 9223372036854775807 d.data.toList with ⟨h1, h2⟩ | ⟨h1, h2, h3⟩ | ⟨h1, h2, h3⟩
 ·rw [h2] at hv; cases hv
 ·have hw := well_neg _ h1 (by omega)
  refine ⟨fun h w => ?_, fun h w => ?_⟩
  ·exact Deci.get_v _ true 1 _ (-(Deci.val d.data.toList : Int)) ((⟨#[45]⟩ ++ d : ByteArray).size : Int) 0 _ 0 (by omega) hn (by rw [cat_dgs, Deci.scanT_ok hw (by unfold Deci.top; simp; omega)]; rfl) (getT_ok (by omega)) w
  ·exact Deci.get_v _ true 1 _ 0 0 2 0 2 (by omega) hn (by rw [cat_dgs, Deci.scanT_range hw (by unfold Deci.top; simp; omega)]) (by unfold Deci.getT; rw [if_neg (by decide)]) w
 ·rw [h3] at hv; cases hv
def ansE (a : Nat) : Nx → Ending
 | .skip _ => bad 0 0
 | .tok t k => good (tkv t) (a + k)
 | .bad e p => bad e p
theorem ansE_tok {a k e : Nat} {t : Tok} (h : a + k = e) : ansE a (.tok t k) = good (tkv t) e := by subst h; rfl
theorem ext_list (s : ByteArray) (a e : Nat) : (s.extract a e).data.toList = (s.data.toList.drop a).take (e - a) := by
 rw [ByteArray.data_extract]; simp
theorem ba_eq {x : ByteArray} {l : List UInt8} (h : x.data.toList = l) : x = ⟨l.toArray⟩ := by subst h; cases x; simp
theorem ext_pre (s : ByteArray) (a e : Nat) (pre r : List UInt8) (h : s.data.toList.drop a = pre ++ r) (he : a + pre.length + (dg r).length = e) : s.extract a e = ⟨(pre ++ dg r).toArray⟩ := by
 apply ba_eq
 rw [ext_list, h, show e - a = pre.length + (dg r).length by omega, List.take_length_add_append]
 congr 1
 unfold dg
 exact (List.prefix_iff_eq_take.1 (List.takeWhile_prefix _)).symm
theorem ext_dg (s : ByteArray) (fr e : Nat) (he : fr + (dg (s.data.toList.drop fr)).length = e) : (s.extract fr e).data.toList = dg (s.data.toList.drop fr) := by
 rw [ext_list, show e - fr = (dg (s.data.toList.drop fr)).length by omega]
 unfold dg
 exact (List.prefix_iff_eq_take.1 (List.takeWhile_prefix _)).symm
theorem drop_pre {l pre r : List UInt8} {a fr : Nat} (h : l.drop a = pre ++ r) (hf : a + pre.length = fr) : l.drop fr = r := by
 rw [← hf, ← List.drop_drop, h, List.drop_left]
theorem ext_size (s : ByteArray) (a e : Nat) (h : e ≤ s.size) : (s.extract a e).size = e - a := by rw [ByteArray.size_extract]; omega
theorem counted_v (s : ByteArray) (a fr kind cls : Nat) (pre r : List UInt8) (hs : s.size ≤ 100000) (h : s.data.toList.drop a = pre ++ r) (hf : a + pre.length = fr) (hfs : fr ≤ s.size) (w : World) :
  Calls Tryz.prog 135 #[sp s a, tk (kind : Int) ⟨#[]⟩ 0 (cls : Int) 0, .int .i64 (fr : Int)] w fun e1 w' => e1 = ansE a (numb kind cls 2147483647 pre r a) ∧ Below w.heap.size w w' := by
 have hd := drop_pre h hf
 obtain ⟨e, he⟩ : ∃ e, fr + (dg r).length = e := ⟨_, rfl⟩
 have he' : fr + (dg (s.data.toList.drop fr)).length = e := by rw [hd]; exact he
 have hes : e ≤ s.size := by
  have h1 := dg_len (s.data.toList.drop fr)
  rw [List.length_drop, Nam.len_list] at h1; omega
 have hD := ext_dg s fr e he'
 have hz := ext_size s fr e hes
 obtain ⟨g1, g2⟩ := get_dig (s.extract fr e) (by omega) (by rw [hD]; exact dg_all _)
 rw [hD, hd] at g1 g2
 unfold numb
 rcases vcode_ways 9223372036854775807 (dg r) with ⟨h1, h2⟩ | ⟨h1, h2, h3⟩ | ⟨h1, h2, h3⟩
 ·rcases vcode_ways 2147483647 (dg r) with ⟨k1, k2⟩ | ⟨k1, k2, k3⟩ | ⟨k1, k2, k3⟩
  ·rw [k2, if_neg (by decide)]
   exact counted_code s a fr e kind cls 0 12 hs (by omega) hfs he' hes (g2 12 h2 (by decide)) (by decide) w
  ·exact absurd k1 h1
  ·exact absurd k1 h1
 ·rcases vcode_ways 2147483647 (dg r) with ⟨k1, k2⟩ | ⟨k1, k2, k3⟩ | ⟨k1, k2, k3⟩
  ·exact absurd h1 k1
  ·rw [k3, if_neg (by decide)]
   exact counted_code s a fr e kind cls 0 2 hs (by omega) hfs he' hes (g2 2 h3 (by decide)) (by decide) w
  ·omega
 ·rcases vcode_ways 2147483647 (dg r) with ⟨k1, k2⟩ | ⟨k1, k2, k3⟩ | ⟨k1, k2, k3⟩
  ·exact absurd h1 k1
  ·rw [k3, if_neg (by decide)]
   exact counted_great s a fr e kind cls _ 0 hs (by omega) hfs he' hes (g1 h3) rfl (by omega) w
  ·rw [if_pos k3]
   have hx := ext_pre s a e pre r h (by omega)
   have := counted_right s a fr e kind cls _ 0 hs (by omega) hfs he' hes (g1 h3) rfl (by omega) w
   rw [hx] at this
   have hw : wrapN (Deci.val (dg r)) = (Deci.val (dg r) : Int) := by unfold wrapN; rw [if_pos (by omega)]
   rw [hw, ansE_tok (show a + (pre.length + (dg r).length) = e by omega)]
   exact this
theorem number_v (s : ByteArray) (a : Nat) (hs : s.size ≤ 100000) (ha : a ≤ s.size) (w : World) :
  Calls Tryz.prog 94 #[sp s a] w fun e1 w' => e1 = ansE a (numb 2 0 9223372036854775808 [] (s.data.toList.drop a) a) ∧ Below w.heap.size w w' := by
 obtain ⟨r, hr⟩ : ∃ r, s.data.toList.drop a = r := ⟨_, rfl⟩
 obtain ⟨e, he⟩ : ∃ e, a + (dg r).length = e := ⟨_, rfl⟩
 have he' : a + (dg (s.data.toList.drop a)).length = e := by rw [hr]; exact he
 have hes : e ≤ s.size := by
  have h1 := dg_len (s.data.toList.drop a)
  rw [List.length_drop, Nam.len_list] at h1; omega
 have hD := ext_dg s a e he'
 have hz := ext_size s a e hes
 obtain ⟨g1, g2⟩ := get_dig (s.extract a e) (by omega) (by rw [hD]; exact dg_all _)
 have g3 := get_neg (s.extract a e) (by omega) (by rw [hD]; exact dg_all _)
 rw [hD, hr] at g1 g2 g3
 rw [hr]
 unfold numb
 have hx := ext_pre s a e [] r hr (by simpa using he)
 rcases vcode_ways 9223372036854775807 (dg r) with ⟨h1, h2⟩ | ⟨h1, h2, h3⟩ | ⟨h1, h2, h3⟩
 ·rcases vcode_ways 9223372036854775808 (dg r) with ⟨k1, k2⟩ | ⟨k1, k2, k3⟩ | ⟨k1, k2, k3⟩
  ·rw [k2, if_neg (by decide)]
   exact number_code s a e 0 12 hs ha he' hes (g2 12 h2 (by decide)) (by decide) (by decide) w
  ·exact absurd k1 h1
  ·exact absurd k1 h1
 ·rcases vcode_ways 9223372036854775808 (dg r) with ⟨k1, k2⟩ | ⟨k1, k2, k3⟩ | ⟨k1, k2, k3⟩
  ·exact absurd h1 k1
  ·rw [k3, if_neg (by decide)]
   exact number_great s a e 0 2 hs ha he' hes (g2 2 h3 (by decide)) rfl 0 2 (by decide) ((g3 h3).2 k2) w
  ·rw [if_pos k3]
   have := number_least s a e 0 2 hs ha he' hes (g2 2 h3 (by decide)) rfl _ ((g3 h3).1 k2) w
   rw [hx] at this
   have hw : wrapN (Deci.val (dg r)) = -(Deci.val (dg r) : Int) := by unfold wrapN; rw [if_neg (by omega)]; omega
   rw [hw, ansE_tok (show a + (([] : List UInt8).length + (dg r).length) = e by simpa using he)]
   exact this
 ·rcases vcode_ways 9223372036854775808 (dg r) with ⟨k1, k2⟩ | ⟨k1, k2, k3⟩ | ⟨k1, k2, k3⟩
  ·exact absurd h1 k1
  ·omega
  ·rw [if_pos k3]
   have := number_right s a e _ 0 hs ha he' hes (g1 h3) rfl w
   rw [hx] at this
   have hw : wrapN (Deci.val (dg r)) = (Deci.val (dg r) : Int) := by unfold wrapN; rw [if_pos (by omega)]
   rw [hw, ansE_tok (show a + (([] : List UInt8).length + (dg r).length) = e by simpa using he)]
   exact this
theorem scan_fuel : ∀ (n : Nat) (l : List UInt8) (f f' p : Nat) (t : List UInt8), l.length ≤ n → l.length < f → l.length < f' → Quo.scan f l p t = Quo.scan f' l p t := by
 intro n
 induction n with
 | zero =>
  intro l f f' p t h1 h2 h3
  obtain rfl : l = [] := List.eq_nil_of_length_eq_zero (by omega)
  obtain ⟨f, rfl⟩ : ∃ g, f = g + 1 := ⟨f - 1, by omega⟩
  obtain ⟨f', rfl⟩ : ∃ g, f' = g + 1 := ⟨f' - 1, by omega⟩
  rfl
 | succ n ih =>
  intro l f f' p t h1 h2 h3
  obtain ⟨f, rfl⟩ : ∃ g, f = g + 1 := ⟨f - 1, by omega⟩
  obtain ⟨f', rfl⟩ : ∃ g, f' = g + 1 := ⟨f' - 1, by omega⟩
  cases l with
  | nil => rfl
  | cons c r =>
   rw [Quo.scan, Quo.scan]
   by_cases hp : (Quo.piece (c :: r)).2 = 0
   ·rw [if_pos hp, if_pos hp]
   ·have hp1 : (c :: r).length = r.length + 1 := rfl
    rw [if_neg hp, if_neg hp]
    rw [ih ((c :: r).drop (Quo.piece (c :: r)).2) f f' _ _ (by rw [List.length_drop]; omega) (by rw [List.length_drop]; omega) (by rw [List.length_drop]; omega)]
def Does (k : Nat) (s : ByteArray) (a : Nat) (E : Ending) : Prop := (∀ (args : Array Value) (w : World), (callFunc k args).run Tryz.prog w = .ok (.enter k args) w) ∧ (∀ w : World, Calls Tryz.prog 54 #[sp s a] w fun e w' => e = .returned (rd k s a) ∧ Below w.heap.size w w') ∧ ∀ w : World, Calls Tryz.prog k #[sp s a] w fun e w' => e = E ∧ Below w.heap.size w w'
theorem u8n {c : UInt8} {n : Nat} (h : c.toNat ≠ n) (hn : n < 256) : c ≠ UInt8.ofNat n := fun e => h ((u8_eq hn).1 e)
theorem letter_not {c : UInt8} (h : Nam.letter c = true) : blank c = false ∧ c ≠ 47 ∧ c ≠ 34 := by
 revert h
 refine Quo.all_bytes (fun c => Nam.letter c = true → blank c = false ∧ c ≠ 47 ∧ c ≠ 34) ?_ c
 decide +kernel
theorem dgt_not {c : UInt8} (h : dgt c = true) : blank c = false ∧ c ≠ 47 ∧ c ≠ 34 ∧ c ≠ 37 ∧ c ≠ 35 ∧ c ≠ 36 := by
 revert h
 refine Quo.all_bytes (fun c => dgt c = true → blank c = false ∧ c ≠ 47 ∧ c ≠ 34 ∧ c ≠ 37 ∧ c ≠ 35 ∧ c ≠ 36) ?_ c
 decide +kernel
theorem sgs_not {c : UInt8} (h : c ∈ sgs) : blank c = false ∧ c ≠ 47 ∧ c ≠ 34 ∧ c ≠ 37 ∧ c ≠ 35 ∧ c ≠ 36 ∧ c ≠ 46 ∧ c ∈ signs := by
 revert h
 refine Quo.all_bytes (fun c => c ∈ sgs → blank c = false ∧ c ≠ 47 ∧ c ≠ 34 ∧ c ≠ 37 ∧ c ≠ 35 ∧ c ≠ 36 ∧ c ≠ 46 ∧ c ∈ signs) ?_ c
 decide +kernel
theorem signs_in {c : UInt8} (h : c ∈ signs) (h46 : c ≠ 46) : c ∈ sgs := by
 revert h h46
 refine Quo.all_bytes (fun c => c ∈ signs → c ≠ 46 → c ∈ sgs) ?_ c
 decide +kernel
theorem one_ext (s : ByteArray) (a : Nat) (ha : a < s.size) : s.extract a (a + 1) = ⟨[s[a]].toArray⟩ := by
 apply ba_eq
 rw [ext_list, Quo.drop_cons s a ha, show a + 1 - a = 1 by omega]; rfl
theorem pre_two (r : List UInt8) : [46, 46].isPrefixOf ((46 : UInt8) :: r) = decide (r.head? = some 46) := by
 cases r with
 | nil => simp [List.isPrefixOf]
 | cons d r => rw [Bool.eq_iff_iff]; simp [List.isPrefixOf]; exact eq_comm
theorem reads (s : ByteArray) (a : Nat) (hs : s.size ≤ 100000) (ha : a < s.size) (hk : ∀ k, nx (s.data.toList.drop a) a ≠ .skip k) :
  ∃ k, Does k s a (ansE a (nx (s.data.toList.drop a) a)) := by
 have hd := Quo.drop_cons s a ha
 obtain ⟨r, hr⟩ : ∃ r, s.data.toList.drop (a + 1) = r := ⟨_, rfl⟩
 rw [hr] at hd
 rw [hd] at hk ⊢
 have hlen : (s.data.toList.drop a).length = s.size - a := by rw [List.length_drop, Nam.len_list]
 have hrl : r.length + 1 = s.size - a := by rw [← hlen, hd]; rfl
 have hbl : blank s[a] = false := by
  cases h : blank s[a]
  ·rfl
  ·exact absurd (nx_blank h) (hk 1)
 have h47 : ¬ (s[a] = 47 ∧ r.head? = some 47) := fun h => hk _ (nx_rem hbl h)
 have hnx : nx (s[a] :: r) a = if s[a] = 34 then
   (if (Quo.scan (r.length + 1) r (a + 1) []).2.2 = 0 then .tok ⟨3, (Quo.scan (r.length + 1) r (a + 1) []).1, 0, 0, a⟩ ((Quo.scan (r.length + 1) r (a + 1) []).2.1 - a)
    else .bad (Quo.scan (r.length + 1) r (a + 1) []).2.2 (Quo.scan (r.length + 1) r (a + 1) []).2.1)
  else plain s[a] r a := by rw [nx_cons, if_neg (by rw [hbl]; decide), if_neg h47]
 rw [hnx]
 cases hl : Nam.letter s[a] with
 | true =>
  obtain ⟨_, _, n34⟩ := letter_not hl
  rw [if_neg n34]
  refine ⟨92, Tryz.call92, fun w => way_word s a ha hl w, fun w => ?_⟩
  unfold plain
  rw [if_pos hl]
  have hsc : Nam.scanZ s.data.toList (a : Int) = ((a + Nam.run (s[a] :: r) : Nat) : Int) := by
   unfold Nam.scanZ
   rw [if_neg (by omega), show ((a : Int)).toNat = a by omega, Nam.scan_name _ a (by rw [Nam.len_list]; exact ha) (by rw [Nam.at_list s a ha]; exact hl), hd]
  have hrun : Nam.run (s[a] :: r) ≤ s.size - a := by have := Nam.run_le (s[a] :: r); rw [List.length_cons] at this; omega
  by_cases h24 : 24 < Nam.run (s[a] :: r)
  ·rw [if_pos h24]
   exact word_long s a _ hs (by omega) hsc (by omega) w
  ·rw [if_neg h24, ansE_tok rfl]
   have := word_right s a _ hs (by omega) (by omega) hsc (by omega) w
   have hx : s.extract a (a + Nam.run (s[a] :: r)) = ⟨((s[a] :: r).takeWhile Nam.sign).toArray⟩ := by
    apply ba_eq
    rw [ext_list, hd, show a + Nam.run (s[a] :: r) - a = Nam.run (s[a] :: r) by omega]
    exact (List.prefix_iff_eq_take.1 (List.takeWhile_prefix _)).symm
   rw [hx] at this
   exact this
 | false =>
  cases hg : dgt s[a] with
  | true =>
   obtain ⟨_, _, n34, n37, n35, n36⟩ := dgt_not hg
   rw [if_neg n34]
   refine ⟨94, Tryz.call94, fun w => way_number s a ha hl hg w, fun w => ?_⟩
   unfold plain
   rw [if_neg (by rw [hl]; decide), if_neg n37, if_neg n35, if_neg n36, if_pos hg, ← hd]
   exact number_v s a hs (by omega) w
  | false =>
   by_cases hsg : s[a] ∈ sgs
   ·obtain ⟨_, _, n34, n37, n35, n36, n46, hin⟩ := sgs_not hsg
    rw [if_neg n34]
    refine ⟨96, Tryz.call96, fun w => way_sign s a ha hl hg hsg w, fun w => ?_⟩
    unfold plain
    rw [if_neg (by rw [hl]; decide), if_neg n37, if_neg n35, if_neg n36, if_neg (by rw [hg]; decide), if_pos hin, if_neg (fun h => n46 h.1), ansE_tok rfl]
    have := sign_v s a (a + 1) ha hs rfl w
    rw [one_ext s a ha] at this
    exact this
   ·by_cases q34 : s[a].toNat = 34
    ·have e34 : s[a] = 34 := (u8_eq (n := 34) (by omega)).2 q34
     rw [if_pos e34]
     refine ⟨97, Tryz.call97, fun w => way_quoted s a ha hl hg hsg q34 w, fun w => ?_⟩
     obtain ⟨x, y, e, hR⟩ : ∃ x y e, Quo.scan (r.length + 1) r (a + 1) [] = (x, y, e) := ⟨_, _, _, rfl⟩
     have hR' : Quo.scan s.size (s.data.toList.drop (a + 1)) (a + 1) [] = (x, y, e) := by
      rw [hr, ← hR]; exact scan_fuel _ _ _ _ _ _ (Nat.le_refl _) (by omega) (by omega)
     rw [hR]
     by_cases he : e = 0
     ·subst he
      have hp := scan_place _ _ _ _ _ _ hR
      show Calls Tryz.prog 97 #[sp s a] w fun e1 w' => e1 = ansE a (.tok ⟨3, x, 0, 0, a⟩ (y - a)) ∧ _
      rw [ansE_tok (show a + (y - a) = y by omega)]
      exact quoted_good s a x y 0 hs ha q34 hR' rfl w
     ·show Calls Tryz.prog 97 #[sp s a] w fun e1 w' => e1 = ansE a (if e = 0 then _ else .bad e y) ∧ _
      rw [if_neg he]
      exact quoted_bad s a x y e hs ha q34 hR' he w
    ·have n34 : s[a] ≠ 34 := u8n (n := 34) q34 (by omega)
     rw [if_neg n34]
     unfold plain
     rw [if_neg (by rw [hl]; decide)]
     by_cases q37 : s[a].toNat = 37
     ·have e37 : s[a] = 37 := (u8_eq (n := 37) (by omega)).2 q37
      rw [if_pos e37]
      refine ⟨98, Tryz.call98, fun w => way_vreg s a ha hl hg hsg q34 q37 w, fun w => ?_⟩
      have hc := counted_v s a (a + 1) 4 0 [s[a]] r hs (by rw [hd]; rfl) rfl (by omega)
      cases hn : numb 4 0 2147483647 [s[a]] r a with
      | skip k => exact absurd hn numb_skip
      | tok t k =>
       have ht := (numb_again hn).1
       rw [hn] at hc
       subst ht
       exact vreg_good s a (a + 1) hs ha rfl _ _ _ hc w
      | bad e p =>
       rw [hn] at hc
       have hp : p = a := by unfold numb at hn; split at hn <;> first | (cases hn; done) | (injection hn with _ h; exact h.symm)
       subst hp
       exact vreg_bad s p (p + 1) hs ha rfl _ hc w
     ·have n37 : s[a] ≠ 37 := u8n (n := 37) q37 (by omega)
      rw [if_neg n37]
      by_cases q36 : s[a].toNat = 36
      ·have e36 : s[a] = 36 := (u8_eq (n := 36) (by omega)).2 q36
       have n35 : s[a] ≠ 35 := by rw [e36]; decide
       rw [if_neg n35, if_pos e36]
       refine ⟨99, Tryz.call99, fun w => way_preg s a ha hl hg hsg q34 q37 q36 w, fun w => ?_⟩
       cases r with
       | nil =>
        exact preg_none s a (a + 1) hs ha rfl 0 (by rw [hr]; rfl) w
       | cons d r' =>
        have hlen2 : a + 2 ≤ s.size := by rw [List.length_cons] at hrl; omega
        have key : ∀ (cls : Nat), clsOf (d :: r') = ((cls : Int), true) → Calls Tryz.prog 99 #[sp s a] w fun e w' => e = ansE a (numb 5 cls 2147483647 [s[a], d] r' a) ∧ Below w.heap.size w w' := by
         intro cls hcl
         have hc := counted_v s a (a + 2) 5 cls [s[a], d] r' hs (by rw [hd]; rfl) rfl hlen2
         cases hn : numb 5 cls 2147483647 [s[a], d] r' a with
         | skip k => exact absurd hn numb_skip
         | tok t k =>
          have ht := (numb_again hn).1
          rw [hn] at hc
          subst ht
          exact preg_good s a (a + 1) (a + 2) hs ha rfl rfl _ (by rw [hr]; exact hcl) _ _ _ hc w
         | bad e p =>
          rw [hn] at hc
          have hp : p = a := by unfold numb at hn; split at hn <;> first | (cases hn; done) | (injection hn with _ h; exact h.symm)
          subst hp
          exact preg_bad s p (p + 1) (p + 2) hs ha rfl rfl _ (by rw [hr]; exact hcl) _ hc w
        show Calls Tryz.prog 99 #[sp s a] w fun e w' => e = ansE a (if d = 103 then _ else if d = 120 then _ else _) ∧ _
        by_cases q103 : d.toNat = 103
        ·have e103 : d = 103 := (u8_eq (n := 103) (by omega)).2 q103
         rw [if_pos e103]
         exact key 0 (by show (if d.toNat = 103 then _ else _) = _; rw [if_pos q103]; rfl)
        ·have n103 : d ≠ 103 := u8n (n := 103) q103 (by omega)
         rw [if_neg n103]
         by_cases q120 : d.toNat = 120
         ·have e120 : d = 120 := (u8_eq (n := 120) (by omega)).2 q120
          rw [if_pos e120]
          exact key 1 (by show (if d.toNat = 103 then _ else if d.toNat = 120 then _ else _) = _; rw [if_neg q103, if_pos q120]; rfl)
         ·have n120 : d ≠ 120 := u8n (n := 120) q120 (by omega)
          rw [if_neg n120]
          exact preg_none s a (a + 1) hs ha rfl 0 (by rw [hr]; show (if d.toNat = 103 then _ else if d.toNat = 120 then _ else _) = _; rw [if_neg q103, if_neg q120]) w
      ·have n36 : s[a] ≠ 36 := u8n (n := 36) q36 (by omega)
       by_cases q35 : s[a].toNat = 35
       ·have e35 : s[a] = 35 := (u8_eq (n := 35) (by omega)).2 q35
        rw [if_pos e35]
        refine ⟨100, Tryz.call100, fun w => way_slot s a ha hl hg hsg q34 q37 q36 q35 w, fun w => ?_⟩
        have hc := counted_v s a (a + 1) 6 0 [s[a]] r hs (by rw [hd]; rfl) rfl (by omega)
        cases hn : numb 6 0 2147483647 [s[a]] r a with
        | skip k => exact absurd hn numb_skip
        | tok t k =>
         have ht := (numb_again hn).1
         rw [hn] at hc
         subst ht
         exact slot_good s a (a + 1) hs ha rfl _ _ _ hc w
        | bad e p =>
         rw [hn] at hc
         have hp : p = a := by unfold numb at hn; split at hn <;> first | (cases hn; done) | (injection hn with _ h; exact h.symm)
         subst hp
         exact slot_bad s p (p + 1) hs ha rfl _ hc w
       ·have n35 : s[a] ≠ 35 := u8n (n := 35) q35 (by omega)
        rw [if_neg n35, if_neg n36, if_neg (by rw [hg]; decide)]
        by_cases q46 : s[a].toNat = 46
        ·have e46 : s[a] = 46 := (u8_eq (n := 46) (by omega)).2 q46
         have hin : s[a] ∈ signs := by rw [e46]; decide
         rw [if_pos hin]
         refine ⟨101, Tryz.call101, fun w => way_points s a ha hl hg hsg q34 q37 q36 q35 q46 w, fun w => ?_⟩
         have hpr := pre_two r
         by_cases h2 : r.head? = some 46
         ·rw [if_pos ⟨e46, h2⟩, ansE_tok rfl]
          rw [decide_eq_true h2] at hpr
          obtain ⟨r', rfl⟩ : ∃ r', r = 46 :: r' := by
           cases r with
           | nil => cases h2
           | cons x y => injection h2 with h2; exact ⟨y, by rw [h2]⟩
          rw [List.length_cons] at hrl
          have := points_two s a (a + 2) (by omega) hs rfl (by omega) (by rw [hd, e46]; exact hpr) w
          have hx : s.extract a (a + 2) = ⟨#[46, 46]⟩ := by
           apply ba_eq (l := [46, 46])
           rw [ext_list, hd, e46, show a + 2 - a = 2 by omega]; rfl
          rw [hx] at this
          exact this
         ·rw [if_neg (fun h => h2 h.2), ansE_tok rfl]
          rw [decide_eq_false h2] at hpr
          have := points_one s a (a + 1) (by omega) hs rfl (by omega) (by rw [hd, e46]; exact hpr) w
          rw [one_ext s a ha] at this
          exact this
        ·have n46 : s[a] ≠ 46 := u8n (n := 46) q46 (by omega)
         rw [if_neg (fun h => hsg (signs_in h n46))]
         exact ⟨102, Tryz.call102, fun w => way_none s a ha hl hg hsg q34 q37 q36 q35 q46 w, fun w => none_v s a w⟩
end Go.Proofs.YtbpichjmkllfaaaGreatDoor.Lex
