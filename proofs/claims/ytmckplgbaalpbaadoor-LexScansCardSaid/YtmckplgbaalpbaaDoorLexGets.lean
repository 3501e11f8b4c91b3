/- Digits as numbers: what Get answers of them, and so what a token with digits is. -/
import Derived.Test.YtmckplgbaalpbaaDoorLexWay
namespace Go.Proofs.YtmckplgbaalpbaaDoor.Lex
open Go.ChangeShapes Go.WideShapes Go.RowKit
set_option linter.unusedVariables false
set_option maxRecDepth 20000

theorem well_iff (D : List UInt8) : Deci.well D false ↔ ¬ (D = [] ∨ (D.head? = some 48 ∧ 1 < D.length)) := by
  unfold Deci.well
  constructor
  · rintro ⟨h1, h2⟩ (h | ⟨h3, h4⟩)
    · exact h1 h
    · have := (h2 48 h3 (by decide)).1; omega
  · intro h
    refine ⟨fun e => h (.inl e), fun c hc h48 => ⟨?_, rfl⟩⟩
    have e : c = 48 := (u8_eq (n := 48) (by omega)).2 h48
    subst e
    have : 0 < D.length := by cases D with
      | nil => cases hc
      | cons => simp
    have : ¬ 1 < D.length := fun k => h (.inr ⟨hc, k⟩)
    omega
theorem well_neg (D : List UInt8) (h : Deci.well D false) (h0 : 0 < Deci.val D) : Deci.well D true := by
  refine ⟨h.1, fun c hc h48 => ?_⟩
  exfalso
  have h1 := (h.2 c hc h48).1
  have e : c = 48 := (u8_eq (n := 48) (by omega)).2 h48
  subst e
  match D, hc, h1 with
  | [x], hc, _ =>
    simp at hc
    subst hc
    revert h0; decide
theorem vcode_ways (top : Nat) (D : List UInt8) : (¬ Deci.well D false ∧ vcode top D = 12) ∨ (Deci.well D false ∧ top < Deci.val D ∧ vcode top D = 2) ∨ (Deci.well D false ∧ Deci.val D ≤ top ∧ vcode top D = 0) := by
  unfold vcode
  by_cases h : D = [] ∨ (D.head? = some 48 ∧ 1 < D.length)
  · exact .inl ⟨fun k => (well_iff D).1 k h, by rw [if_pos h]⟩
  · rw [if_neg h]
    by_cases h2 : top < Deci.val D
    · exact .inr (.inl ⟨(well_iff D).2 h, h2, by rw [if_pos h2]⟩)
    · exact .inr (.inr ⟨(well_iff D).2 h, by omega, by rw [if_neg h2]⟩)
theorem isDig_of {c : UInt8} (h : dgt c = true) : Deci.isDig c := by
  unfold dgt at h; unfold Deci.isDig
  simp at h; exact h
theorem scn_dig (d : ByteArray) (hd : ∀ c ∈ d.data.toList, dgt c = true) : Deci.Scn d 0 false 0 d.size := by
  have hi : ∀ i (h : i < d.size), Deci.isDig d[i] := fun i h => by
    have := hd (d.data.toList[i]'(by rw [Nam.len_list]; exact h)) (List.getElem_mem _)
    rw [Nam.at_list d i h] at this
    exact isDig_of this
  exact ⟨Nat.zero_le _, (fun h => by cases h), fun _ h e => by have := hi 0 h; unfold Deci.isDig at this; omega, rfl, Nat.zero_le _, Nat.le_refl _, fun i h _ _ => hi i h, fun h => absurd h (Nat.lt_irrefl _)⟩
theorem dgs_all (d : ByteArray) : Deci.dgs d 0 d.size = d.data.toList := by
  unfold Deci.dgs; rw [ByteArray.data_extract]; simp
  exact List.take_of_length_le (Nat.le_refl _)
theorem getT_ok {n : Nat} {x y : Int} (h : ¬ y < (n : Int)) : Deci.getT n (x, y, 0) = (x, 0) := by unfold Deci.getT; exact (if_pos rfl).trans (if_neg h)
/-- Get of digits. -/
theorem get_dig (d : ByteArray) (hs : d.size ≤ 100000) (hd : ∀ c ∈ d.data.toList, dgt c = true) :
    (vcode 9223372036854775807 d.data.toList = 0 → Gets d (Deci.val d.data.toList) 0) ∧ (∀ cd, vcode 9223372036854775807 d.data.toList = cd → cd ≠ 0 → Gets d 0 cd) := by
  have hn := scn_dig d hd
  rcases vcode_ways 9223372036854775807 d.data.toList with ⟨h1, h2⟩ | ⟨h1, h2, h3⟩ | ⟨h1, h2, h3⟩
  · refine ⟨(fun h => by rw [h2] at h; cases h), fun cd hc _ w => ?_⟩
    rw [h2] at hc; subst hc
    exact Deci.get_v d false 0 d.size 0 0 12 0 12 (by omega) hn (by rw [dgs_all, Deci.scanT_bad h1]) (by unfold Deci.getT; rw [if_neg (by decide)]) w
  · refine ⟨(fun h => by rw [h3] at h; cases h), fun cd hc _ w => ?_⟩
    rw [h3] at hc; subst hc
    exact Deci.get_v d false 0 d.size 0 0 2 0 2 (by omega) hn (by rw [dgs_all, Deci.scanT_range h1 (by unfold Deci.top; simp; omega)]) (by unfold Deci.getT; rw [if_neg (by decide)]) w
  · refine ⟨fun _ w => ?_, fun cd hc h => absurd (h3 ▸ hc).symm h⟩
    exact Deci.get_v d false 0 d.size (Deci.val d.data.toList) d.size 0 _ 0 (by omega) hn (by rw [dgs_all, Deci.scanT_ok h1 (by unfold Deci.top; simp; omega)]; rfl) (getT_ok (by omega)) w
theorem cat_size (d : ByteArray) : ((⟨#[45]⟩ : ByteArray) ++ d).size = d.size + 1 := by rw [ByteArray.size_append]; show 1 + d.size = _; omega
theorem cat_zero (d : ByteArray) (h : 0 < ((⟨#[45]⟩ : ByteArray) ++ d).size) : ((⟨#[45]⟩ : ByteArray) ++ d)[0] = 45 := by
  rw [ByteArray.getElem_append_left (by decide)]; rfl
theorem cat_dgs (d : ByteArray) : Deci.dgs ((⟨#[45]⟩ : ByteArray) ++ d) 1 ((⟨#[45]⟩ : ByteArray) ++ d).size = d.data.toList := by
  unfold Deci.dgs; rw [Quo.extract_list, ByteArray.data_append]; simp
theorem scn_neg (d : ByteArray) (hd : ∀ c ∈ d.data.toList, dgt c = true) : Deci.Scn (⟨#[45]⟩ ++ d) 0 true 1 (⟨#[45]⟩ ++ d : ByteArray).size := by
  have hz := cat_size d
  have hi : ∀ i (h : i < ((⟨#[45]⟩ : ByteArray) ++ d).size), 1 ≤ i → Deci.isDig ((⟨#[45]⟩ : ByteArray) ++ d)[i] := fun i h h1 => by
    rw [ByteArray.getElem_append_right (by show 1 ≤ i; exact h1)]
    have hj : i - (⟨#[45]⟩ : ByteArray).size < d.size := by show i - 1 < d.size; omega
    have := hd (d.data.toList[i - (⟨#[45]⟩ : ByteArray).size]'(by rw [Nam.len_list]; exact hj)) (List.getElem_mem _)
    rw [Nam.at_list d _ hj] at this
    exact isDig_of this
  exact ⟨Nat.zero_le _, fun _ => ⟨by omega, by rw [cat_zero]; rfl⟩, (fun h => by cases h), rfl, by omega, Nat.le_refl _, fun i h h1 _ => hi i h h1, fun h => absurd h (Nat.lt_irrefl _)⟩
/-- Get of digits with a minus ahead, where they are too great without it. -/
theorem get_neg (d : ByteArray) (hs : d.size ≤ 100000) (hd : ∀ c ∈ d.data.toList, dgt c = true) (hv : vcode 9223372036854775807 d.data.toList = 2) :
    (Deci.val d.data.toList ≤ 9223372036854775808 → Gets (⟨#[45]⟩ ++ d) (-(Deci.val d.data.toList : Int)) 0) ∧ (9223372036854775808 < Deci.val d.data.toList → Gets (⟨#[45]⟩ ++ d) 0 2) := by
  have hn := scn_neg d hd
  have hz := cat_size d
  rcases vcode_ways 9223372036854775807 d.data.toList with ⟨h1, h2⟩ | ⟨h1, h2, h3⟩ | ⟨h1, h2, h3⟩
  · rw [h2] at hv; cases hv
  · have hw := well_neg _ h1 (by omega)
    refine ⟨fun h w => ?_, fun h w => ?_⟩
    · exact Deci.get_v _ true 1 _ (-(Deci.val d.data.toList : Int)) ((⟨#[45]⟩ ++ d : ByteArray).size : Int) 0 _ 0 (by omega) hn (by rw [cat_dgs, Deci.scanT_ok hw (by unfold Deci.top; simp; omega)]; rfl) (getT_ok (by omega)) w
    · exact Deci.get_v _ true 1 _ 0 0 2 0 2 (by omega) hn (by rw [cat_dgs, Deci.scanT_range hw (by unfold Deci.top; simp; omega)]) (by unfold Deci.getT; rw [if_neg (by decide)]) w
  · rw [h3] at hv; cases hv
/-- What is answered of what stands at a place. -/
def ansE (a : Nat) : Nx → Ending
  | .skip _ => bad 0 0
  | .tok t k => good (tkv t) (a + k)
  | .bad e p => bad e p
theorem ansE_tok {a k e : Nat} {t : Tok} (h : a + k = e) : ansE a (.tok t k) = good (tkv t) e := by subst h; rfl
theorem ext_list (s : ByteArray) (a e : Nat) : (s.extract a e).data.toList = (s.data.toList.drop a).take (e - a) := by
  rw [ByteArray.data_extract]; simp
theorem ba_eq {x : ByteArray} {l : List UInt8} (h : x.data.toList = l) : x = ⟨l.toArray⟩ := by subst h; cases x; simp
/-- The bytes of a token with digits. -/
theorem ext_pre (s : ByteArray) (a e : Nat) (pre r : List UInt8) (h : s.data.toList.drop a = pre ++ r) (he : a + pre.length + (dg r).length = e) : s.extract a e = ⟨(pre ++ dg r).toArray⟩ := by
  apply ba_eq
  rw [ext_list, h, show e - a = pre.length + (dg r).length by omega, List.take_length_add_append]
  congr 1
  unfold dg
  exact (List.prefix_iff_eq_take.1 (List.takeWhile_prefix _)).symm
theorem ext_dg (s : ByteArray) (fr e : Nat) (he : fr + (dg (s.data.toList.drop fr)).length = e) : (s.extract fr e).data.toList = dg (s.data.toList.drop fr) := by
  rw [ext_list, show e - fr = (dg (s.data.toList.drop fr)).length by omega]
  unfold dg
  exact (List.prefix_iff_eq_take.1 (List.takeWhile_prefix _)).symm
theorem drop_pre {l pre r : List UInt8} {a fr : Nat} (h : l.drop a = pre ++ r) (hf : a + pre.length = fr) : l.drop fr = r := by
  rw [← hf, ← List.drop_drop, h, List.drop_left]
theorem ext_size (s : ByteArray) (a e : Nat) (h : e ≤ s.size) : (s.extract a e).size = e - a := by rw [ByteArray.size_extract]; omega
/-- counted: what has a number up to 2147483647. -/
theorem counted_v (s : ByteArray) (a fr kind cls : Nat) (pre r : List UInt8) (hs : s.size ≤ 100000) (h : s.data.toList.drop a = pre ++ r) (hf : a + pre.length = fr) (hfs : fr ≤ s.size) (w : World) :
    Calls Tryd.prog 53 #[sp s a, tk (kind : Int) ⟨#[]⟩ 0 (cls : Int) 0, .int .i64 (fr : Int)] w fun e1 w' => e1 = ansE a (numb kind cls 2147483647 pre r a) ∧ Below w.heap.size w w' := by
  have hd := drop_pre h hf
  obtain ⟨e, he⟩ : ∃ e, fr + (dg r).length = e := ⟨_, rfl⟩
  have he' : fr + (dg (s.data.toList.drop fr)).length = e := by rw [hd]; exact he
  have hes : e ≤ s.size := by
    have h1 := dg_len (s.data.toList.drop fr)
    rw [List.length_drop, Nam.len_list] at h1; omega
  have hD := ext_dg s fr e he'
  have hz := ext_size s fr e hes
  obtain ⟨g1, g2⟩ := get_dig (s.extract fr e) (by omega) (by rw [hD]; exact dg_all _)
  rw [hD, hd] at g1 g2
  unfold numb
  rcases vcode_ways 9223372036854775807 (dg r) with ⟨h1, h2⟩ | ⟨h1, h2, h3⟩ | ⟨h1, h2, h3⟩
  · rcases vcode_ways 2147483647 (dg r) with ⟨k1, k2⟩ | ⟨k1, k2, k3⟩ | ⟨k1, k2, k3⟩
    · rw [k2, if_neg (by decide)]
      exact counted_code s a fr e kind cls 0 12 hs (by omega) hfs he' hes (g2 12 h2 (by decide)) (by decide) w
    · exact absurd k1 h1
    · exact absurd k1 h1
  · rcases vcode_ways 2147483647 (dg r) with ⟨k1, k2⟩ | ⟨k1, k2, k3⟩ | ⟨k1, k2, k3⟩
    · exact absurd h1 k1
    · rw [k3, if_neg (by decide)]
      exact counted_code s a fr e kind cls 0 2 hs (by omega) hfs he' hes (g2 2 h3 (by decide)) (by decide) w
    · omega
  · rcases vcode_ways 2147483647 (dg r) with ⟨k1, k2⟩ | ⟨k1, k2, k3⟩ | ⟨k1, k2, k3⟩
    · exact absurd h1 k1
    · rw [k3, if_neg (by decide)]
      exact counted_great s a fr e kind cls _ 0 hs (by omega) hfs he' hes (g1 h3) rfl (by omega) w
    · rw [if_pos k3]
      have hx := ext_pre s a e pre r h (by omega)
      have := counted_right s a fr e kind cls _ 0 hs (by omega) hfs he' hes (g1 h3) rfl (by omega) w
      rw [hx] at this
      have hw : wrapN (Deci.val (dg r)) = (Deci.val (dg r) : Int) := by unfold wrapN; rw [if_pos (by omega)]
      rw [hw, ansE_tok (show a + (pre.length + (dg r).length) = e by omega)]
      exact this
/-- number: a number up to 2^63. -/
theorem number_v (s : ByteArray) (a : Nat) (hs : s.size ≤ 100000) (ha : a ≤ s.size) (w : World) :
    Calls Tryd.prog 30 #[sp s a] w fun e1 w' => e1 = ansE a (numb 2 0 9223372036854775808 [] (s.data.toList.drop a) a) ∧ Below w.heap.size w w' := by
  obtain ⟨r, hr⟩ : ∃ r, s.data.toList.drop a = r := ⟨_, rfl⟩
  obtain ⟨e, he⟩ : ∃ e, a + (dg r).length = e := ⟨_, rfl⟩
  have he' : a + (dg (s.data.toList.drop a)).length = e := by rw [hr]; exact he
  have hes : e ≤ s.size := by
    have h1 := dg_len (s.data.toList.drop a)
    rw [List.length_drop, Nam.len_list] at h1; omega
  have hD := ext_dg s a e he'
  have hz := ext_size s a e hes
  obtain ⟨g1, g2⟩ := get_dig (s.extract a e) (by omega) (by rw [hD]; exact dg_all _)
  have g3 := get_neg (s.extract a e) (by omega) (by rw [hD]; exact dg_all _)
  rw [hD, hr] at g1 g2 g3
  rw [hr]
  unfold numb
  have hx := ext_pre s a e [] r hr (by simpa using he)
  rcases vcode_ways 9223372036854775807 (dg r) with ⟨h1, h2⟩ | ⟨h1, h2, h3⟩ | ⟨h1, h2, h3⟩
  · rcases vcode_ways 9223372036854775808 (dg r) with ⟨k1, k2⟩ | ⟨k1, k2, k3⟩ | ⟨k1, k2, k3⟩
    · rw [k2, if_neg (by decide)]
      exact number_code s a e 0 12 hs ha he' hes (g2 12 h2 (by decide)) (by decide) (by decide) w
    · exact absurd k1 h1
    · exact absurd k1 h1
  · rcases vcode_ways 9223372036854775808 (dg r) with ⟨k1, k2⟩ | ⟨k1, k2, k3⟩ | ⟨k1, k2, k3⟩
    · exact absurd h1 k1
    · rw [k3, if_neg (by decide)]
      exact number_great s a e 0 2 hs ha he' hes (g2 2 h3 (by decide)) rfl 0 2 (by decide) ((g3 h3).2 k2) w
    · rw [if_pos k3]
      have := number_least s a e 0 2 hs ha he' hes (g2 2 h3 (by decide)) rfl _ ((g3 h3).1 k2) w
      rw [hx] at this
      have hw : wrapN (Deci.val (dg r)) = -(Deci.val (dg r) : Int) := by unfold wrapN; rw [if_neg (by omega)]; omega
      rw [hw, ansE_tok (show a + (([] : List UInt8).length + (dg r).length) = e by simpa using he)]
      exact this
  · rcases vcode_ways 9223372036854775808 (dg r) with ⟨k1, k2⟩ | ⟨k1, k2, k3⟩ | ⟨k1, k2, k3⟩
    · exact absurd h1 k1
    · omega
    · rw [if_pos k3]
      have := number_right s a e _ 0 hs ha he' hes (g1 h3) rfl w
      rw [hx] at this
      have hw : wrapN (Deci.val (dg r)) = (Deci.val (dg r) : Int) := by unfold wrapN; rw [if_pos (by omega)]
      rw [hw, ansE_tok (show a + (([] : List UInt8).length + (dg r).length) = e by simpa using he)]
      exact this
end Go.Proofs.YtmckplgbaalpbaaDoor.Lex
