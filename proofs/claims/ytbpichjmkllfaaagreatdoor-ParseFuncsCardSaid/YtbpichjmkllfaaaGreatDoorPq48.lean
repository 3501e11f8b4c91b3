/- Packed texts of one proof. Conditions: none. -/
import Derived.Test.YtbpichjmkllfaaaGreatDoorPq46
import Derived.Test.YtbpichjmkllfaaaGreatDoorPq47
namespace Go.Proofs.YtbpichjmkllfaaaGreatDoor.Lex
open Go.ChangeShapes Go.WideShapes Go.RowKit
set_option linter.unusedVariables false
set_option maxRecDepth 20000
def OneP : Nx → Ending → Prop
 | .skip _, _ => False
 | .tok t k, e => e = oneGood (tkv t) k
 | .bad c _, e => OneBad c e
def OneAt (s : ByteArray) (a : Nat) (w : World) (Q : Ending → Prop) : Prop := Calls Tryz.prog 44 #[.string s, .int .i64 (a : Int)] w fun e w' => Q e ∧ Below w.heap.size w w'
theorem numb_ways (s : ByteArray) (a fr kind cls : Nat) (pre r : List UInt8) (hs : s.size ≤ 100000) (h : s.data.toList.drop a = pre ++ r) (hf : a + pre.length = fr) (hfs : fr ≤ s.size) (w : World)
  (hcode : ∀ (n N e u : Nat) (cd : Int), (dg (s.data.toList.drop fr)).length = n → pre.length + n = N → a + N = e → e ≤ s.size → Vals (s.extract fr e) u cd → ¬ cd = 0 → OneAt s a w (OneBad cd))
  (hgreat : ∀ (n N e u : Nat) (cd : Int), (dg (s.data.toList.drop fr)).length = n → pre.length + n = N → a + N = e → e ≤ s.size → Vals (s.extract fr e) u cd → cd = 0 → 2147483647 < u → u ≤ 9223372036854775808 → OneAt s a w (OneBad 2))
  (hfine : ∀ (n N e u : Nat) (cd : Int), (dg (s.data.toList.drop fr)).length = n → pre.length + n = N → a + N = e → e ≤ s.size → Vals (s.extract fr e) u cd → cd = 0 → u ≤ 2147483647 → OneAt s a w (fun e1 => e1 = oneGood (tk kind (s.extract a e) u cls a) N)) :
  OneAt s a w (OneP (numb kind cls 2147483647 pre r a)) := by
 have hd := drop_pre h hf
 obtain ⟨n, hn⟩ : ∃ n, (dg r).length = n := ⟨_, rfl⟩
 have hn' : (dg (s.data.toList.drop fr)).length = n := by rw [hd]; exact hn
 obtain ⟨N, hN⟩ : ∃ N, pre.length + n = N := ⟨_, rfl⟩
 obtain ⟨e, he⟩ : ∃ e, a + N = e := ⟨_, rfl⟩
 have hes : e ≤ s.size := by
  have h1 := dg_len (s.data.toList.drop fr)
  rw [List.length_drop, Nam.len_list] at h1; omega
 have hD := ext_dg s fr e (by omega)
 have hz := ext_size s fr e hes
 obtain ⟨g1, g2⟩ := value_v (s.extract fr e) (by omega) (by rw [hD]; exact dg_all _)
 rw [hD, hd] at g1 g2
 unfold numb
 rcases vcode_ways 9223372036854775808 (dg r) with ⟨h1, h2⟩ | ⟨h1, h2, h3⟩ | ⟨h1, h2, h3⟩
 ·rcases vcode_ways 2147483647 (dg r) with ⟨k1, k2⟩ | ⟨k1, k2, k3⟩ | ⟨k1, k2, k3⟩
  ·rw [k2, if_neg (by decide)]
   exact hcode n N e 0 12 hn' hN he hes (g2 12 h2 (by decide)) (by decide)
  ·exact absurd k1 h1
  ·exact absurd k1 h1
 ·rcases vcode_ways 2147483647 (dg r) with ⟨k1, k2⟩ | ⟨k1, k2, k3⟩ | ⟨k1, k2, k3⟩
  ·exact absurd h1 k1
  ·rw [k3, if_neg (by decide)]
   exact hcode n N e 0 2 hn' hN he hes (g2 2 h3 (by decide)) (by decide)
  ·omega
 ·rcases vcode_ways 2147483647 (dg r) with ⟨k1, k2⟩ | ⟨k1, k2, k3⟩ | ⟨k1, k2, k3⟩
  ·exact absurd h1 k1
  ·rw [k3, if_neg (by decide)]
   exact hgreat n N e _ 0 hn' hN he hes (g1 h3) rfl k2 h2
  ·rw [if_pos k3]
   have hx := ext_pre s a e pre r h (by omega)
   have := hfine n N e _ 0 hn' hN he hes (g1 h3) rfl k2
   rw [hx] at this
   have hw : wrapN (Deci.val (dg r)) = (Deci.val (dg r) : Int) := by unfold wrapN; rw [if_pos (by omega)]
   rw [hw, hn, hN]
   exact this
theorem numb_num (s : ByteArray) (a : Nat) (hs : s.size ≤ 100000) (ha : a < s.size) (hl : Nam.letter s[a] = false) (hg : dgt s[a] = true) (w : World) : OneAt s a w (OneP (numb 2 0 9223372036854775808 [] (s.data.toList.drop a) a)) := by
 obtain ⟨r, hr⟩ : ∃ r, s.data.toList.drop a = r := ⟨_, rfl⟩
 obtain ⟨n, hn⟩ : ∃ n, (dg r).length = n := ⟨_, rfl⟩
 have hn' : (dg (s.data.toList.drop a)).length = n := by rw [hr]; exact hn
 obtain ⟨e, he⟩ : ∃ e, a + n = e := ⟨_, rfl⟩
 have hes : e ≤ s.size := by
  have h1 := dg_len (s.data.toList.drop a)
  rw [List.length_drop, Nam.len_list] at h1; omega
 have hD := ext_dg s a e (by omega)
 have hz := ext_size s a e hes
 have hdd := isDig_of hg
 obtain ⟨g1, g2⟩ := value_v (s.extract a e) (by omega) (by rw [hD]; exact dg_all _)
 rw [hD, hr] at g1 g2
 rw [hr]
 unfold numb
 have hx := ext_pre s a e [] r hr (by simpa [hn] using he)
 rcases vcode_ways 9223372036854775808 (dg r) with ⟨h1, h2⟩ | ⟨h1, h2, h3⟩ | ⟨h1, h2, h3⟩
 ·rw [h2, if_neg (by decide)]
  exact one_num_code s a hs ha hl a n n e 0 12 rfl (by omega) hn' (by omega) he hes (g2 12 h2 (by decide)) hdd.1 hdd.2 (by decide) w
 ·rw [h3, if_neg (by decide)]
  exact one_num_code s a hs ha hl a n n e 0 2 rfl (by omega) hn' (by omega) he hes (g2 2 h3 (by decide)) hdd.1 hdd.2 (by decide) w
 ·rw [if_pos h3, hn]
  by_cases hu : Deci.val (dg r) ≤ 9223372036854775807
  ·have := one_num_fine s a hs ha hl a n n e _ 0 rfl (by omega) hn' (by omega) he hes (g1 h3) hdd.1 hdd.2 rfl hu w
   rw [hx] at this
   have hw : wrapN (Deci.val (dg r)) = (Deci.val (dg r) : Int) := by unfold wrapN; rw [if_pos (by omega)]
   rw [hw, show ([] : List UInt8).length + n = n by simp]
   exact this
  ·have := one_num_least s a hs ha hl a n n e _ 0 rfl (by omega) hn' (by omega) he hes (g1 h3) hdd.1 hdd.2 rfl (by omega) w
   rw [hx] at this
   have hw : wrapN (Deci.val (dg r)) = -9223372036854775808 := by unfold wrapN; rw [if_neg (by omega)]; omega
   rw [hw, show ([] : List UInt8).length + n = n by simp]
   exact this
theorem one_v (s : ByteArray) (a : Nat) (hs : s.size ≤ 100000) (ha : a < s.size) (w : World) : OneAt s a w (OneP (plain s[a] (s.data.toList.drop (a + 1)) a)) := by
 have hd := Quo.drop_cons s a ha
 obtain ⟨r, hr⟩ : ∃ r, s.data.toList.drop (a + 1) = r := ⟨_, rfl⟩
 rw [hr] at hd ⊢
 have hlen : (s.data.toList.drop a).length = s.size - a := by rw [List.length_drop, Nam.len_list]
 have hrl : r.length + 1 = s.size - a := by rw [← hlen, hd]; rfl
 unfold plain
 cases hl : Nam.letter s[a] with
 | true =>
  rw [if_pos rfl]
  have hsc : Nam.scanZ s.data.toList (a : Int) = ((a + Nam.run (s[a] :: r) : Nat) : Int) := by
   unfold Nam.scanZ
   rw [if_neg (by omega), show ((a : Int)).toNat = a by omega, Nam.scan_name _ a (by rw [Nam.len_list]; exact ha) (by rw [Nam.at_list s a ha]; exact hl), hd]
  have hrun : Nam.run (s[a] :: r) ≤ s.size - a := by have := Nam.run_le (s[a] :: r); rw [List.length_cons] at this; omega
  have hpos := Nam.run_pos (r := r) (Nam.letter_sign hl)
  by_cases h24 : 24 < Nam.run (s[a] :: r)
  ·rw [if_pos h24]
   exact one_word_long s a hs ha _ (by omega) hsc (by omega) w
  ·rw [if_neg h24]
   have := one_word s a hs ha _ _ (by omega) hsc (by omega) (by omega) rfl w
   have hx : s.extract a (a + Nam.run (s[a] :: r)) = ⟨((s[a] :: r).takeWhile Nam.sign).toArray⟩ := by
    apply ba_eq
    rw [ext_list, hd, show a + Nam.run (s[a] :: r) - a = Nam.run (s[a] :: r) by omega]
    exact (List.prefix_iff_eq_take.1 (List.takeWhile_prefix _)).symm
   rw [hx] at this
   exact this
 | false =>
  rw [if_neg (by decide)]
  by_cases q37 : s[a].toNat = 37
  ·have e37 : s[a] = 37 := (u8_eq (n := 37) (by omega)).2 q37
   rw [if_pos e37]
   exact numb_ways s a (a + 1) 4 0 [s[a]] r hs (by rw [hd]; rfl) rfl (by omega) w
    (fun n N e u cd h1 h2 h3 h4 h5 h6 => one_pct_code s a hs ha hl _ n N e u cd rfl (by omega) h1 h2 h3 h4 h5 q37 h6 w)
    (fun n N e u cd h1 h2 h3 h4 h5 h6 h7 h8 => one_pct_great s a hs ha hl _ n N e u cd rfl (by omega) h1 h2 h3 h4 h5 q37 h6 h7 h8 w)
    (fun n N e u cd h1 h2 h3 h4 h5 h6 h7 => one_pct_fine s a hs ha hl _ n N e u cd rfl (by omega) h1 h2 h3 h4 h5 q37 h6 h7 w)
  ·have n37 : s[a] ≠ 37 := u8n (n := 37) q37 (by omega)
   rw [if_neg n37]
   by_cases q35 : s[a].toNat = 35
   ·have e35 : s[a] = 35 := (u8_eq (n := 35) (by omega)).2 q35
    rw [if_pos e35]
    exact numb_ways s a (a + 1) 6 0 [s[a]] r hs (by rw [hd]; rfl) rfl (by omega) w
     (fun n N e u cd h1 h2 h3 h4 h5 h6 => one_hash_code s a hs ha hl _ n N e u cd rfl (by omega) h1 h2 h3 h4 h5 q35 h6 w)
     (fun n N e u cd h1 h2 h3 h4 h5 h6 h7 h8 => one_hash_great s a hs ha hl _ n N e u cd rfl (by omega) h1 h2 h3 h4 h5 q35 h6 h7 h8 w)
     (fun n N e u cd h1 h2 h3 h4 h5 h6 h7 => one_hash_fine s a hs ha hl _ n N e u cd rfl (by omega) h1 h2 h3 h4 h5 q35 h6 h7 w)
   ·have n35 : s[a] ≠ 35 := u8n (n := 35) q35 (by omega)
    rw [if_neg n35]
    by_cases q36 : s[a].toNat = 36
    ·have e36 : s[a] = 36 := (u8_eq (n := 36) (by omega)).2 q36
     rw [if_pos e36]
     cases r with
     | nil => exact one_dol_end s a hs ha hl q36 (by simp at hrl; omega) w
     | cons d r' =>
      have hlen2 : a + 2 ≤ s.size := by rw [List.length_cons] at hrl; omega
      have hps : a + 1 < s.size := by omega
      have hda : s[a + 1] = d := by
       have := Quo.drop_cons s (a + 1) hps
       rw [hr] at this
       injection this with h1 _
       exact h1.symm
      show OneAt s a w (OneP (if d = 103 then _ else if d = 120 then _ else _))
      by_cases q103 : d.toNat = 103
      ·have e103 : d = 103 := (u8_eq (n := 103) (by omega)).2 q103
       rw [if_pos e103]
       exact numb_ways s a (a + 2) 5 0 [s[a], d] r' hs (by rw [hd]; rfl) rfl hlen2 w
        (fun n N e u cd h1 h2 h3 h4 h5 h6 => one_dolg_code s a hs ha hl _ n N e u cd rfl hlen2 h1 h2 h3 h4 h5 q36 (a + 1) rfl hps (by rw [hda]; exact q103) h6 w)
        (fun n N e u cd h1 h2 h3 h4 h5 h6 h7 h8 => one_dolg_great s a hs ha hl _ n N e u cd rfl hlen2 h1 h2 h3 h4 h5 q36 (a + 1) rfl hps (by rw [hda]; exact q103) h6 h7 h8 w)
        (fun n N e u cd h1 h2 h3 h4 h5 h6 h7 => one_dolg_fine s a hs ha hl _ n N e u cd rfl hlen2 h1 h2 h3 h4 h5 q36 (a + 1) rfl hps (by rw [hda]; exact q103) h6 h7 w)
      ·have n103 : d ≠ 103 := u8n (n := 103) q103 (by omega)
       rw [if_neg n103]
       by_cases q120 : d.toNat = 120
       ·have e120 : d = 120 := (u8_eq (n := 120) (by omega)).2 q120
        rw [if_pos e120]
        exact numb_ways s a (a + 2) 5 1 [s[a], d] r' hs (by rw [hd]; rfl) rfl hlen2 w
         (fun n N e u cd h1 h2 h3 h4 h5 h6 => one_dolx_code s a hs ha hl _ n N e u cd rfl hlen2 h1 h2 h3 h4 h5 q36 (a + 1) rfl hps (by rw [hda]; exact q120) h6 w)
         (fun n N e u cd h1 h2 h3 h4 h5 h6 h7 h8 => one_dolx_great s a hs ha hl _ n N e u cd rfl hlen2 h1 h2 h3 h4 h5 q36 (a + 1) rfl hps (by rw [hda]; exact q120) h6 h7 h8 w)
         (fun n N e u cd h1 h2 h3 h4 h5 h6 h7 => one_dolx_fine s a hs ha hl _ n N e u cd rfl hlen2 h1 h2 h3 h4 h5 q36 (a + 1) rfl hps (by rw [hda]; exact q120) h6 h7 w)
       ·have n120 : d ≠ 120 := u8n (n := 120) q120 (by omega)
        rw [if_neg n120]
        exact one_dol_bad s a hs ha hl q36 (a + 1) rfl hps (by rw [hda]; exact q103) (by rw [hda]; exact q120) w
    ·have n36 : s[a] ≠ 36 := u8n (n := 36) q36 (by omega)
     rw [if_neg n36]
     cases hg : dgt s[a] with
     | true =>
      rw [if_pos rfl, ← hd]
      exact numb_num s a hs ha hl hg w
     | false =>
      rw [if_neg (by decide)]
      have conv : ∀ (k : Nat) (t : Tok), (s[a] ∈ signs → tk 7 (s.extract a (a + k)) 0 0 a = tkv t) → OneAt s a w (SignP s a k s[a]) → OneAt s a w (OneP (if s[a] ∈ signs then .tok t k else .bad 10 a)) := by
       intro k t ht h
       refine h.mono ?_
       rintro e w' ⟨h1, h2⟩
       refine ⟨?_, h2⟩
       rcases h1 with ⟨hi, rfl⟩ | ⟨hi, hb⟩
       ·rw [if_pos hi]; show _ = oneGood (tkv t) k; rw [ht hi]
       ·rw [if_neg hi]; exact hb
      by_cases q46 : s[a].toNat = 46
      ·have e46 : s[a] = 46 := (u8_eq (n := 46) (by omega)).2 q46
       by_cases h2 : r.head? = some 46
       ·obtain ⟨r', rfl⟩ : ∃ r', r = 46 :: r' := by
         cases r with
         | nil => cases h2
         | cons x y => injection h2 with h2; exact ⟨y, by rw [h2]⟩
        have hps : a + 1 < s.size := by rw [List.length_cons] at hrl; omega
        have hda : s[a + 1] = 46 := by
         have := Quo.drop_cons s (a + 1) hps
         rw [hr] at this
         injection this with h1 _
         exact h1.symm
        rw [if_pos (show s[a] = 46 ∧ _ from ⟨e46, h2⟩)]
        refine conv 2 _ (fun _ => ?_) (sign_ptwo s a hs ha hl hg q37 q35 q36 q46 (a + 1) rfl hps (by rw [hda]; rfl) w)
        have hx : s.extract a (a + 2) = ⟨#[46, 46]⟩ := by
         apply ba_eq (l := [46, 46])
         rw [ext_list, hd, e46, show a + 2 - a = 2 by omega]; rfl
        rw [hx]; rfl
       ·rw [if_neg (show ¬ (s[a] = 46 ∧ r.head? = some 46) from fun h => h2 h.2)]
        refine conv 1 _ (fun _ => by rw [one_ext s a ha]; rfl) ?_
        by_cases hps : a + 1 < s.size
        ·refine sign_pone s a hs ha hl hg q37 q35 q36 q46 (a + 1) rfl hps (fun k => h2 ?_) w
         have := Quo.drop_cons s (a + 1) hps
         rw [hr] at this
         rw [this, (u8_eq (n := 46) (by omega)).2 k]; rfl
        ·exact sign_pend s a hs ha hl hg q37 q35 q36 q46 (by omega) w
      ·have n46 : s[a] ≠ 46 := u8n (n := 46) q46 (by omega)
       rw [if_neg (show ¬ (s[a] = 46 ∧ r.head? = some 46) from fun h => n46 h.1)]
       exact conv 1 _ (fun _ => by rw [one_ext s a ha]; rfl) (sign_one s a hs ha hl hg q37 q35 q36 q46 w)
def st (d : Nat) : Nat → Nat × Nat
 | 0 => (92, 0)
 | 1 => if d = 110 then (10, 2) else (92, 0)
 | 2 => if d = 110 then (10, 2) else if d = 116 then (9, 2) else (92, 0)
 | 3 => if d = 110 then (10, 2) else if d = 116 then (9, 2) else if d = 34 then (34, 2) else (92, 0)
 | _ => if d = 110 then (10, 2) else if d = 116 then (9, 2) else if d = 34 then (34, 2) else if d = 92 then (92, 2) else (92, 0)
def ka (k : Nat) : Nat := [110, 116, 34, 92].getD k 0
def kb (k : Nat) : Nat := [10, 9, 34, 92].getD k 0
theorem kaI : ∀ k : Nat, (hk : k < 4) → ((⟨#[110, 116, 34, 92]⟩ : ByteArray)[k]).toNat = ka k := by decide +kernel
theorem kbI : ∀ k : Nat, (hk : k < 4) → ((⟨#[10, 9, 34, 92]⟩ : ByteArray)[k]).toNat = kb k := by decide +kernel
theorem ka_run (k : Nat) (hk : k < 4) (W : World) : (Instr.index 9 (.string ⟨#[110, 116, 34, 92]⟩) (.int .i64 (k : Int))).run Tryz.prog W = .ok (.int .u8 (ka k : Int)) W := by
 rw [← kaI k hk]; exact str_run ⟨#[110, 116, 34, 92]⟩ k hk W
theorem kb_run (k : Nat) (hk : k < 4) (W : World) : (Instr.index 9 (.string ⟨#[10, 9, 34, 92]⟩) (.int .i64 (k : Int))).run Tryz.prog W = .ok (.int .u8 (kb k : Int)) W := by
 rw [← kbI k hk]; exact str_run ⟨#[10, 9, 34, 92]⟩ k hk W
theorem st_next (d k : Nat) (hk : k < 4) : st d (k + 1) = if d = ka k then (kb k, 2) else st d k := by
 have ways : k = 0 ∨ k = 1 ∨ k = 2 ∨ k = 3 := by omega
 rcases ways with rfl | rfl | rfl | rfl
 ·rfl
 ·show (if d = 110 then (10, 2) else if d = 116 then (9, 2) else (92, 0)) = if d = 116 then (9, 2) else (if d = 110 then (10, 2) else (92, 0))
  by_cases h1 : d = 110 <;> by_cases h2 : d = 116 <;> simp [h1, h2] <;> omega
 ·show (if d = 110 then (10, 2) else if d = 116 then (9, 2) else if d = 34 then (34, 2) else (92, 0)) = if d = 34 then (34, 2) else (if d = 110 then (10, 2) else if d = 116 then (9, 2) else (92, 0))
  by_cases h1 : d = 110 <;> by_cases h2 : d = 116 <;> by_cases h3 : d = 34 <;> simp [h1, h2, h3] <;> omega
 ·show (if d = 110 then (10, 2) else if d = 116 then (9, 2) else if d = 34 then (34, 2) else if d = 92 then (92, 2) else (92, 0)) = if d = 92 then (92, 2) else (if d = 110 then (10, 2) else if d = 116 then (9, 2) else if d = 34 then (34, 2) else (92, 0))
  by_cases h1 : d = 110 <;> by_cases h2 : d = 116 <;> by_cases h3 : d = 34 <;> by_cases h4 : d = 92 <;> simp [h1, h2, h3, h4] <;> omega
theorem st_esc (d : UInt8) (r : List UInt8) (hx : d.toNat ≠ 120) : Quo.esc (d :: r) = (if (st d.toNat 4).2 = 0 then (0, 0) else (UInt8.ofNat (st d.toNat 4).1, (st d.toNat 4).2)) := by
 show (if d = 34 ∨ d = 92 then (d, 2) else if d = 110 then (10, 2) else if d = 116 then (9, 2) else if d = 120 then Quo.two r else (0, 0)) = _
 have n120 : d ≠ 120 := u8n (n := 120) hx (by omega)
 rw [if_neg n120]
 clear hx n120
 revert d
 refine Quo.all_bytes _ ?_
 decide +kernel
end Go.Proofs.YtbpichjmkllfaaaGreatDoor.Lex
