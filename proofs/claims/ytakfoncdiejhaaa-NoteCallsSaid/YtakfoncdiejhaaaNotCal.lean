
/- The document's own text of a call; how a call comes in; the statement on calls. -/
import Derived.Test.YtakfoncdiejhaaaNotWorks
import Derived.OpenShut
import Derived.Deep.Slices
import Derived.Deep.RegionHeld3
namespace Go.Proofs.Ytakfoncdiejhaaa
open Go.ChangeShapes Go.WideShapes Go.RowKit
set_option linter.unusedVariables false
set_option maxRecDepth 20000

/-- A text as a value. -/
def tx (l : List UInt8) : ByteArray := ⟨l.toArray⟩
theorem tx_size (l : List UInt8) : (tx l).size = l.length := Tg.size_text l
theorem tx_data (s : ByteArray) : tx s.data.toList = s := by unfold tx; simp
theorem data_tx (l : List UInt8) : (tx l).data.toList = l := by unfold tx; simp
theorem add_tx (a b c : List UInt8) (h : a ++ b = c) (hl : c.length ≤ big) (W : World) : (Op.stringOp .add (tx a) (tx b)).run Try.prog W = .ok (.string (tx c)) W :=
  Tg.add_run (tx a) (tx b) (tx c) (by rw [tx_size, tx_size, ← List.length_append, h]; unfold big at hl; omega) (by unfold tx; rw [Tg.cat_text, h]) W
def SaysT (t : List UInt8) (W : World) (e : Ending) (w' : World) : Prop := e = .returned (.string (tx t)) ∧ Below W.heap.size W w'
theorem rput_t (n : Int) (t : List UInt8) (ht : Deci.txt n = t) (hf : Deci.fit n) (W : World) : Calls Try.prog 12 #[.int .i64 n] W (SaysT t W) := Deci.refput_v n t ht hf W
set_option maxHeartbeats 2000000 in
theorem rcall_v (nl : List UInt8) (A : Option Addr) (n c : Nat) (args : List Int) (t : List UInt8) (W : World) (hl : IsInts W A n args) (hf : ∀ x ∈ args, Deci.fit x) (ht : calT (tx nl) args = t) (hlen : t.length ≤ big) :
    Calls Try.prog 6 #[.agg #[.string (tx nl), .slice A n c]] W (SaysT t W) := by
  have BA : Below W.heap.size W (W.alloc (.cells #[.string (tx nl), .slice A n c] 24)) := (Below.refl _ W).alloc (Nat.le_refl _) _
  have hal := heap_alloc_new W (.cells #[.string (tx nl), .slice A n c] 24)
  obtain ⟨L, hL⟩ : ∃ L, args.map Deci.txt = L := ⟨_, rfl⟩
  obtain ⟨T1, hT1⟩ : ∃ T, nl ++ [40] = T := ⟨_, rfl⟩
  have t2 : (T1 ++ rowT L) ++ [41] = t := by rw [← ht, ← hT1, ← hL]; unfold calT; rw [data_tx]; simp
  have l2 := congrArg List.length t2
  simp only [List.length_append] at l2
  have hn := hl.2.1
  have hLn : L.length = n := by rw [← hL, List.length_map]; exact hl.1
  have hLx : ∀ (k : Nat) (x : Int), args[k]? = some x → L[k]? = some (Deci.txt x) := fun k x hx => by rw [← hL, List.getElem?_map, hx]; rfl
  have hTl : ∀ k, (T1 ++ rowT (L.take k)).length ≤ big := fun k => by
    have h1 := rowT_le L k
    rw [List.length_append]
    omega
  have e1 : ∀ W : World, (Op.stringOp .add (tx nl) ⟨#[40]⟩).run Try.prog W = .ok (.string (tx T1)) W := add_tx nl [40] T1 hT1 (by omega)
  have HP := Lib.hid (And.intro (hl.below BA) (And.intro hf (And.intro hLn (And.intro hLx (And.intro hTl (And.intro t2 hlen))))))
  clear hl hf ht hlen hL hLn hLx hTl hT1 t2 l2
  obtain ⟨wa, hwa⟩ : ∃ wa, W.alloc (.cells #[.string (tx nl), .slice A n c] 24) = wa := ⟨_, rfl⟩
  rw [hwa] at BA hal HP
  have HA := Lib.hid (And.intro BA hal)
  clear BA hal
  obtain ⟨k0, k1⟩ := Nt.two_in HA.out.2
  have hcells := Lib.hid (show ∀ w', Below wa.heap.size wa w' → w'.cell? ⟨W.heap.size, 0, none⟩ = some (.string (tx nl)) ∧ w'.cell? ⟨W.heap.size, 1, none⟩ = some (.slice A n c) from fun w' hb => Nt.two_in (kept_box HA.out.2 hb))
  go_enter Try.func6, Try.ntmps6
  go_wp2_with fail
  clear hwa k0 k1 e1
  go_loopg [3, 4] n (fun gk u1 u2 wr => ∃ (k : Nat) (T : List UInt8), k + gk = n ∧ u1 = .string (tx T) ∧ u2 = .int .i64 (k : Int) ∧ Hid (T1 ++ rowT (L.take k) = T ∧ Below wa.heap.size wa wr))
  case atStart => exact ⟨0, T1, by omega, rfl, rfl, by simp [rowT], Below.refl _ _⟩
  case round =>
    obtain ⟨k, T, hk, rfl, rfl, HH⟩ := hrel
    obtain ⟨k0, k1⟩ := hcells.out wr HH.out.2
    by_cases hlt : k < n
    · obtain ⟨bk, o, hA, hb, x, hx, c0⟩ := (HP.out.1.below HH.out.2).at hlt
      subst hA
      have i1 : (k : Int) < (n : Int) := by omega
      have hnext := rowT_take L k (Deci.txt x) (HP.out.2.2.2.1 k x hx)
      have hxf := HP.out.2.1 x (List.mem_of_getElem? hx)
      have hmax := HP.out.2.2.2.2.1 (k + 1)
      obtain ⟨T2, hT2⟩ : ∃ T2, T1 ++ rowT (L.take (k + 1)) = T2 := ⟨_, rfl⟩
      obtain ⟨d, hd⟩ : ∃ d, Deci.txt x = d := ⟨_, rfl⟩
      rw [hT2] at hmax
      have hn2 : T ++ (sepT k ++ d) = T2 := by rw [← HH.out.1, ← hT2, hnext, ← hd]; simp
      have H2 := Lib.hid (And.intro hT2 (And.intro hd hxf))
      clear hx hT2 hd hxf hnext hb
      by_cases hk0 : k = 0
      · have i2 : ¬ (k : Int) > 0 := by omega
        have e2 : ∀ W : World, (Op.stringOp .add (tx T) (tx d)).run Try.prog W = .ok (.string (tx T2)) W := add_tx T d T2 (by rw [← hn2, hk0]; simp [sepT]) hmax
        clear hmax hk0 hn2
        go_wp2_with fail
        refine (rput_t x d H2.out.2.1 H2.out.2.2 _).mono ?_
        rintro e w3 ⟨rfl, hb⟩
        have B3 := Lib.hid (HH.out.2.trans (hb.mono HH.out.2.size))
        clear hb c0
        go_wp2_with fail
        go_roundg (gk - 1)
        case measure => omega
        case rel => exact ⟨k + 1, T2, by omega, rfl, by go_num, H2.out.1, B3.out⟩
      · have i2 : (k : Int) > 0 := by omega
        obtain ⟨Tm, hTm⟩ : ∃ Tm, T ++ [44, 32] = Tm := ⟨_, rfl⟩
        have hTx : Tm ++ d = T2 := by rw [← hTm, ← hn2]; unfold sepT; rw [if_neg hk0]; simp
        have m1 : Tm.length ≤ big := by rw [← hTx, List.length_append] at hmax; omega
        have e1 : ∀ W : World, (Op.stringOp .add (tx T) ⟨#[44, 32]⟩).run Try.prog W = .ok (.string (tx Tm)) W := add_tx T [44, 32] Tm hTm m1
        have e2 : ∀ W : World, (Op.stringOp .add (tx Tm) (tx d)).run Try.prog W = .ok (.string (tx T2)) W := add_tx Tm d T2 hTx hmax
        clear hmax hTm hTx m1 hn2
        go_wp2_with fail
        refine (rput_t x d H2.out.2.1 H2.out.2.2 _).mono ?_
        rintro e w3 ⟨rfl, hb⟩
        have B3 := Lib.hid (HH.out.2.trans (hb.mono HH.out.2.size))
        clear hb c0
        go_wp2_with fail
        go_roundg (gk - 1)
        case measure => omega
        case rel => exact ⟨k + 1, T2, by omega, rfl, by go_num, H2.out.1, B3.out⟩
    · obtain rfl : k = n := by omega
      have hge : ¬ (k : Int) < (k : Int) := by omega
      have hT : T ++ [41] = t := by rw [← HP.out.2.2.2.2.2.1, ← HH.out.1, List.take_of_length_le (by have := HP.out.2.2.1; omega)]
      have e9 : ∀ W : World, (Op.stringOp .add (tx T) ⟨#[41]⟩).run Try.prog W = .ok (.string (tx t)) W := add_tx T [41] t hT HP.out.2.2.2.2.2.2
      clear hT
      go_wp2_with fail
      go_ret
      exact ⟨rfl, HA.out.1.trans (HH.out.2.mono HA.out.1.size)⟩
theorem calT_le (nl : List UInt8) (args : List Int) (hf : ∀ x ∈ args, Deci.fit x) (h1 : nl.length ≤ 200) (h2 : args.length ≤ 60) : (calT (tx nl) args).length ≤ big := by
  have hr : ∀ l : List Int, (∀ x ∈ l, Deci.fit x) → (rowT (l.map Deci.txt)).length ≤ 22 * l.length := by
    intro l
    induction l with
    | nil => intro _; simp [rowT]
    | cons a r ih =>
      intro h
      have ha := Deci.txt_len a (h a (List.mem_cons_self)).1 (h a (List.mem_cons_self)).2
      have hb : ∀ m : List Int, (∀ x ∈ m, Deci.fit x) → ((m.map Deci.txt).flatMap (fun b => (44 : UInt8) :: 32 :: b)).length ≤ 22 * m.length := by
        intro m
        induction m with
        | nil => intro _; simp
        | cons a m ih2 =>
          intro h
          have ha := Deci.txt_len a (h a (List.mem_cons_self)).1 (h a (List.mem_cons_self)).2
          have := ih2 fun x hx => h x (List.mem_cons_of_mem _ hx)
          simp only [List.map_cons, List.flatMap_cons, List.length_append, List.length_cons]
          omega
      have := hb r fun x hx => h x (List.mem_cons_of_mem _ hx)
      simp only [List.map_cons, rowT, List.length_append, List.length_cons]
      omega
  have := hr args hf
  unfold calT
  rw [data_tx]
  unfold big
  simp only [List.length_append, List.length_cons, List.length_nil]
  omega
theorem toList_same (X : ByteArray) : (X.toList == X.toList) = true := by simp
/-- A call, and where its list is. -/
structure Cal where
  nl : List UInt8
  args : List Int
structure CalV where
  a : Option Addr
  n : Nat
  c : Nat
def calR (i : Cal) (r : CalV) : Array Value := #[.string (tx i.nl), .slice r.a r.n r.c]
structure CalG (W : World) (i : Cal) (r : CalV) : Prop where
  args : IsInts W r.a r.n i.args
  fits : ∀ x ∈ i.args, Deci.fit x
set_option maxHeartbeats 4000000 in
theorem calls_w (nl : List UInt8) (A : Option Addr) (n c : Nat) (args : List Int) (W : World) (hl : IsInts W A n args) (hf : ∀ x ∈ args, Deci.fit x) :
    Calls Try.prog 3 #[.agg #[.string (tx nl), .slice A n c]] W fun e w' => e = .returned (.bool true) ∧ Below W.heap.size W w' := by
  have BA : Below W.heap.size W (W.alloc (.cells #[.string (tx nl), .slice A n c] 24)) := (Below.refl _ W).alloc (Nat.le_refl _) _
  have hal := heap_alloc_new W (.cells #[.string (tx nl), .slice A n c] 24)
  have hsz := tx_size nl
  have hn := hl.2.1
  have HL := Lib.hid (And.intro (hl.below BA) (And.intro hf hl.1))
  clear hl hf
  obtain ⟨wa, hwa⟩ : ∃ wa, W.alloc (.cells #[.string (tx nl), .slice A n c] 24) = wa := ⟨_, rfl⟩
  rw [hwa] at BA hal HL
  have HA := Lib.hid (And.intro BA hal)
  clear BA hal
  obtain ⟨P, hP⟩ : ∃ P, W.heap.size = P := ⟨_, rfl⟩
  have hcells := Lib.hid (show ∀ w', Below wa.heap.size wa w' → w'.cell? ⟨P, 0, none⟩ = some (.string (tx nl)) ∧ w'.cell? ⟨P, 1, none⟩ = some (.slice A n c) from fun w' hb => by rw [← hP]; exact Nt.two_in (kept_box HA.out.2 hb))
  have HPP := Lib.hid hP
  clear hP
  obtain ⟨k0, k1⟩ := hcells.out wa (Below.refl _ _)
  obtain ⟨s, hs⟩ : ∃ s, tx nl = s := ⟨_, rfl⟩
  rw [hs] at hsz k0 hwa ⊢
  have HS := Lib.hid hs
  clear hs
  rw [← HPP.out] at k0 k1
  by_cases g1 : (60 : Int) < (n : Int)
  · go_enter Try.func3, Try.ntmps3
    go_wp2_with fail
    clear hwa k0 k1
    refine (Nt.works_v _).mono ?_
    rintro e w2 ⟨rfl, hb⟩
    have B2 := Lib.hid hb
    clear hb
    go_wp2_with fail
    go_ret
    exact ⟨rfl, HA.out.1.trans (B2.out.mono HA.out.1.size)⟩
  · by_cases g2 : (200 : Int) < (s.size : Int)
    · go_enter Try.func3, Try.ntmps3
      go_wp2_with fail
      clear hwa k0 k1
      refine (Nt.works_v _).mono ?_
      rintro e w2 ⟨rfl, hb⟩
      have B2 := Lib.hid hb
      clear hb
      go_wp2_with fail
      go_ret
      exact ⟨rfl, HA.out.1.trans (B2.out.mono HA.out.1.size)⟩
    · have hlen : (calT (tx nl) args).length ≤ big := calT_le nl args HL.out.2.1 (by rw [hsz] at g2; omega) (by have := HL.out.2.2; omega)
      obtain ⟨t, ht⟩ : ∃ t, calT (tx nl) args = t := ⟨_, rfl⟩
      rw [ht] at hlen
      obtain ⟨X, hX⟩ : ∃ X, ByteArray.mk t.toArray = X := ⟨_, rfl⟩
      have q1 := toList_same X
      have HT := Lib.hid (And.intro ht (And.intro hlen hX))
      have C5 := Lib.hid (show ∀ w', Below wa.heap.size wa w' → Calls Try.prog 5 #[.agg #[.string s, .slice A n c]] w' fun e w2 => e = .returned (.string X) ∧ Below w'.heap.size w' w2 from fun w' hb => by
        have := Nt.call_t (tx nl) A n c args t w' (HL.out.1.below hb) HL.out.2.1 HT.out.1 HT.out.2.1
        rw [HS.out] at this
        unfold Nt.Tells at this
        rw [HT.out.2.2] at this
        exact this)
      have C6 := Lib.hid (show ∀ w', Below wa.heap.size wa w' → Calls Try.prog 6 #[.agg #[.string s, .slice A n c]] w' fun e w2 => e = .returned (.string X) ∧ Below w'.heap.size w' w2 from fun w' hb => by
        have := rcall_v nl A n c args t w' (HL.out.1.below hb) HL.out.2.1 HT.out.1 HT.out.2.1
        rw [HS.out] at this
        unfold SaysT tx at this
        rw [HT.out.2.2] at this
        exact this)
      clear ht hlen hX
      go_enter Try.func3, Try.ntmps3
      go_wp2_with fail
      clear hwa k0 k1
      rw [HPP.out]
      obtain ⟨k0, k1⟩ := hcells.out wa (Below.refl _ _)
      rw [HS.out] at k0
      go_region_held3 (fun w' => w'.cell? ⟨P, 0, none⟩ = some (.string s) ∧ w'.cell? ⟨P, 1, none⟩ = some (.slice A n c))
        (first | exact K4.out | exact K3.out | exact K2.out | exact ⟨k0, k1⟩)
        (first
          | (go_at_call 4; refine (Nt.works_v w3).mono ?_; rintro e w4 ⟨rfl, hb⟩; have B4 := Lib.hid (B3.out.trans (hb.mono B3.out.size)); clear hb; have K4 := Lib.hid (show w4.cell? ⟨P, 0, none⟩ = some (.string s) ∧ w4.cell? ⟨P, 1, none⟩ = some (.slice A n c) from by have := hcells.out w4 B4.out; rw [HS.out] at this; exact this))
          | (go_at_call 6; refine (C6.out w2 B2.out).mono ?_; rintro e w3 ⟨rfl, hb⟩; have B3 := Lib.hid (B2.out.trans (hb.mono B2.out.size)); clear hb; have K3 := Lib.hid (show w3.cell? ⟨P, 0, none⟩ = some (.string s) ∧ w3.cell? ⟨P, 1, none⟩ = some (.slice A n c) from by have := hcells.out w3 B3.out; rw [HS.out] at this; exact this))
          | (go_at_call 5; refine (C5.out _ (below_drewN wa 1)).mono ?_; rintro e w2 ⟨rfl, hb⟩; have B2 := Lib.hid (show Below wa.heap.size wa w2 from (below_drewN wa 1).trans hb); clear hb; have K2 := Lib.hid (show w2.cell? ⟨P, 0, none⟩ = some (.string s) ∧ w2.cell? ⟨P, 1, none⟩ = some (.slice A n c) from by have := hcells.out w2 B2.out; rw [HS.out] at this; exact this)))
      clear k0 k1 K2 K3 K4 C5 C6
      go_wp2_with fail
      go_ret
      exact ⟨rfl, HA.out.1.trans (B4.out.mono HA.out.1.size)⟩
theorem calls_v (i : Cal) (r : CalV) (W : World) (h : CalG W i r) : Calls Try.prog 3 #[.agg (calR i r)] W fun e w' => e = .returned (.bool true) ∧ Below W.heap.size W w' :=
  calls_w i.nl r.a r.n r.c i.args W h.args h.fits
section
variable {H : Type} {enc : TypeId × Value → H} {W : World}
theorem wf_fit {n : Int} (h : (Lit.int .i64 n).wf = true) : Deci.fit n := by
  have : -9223372036854775808 ≤ n ∧ n ≤ 9223372036854775807 := by simpa [Lit.wf, IntKind.min, IntKind.max, IntKind.signed, IntKind.bits] using h
  exact this
theorem rows_open {t e : TypeId} {sz : Nat} {α : Type} [Inhabited α] (R : α → List Value → Prop) (ht : Try.prog.underlying t = some (.slice e)) (hc : Try.prog.cellsOf e = sz) (h0 : 0 < sz)
    (hel : ∀ {fuel : Nat} {cs : List Value} {x : DataW H × List MemPlace}, DataW.trod enc Try.prog W 0 (fun _ => true) true fuel e cs = some x → ∃ d : α, R d cs)
    {fuel : Nat} {cs : List Value} {x : DataW H × List MemPlace} (h : DataW.trod enc Try.prog W 0 (fun _ => true) true fuel t cs = some x) :
    ∃ (A : Option Addr) (c n : Nat) (F : Nat → α), cs = [.slice A n c] ∧ n ≤ 9223372036854775807 ∧ (∀ k, k < n → ∃ cs', R (F k) cs') ∧ (n = 0 ∨ ∃ b o, A = some ⟨b, o, none⟩ ∧ b < W.heap.size ∧
      ∀ k, k < n → ∃ cs', R (F k) cs' ∧ ∀ j u, j < sz → cs'[j]? = some u → W.cell? ⟨b, o + k * sz + j, none⟩ = some u) := by
  rcases Deep.open_slice ht h with ⟨hcs, _⟩ | ⟨x, l, c, m, n, D, Pl, hcs, _, hl, hm, hmm, _, hel2⟩
  · exact ⟨none, 0, 0, fun _ => default, hcs, by omega, fun k hk => by omega, .inl rfl⟩
  · simp only [if_true] at hmm
    subst hmm
    rw [hc] at hel2
    obtain ⟨F, hF⟩ := Deep.choose_lt (α := α) (n := l) (p := fun i d => ∃ cs', W.cells? 0 (x.add (i * sz)) sz = some cs' ∧ R d cs') (fun i hi => by
      obtain ⟨cs', h1, h2⟩ := hel2 i (by omega)
      obtain ⟨d, h3⟩ := hel h2
      exact ⟨d, cs', h1, h3⟩)
    refine ⟨some x, m, l, F, hcs, by have : maxLen = 9223372036854775807 := rfl; omega, fun k hk => (hF k hk).imp fun _ h => h.2, ?_⟩
    by_cases hl0 : l = 0
    · exact .inl hl0
    · obtain ⟨b, o, spot⟩ := x
      have hspot : spot = none ∧ b < W.heap.size := by
        obtain ⟨cs', h1, _⟩ := hF 0 (by omega)
        obtain ⟨_, hlen, hcell⟩ := World.cells?_some h1
        have hc0 := hcell 0 (by omega)
        rw [List.getElem?_eq_getElem (by omega)] at hc0
        constructor
        · simpa [Addr.add] using World.cell?_spot hc0
        · simpa [Addr.add] using spot_lt hc0
      obtain ⟨rfl, hb⟩ := hspot
      refine .inr ⟨b, o, rfl, hb, fun k hk => ?_⟩
      obtain ⟨cs', h1, h2⟩ := hF k hk
      obtain ⟨_, hlen, hcell⟩ := World.cells?_some h1
      refine ⟨cs', h2, fun j u hj hu => ?_⟩
      have := hcell j (by omega)
      rw [add_at, add_at] at this
      rw [this]
      exact hu
theorem range_map_get {α : Type} (F : Nat → α) (n k : Nat) (hk : k < ((List.range n).map F).length) : ((List.range n).map F)[k] = F k := by simp
theorem list_n2 {α : Type} {l : List α} (h : l.length = 2) : ∃ c0 c1, l = [c0, c1] := by
  match l, h with
  | [c0, c1], _ => exact ⟨c0, c1, rfl⟩
theorem csi : Try.prog.cellsOf 3 = 1 := by kernel_rfl
theorem css : Try.prog.cellsOf 9 = 1 := by kernel_rfl
theorem csl : Try.prog.cellsOf 22 = 1 := by kernel_rfl
theorem csc : Try.prog.cellsOf 24 = 2 := by kernel_rfl
theorem ints_of {fuel : Nat} {cs : List Value} {x : DataW H × List MemPlace} (h : DataW.trod enc Try.prog W 0 (fun _ => true) true fuel 22 cs = some x) : ∃ A n c l, cs = [.slice A n c] ∧ IsInts W A n l ∧ ∀ y ∈ l, Deci.fit y := by
  obtain ⟨A, c, n, F, rfl, hn, hI, hF⟩ := rows_open (α := Int) (fun d cs => cs = [.int .i64 d] ∧ Deci.fit d) Try.underlying22 csi (by omega) (fun h => by
    obtain ⟨z, e, _, w⟩ := DataW.trod_int Try.underlying3 h
    exact ⟨z, e, wf_fit w⟩) h
  refine ⟨A, n, c, (List.range n).map F, rfl, ⟨by simp, hn, ?_⟩, fun x hx => by
    obtain ⟨k, hk, rfl⟩ := List.mem_map.1 hx
    obtain ⟨_, _, e⟩ := hI k (List.mem_range.1 hk)
    exact e⟩
  rcases hF with rfl | ⟨b, o, rfl, hb, hF⟩
  · exact .inl rfl
  · refine .inr ⟨b, o, rfl, hb, fun k hk => ?_⟩
    have hk2 : k < n := by simpa using hk
    obtain ⟨cs', ⟨rfl, _⟩, hc⟩ := hF k hk2
    rw [range_map_get]
    have := hc 0 _ (by omega) rfl
    rw [Nat.mul_one, Nat.add_zero] at this; exact this
theorem cal_of {fuel : Nat} {cs : List Value} {x : DataW H × List MemPlace} (h : DataW.trod enc Try.prog W 0 (fun _ => true) true fuel 24 cs = some x) : ∃ (i : Cal) (r : CalV), cs = (calR i r).toList ∧ CalG W i r := by
  obtain ⟨xs, n, _, _, hl, hlen, hf⟩ := DataW.trod_struct Try.underlying24 h
  rw [csc] at hl
  obtain ⟨c0, c1, rfl⟩ := list_n2 hl
  obtain ⟨x0, x1, rfl⟩ := list_n2 (show xs.length = 2 from hlen)
  have g0 : DataW.trod enc Try.prog W 0 (fun _ => true) true n 9 (List.take (Try.prog.cellsOf 9) (List.drop 0 [c0, c1])) = some x0 := hf 0 _ rfl
  rw [css] at g0
  replace g0 : DataW.trod enc Try.prog W 0 (fun _ => true) true n 9 [c0] = some x0 := g0
  have g1 : DataW.trod enc Try.prog W 0 (fun _ => true) true n 22 (List.take (Try.prog.cellsOf 22) (List.drop 1 [c0, c1])) = some x1 := hf 1 _ rfl
  rw [csl] at g1
  replace g1 : DataW.trod enc Try.prog W 0 (fun _ => true) true n 22 [c1] = some x1 := g1
  obtain ⟨s, e0, _, _⟩ := DataW.trod_string Try.underlying9 g0
  injection e0 with e0
  subst e0
  obtain ⟨A, m, c, l, e1, hI, hF⟩ := ints_of g1
  injection e1 with e1
  subst e1
  exact ⟨⟨s.data.toList, l⟩, ⟨A, m, c⟩, by unfold calR; dsimp only; rw [tx_data], hI, hF⟩
theorem open_cal {base : Nat} {v : Value} {d : DataW H} {p : List MemPlace} (hv : Value.okWide Try.prog W .any base 24 v) (h : DataW.Trod enc Try.prog W 0 (fun _ => true) true 24 v d p) : ∃ (i : Cal) (r : CalV), v = .agg (calR i r) ∧ CalG W i r := by
  obtain ⟨cs, rfl, hsz, _⟩ : ∃ cs, v = .agg cs ∧ cs.size = Try.prog.cellsOf 24 ∧ Row.okWide Try.prog W .any base 24 cs := by
    simpa [Value.okWide, Try.underlying24] using hv
  obtain ⟨fuel, hf⟩ := h
  obtain ⟨i, r, hd, hu⟩ := cal_of hf
  have hd' : cs.toList = (calR i r).toList := by simpa [Value.cells] using hd
  refine ⟨i, r, ?_, hu⟩
  congr 1
  exact Array.ext' hd'
end
end Go.Proofs.Ytakfoncdiejhaaa
