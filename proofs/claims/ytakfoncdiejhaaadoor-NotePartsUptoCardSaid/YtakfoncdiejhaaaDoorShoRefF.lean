
/- The document's own text of a function. -/
import Derived.Test.YtakfoncdiejhaaaDoorShoRefD
import Derived.Test.YtakfoncdiejhaaaDoorShoRefE
namespace Go.Proofs.YtakfoncdiejhaaaDoor
open Go.ChangeShapes Go.WideShapes Go.RowKit
set_option linter.unusedVariables false
set_option maxRecDepth 20000

theorem rinstr_v (i : Ins) (r : InsV) (t : List UInt8) (W : World) (hI : IsIns W i r) (hF : InsF i) (ht : insT i = t) (hlen : t.length ≤ big) :
    Calls Tryd.prog 25 #[.agg (insR i r)] W (SaysT t W) := by
  obtain ⟨op, ⟨dk, dc, dn, dt⟩, args, nm, off, labels, cas⟩ := i
  obtain ⟨aa, an, ac, la, ln, lc, ca, cn, cc⟩ := r
  unfold insR
  dsimp only
  have ha1 := hI.args.1
  dsimp only at ha1
  obtain ⟨M, hM⟩ : ∃ M, an + ln = M := ⟨_, rfl⟩
  have zero : ¬ (an : Int) > 0 → args = [] := fun h => List.eq_nil_of_length_eq_zero (by omega)
  have more : (an : Int) > 0 → ¬ args = [] := fun h e => by subst e; simp at ha1; omega
  by_cases n19 : op = 19
  · subst n19; exact rins_19 dk dc dn dt args nm off labels cas aa an ac la ln lc ca cn cc t W hI hF rfl ht hlen
  by_cases n17 : op = 17
  · subst n17
    by_cases hz : (an : Int) > 0
    · by_cases ho : off = 0
      · exact rins_17_z dk dc dn dt args nm off labels cas aa an ac la ln lc ca cn cc t W hI hF rfl hz (more hz) ho (by simp [ho]) ht hlen
      · exact rins_17_s dk dc dn dt args nm off labels cas aa an ac la ln lc ca cn cc t W hI hF rfl hz (more hz) ho (by simp [ho]) ht hlen
    · exact rins_17_0 dk dc dn dt args nm off labels cas aa an ac la ln lc ca cn cc t W hI hF rfl hz (zero hz) ht hlen
  by_cases n18 : op = 18
  · subst n18
    by_cases hz : (an : Int) > 0
    · by_cases ho : off = 0
      · exact rins_18_z dk dc dn dt args nm off labels cas aa an ac la ln lc ca cn cc t W hI hF rfl hz (more hz) ho (by simp [ho]) ht hlen
      · exact rins_18_s dk dc dn dt args nm off labels cas aa an ac la ln lc ca cn cc t W hI hF rfl hz (more hz) ho (by simp [ho]) ht hlen
    · exact rins_18_0 dk dc dn dt args nm off labels cas aa an ac la ln lc ca cn cc t W hI hF rfl hz (zero hz) ht hlen
  by_cases n20 : op = 20
  · subst n20
    by_cases hM0 : M = 0
    · exact rins_20_0 dk dc dn dt args nm off labels cas aa an ac la ln lc ca cn cc t W hI hF rfl M hM hM0 ht hlen
    · exact rins_20_j dk dc dn dt args nm off labels cas aa an ac la ln lc ca cn cc t W hI hF rfl M hM hM0 ht hlen
  by_cases n21 : op = 21
  · subst n21
    by_cases hM0 : M = 0
    · exact rins_21_0 dk dc dn dt args nm off labels cas aa an ac la ln lc ca cn cc t W hI hF rfl M hM hM0 ht hlen
    · exact rins_21_j dk dc dn dt args nm off labels cas aa an ac la ln lc ca cn cc t W hI hF rfl M hM hM0 ht hlen
  by_cases n22 : op = 22
  · subst n22
    by_cases hz : (an : Int) > 0
    · exact rins_22_j dk dc dn dt args nm off labels cas aa an ac la ln lc ca cn cc t W hI hF rfl hz (more hz) ht hlen
    · exact rins_22_0 dk dc dn dt args nm off labels cas aa an ac la ln lc ca cn cc t W hI hF rfl hz (zero hz) ht hlen
  have d22n : (op != 22) = true := by simpa using n22
  by_cases hz : (an : Int) > 0
  · cases ho : Opr.isOp op
    · exact rins_no_jn op dk dc dn dt args nm off labels cas aa an ac la ln lc ca cn cc t W hI hF ho hz (more hz) n19 (by simpa using n19) n17 (by simpa using n17) n18 (by simpa using n18) n20 (by simpa using n20) n21 (by simpa using n21) n22 (by simpa using n22) d22n ht hlen
    · exact rins_no_jf op dk dc dn dt args nm off labels cas aa an ac la ln lc ca cn cc t W hI hF ho hz (more hz) n19 (by simpa using n19) n17 (by simpa using n17) n18 (by simpa using n18) n20 (by simpa using n20) n21 (by simpa using n21) n22 (by simpa using n22) d22n ht hlen
  · cases ho : Opr.isOp op
    · exact rins_no_0n op dk dc dn dt args nm off labels cas aa an ac la ln lc ca cn cc t W hI hF ho hz (zero hz) n19 (by simpa using n19) n17 (by simpa using n17) n18 (by simpa using n18) n20 (by simpa using n20) n21 (by simpa using n21) n22 (by simpa using n22) d22n ht hlen
    · exact rins_no_0f op dk dc dn dt args nm off labels cas aa an ac la ln lc ca cn cc t W hI hF ho hz (zero hz) n19 (by simpa using n19) n17 (by simpa using n17) n18 (by simpa using n18) n20 (by simpa using n20) n21 (by simpa using n21) n22 (by simpa using n22) d22n ht hlen
/-- The text of the registers as far as the k-th. -/
def regsK (l : List Rg) (k : Nat) : List UInt8 := if k = 0 then [] else [114, 101, 103, 115] ++ ((l.take k).flatMap regT ++ if k = l.length then [59, 10] else [])
theorem regsK_all (l : List Rg) : regsK l l.length = regsT l := by
  unfold regsK regsT
  by_cases h : l = []
  · rw [h]; rfl
  · rw [if_neg (fun e => h (List.eq_nil_of_length_eq_zero e)), if_neg h, if_pos rfl, List.take_length]
theorem regsK_step (l : List Rg) (k : Nat) (r : Rg) (h : l[k]? = some r) : regsK l (k + 1) = regsK l k ++ ((if k = 0 then [114, 101, 103, 115] else []) ++ (regT r ++ if k + 1 = l.length then [59, 10] else [])) := by
  have hk := (List.getElem?_eq_some_iff.1 h).1
  unfold regsK
  rw [if_neg (by omega), flat_take regT l k r h]
  by_cases h0 : k = 0
  · subst h0; simp
  · have h3 : ¬ k = l.length := by omega
    simp [h0, h3]
theorem regsK_le (l : List Rg) (k : Nat) (hk : k ≤ l.length) : (regsK l k).length ≤ (regsT l).length := by
  unfold regsK regsT
  by_cases h0 : k = 0
  · rw [if_pos h0]; simp
  · have hne : l ≠ [] := fun e => by subst e; simp at hk; omega
    rw [if_neg h0, if_neg hne]
    have h1 := flat_le regT l k
    by_cases h2 : k = l.length
    · rw [if_pos h2]; simp only [List.length_append]; omega
    · rw [if_neg h2]; simp only [List.length_append, List.length_nil]; omega
structure FunG (f : Fun) : Prop where
  fits : FunF f
  params : f.params.length ≤ 1048576
  ins : ∀ b ∈ f.blocks, b.ins.length ≤ 1048576
set_option maxHeartbeats 16000000 in
theorem rfunc_w (machine : Bool) (name : List UInt8) (regs : List Rg) (params : List Opn) (blocks : List Blk) (ra : Option Addr) (rn rc : Nat) (pa : Option Addr) (pn pc : Nat) (ba : Option Addr) (bn bc : Nat) (R : Nat → BlkV) (t : List UInt8) (W0 : World) (hI : IsFun W0 ⟨machine, tx name, regs, params, blocks⟩ ⟨ra, rn, rc, pa, pn, pc, ba, bn, bc, R⟩) (hG : FunG ⟨machine, tx name, regs, params, blocks⟩) (ht : funT ⟨machine, tx name, regs, params, blocks⟩ = t) (hlen : t.length ≤ big) :
    Calls Tryd.prog 13 #[.agg #[.bool machine, .string (tx name), .slice ra rn rc, .slice pa pn pc, .slice ba bn bc]] W0 (SaysT t W0) := by
  have hF := hG.fits
  have hrn := hI.regs.1
  have hrm := hI.regs.2.1
  have hbn := hI.blocks.1
  have hbm := hI.blocks.2.1
  have hpn : pn ≤ 1048576 := by have h1 := hI.params.1; have h2 := hG.params; dsimp only at h1 h2; omega
  have hpm := hI.params.2.1
  dsimp only at hrn hrm hbn hbm hpm
  obtain ⟨J, hJ⟩ : ∃ J, rowT (params.map opnT) = J := ⟨_, rfl⟩
  obtain ⟨T0, hT0⟩ : ∃ T0, funT0 machine = T0 := ⟨_, rfl⟩
  obtain ⟨T1, hT1⟩ : ∃ T1, T0 ++ name = T1 := ⟨_, rfl⟩
  obtain ⟨T2, hT2⟩ : ∃ T2, T1 ++ [40] = T2 := ⟨_, rfl⟩
  obtain ⟨T3, hT3⟩ : ∃ T3, T2 ++ J = T3 := ⟨_, rfl⟩
  obtain ⟨T4, hT4⟩ : ∃ T4, T3 ++ [41, 32, 123, 10] = T4 := ⟨_, rfl⟩
  have tfin : T4 ++ regsT regs ++ blocks.flatMap blkT ++ [125, 10] = t := by rw [← ht, ← hT4, ← hT3, ← hT2, ← hT1, ← hJ, ← hT0]; simp [funT, funT1, data_tx]
  have m7 : (T4 ++ regsT regs ++ blocks.flatMap blkT).length ≤ big := by rw [← tfin, List.length_append] at hlen; omega
  have mB : ∀ k, (T4 ++ regsT regs ++ (blocks.take k).flatMap blkT).length ≤ big := fun k => by
    have h1 := flat_le blkT blocks k
    simp only [List.length_append] at m7 ⊢
    omega
  have m6 : (T4 ++ regsT regs).length ≤ big := by rw [List.length_append] at m7; omega
  have mR : ∀ k, k ≤ regs.length → (T4 ++ regsK regs k).length ≤ big := fun k hk => by
    have h1 := regsK_le regs k hk
    simp only [List.length_append] at m6 ⊢
    omega
  have m4 : T4.length ≤ big := by rw [List.length_append] at m6; omega
  have m3 : T3.length ≤ big := by rw [← hT4, List.length_append] at m4; omega
  have m2 : T2.length ≤ big := by rw [← hT3, List.length_append] at m3; omega
  have mJ : J.length ≤ big := by rw [← hT3, List.length_append] at m3; omega
  have m1 : T1.length ≤ big := by rw [← hT2, List.length_append] at m2; omega
  have s1 : ∀ W : World, (Op.stringOp .add (tx T0) (tx name)).run Tryd.prog W = .ok (.string (tx T1)) W := add_tx T0 name T1 hT1 m1
  have s2 : ∀ W : World, (Op.stringOp .add (tx T1) ⟨#[40]⟩).run Tryd.prog W = .ok (.string (tx T2)) W := add_tx T1 [40] T2 hT2 m2
  have s3 : ∀ W : World, (Op.stringOp .add (tx T2) (tx J)).run Tryd.prog W = .ok (.string (tx T3)) W := add_tx T2 J T3 hT3 m3
  have s4 : ∀ W : World, (Op.stringOp .add (tx T3) ⟨#[41, 32, 123, 10]⟩).run Tryd.prog W = .ok (.string (tx T4)) W := add_tx T3 [41, 32, 123, 10] T4 hT4 m4
  have BA : Below W0.heap.size W0 (W0.alloc (.cells #[.bool machine, .string (tx name), .slice ra rn rc, .slice pa pn pc, .slice ba bn bc] 31)) := (Below.refl _ W0).alloc (Nat.le_refl _) _
  have hal := heap_alloc_new W0 (.cells #[.bool machine, .string (tx name), .slice ra rn rc, .slice pa pn pc, .slice ba bn bc] 31)
  have HI := hI.below BA
  obtain ⟨wa, hwa⟩ : ∃ wa, W0.alloc (.cells #[.bool machine, .string (tx name), .slice ra rn rc, .slice pa pn pc, .slice ba bn bc] 31) = wa := ⟨_, rfl⟩
  rw [hwa] at BA hal HI
  obtain ⟨k0, k1, k2, k3, k4⟩ := five_cells hal
  have HA := Lib.hid (And.intro BA (And.intro hal (And.intro HI hF)))
  have HP := Lib.hid (And.intro hJ (And.intro mJ (And.intro tfin (And.intro mB (And.intro mR (And.intro hlen (And.intro hrn (And.intro hbn (And.intro hG.ins (And.intro hpm hT0))))))))))
  have S0 := Lib.hid (five_cells hal)
  clear BA hal HI hI hF hG hJ mJ tfin mB mR hlen hrn hbn hT0 hT1 hT2 hT3 hT4 m1 m2 m3 m4 m6 m7 ht hpm
  go_enter Tryd.func13, Tryd.ntmps13
  go_upto_if 9 with fail
  go_cut [3] from 9 to 9 (fun s3 wx => s3 = .string (tx T0) ∧ wx = wa)
  case first =>
    cases machine
    · go_wp2_with fail
      go_meet
      case rel => exact ⟨by rw [← HP.out.2.2.2.2.2.2.2.2.2.2]; rfl, rfl⟩
    · go_wp2_with fail
      go_meet
      case rel => exact ⟨by rw [← HP.out.2.2.2.2.2.2.2.2.2.2]; rfl, rfl⟩
  case rest =>
  obtain ⟨rfl, rfl⟩ := hcut
  clear hwa k0 k1 k2 k3 k4
  go_upto_region 4 with fail
  go_region_held3 (fun W => W.cell? ⟨W0.heap.size, 0, none⟩ = some (.bool machine) ∧ W.cell? ⟨W0.heap.size, 1, none⟩ = some (.string (tx name)) ∧ W.cell? ⟨W0.heap.size, 2, none⟩ = some (.slice ra rn rc) ∧ W.cell? ⟨W0.heap.size, 3, none⟩ = some (.slice pa pn pc) ∧ W.cell? ⟨W0.heap.size, 4, none⟩ = some (.slice ba bn bc))
    (first | exact S2.out | exact S1.out | exact S0.out)
    (first
      | (go_at_call 22; (refine (join_v A1 pn c1 (params.map opnT) J w1 H1.out.2 HP.out.1 HP.out.2.1).mono ?_); rintro e w2 ⟨rfl, hb⟩; have H2 := Lib.hid (H1.out.1.trans (hb.mono H1.out.1.size)); have S2 := Lib.hid (five_cells (kept_box HA.out.2.1 H2.out)); clear hb)
      | (go_at_call 23; (refine (rows_v pa pn pc params wc.drew (HA.out.2.2.1.params.below (Below.refl _ wc).drew) HA.out.2.2.2.params hpn).mono ?_); rintro e w1 ⟨A1, c1, rfl, ho, hb⟩; have H1 := Lib.hid (show Below wc.heap.size wc w1 ∧ IsStrs w1 A1 pn ((params.map opnT).map tx) from ⟨(Below.refl _ wc).drew.trans hb, ho.strs HP.out.2.2.2.2.2.2.2.2.2.1⟩); have S1 := Lib.hid (five_cells (kept_box HA.out.2.1 H1.out.1)); clear hb ho))
  clear S0 S1 S2 s1 s2 s3 s4
  obtain ⟨k0, k1, k2, k3, k4⟩ := five_cells (kept_box HA.out.2.1 H2.out)
  go_wp2_with fail
  clear k0 k1 k2 k3 k4
  go_loopg [3, 4] rn (fun gk u1 u2 wr => ∃ (k : Nat) (S : List UInt8), k + gk = rn ∧ u1 = .string (tx S) ∧ u2 = .int .i64 (k : Int) ∧ Hid (T4 ++ regsK regs k = S ∧ Below wc.heap.size wc wr))
  case atStart => exact ⟨0, T4, by omega, rfl, rfl, by simp [regsK], H2.out⟩
  case round =>
    obtain ⟨k, S, hk, rfl, rfl, HH⟩ := hrel
    obtain ⟨k0, k1, k2, k3, k4⟩ := five_cells (kept_box HA.out.2.1 HH.out.2)
    by_cases hlt : k < rn
    · obtain ⟨bk, o, hra, hb, x, hx, c0, c1⟩ := (HA.out.2.2.1.regs.below HH.out.2).at hlt
      subst hra
      have i1 : (k : Int) < (rn : Int) := by omega
      have hmax := HP.out.2.2.2.2.1 (k + 1) (by have := HP.out.2.2.2.2.2.2.1; omega)
      have hf := HA.out.2.2.2.regs x (List.mem_of_getElem? hx)
      have hrn := HP.out.2.2.2.2.2.2.1
      obtain ⟨xi, xc⟩ := x
      dsimp only at c0 c1 hf
      obtain ⟨y, hy⟩ : ∃ y, Deci.txt xi = y := ⟨_, rfl⟩
      have HY := Lib.hid (And.intro hy hf)
      obtain ⟨m, hm⟩ : ∃ m, rn = m + 1 := ⟨rn - 1, by omega⟩
      have q1 : (rn : Int) - 1 = (m : Int) := by omega
      have q2 : IntKind.i64.wrap ((rn : Int) - 1) = (m : Int) := by rw [IntWalk.i64_in _ (by omega)]; exact q1
      have q3 : IntKind.i64.wrap (m : Int) = (m : Int) := IntWalk.i64_in _ (by omega)
      clear hb
      by_cases hk0 : k = 0
      · have j1 : (k : Int) = 0 := by omega
        have j2 : ((k : Int) == 0) = true := by simpa using j1
        by_cases hlast : k + 1 = regs.length
        · have l1 : (k : Int) = (m : Int) := by omega
          have l2 : ((k : Int) == (m : Int)) = true := by simpa using l1
          by_cases n0 : xc = 0
          · subst n0
            obtain ⟨Z, hZ⟩ : ∃ Z, S ++ [114, 101, 103, 115] = Z := ⟨_, rfl⟩
            obtain ⟨U1, hU1⟩ : ∃ U1, Z ++ [32, 37] = U1 := ⟨_, rfl⟩
            obtain ⟨U2, hU2⟩ : ∃ U2, U1 ++ y = U2 := ⟨_, rfl⟩
            obtain ⟨U3, hU3⟩ : ∃ U3, U2 ++ [58] = U3 := ⟨_, rfl⟩
            obtain ⟨U4, hU4⟩ : ∃ U4, U3 ++ [103] = U4 := ⟨_, rfl⟩
            obtain ⟨U5, hU5⟩ : ∃ U5, U4 ++ [59, 10] = U5 := ⟨_, rfl⟩
            have hA : (if k = 0 then ([114, 101, 103, 115] : List UInt8) else []) = [114, 101, 103, 115] := if_pos hk0
            have hB : (if k + 1 = regs.length then ([59, 10] : List UInt8) else []) = [59, 10] := if_pos hlast
            have hU : T4 ++ regsK regs (k + 1) = U5 := by rw [regsK_step regs k _ hx, hA, hB, ← hU5, ← hU4, ← hU3, ← hU2, ← hU1, ← hZ, ← HH.out.1]; simp [regT, vregT, Tg.letter, hy]
            have m5 : U5.length ≤ big := by rw [← hU]; exact hmax
            have m4 : U4.length ≤ big := by rw [← hU5, List.length_append] at m5; omega
            have m3 : U3.length ≤ big := by rw [← hU4, List.length_append] at m4; omega
            have m2 : U2.length ≤ big := by rw [← hU3, List.length_append] at m3; omega
            have m1 : U1.length ≤ big := by rw [← hU2, List.length_append] at m2; omega
            have m0 : Z.length ≤ big := by rw [← hU1, List.length_append] at m1; omega
            have s0 : ∀ W : World, (Op.stringOp .add (tx S) ⟨#[114, 101, 103, 115]⟩).run Tryd.prog W = .ok (.string (tx Z)) W := add_tx S [114, 101, 103, 115] Z hZ m0
            have s1 : ∀ W : World, (Op.stringOp .add (tx Z) ⟨#[32, 37]⟩).run Tryd.prog W = .ok (.string (tx U1)) W := add_tx Z [32, 37] U1 hU1 m1
            have s2 : ∀ W : World, (Op.stringOp .add (tx U1) (tx y)).run Tryd.prog W = .ok (.string (tx U2)) W := add_tx U1 y U2 hU2 m2
            have s3 : ∀ W : World, (Op.stringOp .add (tx U2) ⟨#[58]⟩).run Tryd.prog W = .ok (.string (tx U3)) W := add_tx U2 [58] U3 hU3 m3
            have s4 : ∀ W : World, (Op.stringOp .add (tx U3) ⟨#[103]⟩).run Tryd.prog W = .ok (.string (tx U4)) W := add_tx U3 [103] U4 hU4 m4
            have s5 : ∀ W : World, (Op.stringOp .add (tx U4) ⟨#[59, 10]⟩).run Tryd.prog W = .ok (.string (tx U5)) W := add_tx U4 [59, 10] U5 hU5 m5
            have HU := Lib.hid hU
            clear hU hU1 hU2 hU3 hU4 hU5 m1 m2 m3 m4 m5 hx hA hB hmax hy hf hZ m0
            clear hk0 hlast hm hrn j1 l1
            go_wp2_with fail
            refine (rput_t xi y HY.out.1 HY.out.2 wr).mono ?_
            rintro e w3 ⟨rfl, hb⟩
            have H3 := Lib.hid (HH.out.2.trans (hb.mono HH.out.2.size))
            clear hb k0 k1 k2 k3 k4 c0 c1
            obtain ⟨k0, k1, k2, k3, k4⟩ := five_cells (kept_box HA.out.2.1 H3.out)
            go_wp2_with fail
            go_roundg (gk - 1)
            case measure => omega
            case rel => exact ⟨k + 1, U5, by omega, rfl, by go_num, HU.out, H3.out⟩
          by_cases n1 : xc = 1
          · subst n1
            obtain ⟨Z, hZ⟩ : ∃ Z, S ++ [114, 101, 103, 115] = Z := ⟨_, rfl⟩
            obtain ⟨U1, hU1⟩ : ∃ U1, Z ++ [32, 37] = U1 := ⟨_, rfl⟩
            obtain ⟨U2, hU2⟩ : ∃ U2, U1 ++ y = U2 := ⟨_, rfl⟩
            obtain ⟨U3, hU3⟩ : ∃ U3, U2 ++ [58] = U3 := ⟨_, rfl⟩
            obtain ⟨U4, hU4⟩ : ∃ U4, U3 ++ [120] = U4 := ⟨_, rfl⟩
            obtain ⟨U5, hU5⟩ : ∃ U5, U4 ++ [59, 10] = U5 := ⟨_, rfl⟩
            have hA : (if k = 0 then ([114, 101, 103, 115] : List UInt8) else []) = [114, 101, 103, 115] := if_pos hk0
            have hB : (if k + 1 = regs.length then ([59, 10] : List UInt8) else []) = [59, 10] := if_pos hlast
            have hU : T4 ++ regsK regs (k + 1) = U5 := by rw [regsK_step regs k _ hx, hA, hB, ← hU5, ← hU4, ← hU3, ← hU2, ← hU1, ← hZ, ← HH.out.1]; simp [regT, vregT, Tg.letter, hy]
            have m5 : U5.length ≤ big := by rw [← hU]; exact hmax
            have m4 : U4.length ≤ big := by rw [← hU5, List.length_append] at m5; omega
            have m3 : U3.length ≤ big := by rw [← hU4, List.length_append] at m4; omega
            have m2 : U2.length ≤ big := by rw [← hU3, List.length_append] at m3; omega
            have m1 : U1.length ≤ big := by rw [← hU2, List.length_append] at m2; omega
            have m0 : Z.length ≤ big := by rw [← hU1, List.length_append] at m1; omega
            have s0 : ∀ W : World, (Op.stringOp .add (tx S) ⟨#[114, 101, 103, 115]⟩).run Tryd.prog W = .ok (.string (tx Z)) W := add_tx S [114, 101, 103, 115] Z hZ m0
            have s1 : ∀ W : World, (Op.stringOp .add (tx Z) ⟨#[32, 37]⟩).run Tryd.prog W = .ok (.string (tx U1)) W := add_tx Z [32, 37] U1 hU1 m1
            have s2 : ∀ W : World, (Op.stringOp .add (tx U1) (tx y)).run Tryd.prog W = .ok (.string (tx U2)) W := add_tx U1 y U2 hU2 m2
            have s3 : ∀ W : World, (Op.stringOp .add (tx U2) ⟨#[58]⟩).run Tryd.prog W = .ok (.string (tx U3)) W := add_tx U2 [58] U3 hU3 m3
            have s4 : ∀ W : World, (Op.stringOp .add (tx U3) ⟨#[120]⟩).run Tryd.prog W = .ok (.string (tx U4)) W := add_tx U3 [120] U4 hU4 m4
            have s5 : ∀ W : World, (Op.stringOp .add (tx U4) ⟨#[59, 10]⟩).run Tryd.prog W = .ok (.string (tx U5)) W := add_tx U4 [59, 10] U5 hU5 m5
            have HU := Lib.hid hU
            clear hU hU1 hU2 hU3 hU4 hU5 m1 m2 m3 m4 m5 hx hA hB hmax hy hf hZ m0
            clear hk0 hlast hm hrn j1 l1
            go_wp2_with fail
            refine (rput_t xi y HY.out.1 HY.out.2 wr).mono ?_
            rintro e w3 ⟨rfl, hb⟩
            have H3 := Lib.hid (HH.out.2.trans (hb.mono HH.out.2.size))
            clear hb k0 k1 k2 k3 k4 c0 c1
            obtain ⟨k0, k1, k2, k3, k4⟩ := five_cells (kept_box HA.out.2.1 H3.out)
            go_wp2_with fail
            go_roundg (gk - 1)
            case measure => omega
            case rel => exact ⟨k + 1, U5, by omega, rfl, by go_num, HU.out, H3.out⟩
          have n0b : (xc == 0) = false := by simpa using n0
          have n1b : (xc == 1) = false := by simpa using n1
          obtain ⟨Z, hZ⟩ : ∃ Z, S ++ [114, 101, 103, 115] = Z := ⟨_, rfl⟩
          obtain ⟨U1, hU1⟩ : ∃ U1, Z ++ [32, 37] = U1 := ⟨_, rfl⟩
          obtain ⟨U2, hU2⟩ : ∃ U2, U1 ++ y = U2 := ⟨_, rfl⟩
          obtain ⟨U3, hU3⟩ : ∃ U3, U2 ++ [58] = U3 := ⟨_, rfl⟩
          obtain ⟨U4, hU4⟩ : ∃ U4, U3 ++ [] = U4 := ⟨_, rfl⟩
          obtain ⟨U5, hU5⟩ : ∃ U5, U4 ++ [59, 10] = U5 := ⟨_, rfl⟩
          have hA : (if k = 0 then ([114, 101, 103, 115] : List UInt8) else []) = [114, 101, 103, 115] := if_pos hk0
          have hB : (if k + 1 = regs.length then ([59, 10] : List UInt8) else []) = [59, 10] := if_pos hlast
          have hU : T4 ++ regsK regs (k + 1) = U5 := by rw [regsK_step regs k _ hx, hA, hB, ← hU5, ← hU4, ← hU3, ← hU2, ← hU1, ← hZ, ← HH.out.1]; simp [regT, vregT, Tg.letter, hy, n0, n1]
          have m5 : U5.length ≤ big := by rw [← hU]; exact hmax
          have m4 : U4.length ≤ big := by rw [← hU5, List.length_append] at m5; omega
          have m3 : U3.length ≤ big := by rw [← hU4, List.length_append] at m4; omega
          have m2 : U2.length ≤ big := by rw [← hU3, List.length_append] at m3; omega
          have m1 : U1.length ≤ big := by rw [← hU2, List.length_append] at m2; omega
          have m0 : Z.length ≤ big := by rw [← hU1, List.length_append] at m1; omega
          have s0 : ∀ W : World, (Op.stringOp .add (tx S) ⟨#[114, 101, 103, 115]⟩).run Tryd.prog W = .ok (.string (tx Z)) W := add_tx S [114, 101, 103, 115] Z hZ m0
          have s1 : ∀ W : World, (Op.stringOp .add (tx Z) ⟨#[32, 37]⟩).run Tryd.prog W = .ok (.string (tx U1)) W := add_tx Z [32, 37] U1 hU1 m1
          have s2 : ∀ W : World, (Op.stringOp .add (tx U1) (tx y)).run Tryd.prog W = .ok (.string (tx U2)) W := add_tx U1 y U2 hU2 m2
          have s3 : ∀ W : World, (Op.stringOp .add (tx U2) ⟨#[58]⟩).run Tryd.prog W = .ok (.string (tx U3)) W := add_tx U2 [58] U3 hU3 m3
          have s4 : ∀ W : World, (Op.stringOp .add (tx U3) ⟨#[]⟩).run Tryd.prog W = .ok (.string (tx U4)) W := add_tx U3 [] U4 hU4 m4
          have s5 : ∀ W : World, (Op.stringOp .add (tx U4) ⟨#[59, 10]⟩).run Tryd.prog W = .ok (.string (tx U5)) W := add_tx U4 [59, 10] U5 hU5 m5
          have HU := Lib.hid hU
          clear hU hU1 hU2 hU3 hU4 hU5 m1 m2 m3 m4 m5 hx hA hB hmax hy hf hZ m0
          clear hk0 hlast hm hrn j1 l1
          go_wp2_with fail
          refine (rput_t xi y HY.out.1 HY.out.2 wr).mono ?_
          rintro e w3 ⟨rfl, hb⟩
          have H3 := Lib.hid (HH.out.2.trans (hb.mono HH.out.2.size))
          clear hb k0 k1 k2 k3 k4 c0 c1
          obtain ⟨k0, k1, k2, k3, k4⟩ := five_cells (kept_box HA.out.2.1 H3.out)
          go_wp2_with fail
          go_roundg (gk - 1)
          case measure => omega
          case rel => exact ⟨k + 1, U5, by omega, rfl, by go_num, HU.out, H3.out⟩
        · have l1 : ¬ (k : Int) = (m : Int) := by omega
          have l2 : ((k : Int) == (m : Int)) = false := by simpa using l1
          by_cases n0 : xc = 0
          · subst n0
            obtain ⟨Z, hZ⟩ : ∃ Z, S ++ [114, 101, 103, 115] = Z := ⟨_, rfl⟩
            obtain ⟨U1, hU1⟩ : ∃ U1, Z ++ [32, 37] = U1 := ⟨_, rfl⟩
            obtain ⟨U2, hU2⟩ : ∃ U2, U1 ++ y = U2 := ⟨_, rfl⟩
            obtain ⟨U3, hU3⟩ : ∃ U3, U2 ++ [58] = U3 := ⟨_, rfl⟩
            obtain ⟨U4, hU4⟩ : ∃ U4, U3 ++ [103] = U4 := ⟨_, rfl⟩
            obtain ⟨U5, hU5⟩ : ∃ U5, U4 = U5 := ⟨_, rfl⟩
            have hA : (if k = 0 then ([114, 101, 103, 115] : List UInt8) else []) = [114, 101, 103, 115] := if_pos hk0
            have hB : (if k + 1 = regs.length then ([59, 10] : List UInt8) else []) = [] := if_neg hlast
            have hU : T4 ++ regsK regs (k + 1) = U5 := by rw [regsK_step regs k _ hx, hA, hB, ← hU5, ← hU4, ← hU3, ← hU2, ← hU1, ← hZ, ← HH.out.1]; simp [regT, vregT, Tg.letter, hy]
            have m5 : U5.length ≤ big := by rw [← hU]; exact hmax
            have m4 : U4.length ≤ big := by rw [hU5]; exact m5
            have m3 : U3.length ≤ big := by rw [← hU4, List.length_append] at m4; omega
            have m2 : U2.length ≤ big := by rw [← hU3, List.length_append] at m3; omega
            have m1 : U1.length ≤ big := by rw [← hU2, List.length_append] at m2; omega
            have m0 : Z.length ≤ big := by rw [← hU1, List.length_append] at m1; omega
            have s0 : ∀ W : World, (Op.stringOp .add (tx S) ⟨#[114, 101, 103, 115]⟩).run Tryd.prog W = .ok (.string (tx Z)) W := add_tx S [114, 101, 103, 115] Z hZ m0
            have s1 : ∀ W : World, (Op.stringOp .add (tx Z) ⟨#[32, 37]⟩).run Tryd.prog W = .ok (.string (tx U1)) W := add_tx Z [32, 37] U1 hU1 m1
            have s2 : ∀ W : World, (Op.stringOp .add (tx U1) (tx y)).run Tryd.prog W = .ok (.string (tx U2)) W := add_tx U1 y U2 hU2 m2
            have s3 : ∀ W : World, (Op.stringOp .add (tx U2) ⟨#[58]⟩).run Tryd.prog W = .ok (.string (tx U3)) W := add_tx U2 [58] U3 hU3 m3
            have s4 : ∀ W : World, (Op.stringOp .add (tx U3) ⟨#[103]⟩).run Tryd.prog W = .ok (.string (tx U4)) W := add_tx U3 [103] U4 hU4 m4
            subst hU5
            have HU := Lib.hid hU
            clear hU hU1 hU2 hU3 hU4 m1 m2 m3 m4 m5 hx hA hB hmax hy hf hZ m0
            clear hk0 hlast hm hrn j1
            go_wp2_with fail
            refine (rput_t xi y HY.out.1 HY.out.2 wr).mono ?_
            rintro e w3 ⟨rfl, hb⟩
            have H3 := Lib.hid (HH.out.2.trans (hb.mono HH.out.2.size))
            clear hb k0 k1 k2 k3 k4 c0 c1
            obtain ⟨k0, k1, k2, k3, k4⟩ := five_cells (kept_box HA.out.2.1 H3.out)
            go_wp2_with fail
            go_roundg (gk - 1)
            case measure => omega
            case rel => exact ⟨k + 1, U4, by omega, rfl, by go_num, HU.out, H3.out⟩
          by_cases n1 : xc = 1
          · subst n1
            obtain ⟨Z, hZ⟩ : ∃ Z, S ++ [114, 101, 103, 115] = Z := ⟨_, rfl⟩
            obtain ⟨U1, hU1⟩ : ∃ U1, Z ++ [32, 37] = U1 := ⟨_, rfl⟩
            obtain ⟨U2, hU2⟩ : ∃ U2, U1 ++ y = U2 := ⟨_, rfl⟩
            obtain ⟨U3, hU3⟩ : ∃ U3, U2 ++ [58] = U3 := ⟨_, rfl⟩
            obtain ⟨U4, hU4⟩ : ∃ U4, U3 ++ [120] = U4 := ⟨_, rfl⟩
            obtain ⟨U5, hU5⟩ : ∃ U5, U4 = U5 := ⟨_, rfl⟩
            have hA : (if k = 0 then ([114, 101, 103, 115] : List UInt8) else []) = [114, 101, 103, 115] := if_pos hk0
            have hB : (if k + 1 = regs.length then ([59, 10] : List UInt8) else []) = [] := if_neg hlast
            have hU : T4 ++ regsK regs (k + 1) = U5 := by rw [regsK_step regs k _ hx, hA, hB, ← hU5, ← hU4, ← hU3, ← hU2, ← hU1, ← hZ, ← HH.out.1]; simp [regT, vregT, Tg.letter, hy]
            have m5 : U5.length ≤ big := by rw [← hU]; exact hmax
            have m4 : U4.length ≤ big := by rw [hU5]; exact m5
            have m3 : U3.length ≤ big := by rw [← hU4, List.length_append] at m4; omega
            have m2 : U2.length ≤ big := by rw [← hU3, List.length_append] at m3; omega
            have m1 : U1.length ≤ big := by rw [← hU2, List.length_append] at m2; omega
            have m0 : Z.length ≤ big := by rw [← hU1, List.length_append] at m1; omega
            have s0 : ∀ W : World, (Op.stringOp .add (tx S) ⟨#[114, 101, 103, 115]⟩).run Tryd.prog W = .ok (.string (tx Z)) W := add_tx S [114, 101, 103, 115] Z hZ m0
            have s1 : ∀ W : World, (Op.stringOp .add (tx Z) ⟨#[32, 37]⟩).run Tryd.prog W = .ok (.string (tx U1)) W := add_tx Z [32, 37] U1 hU1 m1
            have s2 : ∀ W : World, (Op.stringOp .add (tx U1) (tx y)).run Tryd.prog W = .ok (.string (tx U2)) W := add_tx U1 y U2 hU2 m2
            have s3 : ∀ W : World, (Op.stringOp .add (tx U2) ⟨#[58]⟩).run Tryd.prog W = .ok (.string (tx U3)) W := add_tx U2 [58] U3 hU3 m3
            have s4 : ∀ W : World, (Op.stringOp .add (tx U3) ⟨#[120]⟩).run Tryd.prog W = .ok (.string (tx U4)) W := add_tx U3 [120] U4 hU4 m4
            subst hU5
            have HU := Lib.hid hU
            clear hU hU1 hU2 hU3 hU4 m1 m2 m3 m4 m5 hx hA hB hmax hy hf hZ m0
            clear hk0 hlast hm hrn j1
            go_wp2_with fail
            refine (rput_t xi y HY.out.1 HY.out.2 wr).mono ?_
            rintro e w3 ⟨rfl, hb⟩
            have H3 := Lib.hid (HH.out.2.trans (hb.mono HH.out.2.size))
            clear hb k0 k1 k2 k3 k4 c0 c1
            obtain ⟨k0, k1, k2, k3, k4⟩ := five_cells (kept_box HA.out.2.1 H3.out)
            go_wp2_with fail
            go_roundg (gk - 1)
            case measure => omega
            case rel => exact ⟨k + 1, U4, by omega, rfl, by go_num, HU.out, H3.out⟩
          have n0b : (xc == 0) = false := by simpa using n0
          have n1b : (xc == 1) = false := by simpa using n1
          obtain ⟨Z, hZ⟩ : ∃ Z, S ++ [114, 101, 103, 115] = Z := ⟨_, rfl⟩
          obtain ⟨U1, hU1⟩ : ∃ U1, Z ++ [32, 37] = U1 := ⟨_, rfl⟩
          obtain ⟨U2, hU2⟩ : ∃ U2, U1 ++ y = U2 := ⟨_, rfl⟩
          obtain ⟨U3, hU3⟩ : ∃ U3, U2 ++ [58] = U3 := ⟨_, rfl⟩
          obtain ⟨U4, hU4⟩ : ∃ U4, U3 ++ [] = U4 := ⟨_, rfl⟩
          obtain ⟨U5, hU5⟩ : ∃ U5, U4 = U5 := ⟨_, rfl⟩
          have hA : (if k = 0 then ([114, 101, 103, 115] : List UInt8) else []) = [114, 101, 103, 115] := if_pos hk0
          have hB : (if k + 1 = regs.length then ([59, 10] : List UInt8) else []) = [] := if_neg hlast
          have hU : T4 ++ regsK regs (k + 1) = U5 := by rw [regsK_step regs k _ hx, hA, hB, ← hU5, ← hU4, ← hU3, ← hU2, ← hU1, ← hZ, ← HH.out.1]; simp [regT, vregT, Tg.letter, hy, n0, n1]
          have m5 : U5.length ≤ big := by rw [← hU]; exact hmax
          have m4 : U4.length ≤ big := by rw [hU5]; exact m5
          have m3 : U3.length ≤ big := by rw [← hU4, List.length_append] at m4; omega
          have m2 : U2.length ≤ big := by rw [← hU3, List.length_append] at m3; omega
          have m1 : U1.length ≤ big := by rw [← hU2, List.length_append] at m2; omega
          have m0 : Z.length ≤ big := by rw [← hU1, List.length_append] at m1; omega
          have s0 : ∀ W : World, (Op.stringOp .add (tx S) ⟨#[114, 101, 103, 115]⟩).run Tryd.prog W = .ok (.string (tx Z)) W := add_tx S [114, 101, 103, 115] Z hZ m0
          have s1 : ∀ W : World, (Op.stringOp .add (tx Z) ⟨#[32, 37]⟩).run Tryd.prog W = .ok (.string (tx U1)) W := add_tx Z [32, 37] U1 hU1 m1
          have s2 : ∀ W : World, (Op.stringOp .add (tx U1) (tx y)).run Tryd.prog W = .ok (.string (tx U2)) W := add_tx U1 y U2 hU2 m2
          have s3 : ∀ W : World, (Op.stringOp .add (tx U2) ⟨#[58]⟩).run Tryd.prog W = .ok (.string (tx U3)) W := add_tx U2 [58] U3 hU3 m3
          have s4 : ∀ W : World, (Op.stringOp .add (tx U3) ⟨#[]⟩).run Tryd.prog W = .ok (.string (tx U4)) W := add_tx U3 [] U4 hU4 m4
          subst hU5
          have HU := Lib.hid hU
          clear hU hU1 hU2 hU3 hU4 m1 m2 m3 m4 m5 hx hA hB hmax hy hf hZ m0
          clear hk0 hlast hm hrn j1
          go_wp2_with fail
          refine (rput_t xi y HY.out.1 HY.out.2 wr).mono ?_
          rintro e w3 ⟨rfl, hb⟩
          have H3 := Lib.hid (HH.out.2.trans (hb.mono HH.out.2.size))
          clear hb k0 k1 k2 k3 k4 c0 c1
          obtain ⟨k0, k1, k2, k3, k4⟩ := five_cells (kept_box HA.out.2.1 H3.out)
          go_wp2_with fail
          go_roundg (gk - 1)
          case measure => omega
          case rel => exact ⟨k + 1, U4, by omega, rfl, by go_num, HU.out, H3.out⟩
      · have j1 : ¬ (k : Int) = 0 := by omega
        have j2 : ((k : Int) == 0) = false := by simpa using j1
        by_cases hlast : k + 1 = regs.length
        · have l1 : (k : Int) = (m : Int) := by omega
          have l2 : ((k : Int) == (m : Int)) = true := by simpa using l1
          by_cases n0 : xc = 0
          · subst n0
            obtain ⟨Z, hZ⟩ : ∃ Z, S = Z := ⟨_, rfl⟩
            obtain ⟨U1, hU1⟩ : ∃ U1, Z ++ [32, 37] = U1 := ⟨_, rfl⟩
            obtain ⟨U2, hU2⟩ : ∃ U2, U1 ++ y = U2 := ⟨_, rfl⟩
            obtain ⟨U3, hU3⟩ : ∃ U3, U2 ++ [58] = U3 := ⟨_, rfl⟩
            obtain ⟨U4, hU4⟩ : ∃ U4, U3 ++ [103] = U4 := ⟨_, rfl⟩
            obtain ⟨U5, hU5⟩ : ∃ U5, U4 ++ [59, 10] = U5 := ⟨_, rfl⟩
            have hA : (if k = 0 then ([114, 101, 103, 115] : List UInt8) else []) = [] := if_neg hk0
            have hB : (if k + 1 = regs.length then ([59, 10] : List UInt8) else []) = [59, 10] := if_pos hlast
            have hU : T4 ++ regsK regs (k + 1) = U5 := by rw [regsK_step regs k _ hx, hA, hB, ← hU5, ← hU4, ← hU3, ← hU2, ← hU1, ← hZ, ← HH.out.1]; simp [regT, vregT, Tg.letter, hy]
            have m5 : U5.length ≤ big := by rw [← hU]; exact hmax
            have m4 : U4.length ≤ big := by rw [← hU5, List.length_append] at m5; omega
            have m3 : U3.length ≤ big := by rw [← hU4, List.length_append] at m4; omega
            have m2 : U2.length ≤ big := by rw [← hU3, List.length_append] at m3; omega
            have m1 : U1.length ≤ big := by rw [← hU2, List.length_append] at m2; omega
            subst hZ
            have s1 : ∀ W : World, (Op.stringOp .add (tx S) ⟨#[32, 37]⟩).run Tryd.prog W = .ok (.string (tx U1)) W := add_tx S [32, 37] U1 hU1 m1
            have s2 : ∀ W : World, (Op.stringOp .add (tx U1) (tx y)).run Tryd.prog W = .ok (.string (tx U2)) W := add_tx U1 y U2 hU2 m2
            have s3 : ∀ W : World, (Op.stringOp .add (tx U2) ⟨#[58]⟩).run Tryd.prog W = .ok (.string (tx U3)) W := add_tx U2 [58] U3 hU3 m3
            have s4 : ∀ W : World, (Op.stringOp .add (tx U3) ⟨#[103]⟩).run Tryd.prog W = .ok (.string (tx U4)) W := add_tx U3 [103] U4 hU4 m4
            have s5 : ∀ W : World, (Op.stringOp .add (tx U4) ⟨#[59, 10]⟩).run Tryd.prog W = .ok (.string (tx U5)) W := add_tx U4 [59, 10] U5 hU5 m5
            have HU := Lib.hid hU
            clear hU hU1 hU2 hU3 hU4 hU5 m1 m2 m3 m4 m5 hx hA hB hmax hy hf
            clear hk0 hlast hm hrn l1
            go_wp2_with fail
            refine (rput_t xi y HY.out.1 HY.out.2 wr).mono ?_
            rintro e w3 ⟨rfl, hb⟩
            have H3 := Lib.hid (HH.out.2.trans (hb.mono HH.out.2.size))
            clear hb k0 k1 k2 k3 k4 c0 c1
            obtain ⟨k0, k1, k2, k3, k4⟩ := five_cells (kept_box HA.out.2.1 H3.out)
            go_wp2_with fail
            go_roundg (gk - 1)
            case measure => omega
            case rel => exact ⟨k + 1, U5, by omega, rfl, by go_num, HU.out, H3.out⟩
          by_cases n1 : xc = 1
          · subst n1
            obtain ⟨Z, hZ⟩ : ∃ Z, S = Z := ⟨_, rfl⟩
            obtain ⟨U1, hU1⟩ : ∃ U1, Z ++ [32, 37] = U1 := ⟨_, rfl⟩
            obtain ⟨U2, hU2⟩ : ∃ U2, U1 ++ y = U2 := ⟨_, rfl⟩
            obtain ⟨U3, hU3⟩ : ∃ U3, U2 ++ [58] = U3 := ⟨_, rfl⟩
            obtain ⟨U4, hU4⟩ : ∃ U4, U3 ++ [120] = U4 := ⟨_, rfl⟩
            obtain ⟨U5, hU5⟩ : ∃ U5, U4 ++ [59, 10] = U5 := ⟨_, rfl⟩
            have hA : (if k = 0 then ([114, 101, 103, 115] : List UInt8) else []) = [] := if_neg hk0
            have hB : (if k + 1 = regs.length then ([59, 10] : List UInt8) else []) = [59, 10] := if_pos hlast
            have hU : T4 ++ regsK regs (k + 1) = U5 := by rw [regsK_step regs k _ hx, hA, hB, ← hU5, ← hU4, ← hU3, ← hU2, ← hU1, ← hZ, ← HH.out.1]; simp [regT, vregT, Tg.letter, hy]
            have m5 : U5.length ≤ big := by rw [← hU]; exact hmax
            have m4 : U4.length ≤ big := by rw [← hU5, List.length_append] at m5; omega
            have m3 : U3.length ≤ big := by rw [← hU4, List.length_append] at m4; omega
            have m2 : U2.length ≤ big := by rw [← hU3, List.length_append] at m3; omega
            have m1 : U1.length ≤ big := by rw [← hU2, List.length_append] at m2; omega
            subst hZ
            have s1 : ∀ W : World, (Op.stringOp .add (tx S) ⟨#[32, 37]⟩).run Tryd.prog W = .ok (.string (tx U1)) W := add_tx S [32, 37] U1 hU1 m1
            have s2 : ∀ W : World, (Op.stringOp .add (tx U1) (tx y)).run Tryd.prog W = .ok (.string (tx U2)) W := add_tx U1 y U2 hU2 m2
            have s3 : ∀ W : World, (Op.stringOp .add (tx U2) ⟨#[58]⟩).run Tryd.prog W = .ok (.string (tx U3)) W := add_tx U2 [58] U3 hU3 m3
            have s4 : ∀ W : World, (Op.stringOp .add (tx U3) ⟨#[120]⟩).run Tryd.prog W = .ok (.string (tx U4)) W := add_tx U3 [120] U4 hU4 m4
            have s5 : ∀ W : World, (Op.stringOp .add (tx U4) ⟨#[59, 10]⟩).run Tryd.prog W = .ok (.string (tx U5)) W := add_tx U4 [59, 10] U5 hU5 m5
            have HU := Lib.hid hU
            clear hU hU1 hU2 hU3 hU4 hU5 m1 m2 m3 m4 m5 hx hA hB hmax hy hf
            clear hk0 hlast hm hrn l1
            go_wp2_with fail
            refine (rput_t xi y HY.out.1 HY.out.2 wr).mono ?_
            rintro e w3 ⟨rfl, hb⟩
            have H3 := Lib.hid (HH.out.2.trans (hb.mono HH.out.2.size))
            clear hb k0 k1 k2 k3 k4 c0 c1
            obtain ⟨k0, k1, k2, k3, k4⟩ := five_cells (kept_box HA.out.2.1 H3.out)
            go_wp2_with fail
            go_roundg (gk - 1)
            case measure => omega
            case rel => exact ⟨k + 1, U5, by omega, rfl, by go_num, HU.out, H3.out⟩
          have n0b : (xc == 0) = false := by simpa using n0
          have n1b : (xc == 1) = false := by simpa using n1
          obtain ⟨Z, hZ⟩ : ∃ Z, S = Z := ⟨_, rfl⟩
          obtain ⟨U1, hU1⟩ : ∃ U1, Z ++ [32, 37] = U1 := ⟨_, rfl⟩
          obtain ⟨U2, hU2⟩ : ∃ U2, U1 ++ y = U2 := ⟨_, rfl⟩
          obtain ⟨U3, hU3⟩ : ∃ U3, U2 ++ [58] = U3 := ⟨_, rfl⟩
          obtain ⟨U4, hU4⟩ : ∃ U4, U3 ++ [] = U4 := ⟨_, rfl⟩
          obtain ⟨U5, hU5⟩ : ∃ U5, U4 ++ [59, 10] = U5 := ⟨_, rfl⟩
          have hA : (if k = 0 then ([114, 101, 103, 115] : List UInt8) else []) = [] := if_neg hk0
          have hB : (if k + 1 = regs.length then ([59, 10] : List UInt8) else []) = [59, 10] := if_pos hlast
          have hU : T4 ++ regsK regs (k + 1) = U5 := by rw [regsK_step regs k _ hx, hA, hB, ← hU5, ← hU4, ← hU3, ← hU2, ← hU1, ← hZ, ← HH.out.1]; simp [regT, vregT, Tg.letter, hy, n0, n1]
          have m5 : U5.length ≤ big := by rw [← hU]; exact hmax
          have m4 : U4.length ≤ big := by rw [← hU5, List.length_append] at m5; omega
          have m3 : U3.length ≤ big := by rw [← hU4, List.length_append] at m4; omega
          have m2 : U2.length ≤ big := by rw [← hU3, List.length_append] at m3; omega
          have m1 : U1.length ≤ big := by rw [← hU2, List.length_append] at m2; omega
          subst hZ
          have s1 : ∀ W : World, (Op.stringOp .add (tx S) ⟨#[32, 37]⟩).run Tryd.prog W = .ok (.string (tx U1)) W := add_tx S [32, 37] U1 hU1 m1
          have s2 : ∀ W : World, (Op.stringOp .add (tx U1) (tx y)).run Tryd.prog W = .ok (.string (tx U2)) W := add_tx U1 y U2 hU2 m2
          have s3 : ∀ W : World, (Op.stringOp .add (tx U2) ⟨#[58]⟩).run Tryd.prog W = .ok (.string (tx U3)) W := add_tx U2 [58] U3 hU3 m3
          have s4 : ∀ W : World, (Op.stringOp .add (tx U3) ⟨#[]⟩).run Tryd.prog W = .ok (.string (tx U4)) W := add_tx U3 [] U4 hU4 m4
          have s5 : ∀ W : World, (Op.stringOp .add (tx U4) ⟨#[59, 10]⟩).run Tryd.prog W = .ok (.string (tx U5)) W := add_tx U4 [59, 10] U5 hU5 m5
          have HU := Lib.hid hU
          clear hU hU1 hU2 hU3 hU4 hU5 m1 m2 m3 m4 m5 hx hA hB hmax hy hf
          clear hk0 hlast hm hrn l1
          go_wp2_with fail
          refine (rput_t xi y HY.out.1 HY.out.2 wr).mono ?_
          rintro e w3 ⟨rfl, hb⟩
          have H3 := Lib.hid (HH.out.2.trans (hb.mono HH.out.2.size))
          clear hb k0 k1 k2 k3 k4 c0 c1
          obtain ⟨k0, k1, k2, k3, k4⟩ := five_cells (kept_box HA.out.2.1 H3.out)
          go_wp2_with fail
          go_roundg (gk - 1)
          case measure => omega
          case rel => exact ⟨k + 1, U5, by omega, rfl, by go_num, HU.out, H3.out⟩
        · have l1 : ¬ (k : Int) = (m : Int) := by omega
          have l2 : ((k : Int) == (m : Int)) = false := by simpa using l1
          by_cases n0 : xc = 0
          · subst n0
            obtain ⟨Z, hZ⟩ : ∃ Z, S = Z := ⟨_, rfl⟩
            obtain ⟨U1, hU1⟩ : ∃ U1, Z ++ [32, 37] = U1 := ⟨_, rfl⟩
            obtain ⟨U2, hU2⟩ : ∃ U2, U1 ++ y = U2 := ⟨_, rfl⟩
            obtain ⟨U3, hU3⟩ : ∃ U3, U2 ++ [58] = U3 := ⟨_, rfl⟩
            obtain ⟨U4, hU4⟩ : ∃ U4, U3 ++ [103] = U4 := ⟨_, rfl⟩
            obtain ⟨U5, hU5⟩ : ∃ U5, U4 = U5 := ⟨_, rfl⟩
            have hA : (if k = 0 then ([114, 101, 103, 115] : List UInt8) else []) = [] := if_neg hk0
            have hB : (if k + 1 = regs.length then ([59, 10] : List UInt8) else []) = [] := if_neg hlast
            have hU : T4 ++ regsK regs (k + 1) = U5 := by rw [regsK_step regs k _ hx, hA, hB, ← hU5, ← hU4, ← hU3, ← hU2, ← hU1, ← hZ, ← HH.out.1]; simp [regT, vregT, Tg.letter, hy]
            have m5 : U5.length ≤ big := by rw [← hU]; exact hmax
            have m4 : U4.length ≤ big := by rw [hU5]; exact m5
            have m3 : U3.length ≤ big := by rw [← hU4, List.length_append] at m4; omega
            have m2 : U2.length ≤ big := by rw [← hU3, List.length_append] at m3; omega
            have m1 : U1.length ≤ big := by rw [← hU2, List.length_append] at m2; omega
            subst hZ
            have s1 : ∀ W : World, (Op.stringOp .add (tx S) ⟨#[32, 37]⟩).run Tryd.prog W = .ok (.string (tx U1)) W := add_tx S [32, 37] U1 hU1 m1
            have s2 : ∀ W : World, (Op.stringOp .add (tx U1) (tx y)).run Tryd.prog W = .ok (.string (tx U2)) W := add_tx U1 y U2 hU2 m2
            have s3 : ∀ W : World, (Op.stringOp .add (tx U2) ⟨#[58]⟩).run Tryd.prog W = .ok (.string (tx U3)) W := add_tx U2 [58] U3 hU3 m3
            have s4 : ∀ W : World, (Op.stringOp .add (tx U3) ⟨#[103]⟩).run Tryd.prog W = .ok (.string (tx U4)) W := add_tx U3 [103] U4 hU4 m4
            subst hU5
            have HU := Lib.hid hU
            clear hU hU1 hU2 hU3 hU4 m1 m2 m3 m4 m5 hx hA hB hmax hy hf
            clear hk0 hlast hm hrn
            go_wp2_with fail
            refine (rput_t xi y HY.out.1 HY.out.2 wr).mono ?_
            rintro e w3 ⟨rfl, hb⟩
            have H3 := Lib.hid (HH.out.2.trans (hb.mono HH.out.2.size))
            clear hb k0 k1 k2 k3 k4 c0 c1
            obtain ⟨k0, k1, k2, k3, k4⟩ := five_cells (kept_box HA.out.2.1 H3.out)
            go_wp2_with fail
            go_roundg (gk - 1)
            case measure => omega
            case rel => exact ⟨k + 1, U4, by omega, rfl, by go_num, HU.out, H3.out⟩
          by_cases n1 : xc = 1
          · subst n1
            obtain ⟨Z, hZ⟩ : ∃ Z, S = Z := ⟨_, rfl⟩
            obtain ⟨U1, hU1⟩ : ∃ U1, Z ++ [32, 37] = U1 := ⟨_, rfl⟩
            obtain ⟨U2, hU2⟩ : ∃ U2, U1 ++ y = U2 := ⟨_, rfl⟩
            obtain ⟨U3, hU3⟩ : ∃ U3, U2 ++ [58] = U3 := ⟨_, rfl⟩
            obtain ⟨U4, hU4⟩ : ∃ U4, U3 ++ [120] = U4 := ⟨_, rfl⟩
            obtain ⟨U5, hU5⟩ : ∃ U5, U4 = U5 := ⟨_, rfl⟩
            have hA : (if k = 0 then ([114, 101, 103, 115] : List UInt8) else []) = [] := if_neg hk0
            have hB : (if k + 1 = regs.length then ([59, 10] : List UInt8) else []) = [] := if_neg hlast
            have hU : T4 ++ regsK regs (k + 1) = U5 := by rw [regsK_step regs k _ hx, hA, hB, ← hU5, ← hU4, ← hU3, ← hU2, ← hU1, ← hZ, ← HH.out.1]; simp [regT, vregT, Tg.letter, hy]
            have m5 : U5.length ≤ big := by rw [← hU]; exact hmax
            have m4 : U4.length ≤ big := by rw [hU5]; exact m5
            have m3 : U3.length ≤ big := by rw [← hU4, List.length_append] at m4; omega
            have m2 : U2.length ≤ big := by rw [← hU3, List.length_append] at m3; omega
            have m1 : U1.length ≤ big := by rw [← hU2, List.length_append] at m2; omega
            subst hZ
            have s1 : ∀ W : World, (Op.stringOp .add (tx S) ⟨#[32, 37]⟩).run Tryd.prog W = .ok (.string (tx U1)) W := add_tx S [32, 37] U1 hU1 m1
            have s2 : ∀ W : World, (Op.stringOp .add (tx U1) (tx y)).run Tryd.prog W = .ok (.string (tx U2)) W := add_tx U1 y U2 hU2 m2
            have s3 : ∀ W : World, (Op.stringOp .add (tx U2) ⟨#[58]⟩).run Tryd.prog W = .ok (.string (tx U3)) W := add_tx U2 [58] U3 hU3 m3
            have s4 : ∀ W : World, (Op.stringOp .add (tx U3) ⟨#[120]⟩).run Tryd.prog W = .ok (.string (tx U4)) W := add_tx U3 [120] U4 hU4 m4
            subst hU5
            have HU := Lib.hid hU
            clear hU hU1 hU2 hU3 hU4 m1 m2 m3 m4 m5 hx hA hB hmax hy hf
            clear hk0 hlast hm hrn
            go_wp2_with fail
            refine (rput_t xi y HY.out.1 HY.out.2 wr).mono ?_
            rintro e w3 ⟨rfl, hb⟩
            have H3 := Lib.hid (HH.out.2.trans (hb.mono HH.out.2.size))
            clear hb k0 k1 k2 k3 k4 c0 c1
            obtain ⟨k0, k1, k2, k3, k4⟩ := five_cells (kept_box HA.out.2.1 H3.out)
            go_wp2_with fail
            go_roundg (gk - 1)
            case measure => omega
            case rel => exact ⟨k + 1, U4, by omega, rfl, by go_num, HU.out, H3.out⟩
          have n0b : (xc == 0) = false := by simpa using n0
          have n1b : (xc == 1) = false := by simpa using n1
          obtain ⟨Z, hZ⟩ : ∃ Z, S = Z := ⟨_, rfl⟩
          obtain ⟨U1, hU1⟩ : ∃ U1, Z ++ [32, 37] = U1 := ⟨_, rfl⟩
          obtain ⟨U2, hU2⟩ : ∃ U2, U1 ++ y = U2 := ⟨_, rfl⟩
          obtain ⟨U3, hU3⟩ : ∃ U3, U2 ++ [58] = U3 := ⟨_, rfl⟩
          obtain ⟨U4, hU4⟩ : ∃ U4, U3 ++ [] = U4 := ⟨_, rfl⟩
          obtain ⟨U5, hU5⟩ : ∃ U5, U4 = U5 := ⟨_, rfl⟩
          have hA : (if k = 0 then ([114, 101, 103, 115] : List UInt8) else []) = [] := if_neg hk0
          have hB : (if k + 1 = regs.length then ([59, 10] : List UInt8) else []) = [] := if_neg hlast
          have hU : T4 ++ regsK regs (k + 1) = U5 := by rw [regsK_step regs k _ hx, hA, hB, ← hU5, ← hU4, ← hU3, ← hU2, ← hU1, ← hZ, ← HH.out.1]; simp [regT, vregT, Tg.letter, hy, n0, n1]
          have m5 : U5.length ≤ big := by rw [← hU]; exact hmax
          have m4 : U4.length ≤ big := by rw [hU5]; exact m5
          have m3 : U3.length ≤ big := by rw [← hU4, List.length_append] at m4; omega
          have m2 : U2.length ≤ big := by rw [← hU3, List.length_append] at m3; omega
          have m1 : U1.length ≤ big := by rw [← hU2, List.length_append] at m2; omega
          subst hZ
          have s1 : ∀ W : World, (Op.stringOp .add (tx S) ⟨#[32, 37]⟩).run Tryd.prog W = .ok (.string (tx U1)) W := add_tx S [32, 37] U1 hU1 m1
          have s2 : ∀ W : World, (Op.stringOp .add (tx U1) (tx y)).run Tryd.prog W = .ok (.string (tx U2)) W := add_tx U1 y U2 hU2 m2
          have s3 : ∀ W : World, (Op.stringOp .add (tx U2) ⟨#[58]⟩).run Tryd.prog W = .ok (.string (tx U3)) W := add_tx U2 [58] U3 hU3 m3
          have s4 : ∀ W : World, (Op.stringOp .add (tx U3) ⟨#[]⟩).run Tryd.prog W = .ok (.string (tx U4)) W := add_tx U3 [] U4 hU4 m4
          subst hU5
          have HU := Lib.hid hU
          clear hU hU1 hU2 hU3 hU4 m1 m2 m3 m4 m5 hx hA hB hmax hy hf
          clear hk0 hlast hm hrn
          go_wp2_with fail
          refine (rput_t xi y HY.out.1 HY.out.2 wr).mono ?_
          rintro e w3 ⟨rfl, hb⟩
          have H3 := Lib.hid (HH.out.2.trans (hb.mono HH.out.2.size))
          clear hb k0 k1 k2 k3 k4 c0 c1
          obtain ⟨k0, k1, k2, k3, k4⟩ := five_cells (kept_box HA.out.2.1 H3.out)
          go_wp2_with fail
          go_roundg (gk - 1)
          case measure => omega
          case rel => exact ⟨k + 1, U4, by omega, rfl, by go_num, HU.out, H3.out⟩
    · obtain rfl : k = rn := by omega
      have hge : ¬ (k : Int) < (k : Int) := by omega
      have HS := Lib.hid (show T4 ++ regsT regs = S by rw [← HH.out.1, ← HP.out.2.2.2.2.2.2.1, regsK_all])
      go_wp2_with fail
      clear k0 k1 k2 k3 k4
      go_loopg [3, 6] bn (fun gk u1 u2 wr => ∃ (j : Nat) (S2 : List UInt8), j + gk = bn ∧ u1 = .string (tx S2) ∧ u2 = .int .i64 (j : Int) ∧ Hid (S ++ (blocks.take j).flatMap blkT = S2 ∧ Below wc.heap.size wc wr))
      case atStart => exact ⟨0, S, by omega, rfl, rfl, by simp, HH.out.2⟩
      case round =>
        obtain ⟨j, S2, hj, rfl, rfl, HH2⟩ := hrel
        obtain ⟨k0, k1, k2, k3, k4⟩ := five_cells (kept_box HA.out.2.1 HH2.out.2)
        by_cases hlj : j < bn
        · obtain ⟨bk, o, hba, hb, x, hx, hix, c0, c1, c2, c3⟩ := HA.out.2.2.1.blocks.at hlj
          subst hba
          dsimp only at hix c0 c1 c2 c3
          have i1 : (j : Int) < (bn : Int) := by omega
          have hnext := flat_take blkT blocks j x hx
          have hmax := HP.out.2.2.2.1 (j + 1)
          rw [HS.out, hnext] at hmax
          have hxm := List.mem_of_getElem? hx
          have hxf := HA.out.2.2.2.blocks x hxm
          have hxi := HP.out.2.2.2.2.2.2.2.2.1 x hxm
          obtain ⟨hd, hhd⟩ : ∃ hd, headT x = hd := ⟨_, rfl⟩
          obtain ⟨V1, hV1⟩ : ∃ V1, S2 ++ hd = V1 := ⟨_, rfl⟩
          obtain ⟨V2, hV2⟩ : ∃ V2, V1 ++ [10] = V2 := ⟨_, rfl⟩
          have hV : S ++ ((blocks.take j).flatMap blkT ++ blkT x) = V2 ++ x.code.flatMap lineT := by rw [← hV2, ← hV1, ← hhd, ← HH2.out.1]; simp [blkT]
          have mV : (V2 ++ x.code.flatMap lineT).length ≤ big := by rw [← hV]; simpa using hmax
          have mC : ∀ q, (V2 ++ (x.code.take q).flatMap lineT).length ≤ big := fun q => by
            have h1 := flat_le lineT x.code q
            simp only [List.length_append] at mV ⊢
            omega
          have m2 : V2.length ≤ big := by have := mC 0; simpa using this
          have m1 : V1.length ≤ big := by rw [← hV2, List.length_append] at m2; omega
          have mh : hd.length ≤ big := by rw [← hV1, List.length_append] at m1; omega
          have s1 : ∀ W : World, (Op.stringOp .add (tx S2) (tx hd)).run Tryd.prog W = .ok (.string (tx V1)) W := add_tx S2 hd V1 hV1 m1
          have s2 : ∀ W : World, (Op.stringOp .add (tx V1) ⟨#[10]⟩).run Tryd.prog W = .ok (.string (tx V2)) W := add_tx V1 [10] V2 hV2 m2
          have hil := hix.ins.1
          have HHd := Lib.hid (show ∀ W', Below wc.heap.size wc W' → Calls Tryd.prog 24 #[.agg (blkR x (R j))] W' (SaysT hd W') from fun W' hb' => rhead_v x (R j) hd W' (hix.below hb').ins hxf.ins (by omega) hhd mh)
          have hVn : S ++ (blocks.take (j + 1)).flatMap blkT = V2 ++ x.code.flatMap lineT := by rw [hnext]; exact hV
          have HV := Lib.hid (And.intro hVn (And.intro mC (And.intro hix.code hxf.code)))
          have hkm := hix.code.2.1
          have hkn := hix.code.1
          clear hx hnext hmax hxm hxf hxi hhd hV1 hV2 hV mV mC m1 m2 mh hix hil hVn
          generalize R j = r2 at HHd HV c2 c3 hkm hkn
          obtain ⟨label, edge, ins, code⟩ := x
          obtain ⟨ia, il, ic, ka, kn, kc, R2⟩ := r2
          unfold blkR at HHd
          dsimp only at HHd HV c0 c1 c2 c3 hkm hkn
          have HCC := Lib.hid (show ∀ W', Below wc.heap.size wc W' → W'.cell? ⟨bk, o + j * 4, none⟩ = some (.string label) ∧ W'.cell? ⟨bk, o + j * 4 + 1, none⟩ = some (.bool edge) ∧ W'.cell? ⟨bk, o + j * 4 + 2, none⟩ = some (.slice ia il ic) ∧ W'.cell? ⟨bk, o + j * 4 + 3, none⟩ = some (.slice ka kn kc) from fun W' h => ⟨(h.cell (p := ⟨bk, o + j * 4, none⟩) hb).trans c0, (h.cell (p := ⟨bk, o + j * 4 + 1, none⟩) hb).trans c1, (h.cell (p := ⟨bk, o + j * 4 + 2, none⟩) hb).trans c2, (h.cell (p := ⟨bk, o + j * 4 + 3, none⟩) hb).trans c3⟩)
          have HKN := Lib.hid hkn
          clear c0 c1 c2 c3 hb hkn
          obtain ⟨c0, c1, c2, c3⟩ := HCC.out wr HH2.out.2
          go_wp2_with fail
          clear k0 k1 k2 k3 k4 c0 c1 c2 c3
          refine (HHd.out wr HH2.out.2).mono ?_
          rintro e w3 ⟨rfl, hb⟩
          have H3 := Lib.hid (HH2.out.2.trans (hb.mono HH2.out.2.size))
          clear hb
          go_wp2_with fail
          clear s1 s2
          go_loopg [3, 7] kn (fun gk u1 u2 wr => ∃ (q : Nat) (S3 : List UInt8), q + gk = kn ∧ u1 = .string (tx S3) ∧ u2 = .int .i64 (q : Int) ∧ Hid (V2 ++ (code.take q).flatMap lineT = S3 ∧ Below wc.heap.size wc wr))
          case atStart => exact ⟨0, V2, by omega, rfl, rfl, by simp, H3.out⟩
          case round =>
            obtain ⟨q, S3, hq, rfl, rfl, HH3⟩ := hrel
            obtain ⟨k0, k1, k2, k3, k4⟩ := five_cells (kept_box HA.out.2.1 HH3.out.2)
            obtain ⟨c0, c1, c2, c3⟩ := HCC.out wr HH3.out.2
            by_cases hlq : q < kn
            · obtain ⟨b2, o2, hka, hb2, z, hz, hiz, d0, d1, d2, d3, d4, d5, d6, d7, d8, d9⟩ := HV.out.2.2.1.at hlq
              subst hka
              have i2 : (q : Int) < (kn : Int) := by omega
              have hnx := flat_take lineT code q z hz
              have hmx := HV.out.2.1 (q + 1)
              rw [hnx] at hmx
              obtain ⟨v, hv⟩ : ∃ v, insT z = v := ⟨_, rfl⟩
              obtain ⟨Y1, hY1⟩ : ∃ Y1, S3 ++ [32, 32] = Y1 := ⟨_, rfl⟩
              obtain ⟨Y2, hY2⟩ : ∃ Y2, Y1 ++ v = Y2 := ⟨_, rfl⟩
              obtain ⟨Y3, hY3⟩ : ∃ Y3, Y2 ++ [59, 10] = Y3 := ⟨_, rfl⟩
              have hYY : V2 ++ ((code.take q).flatMap lineT ++ lineT z) = Y3 := by rw [← hY3, ← hY2, ← hY1, ← HH3.out.1, ← hv]; simp [lineT]
              have n3 : Y3.length ≤ big := by rw [← hYY]; exact hmx
              have n2 : Y2.length ≤ big := by rw [← hY3, List.length_append] at n3; omega
              have n1 : Y1.length ≤ big := by rw [← hY2, List.length_append] at n2; omega
              have nv : v.length ≤ big := by rw [← hY2, List.length_append] at n2; omega
              have s1 : ∀ W : World, (Op.stringOp .add (tx S3) ⟨#[32, 32]⟩).run Tryd.prog W = .ok (.string (tx Y1)) W := add_tx S3 [32, 32] Y1 hY1 n1
              have s2 : ∀ W : World, (Op.stringOp .add (tx Y1) (tx v)).run Tryd.prog W = .ok (.string (tx Y2)) W := add_tx Y1 v Y2 hY2 n2
              have s3 : ∀ W : World, (Op.stringOp .add (tx Y2) ⟨#[59, 10]⟩).run Tryd.prog W = .ok (.string (tx Y3)) W := add_tx Y2 [59, 10] Y3 hY3 n3
              have HIn := Lib.hid (show ∀ W', Below wc.heap.size wc W' → Calls Tryd.prog 25 #[.agg (insR z (R2 q))] W' (SaysT v W') from fun W' hb' => rinstr_v z (R2 q) v W' (hiz.below hb') (HV.out.2.2.2 z (List.mem_of_getElem? hz)) hv nv)
              have HY := Lib.hid (show V2 ++ (code.take (q + 1)).flatMap lineT = Y3 by rw [hnx]; exact hYY)
              clear hz hiz hnx hmx hv hY1 hY2 hY3 hYY n1 n2 n3 nv
              generalize R2 q = r3 at HIn d5 d8 d9
              obtain ⟨op, ⟨dk, dc, dn, dt⟩, args, nm, off, labels, cas⟩ := z
              obtain ⟨aa, an, ac, la, ln, lc, ca, cn, cc⟩ := r3
              unfold insR at HIn
              dsimp only at d0 d1 d2 d3 d4 d5 d6 d7 d8 d9 HIn
              have d0 := (HH3.out.2.cell (p := ⟨b2, o2 + q * 10, none⟩) hb2).trans d0
              have d1 := (HH3.out.2.cell (p := ⟨b2, o2 + q * 10 + 1, none⟩) hb2).trans d1
              have d2 := (HH3.out.2.cell (p := ⟨b2, o2 + q * 10 + 2, none⟩) hb2).trans d2
              have d3 := (HH3.out.2.cell (p := ⟨b2, o2 + q * 10 + 3, none⟩) hb2).trans d3
              have d4 := (HH3.out.2.cell (p := ⟨b2, o2 + q * 10 + 4, none⟩) hb2).trans d4
              have d5 := (HH3.out.2.cell (p := ⟨b2, o2 + q * 10 + 5, none⟩) hb2).trans d5
              have d6 := (HH3.out.2.cell (p := ⟨b2, o2 + q * 10 + 6, none⟩) hb2).trans d6
              have d7 := (HH3.out.2.cell (p := ⟨b2, o2 + q * 10 + 7, none⟩) hb2).trans d7
              have d8 := (HH3.out.2.cell (p := ⟨b2, o2 + q * 10 + 8, none⟩) hb2).trans d8
              have d9 := (HH3.out.2.cell (p := ⟨b2, o2 + q * 10 + 9, none⟩) hb2).trans d9
              clear hb2
              go_wp2_with fail
              clear k0 k1 k2 k3 k4 c0 c1 c2 c3 d0 d1 d2 d3 d4 d5 d6 d7 d8 d9
              refine (HIn.out wr HH3.out.2).mono ?_
              rintro e w4 ⟨rfl, hb⟩
              have H4 := Lib.hid (HH3.out.2.trans (hb.mono HH3.out.2.size))
              clear hb
              go_wp2_with fail
              go_roundg (gk - 1)
              case measure => omega
              case rel => exact ⟨q + 1, Y3, by omega, rfl, by go_num, HY.out, H4.out⟩
            · obtain rfl : q = kn := by omega
              have hge2 : ¬ (q : Int) < (q : Int) := by omega
              have HE := Lib.hid (show S ++ (blocks.take (j + 1)).flatMap blkT = S3 by
                have h1 := HH3.out.1
                rw [List.take_of_length_le (by rw [HKN.out]; exact Nat.le_refl _)] at h1
                rw [HV.out.1]; exact h1)
              go_wp2_with fail
              go_roundg (bn - j - 1)
              case measure => omega
              case rel => exact ⟨j + 1, S3, by omega, rfl, by go_num, HE.out, HH3.out.2⟩
        · obtain rfl : j = bn := by omega
          have hge2 : ¬ (j : Int) < (j : Int) := by omega
          have hS2 : S2 ++ [125, 10] = t := by
            rw [← HP.out.2.2.1, HS.out, ← HH2.out.1, List.take_of_length_le (by rw [HP.out.2.2.2.2.2.2.2.1]; exact Nat.le_refl _)]
          have s1 : ∀ W : World, (Op.stringOp .add (tx S2) ⟨#[125, 10]⟩).run Tryd.prog W = .ok (.string (tx t)) W := add_tx S2 [125, 10] t hS2 HP.out.2.2.2.2.2.1
          clear hS2
          go_wp2_with fail
          go_ret
          exact ⟨rfl, HA.out.1.trans (HH2.out.2.mono HA.out.1.size)⟩
theorem rfunc_v (f : Fun) (v : FunV) (t : List UInt8) (W : World) (hI : IsFun W f v) (hG : FunG f) (ht : funT f = t) (hlen : t.length ≤ big) : Calls Tryd.prog 13 #[.agg (funR f v)] W (SaysT t W) := by
  obtain ⟨machine, name, regs, params, blocks⟩ := f
  obtain ⟨ra, rn, rc, pa, pn, pc, ba, bn, bc, R⟩ := v
  unfold funR
  dsimp only
  have hl := tx_data name
  obtain ⟨l, hll⟩ : ∃ l, name.data.toList = l := ⟨_, rfl⟩
  rw [hll] at hl
  subst hl
  exact rfunc_w machine l regs params blocks ra rn rc pa pn pc ba bn bc R t W hI hG ht hlen
end Go.Proofs.YtakfoncdiejhaaaDoor
