/- All operands of a function gone through, whatever is done to each. -/
import Derived.Test.YtocelaebokikcaaCopyI
namespace Go.Proofs.Ytocelaebokikcaa
open Go.ChangeShapes Go.WideShapes Go.RowKit
set_option linter.unusedVariables false
set_option maxRecDepth 20000

def sumTo (f : Nat → Nat) : Nat → Nat
  | 0 => 0
  | n + 1 => sumTo f n + f n
/-- How many operands come ahead of an instruction's, within its block's code; of a block; ahead of a block; ahead of an instruction. -/
def FunV.insN (v : FunV) (b k : Nat) : Nat := sumTo (fun k => 1 + ((v.R b).R k).an) k
def FunV.blkN (v : FunV) (b : Nat) : Nat := (v.R b).il + v.insN b (v.R b).kn
def FunV.off (v : FunV) (b : Nat) : Nat := v.pn + sumTo v.blkN b
def FunV.offI (v : FunV) (b k : Nat) : Nat := v.off b + (v.R b).il + v.insN b k
theorem off_succ (v : FunV) (b : Nat) : v.off (b + 1) = v.offI b (v.R b).kn := by
  show v.pn + (sumTo v.blkN b + v.blkN b) = v.pn + sumTo v.blkN b + (v.R b).il + v.insN b (v.R b).kn
  unfold FunV.blkN; omega
theorem offI_zero (v : FunV) (b : Nat) : v.offI b 0 = v.off b + (v.R b).il := rfl
theorem offI_succ (v : FunV) (b k : Nat) : v.offI b (k + 1) = v.offI b k + 1 + ((v.R b).R k).an := by
  show v.off b + (v.R b).il + (sumTo (fun k => 1 + ((v.R b).R k).an) k + (1 + ((v.R b).R k).an)) = v.off b + (v.R b).il + sumTo (fun k => 1 + ((v.R b).R k).an) k + 1 + ((v.R b).R k).an
  omega
/-- Where a function's lists are told. -/
structure IsStr (w : World) (P : Nat) (v : FunV) : Prop where
  params : w.cell? ⟨P, 3, none⟩ = some (.slice v.pa v.pn v.pc)
  blocks : w.cell? ⟨P, 4, none⟩ = some (.slice v.ba v.bn v.bc)
  blk : ∀ b, b < v.bn → ∃ g o, v.ba = some ⟨g, o, none⟩ ∧ w.cell? ⟨g, o + b * 4 + 2, none⟩ = some (.slice (v.R b).ia (v.R b).il (v.R b).ic) ∧ w.cell? ⟨g, o + b * 4 + 3, none⟩ = some (.slice (v.R b).ka (v.R b).kn (v.R b).kc)
  ins : ∀ b k, b < v.bn → k < (v.R b).kn → ∃ g o, (v.R b).ka = some ⟨g, o, none⟩ ∧ w.cell? ⟨g, o + k * 10 + 5, none⟩ = some (.slice ((v.R b).R k).aa ((v.R b).R k).an ((v.R b).R k).ac)
  small : v.pn ≤ 1048576 ∧ v.bn ≤ 1048576 ∧ ∀ b, b < v.bn → (v.R b).il ≤ 1048576 ∧ (v.R b).kn ≤ 1048576 ∧ ∀ k, k < (v.R b).kn → ((v.R b).R k).an ≤ 1048576
set_option maxHeartbeats 1000000 in
theorem eachOf57_v (C : Nat) (J : Nat → World → Prop) (A : Option Addr) (n c : Nat) (w : World) (hn : n ≤ 1048576) (h0 : J 0 w)
    (hs : ∀ k w, k < n → J k w → ∃ g o, A = some ⟨g, o, none⟩ ∧ Calls Try.prog 57 #[.pointer (some ⟨g, o + k * 4, none⟩), .pointer (some ⟨C, 0, none⟩)] w fun e w' => e = .returned (.tuple #[]) ∧ J (k + 1) w') :
    Calls Try.prog 69 #[.slice A n c, .func (.func 57) #[] #[.pointer (some ⟨C, 0, none⟩)]] w fun e w' => e = .returned (.tuple #[]) ∧ J n w' := by
  have H := Lib.hid (And.intro h0 hs)
  clear h0 hs
  go_enter Try.func69, Try.ntmps69
  go_wp2_with fail
  go_loopg [7] n (fun gk u wr => ∃ k : Nat, k + gk = n ∧ u = .int .i64 (k : Int) ∧ Hid (J k wr))
  case atStart => exact ⟨0, by omega, rfl, H.out.1⟩
  case round =>
    obtain ⟨k, hk, rfl, HH⟩ := hrel
    by_cases hlt : k < n
    · obtain ⟨g, o, rfl, hc⟩ := H.out.2 k wr hlt HH.out
      have i1 : (k : Int) < (n : Int) := by omega
      have HC := Lib.hid hc
      clear hc
      go_wp2_with fail
      refine HC.out.mono ?_
      rintro e w1 ⟨rfl, h1⟩
      have H1 := Lib.hid h1
      clear h1 HC
      go_wp2_with fail
      go_roundg (gk - 1)
      case measure => omega
      case rel => exact ⟨k + 1, by omega, by go_num, H1.out⟩
    · obtain rfl : k = n := by omega
      have hge : ¬ (k : Int) < (k : Int) := by omega
      go_wp2_with fail
      go_end0
      exact ⟨rfl, HH.out⟩
set_option maxHeartbeats 1000000 in
theorem eachI57_v (C : Nat) (J : Nat → World → Prop) (N : Nat) (g o : Nat) (A : Option Addr) (n c : Nat) (w : World) (hn : n ≤ 1048576) (h0 : J N w)
    (hd : Calls Try.prog 57 #[.pointer (some ⟨g, o + 1, none⟩), .pointer (some ⟨C, 0, none⟩)] w fun e w' => e = .returned (.tuple #[]) ∧ J (N + 1) w')
    (hc : ∀ w, J (N + 1) w → w.cell? ⟨g, o + 5, none⟩ = some (.slice A n c))
    (hs : ∀ k w, k < n → J (N + 1 + k) w → ∃ g o, A = some ⟨g, o, none⟩ ∧ Calls Try.prog 57 #[.pointer (some ⟨g, o + k * 4, none⟩), .pointer (some ⟨C, 0, none⟩)] w fun e w' => e = .returned (.tuple #[]) ∧ J (N + 1 + k + 1) w') :
    Calls Try.prog 62 #[.pointer (some ⟨g, o, none⟩), .func (.func 57) #[] #[.pointer (some ⟨C, 0, none⟩)]] w fun e w' => e = .returned (.tuple #[]) ∧ J (N + 1 + n) w' := by
  have H := Lib.hid (And.intro hd (And.intro hc hs))
  clear hd hc hs h0
  go_enter Try.func62, Try.ntmps62
  go_wp2_with fail
  refine H.out.1.mono ?_
  rintro e w1 ⟨rfl, h1⟩
  have c5 := H.out.2.1 w1 h1
  have H1 := Lib.hid h1
  clear h1
  go_wp2_with fail
  refine (eachOf57_v C (fun k w => J (N + 1 + k) w) A n c _ hn H1.out (fun k w hk h => H.out.2.2 k w hk h)).mono ?_
  rintro e w2 ⟨rfl, h2⟩
  have H2 := Lib.hid h2
  clear h2
  go_wp2_with fail
  go_end0
  exact ⟨rfl, H2.out⟩
set_option maxHeartbeats 4000000 in
theorem each57_v (C P : Nat) (v : FunV) (J : Nat → World → Prop) (w : World) (h0 : J 0 w) (hstr : ∀ n w, J n w → IsStr w P v)
    (hp : ∀ k w, k < v.pn → J k w → ∃ g o, v.pa = some ⟨g, o, none⟩ ∧ Calls Try.prog 57 #[.pointer (some ⟨g, o + k * 4, none⟩), .pointer (some ⟨C, 0, none⟩)] w fun e w' => e = .returned (.tuple #[]) ∧ J (k + 1) w')
    (hi : ∀ b k w, b < v.bn → k < (v.R b).il → J (v.off b + k) w → ∃ g o, (v.R b).ia = some ⟨g, o, none⟩ ∧ Calls Try.prog 57 #[.pointer (some ⟨g, o + k * 4, none⟩), .pointer (some ⟨C, 0, none⟩)] w fun e w' => e = .returned (.tuple #[]) ∧ J (v.off b + k + 1) w')
    (hd : ∀ b k g o w, b < v.bn → k < (v.R b).kn → J (v.offI b k) w → (v.R b).ka = some ⟨g, o, none⟩ → Calls Try.prog 57 #[.pointer (some ⟨g, o + k * 10 + 1, none⟩), .pointer (some ⟨C, 0, none⟩)] w fun e w' => e = .returned (.tuple #[]) ∧ J (v.offI b k + 1) w')
    (ha : ∀ b k j w, b < v.bn → k < (v.R b).kn → j < ((v.R b).R k).an → J (v.offI b k + 1 + j) w → ∃ g o, ((v.R b).R k).aa = some ⟨g, o, none⟩ ∧ Calls Try.prog 57 #[.pointer (some ⟨g, o + j * 4, none⟩), .pointer (some ⟨C, 0, none⟩)] w fun e w' => e = .returned (.tuple #[]) ∧ J (v.offI b k + 1 + j + 1) w') :
    Calls Try.prog 56 #[.pointer (some ⟨P, 0, none⟩), .func (.func 57) #[] #[.pointer (some ⟨C, 0, none⟩)]] w fun e w' => e = .returned (.tuple #[]) ∧ J (v.off v.bn) w' := by
  have S0 := hstr 0 w h0
  have c3 := S0.params
  have H := Lib.hid (And.intro hstr (And.intro hp (And.intro hi (And.intro hd ha))))
  have SM := Lib.hid S0.small
  clear hstr hp hi hd ha S0
  have HW := Lib.hid h0
  clear h0
  obtain ⟨pa, pn, pc, hpa⟩ : ∃ pa pn pc, v.pa = pa ∧ v.pn = pn ∧ v.pc = pc := ⟨_, _, _, rfl, rfl, rfl⟩
  rw [hpa.1, hpa.2.1, hpa.2.2] at c3
  have HPA := Lib.hid hpa
  clear hpa
  go_enter Try.func56, Try.ntmps56
  go_wp2_with fail
  refine (eachOf57_v C J pa pn pc _ (by rw [← HPA.out.2.1]; exact SM.out.1) HW.out (fun k w hk h => by
    have := H.out.2.1 k w (by rw [HPA.out.2.1]; exact hk) h
    rw [HPA.out.1] at this
    exact this)).mono ?_
  rintro e w1 ⟨rfl, h1⟩
  have S1 := H.out.1 _ w1 h1
  have c4 := S1.blocks
  obtain ⟨ba, bn, bc, hba⟩ : ∃ pa pn pc, v.ba = pa ∧ v.bn = pn ∧ v.bc = pc := ⟨_, _, _, rfl, rfl, rfl⟩
  rw [hba.1, hba.2.1, hba.2.2] at c4
  have HBA := Lib.hid hba
  have hbn : bn ≤ 1048576 := by rw [← hba.2.1]; exact SM.out.2.1
  have H1 := Lib.hid (show J (v.off 0) w1 from by unfold FunV.off; rw [HPA.out.2.1]; exact h1)
  clear hba h1 S1 c3
  go_wp2_with fail
  go_loopg [18] bn (fun gk u wr => ∃ b : Nat, b + gk = bn ∧ u = .int .i64 (b : Int) ∧ Hid (J (v.off b) wr))
  case atStart => exact ⟨0, by omega, rfl, H1.out⟩
  case round =>
    clear c4
    obtain ⟨b, hb, rfl, HB⟩ := hrel
    by_cases hlb : b < bn
    · have i1 : (b : Int) < (bn : Int) := by omega
      have hbv : b < v.bn := by rw [HBA.out.2.1]; exact hlb
      have SS := H.out.1 _ wr HB.out
      have c4 := SS.blocks
      rw [HBA.out.1, HBA.out.2.1, HBA.out.2.2] at c4
      obtain ⟨g, o, hgo, d2, d3⟩ := SS.blk b hbv
      rw [HBA.out.1] at hgo
      have sm := SM.out.2.2 b hbv
      obtain ⟨r, hr⟩ : ∃ r, v.R b = r := ⟨_, rfl⟩
      have HR := Lib.hid hr
      rw [hr] at d2 d3 sm
      have HG := Lib.hid (And.intro hgo (And.intro hbv sm.2.2))
      subst hgo
      clear hr SS hbv
      obtain ⟨ia, il, ic, ka, kn, kc, R⟩ := r
      dsimp only at d2 d3 sm
      have sil := sm.1
      have skn := sm.2.1
      clear sm
      go_wp2_with fail
      refine (eachOf57_v C (fun k w => J (v.off b + k) w) ia il ic _ sil HB.out (fun k w hk h => by
        have := H.out.2.2.1 b k w HG.out.2.1 (by rw [HR.out]; exact hk) h
        rw [HR.out] at this
        exact this)).mono ?_
      rintro e w2 ⟨rfl, h2⟩
      have S2 := H.out.1 _ w2 h2
      obtain ⟨g', o', hgo', d2', d3'⟩ := S2.blk b HG.out.2.1
      rw [HBA.out.1] at hgo'
      injection hgo' with hgo'
      injection hgo' with hg1 hg2
      subst hg1; subst hg2
      rw [HR.out] at d2' d3'
      dsimp only at d2' d3'
      have H2 := Lib.hid (show J (v.offI b 0) w2 from by rw [offI_zero, HR.out]; exact h2)
      clear h2 S2 d2 d3 d2' c4
      go_wp2_with fail
      clear d3'
      go_loopg [38] kn (fun gk u wr => ∃ q : Nat, q + gk = kn ∧ u = .int .i64 (q : Int) ∧ Hid (J (v.offI b q) wr))
      case atStart => exact ⟨0, by omega, rfl, H2.out⟩
      case round =>
        obtain ⟨q, hq, rfl, HQ⟩ := hrel
        by_cases hlq : q < kn
        · have i2 : (q : Int) < (kn : Int) := by omega
          have SS := H.out.1 _ wr HQ.out
          obtain ⟨g', o', hgo', d2', d3'⟩ := SS.blk b HG.out.2.1
          rw [HBA.out.1] at hgo'
          injection hgo' with hgo'
          injection hgo' with hg1 hg2
          subst hg1; subst hg2
          rw [HR.out] at d2' d3'
          dsimp only at d2' d3'
          obtain ⟨gC, oC, hgC, d5⟩ := SS.ins b q HG.out.2.1 (by rw [HR.out]; exact hlq)
          rw [HR.out] at hgC d5
          dsimp only at hgC d5
          have san := HG.out.2.2 q hlq
          have HGC := Lib.hid hgC
          subst hgC
          obtain ⟨rq, hrq⟩ : ∃ r, R q = r := ⟨_, rfl⟩
          have HRQ := Lib.hid hrq
          rw [hrq] at d5 san
          clear hrq SS
          obtain ⟨aa, an, ac, la, ln, lc, ca, cn, cc⟩ := rq
          dsimp only at d5 san
          go_wp2_with fail
          refine (eachI57_v C J (v.offI b q) gC (oC + q * 10) aa an ac _ san HQ.out (H.out.2.2.2.1 b q gC oC wr HG.out.2.1 (by rw [HR.out]; exact hlq) HQ.out (by rw [HR.out])) (fun w h => by
              obtain ⟨gC', oC', hgC', d5'⟩ := (H.out.1 _ w h).ins b q HG.out.2.1 (by rw [HR.out]; exact hlq)
              rw [HR.out] at hgC' d5'
              dsimp only at hgC' d5'
              injection hgC' with hgC'
              injection hgC' with hg1 hg2
              subst hg1; subst hg2
              rw [HRQ.out] at d5'
              exact d5') (fun j w hj h => by
              have := H.out.2.2.2.2 b q j w HG.out.2.1 (by rw [HR.out]; exact hlq) (by rw [HR.out]; dsimp only; rw [HRQ.out]; exact hj) h
              rw [HR.out] at this
              dsimp only at this
              rw [HRQ.out] at this
              exact this)).mono ?_
          rintro e w3 ⟨rfl, h3⟩
          have H3 := Lib.hid (show J (v.offI b (q + 1)) w3 from by
            rw [offI_succ, HR.out]; dsimp only; rw [HRQ.out]; exact h3)
          clear h3 d2' d3' d5
          go_wp2_with fail
          go_roundg (kn - q - 1)
          case measure => omega
          case rel => exact ⟨q + 1, by omega, by go_num, H3.out⟩
        · obtain rfl : q = kn := by omega
          have hge : ¬ (q : Int) < (q : Int) := by omega
          go_wp2_with fail
          go_roundg (bn - b - 1)
          case measure => omega
          case rel => exact ⟨b + 1, by omega, by go_num, by rw [off_succ, HR.out]; exact HQ.out⟩
    · obtain rfl : b = bn := by omega
      have hge : ¬ (b : Int) < (b : Int) := by omega
      go_wp2_with fail
      go_end0
      exact ⟨rfl, by rw [HBA.out.2.1]; exact HB.out⟩
set_option maxHeartbeats 1000000 in
theorem eachOf71_v (C : Nat) (J : Nat → World → Prop) (A : Option Addr) (n c : Nat) (w : World) (hn : n ≤ 1048576) (h0 : J 0 w)
    (hs : ∀ k w, k < n → J k w → ∃ g o, A = some ⟨g, o, none⟩ ∧ Calls Try.prog 71 #[.pointer (some ⟨g, o + k * 4, none⟩), .pointer (some ⟨C, 0, none⟩)] w fun e w' => e = .returned (.tuple #[]) ∧ J (k + 1) w') :
    Calls Try.prog 69 #[.slice A n c, .func (.func 71) #[] #[.pointer (some ⟨C, 0, none⟩)]] w fun e w' => e = .returned (.tuple #[]) ∧ J n w' := by
  have H := Lib.hid (And.intro h0 hs)
  clear h0 hs
  go_enter Try.func69, Try.ntmps69
  go_wp2_with fail
  go_loopg [7] n (fun gk u wr => ∃ k : Nat, k + gk = n ∧ u = .int .i64 (k : Int) ∧ Hid (J k wr))
  case atStart => exact ⟨0, by omega, rfl, H.out.1⟩
  case round =>
    obtain ⟨k, hk, rfl, HH⟩ := hrel
    by_cases hlt : k < n
    · obtain ⟨g, o, rfl, hc⟩ := H.out.2 k wr hlt HH.out
      have i1 : (k : Int) < (n : Int) := by omega
      have HC := Lib.hid hc
      clear hc
      go_wp2_with fail
      refine HC.out.mono ?_
      rintro e w1 ⟨rfl, h1⟩
      have H1 := Lib.hid h1
      clear h1 HC
      go_wp2_with fail
      go_roundg (gk - 1)
      case measure => omega
      case rel => exact ⟨k + 1, by omega, by go_num, H1.out⟩
    · obtain rfl : k = n := by omega
      have hge : ¬ (k : Int) < (k : Int) := by omega
      go_wp2_with fail
      go_end0
      exact ⟨rfl, HH.out⟩
set_option maxHeartbeats 1000000 in
theorem eachI71_v (C : Nat) (J : Nat → World → Prop) (N : Nat) (g o : Nat) (A : Option Addr) (n c : Nat) (w : World) (hn : n ≤ 1048576) (h0 : J N w)
    (hd : Calls Try.prog 71 #[.pointer (some ⟨g, o + 1, none⟩), .pointer (some ⟨C, 0, none⟩)] w fun e w' => e = .returned (.tuple #[]) ∧ J (N + 1) w')
    (hc : ∀ w, J (N + 1) w → w.cell? ⟨g, o + 5, none⟩ = some (.slice A n c))
    (hs : ∀ k w, k < n → J (N + 1 + k) w → ∃ g o, A = some ⟨g, o, none⟩ ∧ Calls Try.prog 71 #[.pointer (some ⟨g, o + k * 4, none⟩), .pointer (some ⟨C, 0, none⟩)] w fun e w' => e = .returned (.tuple #[]) ∧ J (N + 1 + k + 1) w') :
    Calls Try.prog 62 #[.pointer (some ⟨g, o, none⟩), .func (.func 71) #[] #[.pointer (some ⟨C, 0, none⟩)]] w fun e w' => e = .returned (.tuple #[]) ∧ J (N + 1 + n) w' := by
  have H := Lib.hid (And.intro hd (And.intro hc hs))
  clear hd hc hs h0
  go_enter Try.func62, Try.ntmps62
  go_wp2_with fail
  refine H.out.1.mono ?_
  rintro e w1 ⟨rfl, h1⟩
  have c5 := H.out.2.1 w1 h1
  have H1 := Lib.hid h1
  clear h1
  go_wp2_with fail
  refine (eachOf71_v C (fun k w => J (N + 1 + k) w) A n c _ hn H1.out (fun k w hk h => H.out.2.2 k w hk h)).mono ?_
  rintro e w2 ⟨rfl, h2⟩
  have H2 := Lib.hid h2
  clear h2
  go_wp2_with fail
  go_end0
  exact ⟨rfl, H2.out⟩
set_option maxHeartbeats 4000000 in
theorem each71_v (C P : Nat) (v : FunV) (J : Nat → World → Prop) (w : World) (h0 : J 0 w) (hstr : ∀ n w, J n w → IsStr w P v)
    (hp : ∀ k w, k < v.pn → J k w → ∃ g o, v.pa = some ⟨g, o, none⟩ ∧ Calls Try.prog 71 #[.pointer (some ⟨g, o + k * 4, none⟩), .pointer (some ⟨C, 0, none⟩)] w fun e w' => e = .returned (.tuple #[]) ∧ J (k + 1) w')
    (hi : ∀ b k w, b < v.bn → k < (v.R b).il → J (v.off b + k) w → ∃ g o, (v.R b).ia = some ⟨g, o, none⟩ ∧ Calls Try.prog 71 #[.pointer (some ⟨g, o + k * 4, none⟩), .pointer (some ⟨C, 0, none⟩)] w fun e w' => e = .returned (.tuple #[]) ∧ J (v.off b + k + 1) w')
    (hd : ∀ b k g o w, b < v.bn → k < (v.R b).kn → J (v.offI b k) w → (v.R b).ka = some ⟨g, o, none⟩ → Calls Try.prog 71 #[.pointer (some ⟨g, o + k * 10 + 1, none⟩), .pointer (some ⟨C, 0, none⟩)] w fun e w' => e = .returned (.tuple #[]) ∧ J (v.offI b k + 1) w')
    (ha : ∀ b k j w, b < v.bn → k < (v.R b).kn → j < ((v.R b).R k).an → J (v.offI b k + 1 + j) w → ∃ g o, ((v.R b).R k).aa = some ⟨g, o, none⟩ ∧ Calls Try.prog 71 #[.pointer (some ⟨g, o + j * 4, none⟩), .pointer (some ⟨C, 0, none⟩)] w fun e w' => e = .returned (.tuple #[]) ∧ J (v.offI b k + 1 + j + 1) w') :
    Calls Try.prog 56 #[.pointer (some ⟨P, 0, none⟩), .func (.func 71) #[] #[.pointer (some ⟨C, 0, none⟩)]] w fun e w' => e = .returned (.tuple #[]) ∧ J (v.off v.bn) w' := by
  have S0 := hstr 0 w h0
  have c3 := S0.params
  have H := Lib.hid (And.intro hstr (And.intro hp (And.intro hi (And.intro hd ha))))
  have SM := Lib.hid S0.small
  clear hstr hp hi hd ha S0
  have HW := Lib.hid h0
  clear h0
  obtain ⟨pa, pn, pc, hpa⟩ : ∃ pa pn pc, v.pa = pa ∧ v.pn = pn ∧ v.pc = pc := ⟨_, _, _, rfl, rfl, rfl⟩
  rw [hpa.1, hpa.2.1, hpa.2.2] at c3
  have HPA := Lib.hid hpa
  clear hpa
  go_enter Try.func56, Try.ntmps56
  go_wp2_with fail
  refine (eachOf71_v C J pa pn pc _ (by rw [← HPA.out.2.1]; exact SM.out.1) HW.out (fun k w hk h => by
    have := H.out.2.1 k w (by rw [HPA.out.2.1]; exact hk) h
    rw [HPA.out.1] at this
    exact this)).mono ?_
  rintro e w1 ⟨rfl, h1⟩
  have S1 := H.out.1 _ w1 h1
  have c4 := S1.blocks
  obtain ⟨ba, bn, bc, hba⟩ : ∃ pa pn pc, v.ba = pa ∧ v.bn = pn ∧ v.bc = pc := ⟨_, _, _, rfl, rfl, rfl⟩
  rw [hba.1, hba.2.1, hba.2.2] at c4
  have HBA := Lib.hid hba
  have hbn : bn ≤ 1048576 := by rw [← hba.2.1]; exact SM.out.2.1
  have H1 := Lib.hid (show J (v.off 0) w1 from by unfold FunV.off; rw [HPA.out.2.1]; exact h1)
  clear hba h1 S1 c3
  go_wp2_with fail
  go_loopg [18] bn (fun gk u wr => ∃ b : Nat, b + gk = bn ∧ u = .int .i64 (b : Int) ∧ Hid (J (v.off b) wr))
  case atStart => exact ⟨0, by omega, rfl, H1.out⟩
  case round =>
    clear c4
    obtain ⟨b, hb, rfl, HB⟩ := hrel
    by_cases hlb : b < bn
    · have i1 : (b : Int) < (bn : Int) := by omega
      have hbv : b < v.bn := by rw [HBA.out.2.1]; exact hlb
      have SS := H.out.1 _ wr HB.out
      have c4 := SS.blocks
      rw [HBA.out.1, HBA.out.2.1, HBA.out.2.2] at c4
      obtain ⟨g, o, hgo, d2, d3⟩ := SS.blk b hbv
      rw [HBA.out.1] at hgo
      have sm := SM.out.2.2 b hbv
      obtain ⟨r, hr⟩ : ∃ r, v.R b = r := ⟨_, rfl⟩
      have HR := Lib.hid hr
      rw [hr] at d2 d3 sm
      have HG := Lib.hid (And.intro hgo (And.intro hbv sm.2.2))
      subst hgo
      clear hr SS hbv
      obtain ⟨ia, il, ic, ka, kn, kc, R⟩ := r
      dsimp only at d2 d3 sm
      have sil := sm.1
      have skn := sm.2.1
      clear sm
      go_wp2_with fail
      refine (eachOf71_v C (fun k w => J (v.off b + k) w) ia il ic _ sil HB.out (fun k w hk h => by
        have := H.out.2.2.1 b k w HG.out.2.1 (by rw [HR.out]; exact hk) h
        rw [HR.out] at this
        exact this)).mono ?_
      rintro e w2 ⟨rfl, h2⟩
      have S2 := H.out.1 _ w2 h2
      obtain ⟨g', o', hgo', d2', d3'⟩ := S2.blk b HG.out.2.1
      rw [HBA.out.1] at hgo'
      injection hgo' with hgo'
      injection hgo' with hg1 hg2
      subst hg1; subst hg2
      rw [HR.out] at d2' d3'
      dsimp only at d2' d3'
      have H2 := Lib.hid (show J (v.offI b 0) w2 from by rw [offI_zero, HR.out]; exact h2)
      clear h2 S2 d2 d3 d2' c4
      go_wp2_with fail
      clear d3'
      go_loopg [38] kn (fun gk u wr => ∃ q : Nat, q + gk = kn ∧ u = .int .i64 (q : Int) ∧ Hid (J (v.offI b q) wr))
      case atStart => exact ⟨0, by omega, rfl, H2.out⟩
      case round =>
        obtain ⟨q, hq, rfl, HQ⟩ := hrel
        by_cases hlq : q < kn
        · have i2 : (q : Int) < (kn : Int) := by omega
          have SS := H.out.1 _ wr HQ.out
          obtain ⟨g', o', hgo', d2', d3'⟩ := SS.blk b HG.out.2.1
          rw [HBA.out.1] at hgo'
          injection hgo' with hgo'
          injection hgo' with hg1 hg2
          subst hg1; subst hg2
          rw [HR.out] at d2' d3'
          dsimp only at d2' d3'
          obtain ⟨gC, oC, hgC, d5⟩ := SS.ins b q HG.out.2.1 (by rw [HR.out]; exact hlq)
          rw [HR.out] at hgC d5
          dsimp only at hgC d5
          have san := HG.out.2.2 q hlq
          have HGC := Lib.hid hgC
          subst hgC
          obtain ⟨rq, hrq⟩ : ∃ r, R q = r := ⟨_, rfl⟩
          have HRQ := Lib.hid hrq
          rw [hrq] at d5 san
          clear hrq SS
          obtain ⟨aa, an, ac, la, ln, lc, ca, cn, cc⟩ := rq
          dsimp only at d5 san
          go_wp2_with fail
          refine (eachI71_v C J (v.offI b q) gC (oC + q * 10) aa an ac _ san HQ.out (H.out.2.2.2.1 b q gC oC wr HG.out.2.1 (by rw [HR.out]; exact hlq) HQ.out (by rw [HR.out])) (fun w h => by
              obtain ⟨gC', oC', hgC', d5'⟩ := (H.out.1 _ w h).ins b q HG.out.2.1 (by rw [HR.out]; exact hlq)
              rw [HR.out] at hgC' d5'
              dsimp only at hgC' d5'
              injection hgC' with hgC'
              injection hgC' with hg1 hg2
              subst hg1; subst hg2
              rw [HRQ.out] at d5'
              exact d5') (fun j w hj h => by
              have := H.out.2.2.2.2 b q j w HG.out.2.1 (by rw [HR.out]; exact hlq) (by rw [HR.out]; dsimp only; rw [HRQ.out]; exact hj) h
              rw [HR.out] at this
              dsimp only at this
              rw [HRQ.out] at this
              exact this)).mono ?_
          rintro e w3 ⟨rfl, h3⟩
          have H3 := Lib.hid (show J (v.offI b (q + 1)) w3 from by
            rw [offI_succ, HR.out]; dsimp only; rw [HRQ.out]; exact h3)
          clear h3 d2' d3' d5
          go_wp2_with fail
          go_roundg (kn - q - 1)
          case measure => omega
          case rel => exact ⟨q + 1, by omega, by go_num, H3.out⟩
        · obtain rfl : q = kn := by omega
          have hge : ¬ (q : Int) < (q : Int) := by omega
          go_wp2_with fail
          go_roundg (bn - b - 1)
          case measure => omega
          case rel => exact ⟨b + 1, by omega, by go_num, by rw [off_succ, HR.out]; exact HQ.out⟩
    · obtain rfl : b = bn := by omega
      have hge : ¬ (b : Int) < (b : Int) := by omega
      go_wp2_with fail
      go_end0
      exact ⟨rfl, by rw [HBA.out.2.1]; exact HB.out⟩
end Go.Proofs.Ytocelaebokikcaa
