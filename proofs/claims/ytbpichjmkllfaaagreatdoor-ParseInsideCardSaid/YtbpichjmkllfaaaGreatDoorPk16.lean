/- The table of names, and what Name and Find of op answer. -/
import Derived.Test.YtbpichjmkllfaaaGreatDoorPk15
import Derived.Deep.MidRow
import Derived.Test.YtbpichjmkllfaaaGreatDoorPk13
import Derived.Test.YtbpichjmkllfaaaGreatDoorRows
import Derived.Test.YtbpichjmkllfaaaGreatDoorPk02
import Derived.Outline
import Derived.WalkKit
import Derived.WalkLawsBesides
import Derived.LoopTactic
import Derived.Below
import Derived.IntWalk
import Derived.Deep.Light
import Derived.Deep.LoopGhost
import Derived.Deep.WholeRow
import Derived.Lib.Hide
import Derived.Laws.IdiomStrings
namespace Go.Proofs.YtbpichjmkllfaaaGreatDoor.Opr
open Go.ChangeShapes Go.WideShapes Go.RowKit
set_option linter.unusedVariables false
set_option maxRecDepth 20000

def nameOf (n : Int) : ByteArray := (rowOf n).nm
/-- The table as a value. -/
def nameRow : Array Value := #[.string ⟨#[]⟩, .string ⟨#[97, 100, 100]⟩, .string ⟨#[115, 117, 98]⟩, .string ⟨#[109, 117, 108]⟩, .string ⟨#[97, 110, 100]⟩, .string ⟨#[111, 114]⟩, .string ⟨#[120, 111, 114]⟩, .string ⟨#[115, 104, 108]⟩, .string ⟨#[115, 104, 114]⟩, .string ⟨#[115, 97, 114]⟩, .string ⟨#[100, 105, 118]⟩, .string ⟨#[114, 101, 109]⟩, .string ⟨#[101, 113]⟩, .string ⟨#[110, 101]⟩, .string ⟨#[108, 116]⟩, .string ⟨#[108, 101]⟩, .string ⟨#[99, 111, 112, 121]⟩, .string ⟨#[108, 111, 97, 100]⟩, .string ⟨#[115, 116, 111, 114, 101]⟩, .string ⟨#[99, 97, 108, 108]⟩, .string ⟨#[98, 114]⟩, .string ⟨#[98, 114, 105, 102]⟩, .string ⟨#[115, 119, 105, 116, 99, 104]⟩, .string ⟨#[114, 101, 116]⟩, .string ⟨#[109, 111, 118, 101]⟩, .string ⟨#[115, 112, 105, 108, 108]⟩, .string ⟨#[114, 101, 108, 111, 97, 100]⟩, .string ⟨#[115, 119, 97, 112]⟩]
theorem nameRow_at (k : Nat) (hk : k < 28) : nameRow[k]? = some (.string (nameOf (k : Int))) := by
  have h : k = 0 ∨ k = 1 ∨ k = 2 ∨ k = 3 ∨ k = 4 ∨ k = 5 ∨ k = 6 ∨ k = 7 ∨ k = 8 ∨ k = 9 ∨ k = 10 ∨ k = 11 ∨ k = 12 ∨ k = 13 ∨ k = 14 ∨ k = 15 ∨ k = 16 ∨ k = 17 ∨ k = 18 ∨ k = 19 ∨ k = 20 ∨ k = 21 ∨ k = 22 ∨ k = 23 ∨ k = 24 ∨ k = 25 ∨ k = 26 ∨ k = 27 := by omega
  clear hk
  rcases h with rfl | rfl | rfl | rfl | rfl | rfl | rfl | rfl | rfl | rfl | rfl | rfl | rfl | rfl | rfl | rfl | rfl | rfl | rfl | rfl | rfl | rfl | rfl | rfl | rfl | rfl | rfl | rfl
  all_goals rfl
/-- The program's table of names, in memory. -/
def Glob (w : World) : Prop := 1 < w.heap.size ∧ w.rangeAt 1 0 nameRow.toList
theorem Glob.below {B : Nat} {w w' : World} (h : Glob w) (hb : Below B w w') (hB : 1 < B) : Glob w' :=
  ⟨Nat.lt_of_lt_of_le h.1 hb.size, fun j v hj => (hb.cell (p := ⟨1, 0 + j, none⟩) hB).trans (h.2 j v hj)⟩
theorem Glob.at {w : World} (h : Glob w) (k : Nat) (hk : k < 28) : w.cell? ⟨1, k, none⟩ = some (.string (nameOf (k : Int))) := by
  have := h.2 k _ (by rw [Array.getElem?_toList]; exact nameRow_at k hk)
  rwa [Nat.zero_add] at this
theorem size47 : (Tryz.prog.info? 220).map (·.size) = some nameRow.toList.length := by kernel_rfl
theorem load_names {ops : Array Oper} {rest : List Oper} {o : Oper} {a : Act} {w : World} {Q : Exit → Act → World → Prop} (hgd : o.guard = none) (x : Operand) (ho : o.op = .load 220 x)
    (hx : a.eval x = .pointer (some ⟨1, 0, none⟩)) (hG : Glob w) (h : wpList Tryz.prog ops Q rest (a.put o.dst (.agg nameRow)) w) : wpList Tryz.prog ops Q (o :: rest) a w :=
  wpList_load_mid hgd 220 x ho 1 0 hx nameRow.toList _ hG.2 Tryz.underlying220 rfl size47 h
theorem index_0 (W : World) : (Instr.index 220 (.agg nameRow) (.int .i64 0)).run Tryz.prog W = .ok (.string (nameOf 0)) W := by kernel_rfl
theorem index_1 (W : World) : (Instr.index 220 (.agg nameRow) (.int .i64 1)).run Tryz.prog W = .ok (.string (nameOf 1)) W := by kernel_rfl
theorem index_2 (W : World) : (Instr.index 220 (.agg nameRow) (.int .i64 2)).run Tryz.prog W = .ok (.string (nameOf 2)) W := by kernel_rfl
theorem index_3 (W : World) : (Instr.index 220 (.agg nameRow) (.int .i64 3)).run Tryz.prog W = .ok (.string (nameOf 3)) W := by kernel_rfl
theorem index_4 (W : World) : (Instr.index 220 (.agg nameRow) (.int .i64 4)).run Tryz.prog W = .ok (.string (nameOf 4)) W := by kernel_rfl
theorem index_5 (W : World) : (Instr.index 220 (.agg nameRow) (.int .i64 5)).run Tryz.prog W = .ok (.string (nameOf 5)) W := by kernel_rfl
theorem index_6 (W : World) : (Instr.index 220 (.agg nameRow) (.int .i64 6)).run Tryz.prog W = .ok (.string (nameOf 6)) W := by kernel_rfl
theorem index_7 (W : World) : (Instr.index 220 (.agg nameRow) (.int .i64 7)).run Tryz.prog W = .ok (.string (nameOf 7)) W := by kernel_rfl
theorem index_8 (W : World) : (Instr.index 220 (.agg nameRow) (.int .i64 8)).run Tryz.prog W = .ok (.string (nameOf 8)) W := by kernel_rfl
theorem index_9 (W : World) : (Instr.index 220 (.agg nameRow) (.int .i64 9)).run Tryz.prog W = .ok (.string (nameOf 9)) W := by kernel_rfl
theorem index_10 (W : World) : (Instr.index 220 (.agg nameRow) (.int .i64 10)).run Tryz.prog W = .ok (.string (nameOf 10)) W := by kernel_rfl
theorem index_11 (W : World) : (Instr.index 220 (.agg nameRow) (.int .i64 11)).run Tryz.prog W = .ok (.string (nameOf 11)) W := by kernel_rfl
theorem index_12 (W : World) : (Instr.index 220 (.agg nameRow) (.int .i64 12)).run Tryz.prog W = .ok (.string (nameOf 12)) W := by kernel_rfl
theorem index_13 (W : World) : (Instr.index 220 (.agg nameRow) (.int .i64 13)).run Tryz.prog W = .ok (.string (nameOf 13)) W := by kernel_rfl
theorem index_14 (W : World) : (Instr.index 220 (.agg nameRow) (.int .i64 14)).run Tryz.prog W = .ok (.string (nameOf 14)) W := by kernel_rfl
theorem index_15 (W : World) : (Instr.index 220 (.agg nameRow) (.int .i64 15)).run Tryz.prog W = .ok (.string (nameOf 15)) W := by kernel_rfl
theorem index_16 (W : World) : (Instr.index 220 (.agg nameRow) (.int .i64 16)).run Tryz.prog W = .ok (.string (nameOf 16)) W := by kernel_rfl
theorem index_17 (W : World) : (Instr.index 220 (.agg nameRow) (.int .i64 17)).run Tryz.prog W = .ok (.string (nameOf 17)) W := by kernel_rfl
theorem index_18 (W : World) : (Instr.index 220 (.agg nameRow) (.int .i64 18)).run Tryz.prog W = .ok (.string (nameOf 18)) W := by kernel_rfl
theorem index_19 (W : World) : (Instr.index 220 (.agg nameRow) (.int .i64 19)).run Tryz.prog W = .ok (.string (nameOf 19)) W := by kernel_rfl
theorem index_20 (W : World) : (Instr.index 220 (.agg nameRow) (.int .i64 20)).run Tryz.prog W = .ok (.string (nameOf 20)) W := by kernel_rfl
theorem index_21 (W : World) : (Instr.index 220 (.agg nameRow) (.int .i64 21)).run Tryz.prog W = .ok (.string (nameOf 21)) W := by kernel_rfl
theorem index_22 (W : World) : (Instr.index 220 (.agg nameRow) (.int .i64 22)).run Tryz.prog W = .ok (.string (nameOf 22)) W := by kernel_rfl
theorem index_23 (W : World) : (Instr.index 220 (.agg nameRow) (.int .i64 23)).run Tryz.prog W = .ok (.string (nameOf 23)) W := by kernel_rfl
theorem index_24 (W : World) : (Instr.index 220 (.agg nameRow) (.int .i64 24)).run Tryz.prog W = .ok (.string (nameOf 24)) W := by kernel_rfl
theorem index_25 (W : World) : (Instr.index 220 (.agg nameRow) (.int .i64 25)).run Tryz.prog W = .ok (.string (nameOf 25)) W := by kernel_rfl
theorem index_26 (W : World) : (Instr.index 220 (.agg nameRow) (.int .i64 26)).run Tryz.prog W = .ok (.string (nameOf 26)) W := by kernel_rfl
theorem index_27 (W : World) : (Instr.index 220 (.agg nameRow) (.int .i64 27)).run Tryz.prog W = .ok (.string (nameOf 27)) W := by kernel_rfl
theorem index_run (k : Nat) (hk : k < 28) (s : ByteArray) (hs : nameOf (k : Int) = s) (W : World) : (Instr.index 220 (.agg nameRow) (.int .i64 (k : Int))).run Tryz.prog W = .ok (.string s) W := by
  subst hs
  have h : k = 0 ∨ k = 1 ∨ k = 2 ∨ k = 3 ∨ k = 4 ∨ k = 5 ∨ k = 6 ∨ k = 7 ∨ k = 8 ∨ k = 9 ∨ k = 10 ∨ k = 11 ∨ k = 12 ∨ k = 13 ∨ k = 14 ∨ k = 15 ∨ k = 16 ∨ k = 17 ∨ k = 18 ∨ k = 19 ∨ k = 20 ∨ k = 21 ∨ k = 22 ∨ k = 23 ∨ k = 24 ∨ k = 25 ∨ k = 26 ∨ k = 27 := by omega
  clear hk
  rcases h with rfl | rfl | rfl | rfl | rfl | rfl | rfl | rfl | rfl | rfl | rfl | rfl | rfl | rfl | rfl | rfl | rfl | rfl | rfl | rfl | rfl | rfl | rfl | rfl | rfl | rfl | rfl | rfl
  · exact index_0 W
  · exact index_1 W
  · exact index_2 W
  · exact index_3 W
  · exact index_4 W
  · exact index_5 W
  · exact index_6 W
  · exact index_7 W
  · exact index_8 W
  · exact index_9 W
  · exact index_10 W
  · exact index_11 W
  · exact index_12 W
  · exact index_13 W
  · exact index_14 W
  · exact index_15 W
  · exact index_16 W
  · exact index_17 W
  · exact index_18 W
  · exact index_19 W
  · exact index_20 W
  · exact index_21 W
  · exact index_22 W
  · exact index_23 W
  · exact index_24 W
  · exact index_25 W
  · exact index_26 W
  · exact index_27 W
theorem nameOf_none (n : Int) (h : n < 1 ∨ 27 < n) : nameOf n = ⟨#[]⟩ := by unfold nameOf; rw [rowOf_none n h]; rfl
/-- What Find answers of a text. -/
def FindS (s : ByteArray) (r : Int) (b : Bool) : Prop := (b = true ∧ 1 ≤ r ∧ r ≤ 27 ∧ nameOf r = s) ∨ (b = false ∧ r = 0 ∧ ∀ k : Nat, 1 ≤ k → k < 28 → nameOf (k : Int) ≠ s)
def FindQ (s : ByteArray) (w : World) (e : Ending) (w' : World) : Prop := ∃ r b, FindS s r b ∧ e = .returned (.tuple #[.int .i64 r, .bool b]) ∧ w = w'
theorem find_v (s : ByteArray) (w : World) (hG : Glob w) : Calls Tryz.prog 145 #[.string s] w (FindQ s w) := by
  have HG := Lib.hid hG
  clear hG
  have tok1 : True := trivial
  go_enter Tryz.func145, Tryz.ntmps145
  go_wp2_with ((have _t := tok1); refine load_names rfl (.global 1) rfl rfl HG.out ?_; clear tok1)
  go_loopg [7] 28 (fun gk u wr => ∃ (k : Nat), k + gk = 28 ∧ u = .int .i64 (k : Int) ∧ wr = w ∧ Hid (∀ j : Nat, 1 ≤ j → j < k → nameOf (j : Int) ≠ s))
  case atStart => exact ⟨0, by omega, rfl, rfl, fun j h1 h2 => by omega⟩
  case round =>
    obtain ⟨k, hk, rfl, rfl, HH⟩ := hrel
    by_cases hlt : k < 28
    · obtain ⟨t, ht⟩ : ∃ t, nameOf (k : Int) = t := ⟨_, rfl⟩
      have hi := index_run k hlt t ht
      have HT := Lib.hid ht
      clear ht
      by_cases h0 : k = 0
      · have HO := Lib.hid (show isOp (k : Int) = false by rw [h0]; rfl)
        have HK := Lib.hid h0
        clear h0
        go_wp2_with fail
        refine (is_v (k : Int) false HO.out _).mono ?_
        rintro e w1 ⟨rfl, rfl⟩
        go_wp2_with fail
        go_roundg (gk - 1)
        case measure => omega
        case rel => exact ⟨k + 1, by omega, by go_num, rfl, fun j h1 h2 => by have := HK.out; omega⟩
      · have ho : isOp (k : Int) = true := by unfold isOp; simp; omega
        have HO := Lib.hid ho
        have HK := Lib.hid h0
        clear ho h0
        cases hb : (t.toList == s.toList) with
        | true =>
          go_wp2_with fail
          refine (is_v (k : Int) true HO.out _).mono ?_
          rintro e w1 ⟨rfl, rfl⟩
          go_wp2_with fail
          go_ret2
          have hts : t = s := by rw [beq_iff_eq, ByteArray.toList_eq, ByteArray.toList_eq] at hb; exact ByteArray.ext (Array.ext' hb)
          exact ⟨(k : Int), true, .inl ⟨rfl, by have := HK.out; omega, by omega, HT.out.trans hts⟩, rfl, rfl⟩
        | false =>
          go_wp2_with fail
          refine (is_v (k : Int) true HO.out _).mono ?_
          rintro e w1 ⟨rfl, rfl⟩
          go_wp2_with fail
          go_roundg (gk - 1)
          case measure => omega
          case rel =>
            have hts : t ≠ s := by rintro rfl; rw [beq_self_eq_true] at hb; cases hb
            refine ⟨k + 1, by omega, by go_num, rfl, fun j h1 h2 => ?_⟩
            by_cases hj : j = k
            · subst hj; rw [HT.out]; exact hts
            · exact HH.out j h1 (by omega)
    · obtain rfl : k = 28 := by omega
      clear hlt
      go_wp2_with fail
      go_ret2
      exact ⟨0, false, .inr ⟨rfl, rfl, HH.out⟩, rfl, rfl⟩
theorem names_apart : ∀ j k : Fin 28, 1 ≤ j.val → 1 ≤ k.val → nameOf (j.val : Int) = nameOf (k.val : Int) → j = k := by decide +kernel
theorem names_some : ∀ k : Fin 28, 1 ≤ k.val → nameOf (k.val : Int) ≠ ⟨#[]⟩ := by decide +kernel
theorem FindS.of_op {n : Int} (h1 : 1 ≤ n) (h2 : n ≤ 27) {s : ByteArray} (hs : nameOf n = s) {r : Int} {b : Bool} (h : FindS s r b) : b = true ∧ r = n := by
  rcases h with ⟨hb, h3, h4, h5⟩ | ⟨hb, _, h5⟩
  · refine ⟨hb, ?_⟩
    have := names_apart ⟨r.toNat, by omega⟩ ⟨n.toNat, by omega⟩ (by simp; omega) (by simp; omega) (by
      show nameOf (r.toNat : Int) = nameOf (n.toNat : Int)
      rw [show (r.toNat : Int) = r by omega, show (n.toNat : Int) = n by omega, h5, hs])
    injection this with this
    omega
  · exact absurd (by rw [show ((n.toNat : Nat) : Int) = n by omega]; exact hs) (h5 n.toNat (by omega) (by omega))
theorem FindS.of_none {r : Int} {b : Bool} (h : FindS ⟨#[]⟩ r b) : b = false ∧ r = 0 := by
  rcases h with ⟨hb, h3, h4, h5⟩ | ⟨hb, h3, _⟩
  · exact absurd (by rw [show ((r.toNat : Nat) : Int) = r by omega]; exact h5) (names_some ⟨r.toNat, by omega⟩ (by simp; omega))
  · exact ⟨hb, h3⟩
theorem FindS.is {s : ByteArray} {r : Int} {b : Bool} (h : FindS s r b) : isOp r = b := by
  rcases h with ⟨rfl, h3, h4, _⟩ | ⟨rfl, rfl, _⟩
  · unfold isOp; simp; omega
  · rfl
end Go.Proofs.YtbpichjmkllfaaaGreatDoor.Opr

/- The program's reader of tokens in memory; what its small calls do: where no function goes on so, they give up. -/
namespace Go.Proofs.YtbpichjmkllfaaaGreatDoor.Par
open Go.ChangeShapes Go.WideShapes Go.RowKit
open Lex (Tok tcl tkv tk tc)
set_option linter.unusedVariables false
set_option maxRecDepth 20000

/-- The program's reader, in memory. -/
structure Lr (w : World) (p g n cp : Nat) (ts : List Tok) (a : Nat) : Prop where
  box : w.heap[p]? = some (.cells #[.slice (some ⟨g, 0, none⟩) n cp, .int .i64 (a : Int)] 113 (0, 0))
  toks : IsToks w (some ⟨g, 0, none⟩) n ts
  glt : g < w.heap.size
  lt : a < n
  sep : g ≠ p
  ends : Ends ts
  wf : ∀ t ∈ ts, Wf t
  sg : ∀ t ∈ ts, t.kind = 7 → ∀ b ∈ t.text, Nam.sign b = false
  short : ∀ t ∈ ts, t.text.length ≤ 70000
  gl : Opr.Glob w
  big : 2 < p
/-- What it gives up with. -/
def gave (c : Int) (q : Nat) : PanicEntry := { v := .iface 111 (.agg #[Fau.bare c (q : Int)]), recovered := false }
/-- What a reading does: it reads, or gives up. -/
def LP {α : Type} (w : World) (p g n cp : Nat) (ts : List Tok) (a : Nat) (m : List Tok → Res α) (V : World → α → Value → Prop) (e : Ending) (w' : World) : Prop :=
  Step w.heap.size p w w' ∧ ((∃ v a' val, m (ts.drop a) = .ok v (ts.drop a') ∧ e = .returned val ∧ V w' v val ∧ Lr w' p g n cp ts a') ∨ ∃ c q, c ≠ 0 ∧ m (ts.drop a) = .bad c q ∧ e = .panicked [gave c q])
section
variable {w : World} {p g n cp : Nat} {ts : List Tok} {a : Nat}
theorem Lr.len (h : Lr w p g n cp ts a) : ts.length = n := h.toks.1
theorem Lr.few (h : Lr w p g n cp ts a) : n ≤ 1000000 := h.toks.2.1
theorem Lr.plt (h : Lr w p g n cp ts a) : p < w.heap.size := (Array.getElem?_eq_some_iff.1 h.box).1
theorem Lr.tok (h : Lr w p g n cp ts a) : ∃ t, ts[a]? = some t ∧ Wf t := by
  have hl : a < ts.length := by rw [h.len]; exact h.lt
  exact ⟨ts[a], List.getElem?_eq_getElem hl, h.wf _ (List.getElem_mem hl)⟩
theorem Lr.cells (h : Lr w p g n cp ts a) : w.cell? ⟨p, 0, none⟩ = some (.slice (some ⟨g, 0, none⟩) n cp) ∧ w.cell? ⟨p, 1, none⟩ = some (.int .i64 (a : Int)) := ⟨cell_in h.box 0, cell_in h.box 1⟩
theorem Lr.below {w' : World} (h : Lr w p g n cp ts a) (k : Below w.heap.size w w') : Lr w' p g n cp ts a :=
  ⟨kept_box h.box k, h.toks.below k, Nat.lt_of_lt_of_le h.glt k.size, h.lt, h.sep, h.ends, h.wf, h.sg, h.short, h.gl.below k (by have := h.plt; have := h.big; omega), h.big⟩
theorem Lr.alloc (h : Lr w p g n cp ts a) (o : Obj) : Lr (w.alloc o) p g n cp ts a := h.below ((Below.refl _ w).alloc (Nat.le_refl _) o)
/-- Above all that was there, whatever is laid. -/
theorem Lr.far {B : Nat} {w' : World} (h : Lr w p g n cp ts a) (k : Below B w w') (hp : p < B) (hg : g < B) : Lr w' p g n cp ts a :=
  ⟨(k.block p hp).trans h.box, h.toks.agree (below_agree k) (fun b o e => by injection e with e; injection e with e1 _; rw [← e1]; exact hg), Nat.lt_of_lt_of_le h.glt k.size, h.lt, h.sep, h.ends, h.wf, h.sg, h.short, h.gl.below k (by have := h.big; omega), h.big⟩
theorem Lr.set (h : Lr w p g n cp ts a) (b : Nat) (hb : b < n) : Step w.heap.size p w (w.setCell ⟨p, 1, none⟩ (.int .i64 (b : Int))) ∧ Lr (w.setCell ⟨p, 1, none⟩ (.int .i64 (b : Int))) p g n cp ts b := by
  refine ⟨(Step.refl _ _ _).put _ _, ?_, h.toks.agree (set_agree w p 1 _) (fun b o e => by injection e with e; injection e with e1 _; rw [← e1]; exact h.sep), by simpa [World.setCell] using h.glt, hb, h.sep, h.ends, h.wf, h.sg, h.short, h.gl.below (B := 2) ((Below.refl 2 w).setCell (p := ⟨p, 1, none⟩) (by have := h.big; show 2 ≤ p; omega) _) (by decide), h.big⟩
  have := h.box
  simp [World.setCell, Array.getElem?_modify, this]
theorem Lr.at (h : Lr w p g n cp ts a) {k : Nat} {t : Tok} (ht : ts[k]? = some t) : w.cell? ⟨g, k * 5, none⟩ = some (.int .i64 t.kind) ∧ w.cell? ⟨g, k * 5 + 1, none⟩ = some (.string ⟨t.text.toArray⟩) ∧ w.cell? ⟨g, k * 5 + 2, none⟩ = some (.int .i64 t.n) ∧ w.cell? ⟨g, k * 5 + 3, none⟩ = some (.int .i64 t.cls) ∧ w.cell? ⟨g, k * 5 + 4, none⟩ = some (.int .i64 t.at_) := by
  obtain ⟨b, o, e, _, hc⟩ := h.toks.at ht
  injection e with e
  injection e with e1 e2
  subst e1; subst e2
  rwa [Nat.zero_add] at hc
theorem Lr.more (h : Lr w p g n cp ts a) {t : Tok} (ht : ts[a]? = some t) (hk : t.kind ≠ 0) : a + 1 < n := by
  have := h.ends.more ht hk
  rwa [h.len] at this
theorem Lr.tk_ (h : Lr w p g n cp ts a) : Fol.TkAt w g ts := by
  refine ⟨h.glt, fun k t ht => ?_⟩
  exact h.at ht
set_option maxHeartbeats 1000000 in
theorem ltok_v {t : Tok} (ht : ts[a]? = some t) (h : Lr w p g n cp ts a) : Calls Tryz.prog 138 #[.pointer (some ⟨p, 0, none⟩)] w fun e w' => e = .returned (tkv t) ∧ Below w.heap.size w w' := by
  obtain ⟨w1, hw⟩ : ∃ w1, w.alloc (.cells #[.int .i64 0, .string ⟨#[]⟩, .int .i64 0, .int .i64 0, .int .i64 0] 72) = w1 := ⟨_, rfl⟩
  have hb := (Below.refl w.heap.size w).alloc (Nat.le_refl _) (.cells #[.int .i64 0, .string ⟨#[]⟩, .int .i64 0, .int .i64 0, .int .i64 0] 72)
  rw [hw] at hb
  obtain ⟨c0, c1⟩ := (h.below hb).cells
  obtain ⟨d0, d1, d2, d3, d4⟩ := (h.below hb).at ht
  have hl := h.lt
  have l1 : (0 : Int) ≤ (a : Int) := Int.natCast_nonneg _
  have l2 : (a : Int) < (n : Int) := by omega
  have z : w1.heap[w.heap.size]? = some (.cells #[.int .i64 0, .string ⟨#[]⟩, .int .i64 0, .int .i64 0, .int .i64 0] 72 (0, 0)) := by rw [← hw]; exact heap_alloc_new w _
  have e0 := box_frozen z 0
  have e1 := box_frozen z 1
  have e2 := box_frozen z 2
  have e3 := box_frozen z 3
  have e4 := box_frozen z 4
  have x0 : w1.cell? ⟨w.heap.size, 0, none⟩ = some (.int .i64 0) := cell_in z 0
  have x1 : w1.cell? ⟨w.heap.size, 1, none⟩ = some (.string ⟨#[]⟩) := cell_in z 1
  have x2 : w1.cell? ⟨w.heap.size, 2, none⟩ = some (.int .i64 0) := cell_in z 2
  have x3 : w1.cell? ⟨w.heap.size, 3, none⟩ = some (.int .i64 0) := cell_in z 3
  have x4 : w1.cell? ⟨w.heap.size, 4, none⟩ = some (.int .i64 0) := cell_in z 4
  have Z := Lib.hid (And.intro z hb)
  clear h ht hl z hb
  go_enter Tryz.func138, Tryz.ntmps138
  go_wp2_with fail
  try rw [hw]
  clear hw
  go_region
  go_wp2_with fail
  refine fin_tok (fn := Tryz.f138) rfl rfl (Lex.five_heap Z.out.1) rfl ?_
  exact ⟨rfl, (Lex.five_below Z.out.2 (Nat.le_refl _)).drew⟩
set_option maxHeartbeats 1000000 in
theorem lbeh_v {t : Tok} (ht : ts[a + 1]? = some t) (h : Lr w p g n cp ts a) : Calls Tryz.prog 117 #[.pointer (some ⟨p, 0, none⟩)] w fun e w' => e = .returned (tkv t) ∧ Below w.heap.size w w' := by
  obtain ⟨w1, hw⟩ : ∃ w1, w.alloc (.cells #[.int .i64 0, .string ⟨#[]⟩, .int .i64 0, .int .i64 0, .int .i64 0] 72) = w1 := ⟨_, rfl⟩
  have hb := (Below.refl w.heap.size w).alloc (Nat.le_refl _) (.cells #[.int .i64 0, .string ⟨#[]⟩, .int .i64 0, .int .i64 0, .int .i64 0] 72)
  rw [hw] at hb
  obtain ⟨c0, c1⟩ := (h.below hb).cells
  obtain ⟨d0, d1, d2, d3, d4⟩ := (h.below hb).at ht
  have hl := (List.getElem?_eq_some_iff.1 ht).1
  rw [h.len] at hl
  have hf := h.few
  obtain ⟨a1, ha1⟩ : ∃ a1, a + 1 = a1 := ⟨_, rfl⟩
  rw [ha1] at d0 d1 d2 d3 d4 hl
  have l1 : (0 : Int) ≤ (a1 : Int) := Int.natCast_nonneg _
  have l2 : (a1 : Int) < (n : Int) := by omega
  have q1 : (a : Int) + 1 = (a1 : Int) := by omega
  have q2 : wrap64 ((a : Int) + 1) = (a1 : Int) := by rw [q1]; unfold wrap64; omega
  have q3 : wrap64 (a1 : Int) = (a1 : Int) := by unfold wrap64; omega
  have z : w1.heap[w.heap.size]? = some (.cells #[.int .i64 0, .string ⟨#[]⟩, .int .i64 0, .int .i64 0, .int .i64 0] 72 (0, 0)) := by rw [← hw]; exact heap_alloc_new w _
  have e0 := box_frozen z 0
  have e1 := box_frozen z 1
  have e2 := box_frozen z 2
  have e3 := box_frozen z 3
  have e4 := box_frozen z 4
  have x0 : w1.cell? ⟨w.heap.size, 0, none⟩ = some (.int .i64 0) := cell_in z 0
  have x1 : w1.cell? ⟨w.heap.size, 1, none⟩ = some (.string ⟨#[]⟩) := cell_in z 1
  have x2 : w1.cell? ⟨w.heap.size, 2, none⟩ = some (.int .i64 0) := cell_in z 2
  have x3 : w1.cell? ⟨w.heap.size, 3, none⟩ = some (.int .i64 0) := cell_in z 3
  have x4 : w1.cell? ⟨w.heap.size, 4, none⟩ = some (.int .i64 0) := cell_in z 4
  have Z := Lib.hid (And.intro z hb)
  clear h ht hl z hb hf ha1
  go_enter Tryz.func117, Tryz.ntmps117
  go_wp2_with fail
  try rw [hw]
  clear hw
  go_region
  go_wp2_with fail
  refine fin_tok (fn := Tryz.f117) rfl rfl (Lex.five_heap Z.out.1) rfl ?_
  exact ⟨rfl, (Lex.five_below Z.out.2 (Nat.le_refl _)).drew⟩
theorem lis_v (x : ByteArray) (r : Bool) (hr : isB (ts.drop a) x.data.toList = r) (h : Lr w p g n cp ts a) : Calls Tryz.prog 113 #[.pointer (some ⟨p, 0, none⟩), .string x] w fun e w' => e = .returned (.bool r) ∧ Below w.heap.size w w' := by
  obtain ⟨t, ht, _⟩ := h.tok
  rw [isB_at _ ht] at hr
  have HA := Lib.hid (And.intro hr (And.intro ht h))
  clear hr ht h
  go_enter Tryz.func113, Tryz.ntmps113
  go_wp2_with fail
  refine (ltok_v HA.out.2.1 HA.out.2.2).mono ?_
  rintro e w1 ⟨rfl, hb⟩
  have HB := Lib.hid hb
  clear hb
  go_wp2_with fail
  refine (Fol.is_v t x r HA.out.1 w1).mono ?_
  rintro e w2 ⟨rfl, hb⟩
  have HC := Lib.hid hb
  clear hb
  go_wp2_with fail
  go_ret
  exact ⟨rfl, HB.out.trans (HC.out.mono HB.out.size)⟩
theorem lmay_no (x : ByteArray) (hr : isB (ts.drop a) x.data.toList = false) (h : Lr w p g n cp ts a) : Calls Tryz.prog 75 #[.pointer (some ⟨p, 0, none⟩), .string x] w fun e w' => e = .returned (.bool false) ∧ Below w.heap.size w w' := by
  have HA := Lib.hid (And.intro hr h)
  clear hr h
  go_enter Tryz.func75, Tryz.ntmps75
  go_wp2_with fail
  refine (lis_v x false HA.out.1 HA.out.2).mono ?_
  rintro e w1 ⟨rfl, hb⟩
  go_wp2_with fail
  go_ret
  exact ⟨rfl, hb⟩
theorem Lr.isMore (h : Lr w p g n cp ts a) {x : List UInt8} (hb : isB (ts.drop a) x = true) : a + 1 < n := by
  obtain ⟨t, ht, _⟩ := h.tok
  rw [isB_at _ ht] at hb
  exact h.more ht (by have := isT_kind hb; omega)
theorem lmay_yes (x : ByteArray) (hr : isB (ts.drop a) x.data.toList = true) (h : Lr w p g n cp ts a) : Calls Tryz.prog 75 #[.pointer (some ⟨p, 0, none⟩), .string x] w fun e w' => e = .returned (.bool true) ∧ Step w.heap.size p w w' ∧ Lr w' p g n cp ts (a + 1) := by
  have hn := h.isMore hr
  have HA := Lib.hid (And.intro hr (And.intro h hn))
  clear hr h hn
  go_enter Tryz.func75, Tryz.ntmps75
  go_wp2_with fail
  refine (lis_v x true HA.out.1 HA.out.2.1).mono ?_
  rintro e w1 ⟨rfl, hb⟩
  have R1 := HA.out.2.1.below hb
  obtain ⟨c0, c1⟩ := R1.cells
  have f1 := box_frozen R1.box 1
  obtain ⟨a1, ha1⟩ : ∃ a1, a + 1 = a1 := ⟨_, rfl⟩
  have hn := HA.out.2.2
  have hf := HA.out.2.1.few
  have g1 := R1.set (a + 1) hn
  have HE := Lib.hid ha1
  rw [ha1] at g1
  have HB := Lib.hid (And.intro hb g1)
  have q1 : (a : Int) + 1 = (a1 : Int) := by omega
  have q2 : wrap64 ((a : Int) + 1) = (a1 : Int) := by rw [q1]; unfold wrap64; omega
  have q3 : wrap64 (a1 : Int) = (a1 : Int) := by unfold wrap64; omega
  clear hb R1 g1 ha1 hn hf
  go_wp2_with fail
  go_ret
  rw [HE.out]
  exact ⟨rfl, (Step.of HB.out.1).trans (HB.out.2.1.mono HB.out.1.size), HB.out.2.2⟩
theorem sizeGave : (Tryz.prog.info? 111).map (·.size) = some 1 := by kernel_rfl
theorem field4 (k : Int) (s : ByteArray) (m c q : Int) (w : World) : (Instr.field 72 (tk k s m c q) 4).run Tryz.prog w = .ok (.int .i64 q) w := by kernel_rfl
theorem field1 (k : Int) (s : ByteArray) (m c q : Int) (w : World) : (Instr.field 72 (tk k s m c q) 1).run Tryz.prog w = .ok (.string s) w := by kernel_rfl
theorem field0 (k : Int) (s : ByteArray) (m c q : Int) (w : World) : (Instr.field 72 (tk k s m c q) 0).run Tryz.prog w = .ok (.int .i64 k) w := by kernel_rfl
theorem field2 (k : Int) (s : ByteArray) (m c q : Int) (w : World) : (Instr.field 72 (tk k s m c q) 2).run Tryz.prog w = .ok (.int .i64 m) w := by kernel_rfl
theorem lwrong_v {t : Tok} (ht : ts[a]? = some t) (h : Lr w p g n cp ts a) : Calls Tryz.prog 114 #[.pointer (some ⟨p, 0, none⟩)] w fun e w' => e = .returned (.agg #[Fau.bare 20 (t.at_ : Int)]) ∧ Below w.heap.size w w' := by
  have F4 := field4
  have HA := Lib.hid (And.intro ht h)
  clear ht h
  go_enter Tryz.func114, Tryz.ntmps114
  go_wp2_with fail
  refine (ltok_v HA.out.1 (HA.out.2.alloc _)).mono ?_
  rintro e w1 ⟨rfl, hb⟩
  have z : w1.heap[w.heap.size]? = some (.cells #[.nilIface] 111 (0, 0)) := by
    rw [hb.block w.heap.size (by simp)]
    exact heap_alloc_new w _
  have hb' := (Below.refl w.heap.size w).alloc (Nat.le_refl _) (.cells #[.nilIface] 111)
  have HB := Lib.hid (And.intro (hb'.trans (hb.mono (by simp))) z)
  have x0 : w1.cell? ⟨w.heap.size, 0, none⟩ = some .nilIface := cell_in z 0
  have f0 := box_frozen z 0
  clear hb hb' z
  unfold tkv
  go_wp2_with fail
  refine (Fau.new_v 20 _ (by decide) _).mono ?_
  rintro e w2 ⟨rfl, rfl⟩
  unfold Fau.bare
  go_wp2_with fail
  refine bodyPost_ret (results_cell_row (fn := Tryz.f114) rfl _ _ w.heap.size 111 #[Fau.bare 20 (t.at_ : Int)] (0, 0) _ rfl (by have := HB.out.2; simp [World.setCell, Array.getElem?_modify, this, Fau.bare]) Tryz.underlying111 rfl sizeGave) rfl ?_
  exact ⟨rfl, HB.out.1.setCell (p := ⟨w.heap.size, 0, none⟩) (Nat.le_refl _) _⟩
theorem lmust_v (x : ByteArray) (h : Lr w p g n cp ts a) : Calls Tryz.prog 76 #[.pointer (some ⟨p, 0, none⟩), .string x] w (LP w p g n cp ts a (must x.data.toList) fun _ _ val => val = .tuple #[]) := by
  obtain ⟨t, ht, _⟩ := h.tok
  cases hr : isB (ts.drop a) x.data.toList with
  | false =>
    have HA := Lib.hid (And.intro hr (And.intro ht h))
    clear hr ht h
    go_enter Tryz.func76, Tryz.ntmps76
    go_wp2_with fail
    refine (lmay_no x HA.out.1 HA.out.2.2).mono ?_
    rintro e w1 ⟨rfl, hb⟩
    have HB := Lib.hid hb
    clear hb
    go_wp2_with fail
    refine (lwrong_v HA.out.2.1 (HA.out.2.2.below HB.out)).mono ?_
    rintro e w2 ⟨rfl, hb⟩
    have HC := Lib.hid hb
    clear hb
    go_wp2_with fail
    exact ⟨rfl, Step.of (HB.out.trans (HC.out.mono HB.out.size)), Or.inr ⟨20, t.at_, by decide, by rw [must_no HA.out.1]; unfold err; rw [head_at HA.out.2.1], rfl⟩⟩
  | true =>
    have HA := Lib.hid (And.intro hr h)
    clear hr ht h
    go_enter Tryz.func76, Tryz.ntmps76
    go_wp2_with fail
    refine (lmay_yes x HA.out.1 HA.out.2).mono ?_
    rintro e w1 ⟨rfl, hs, hl⟩
    go_wp2_with fail
    go_end0
    exact ⟨hs, Or.inl ⟨(), a + 1, _, by rw [must_yes HA.out.1, tail_at], rfl, rfl, hl⟩⟩
end
end Go.Proofs.YtbpichjmkllfaaaGreatDoor.Par

/- The program's reader: tokens of a kind, words. -/
namespace Go.Proofs.YtbpichjmkllfaaaGreatDoor.Par
open Go.ChangeShapes Go.WideShapes Go.RowKit
open Lex (Tok tcl tkv tk tc)
set_option linter.unusedVariables false
set_option maxRecDepth 20000

section
variable {w : World} {p g n cp : Nat} {ts : List Tok} {a : Nat}
/-- Zero tokens. -/
def tok0A : Array Value := #[.int .i64 0, .string ⟨#[]⟩, .int .i64 0, .int .i64 0, .int .i64 0]
/-- A token in cells of its own. -/
theorem box5 {W : World} {b : Nat} {x0 x1 x2 x3 x4 : Value} {T : TypeId} (h : W.heap[b]? = some (.cells #[x0, x1, x2, x3, x4] T (0, 0))) :
    (W.cell? ⟨b, 0, none⟩ = some x0 ∧ W.cell? ⟨b, 1, none⟩ = some x1 ∧ W.cell? ⟨b, 2, none⟩ = some x2 ∧ W.cell? ⟨b, 3, none⟩ = some x3 ∧ W.cell? ⟨b, 4, none⟩ = some x4) ∧
    (W.frozen? ⟨b, 0, none⟩ = false ∧ W.frozen? ⟨b, 1, none⟩ = false ∧ W.frozen? ⟨b, 2, none⟩ = false ∧ W.frozen? ⟨b, 3, none⟩ = false ∧ W.frozen? ⟨b, 4, none⟩ = false) :=
  ⟨⟨cell_in h 0, cell_in h 1, cell_in h 2, cell_in h 3, cell_in h 4⟩, box_frozen h 0, box_frozen h 1, box_frozen h 2, box_frozen h 3, box_frozen h 4⟩
theorem far_put {W : World} {p b o : Nat} {v : Value} {ob : Obj} (h : W.heap[b]? = some ob) (hp : b ≠ p) : (W.setCell ⟨p, o, none⟩ v).heap[b]? = some ob := by
  rw [Below.heap_setCell _ _ _ _ hp]; exact h
theorem new_box (w : World) (cs : Array Value) (T : TypeId) {w' : World} (hw : w.alloc (.cells cs T) = w') : Below w.heap.size w w' ∧ w'.heap[w.heap.size]? = some (.cells cs T (0, 0)) := by
  rw [← hw]
  exact ⟨(Below.refl w.heap.size w).alloc (Nat.le_refl _) _, heap_alloc_new w _⟩
theorem plus1 {a n : Nat} (h : a + 1 < n) (hf : n ≤ 1000000) {a1 : Nat} (h1 : a + 1 = a1) : (a : Int) + 1 = (a1 : Int) ∧ wrap64 ((a : Int) + 1) = (a1 : Int) ∧ wrap64 (a1 : Int) = (a1 : Int) := by
  have q1 : (a : Int) + 1 = (a1 : Int) := by omega
  refine ⟨q1, by rw [q1]; unfold wrap64; omega, by unfold wrap64; omega⟩
set_option maxHeartbeats 1000000 in
theorem lone_yes {t : Tok} (k : Nat) (hk : t.kind = k) (h0 : k ≠ 0) (ht : ts[a]? = some t) (h : Lr w p g n cp ts a) : Calls Tryz.prog 115 #[.pointer (some ⟨p, 0, none⟩), .int .i64 (k : Int)] w (LP w p g n cp ts a (ofk k) fun _ t val => val = tkv t) := by
  have hkk : ((t.kind : Int) != (k : Int)) = false := by rw [hk]; simp
  have hn := h.more ht (by omega)
  obtain ⟨w0, hw0⟩ : ∃ w0, w.alloc (.cells #[.int .i64 0, .string ⟨#[]⟩, .int .i64 0, .int .i64 0, .int .i64 0] 72) = w0 := ⟨_, rfl⟩
  have nb := new_box w _ 72 hw0
  have HA := Lib.hid (And.intro hk (And.intro ht (And.intro h (And.intro hn nb))))
  clear hk ht h hn nb
  go_enter Tryz.func115, Tryz.ntmps115
  go_wp2_with fail
  try rw [hw0]
  clear hw0
  refine (ltok_v HA.out.2.1 (HA.out.2.2.1.below HA.out.2.2.2.2.1)).mono ?_
  rintro e w1 ⟨rfl, hb1⟩
  obtain ⟨a1, ha1⟩ : ∃ a1, a + 1 = a1 := ⟨_, rfl⟩
  obtain ⟨w2, hw2⟩ : ∃ w2, w1.alloc (.cells #[.int .i64 t.kind, .string ⟨t.text.toArray⟩, .int .i64 t.n, .int .i64 t.cls, .int .i64 t.at_] 72) = w2 := ⟨_, rfl⟩
  have nb2 := new_box w1 _ 72 hw2
  have hz0 := kept_box HA.out.2.2.2.2.2 (hb1.trans (nb2.1.mono hb1.size))
  have B2 : Below w.heap.size w w2 := HA.out.2.2.2.2.1.trans ((hb1.trans (nb2.1.mono hb1.size)).mono HA.out.2.2.2.2.1.size)
  have R2 := HA.out.2.2.1.below B2
  obtain ⟨c0, c1⟩ := R2.cells
  have f1 := box_frozen R2.box 1
  obtain ⟨q1, q2, q3⟩ := plus1 HA.out.2.2.2.1 HA.out.2.2.1.few ha1
  obtain ⟨w3, hw3⟩ : ∃ w3, w2.setCell ⟨p, 1, none⟩ (.int .i64 (a1 : Int)) = w3 := ⟨_, rfl⟩
  have g3 := R2.set a1 (by have := HA.out.2.2.2.1; omega)
  rw [hw3] at g3
  have hp := HA.out.2.2.1.plt
  have hlo : w.heap.size < w1.heap.size := Nat.lt_of_lt_of_le (Array.getElem?_eq_some_iff.1 HA.out.2.2.2.2.2).1 hb1.size
  have t2 := box5 nb2.2
  have t3 := far_put (p := p) (o := 1) (v := .int .i64 (a1 : Int)) nb2.2 (by omega)
  have z3 := far_put (p := p) (o := 1) (v := .int .i64 (a1 : Int)) hz0 (by omega)
  rw [hw3] at t3 z3
  obtain ⟨⟨x0, x1, x2, x3, x4⟩, _⟩ := t2
  obtain ⟨⟨y0, y1, y2, y3, y4⟩, _⟩ := box5 t3
  obtain ⟨⟨u0, u1, u2, u3, u4⟩, v0, v1, v2, v3, v4⟩ := box5 z3
  have HB := Lib.hid (And.intro B2 (And.intro g3 (And.intro z3 ha1)))
  clear hb1 nb2 hz0 B2 R2 g3 hp hlo t3 z3 ha1 c0
  unfold tkv tk tc
  go_wp2_with fail
  refine fin_tok (fn := Tryz.f115) rfl rfl (Lex.five_heap HB.out.2.2.1) rfl ?_
  have hg : Below w.heap.size w3 (Lex.five w3 w.heap.size (.int .i64 t.kind) (.string ⟨t.text.toArray⟩) (.int .i64 t.n) (.int .i64 t.cls) (.int .i64 t.at_)) := Lex.five_below (Below.refl _ w3) (Nat.le_refl _)
  refine ⟨((Step.of HB.out.1).trans (HB.out.2.1.1.mono HB.out.1.size)).trans (Step.of hg), Or.inl ⟨t, a1, _, ?_, rfl, rfl, HB.out.2.1.2.far hg HA.out.2.2.1.plt HA.out.2.2.1.glt⟩⟩
  rw [drop_at HA.out.2.1, HB.out.2.2.2]
  unfold ofk
  simp only
  rw [if_pos HA.out.1]
theorem lone_no {t : Tok} (k : Nat) (hk : t.kind ≠ k) (ht : ts[a]? = some t) (h : Lr w p g n cp ts a) : Calls Tryz.prog 115 #[.pointer (some ⟨p, 0, none⟩), .int .i64 (k : Int)] w (LP w p g n cp ts a (ofk k) fun _ t val => val = tkv t) := by
  have hkk : ((t.kind : Int) != (k : Int)) = true := by simp; omega
  obtain ⟨w0, hw0⟩ : ∃ w0, w.alloc (.cells #[.int .i64 0, .string ⟨#[]⟩, .int .i64 0, .int .i64 0, .int .i64 0] 72) = w0 := ⟨_, rfl⟩
  have nb := new_box w _ 72 hw0
  have HA := Lib.hid (And.intro hk (And.intro ht (And.intro h nb)))
  clear hk ht h nb
  go_enter Tryz.func115, Tryz.ntmps115
  go_wp2_with fail
  try rw [hw0]
  clear hw0
  refine (ltok_v HA.out.2.1 (HA.out.2.2.1.below HA.out.2.2.2.1)).mono ?_
  rintro e w1 ⟨rfl, hb1⟩
  obtain ⟨w2, hw2⟩ : ∃ w2, w1.alloc (.cells #[.int .i64 t.kind, .string ⟨t.text.toArray⟩, .int .i64 t.n, .int .i64 t.cls, .int .i64 t.at_] 72) = w2 := ⟨_, rfl⟩
  have nb2 := new_box w1 _ 72 hw2
  have B2 : Below w.heap.size w w2 := HA.out.2.2.2.1.trans ((hb1.trans (nb2.1.mono hb1.size)).mono HA.out.2.2.2.1.size)
  obtain ⟨⟨x0, x1, x2, x3, x4⟩, _⟩ := box5 nb2.2
  have HB := Lib.hid B2
  clear hb1 nb2 B2
  unfold tkv tk tc
  go_wp2_with fail
  refine (lwrong_v HA.out.2.1 (HA.out.2.2.1.below HB.out)).mono ?_
  rintro e w3 ⟨rfl, hb⟩
  have HC := Lib.hid hb
  clear hb
  go_wp2_with fail
  refine ⟨rfl, Step.of (HB.out.trans (HC.out.mono HB.out.size)), Or.inr ⟨20, t.at_, by decide, ?_, rfl⟩⟩
  rw [drop_at HA.out.2.1]
  unfold ofk
  simp only
  rw [if_neg HA.out.1]
  rfl
theorem lone_v (k : Nat) (h0 : k ≠ 0) (h : Lr w p g n cp ts a) : Calls Tryz.prog 115 #[.pointer (some ⟨p, 0, none⟩), .int .i64 (k : Int)] w (LP w p g n cp ts a (ofk k) fun _ t val => val = tkv t) := by
  obtain ⟨t, ht, _⟩ := h.tok
  by_cases hk : t.kind = k
  · exact lone_yes k hk h0 ht h
  · exact lone_no k hk ht h
/-- A word. -/
def word (l : List Tok) : Res (List UInt8) := (ofk 1 l).bind fun t r => .ok t.text r
theorem lword_v (h : Lr w p g n cp ts a) : Calls Tryz.prog 77 #[.pointer (some ⟨p, 0, none⟩)] w (LP w p g n cp ts a word fun _ s val => val = .string ⟨s.toArray⟩) := by
  have F1 := field1
  have HA := Lib.hid h
  clear h
  go_enter Tryz.func77, Tryz.ntmps77
  go_wp2_with fail
  refine (lone_v 1 (by decide) HA.out).mono ?_
  rintro e w1 ⟨hs, ⟨t, a1, val, hm, rfl, rfl, hl⟩ | ⟨c, q, hc, hm, rfl⟩⟩
  · unfold tkv
    have HB := Lib.hid (And.intro hs (And.intro hm hl))
    clear hs hm hl
    go_wp2_with fail
    go_ret
    exact ⟨HB.out.1, Or.inl ⟨_, a1, _, by unfold word; rw [HB.out.2.1]; rfl, rfl, rfl, HB.out.2.2⟩⟩
  · go_wp2_with fail
    exact ⟨rfl, hs, Or.inr ⟨c, q, hc, by unfold word; rw [hm]; rfl, rfl⟩⟩
end
end Go.Proofs.YtbpichjmkllfaaaGreatDoor.Par

/- What the program's own laying of digits answers: an array's end that holds a number's text. -/
namespace Go.Proofs.YtbpichjmkllfaaaGreatDoor.Deci
open Go.ChangeShapes Go.WideShapes Go.RowKit
set_option linter.unusedVariables false

/-- Bytes as cells. -/
def cellsOf (l : List UInt8) : List Value := l.map fun c => .int .u8 (c.toNat : Int)
theorem ret_int {k : IntKind} {a b : Int} (h : a = b) : Ending.returned (.int k a) = .returned (.int k b) := by rw [h]
def fit (n : Int) : Prop := -9223372036854775808 ≤ n ∧ n ≤ 9223372036854775807
theorem neg_wrap (n : Int) (h0 : n < 0) (h1 : -9223372036854775808 ≤ n) : IntKind.u64.wrap (-(IntKind.u64.wrap n)) = (n.natAbs : Int) := by
  have e : (n.natAbs : Int) = -n := by omega
  have hb : (2 : Int) ^ IntKind.u64.bits = 18446744073709551616 := by decide
  have hs : IntKind.u64.signed = false := rfl
  rw [e]; simp only [IntKind.wrap, hb, hs, Bool.false_and]
  simp only [Bool.false_eq_true, if_false]
  omega
def zeros : Array Value := #[.int .u8 0, .int .u8 0, .int .u8 0, .int .u8 0, .int .u8 0, .int .u8 0, .int .u8 0, .int .u8 0, .int .u8 0, .int .u8 0, .int .u8 0, .int .u8 0, .int .u8 0, .int .u8 0, .int .u8 0, .int .u8 0, .int .u8 0, .int .u8 0, .int .u8 0, .int .u8 0]
theorem dch_int (u : Nat) : ((dch u).toNat : Int) = 48 + (u : Int) % 10 := by rw [dch_nat]; omega
/-- What is laid: the bytes l at the end of block g. -/
def LaidE (g : Nat) (l : List UInt8) : Ending := .returned (.slice (some ⟨g, 20 - l.length, none⟩) l.length l.length)

theorem laidE_of {g j : Nat} {l : List UInt8} (h : j + l.length = 20) : Ending.returned (.slice (some ⟨g, j, none⟩) (20 - j) (20 - j)) = LaidE g l := by
  have e1 : 20 - l.length = j := by omega
  have e2 : 20 - j = l.length := by omega
  unfold LaidE; rw [e1, e2]
end Go.Proofs.YtbpichjmkllfaaaGreatDoor.Deci

/- What the program's Put, Long and Pad answer: a number's text, how long it is, and with blanks ahead. -/
namespace Go.Proofs.YtbpichjmkllfaaaGreatDoor.Deci
open Go.ChangeShapes Go.WideShapes Go.RowKit
set_option linter.unusedVariables false
set_option maxRecDepth 20000

end Go.Proofs.YtbpichjmkllfaaaGreatDoor.Deci
