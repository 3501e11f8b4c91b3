/- Two tokens compared; what Is answers; how All's answer is read. -/
import Derived.Test.YtmckplgbaalpbaaDoorLexAll
import Derived.Laws.StructEq
namespace Go.Proofs.YtmckplgbaalpbaaDoor.Lex
open Go.ChangeShapes Go.WideShapes Go.RowKit
set_option linter.unusedVariables false
set_option maxRecDepth 20000

theorem fields37 : Tryd.prog.underlying 37 = some (.struct (Tryd.prog.fieldsOf 37)) := by kernel_rfl
theorem held37 : Tryd.prog.stoodInHeld 37 = false := by kernel_rfl
theorem part0 (k : Int) (s : ByteArray) (n c a : Int) (w : World) : (part 3 (tc k s n c a) 0).run Tryd.prog w = .ok (.int .i64 k) w := by kernel_rfl
theorem part1 (k : Int) (s : ByteArray) (n c a : Int) (w : World) : (part 9 (tc k s n c a) 1).run Tryd.prog w = .ok (.string s) w := by kernel_rfl
theorem part2 (k : Int) (s : ByteArray) (n c a : Int) (w : World) : (part 3 (tc k s n c a) 2).run Tryd.prog w = .ok (.int .i64 n) w := by kernel_rfl
theorem part3 (k : Int) (s : ByteArray) (n c a : Int) (w : World) : (part 3 (tc k s n c a) 3).run Tryd.prog w = .ok (.int .i64 c) w := by kernel_rfl
theorem part4 (k : Int) (s : ByteArray) (n c a : Int) (w : World) : (part 3 (tc k s n c a) 4).run Tryd.prog w = .ok (.int .i64 a) w := by kernel_rfl
theorem names37 : (Tryd.prog.fieldsOf 37).toList.map (fun f => (f.name, f.type, f.offset)) = [("Kind", 3, 0), ("Text", 9, 1), ("N", 3, 2), ("Class", 3, 3), ("At", 3, 4)] := by kernel_rfl
def teq (k : Int) (s : ByteArray) (n c a : Int) (k' : Int) (s' : ByteArray) (n' c' a' : Int) : Bool := (k == k') && ((s.toList == s'.toList) && ((n == n') && ((c == c') && (a == a'))))
theorem eqf (k : Int) (s : ByteArray) (n c a : Int) (k' : Int) (s' : ByteArray) (n' c' a' : Int) (w : World) (d : Nat) (fs : List Field) (h : fs.map (fun f => (f.name, f.type, f.offset)) = [("Kind", 3, 0), ("Text", 9, 1), ("N", 3, 2), ("Class", 3, 3), ("At", 3, 4)]) :
    (Op.eqFields (d + 1) (tc k s n c a) (tc k' s' n' c' a') fs).run Tryd.prog w = .ok (teq k s n c a k' s' n' c' a') w := by
  obtain ⟨f0, f1, f2, f3, f4, rfl⟩ : ∃ f0 f1 f2 f3 f4, fs = [f0, f1, f2, f3, f4] := by
    have hl : fs.length = 5 := by have := congrArg List.length h; simpa using this
    match fs, hl with
    | [f0, f1, f2, f3, f4], _ => exact ⟨f0, f1, f2, f3, f4, rfl⟩
  simp only [List.map_cons, List.map_nil, List.cons.injEq, Prod.mk.injEq] at h
  obtain ⟨⟨a1, a2, a3⟩, ⟨b1, b2, b3⟩, ⟨c1, c2, c3⟩, ⟨d1, d2, d3⟩, ⟨e1, e2, e3⟩, _⟩ := h
  simp [Op.eqFields, a1, a2, a3, b1, b2, b3, c1, c2, c3, d1, d2, d3, e1, e2, e3, part0, part1, part2, part3, part4, run_equalIn_int _ _ _ _ _ _ _ Tryd.underlying3, run_equalIn_string _ _ _ _ _ Tryd.underlying9, Result.andThen]
  clear a1 a2 a3 b1 b2 b3 c1 c2 c3 d1 d2 d3 e1 e2 e3
  unfold teq
  cases h1 : k == k' <;> cases h2 : s.toList == s'.toList <;> cases h3 : n == n' <;> cases h4 : c == c' <;> cases h5 : a == a' <;> simp_all
theorem eqIn37 (k : Int) (s : ByteArray) (n c a : Int) (k' : Int) (s' : ByteArray) (n' c' a' : Int) (r : Bool) (hr : teq k s n c a k' s' n' c' a' = r) (W : World) : (Op.equalIn 10000 37 (.agg (tc k s n c a)) (.agg (tc k' s' n' c' a'))).run Tryd.prog W = .ok r W := by
  rw [run_equalIn_struct W (P := Tryd.prog) 9999 37 _ _ fields37 held37, eqf k s n c a k' s' n' c' a' W 9998 _ names37, hr]
theorem eql37 (k : Int) (s : ByteArray) (n c a : Int) (k' : Int) (s' : ByteArray) (n' c' a' : Int) (r : Bool) (hr : teq k s n c a k' s' n' c' a' = r) (W : World) : (binOp .eql 37 (.agg (tc k s n c a)) (.agg (tc k' s' n' c' a'))).run Tryd.prog W = .ok (.bool r) W := by
  rw [run_eql_struct, eqIn37 _ _ _ _ _ _ _ _ _ _ r hr W]; rfl
theorem neq37 (k : Int) (s : ByteArray) (n c a : Int) (k' : Int) (s' : ByteArray) (n' c' a' : Int) (r : Bool) (hr : teq k s n c a k' s' n' c' a' = !r) (W : World) : (binOp .neq 37 (.agg (tc k s n c a)) (.agg (tc k' s' n' c' a'))).run Tryd.prog W = .ok (.bool r) W := by
  rw [run_neq_struct, eqIn37 _ _ _ _ _ _ _ _ _ _ _ hr W]; cases r <;> rfl
theorem is_word (s t : ByteArray) (n c a : Int) (h : (s.toList == t.toList) = true) (w : World) : Calls Tryd.prog 14 #[tk 1 s n c a, .string t] w fun e w' => e = .returned (.bool true) ∧ Below w.heap.size w w' := by
  have hb := Lib.hid ((Below.refl _ w).alloc (Nat.le_refl _) (.cells (tc 1 s n c a) 37))
  unfold tk tc
  go_enter Tryd.func14, Tryd.ntmps14
  go_wp2_with fail
  go_ret
  exact ⟨rfl, hb.out⟩
theorem is_text (s t : ByteArray) (n c a : Int) (w : World) : Calls Tryd.prog 14 #[tk 3 s n c a, .string t] w fun e w' => e = .returned (.bool false) ∧ Below w.heap.size w w' := by
  have hb := Lib.hid ((Below.refl _ w).alloc (Nat.le_refl _) (.cells (tc 3 s n c a) 37))
  unfold tk tc
  go_enter Tryd.func14, Tryd.ntmps14
  go_wp2_with fail
  go_ret
  exact ⟨rfl, hb.out⟩
theorem AllP.good {s : ByteArray} {w w' : World} {e : Ending} {m : List Tok} {q : Nat} (h : AllP s w e w') (hm : all s.data.toList = (m, 0, q)) :
    ∃ A c, e = .returned (.tuple #[.slice A m.length c, .nilIface]) ∧ OwnK w.heap.size w' A c m ∧ Below w.heap.size w w' := by
  obtain ⟨m', code, q', h1, h2, h3⟩ := h
  rw [hm] at h1
  injection h1 with e1 e2
  injection e2 with e2 e3
  subst e1 e2 e3
  rcases h3 with ⟨_, A, c, h4, h5⟩ | ⟨h4, _⟩
  · exact ⟨A, c, h4, h5, h2⟩
  · exact absurd rfl h4
theorem AllP.bad {s : ByteArray} {w w' : World} {e : Ending} {m : List Tok} {code : Int} {q : Nat} (h : AllP s w e w') (hm : all s.data.toList = (m, code, q)) (hc : code ≠ 0) :
    e = .returned (.tuple #[.slice none 0 0, Fau.bare code (q : Int)]) ∧ Below w.heap.size w w' := by
  obtain ⟨m', code', q', h1, h2, h3⟩ := h
  rw [hm] at h1
  injection h1 with e1 e2
  injection e2 with e2 e3
  subst e1 e2 e3
  rcases h3 with ⟨h4, _⟩ | ⟨_, h4⟩
  · exact absurd h4 hc
  · exact ⟨h4, h2⟩
/-- The cells of an own slice's tokens. -/
theorem OwnK.form {N : Nat} {w : World} {A : Option Addr} {c : Nat} {l : List Tok} (h : OwnK N w A c l) (hl : 0 < l.length) : ∃ g, A = some ⟨g, 0, none⟩ ∧ N ≤ g ∧ g < w.heap.size ∧ ∀ k j, (hk : k < l.length) → j < 5 → w.cell? ⟨g, k * 5 + j, none⟩ = (tcl l[k])[j]? := by
  obtain ⟨g, cap, e, hb, hlt⟩ := World.ownsRow.form h hl
  simp only [Value.slice.injEq, true_and] at e
  obtain ⟨rfl, rfl⟩ := e
  refine ⟨g, rfl, hb, hlt, fun k j hk hj => ?_⟩
  rw [World.ownsRow.cellAt h _ (by omega)]
  exact tcs_at l k j hk hj
end Go.Proofs.YtmckplgbaalpbaaDoor.Lex
