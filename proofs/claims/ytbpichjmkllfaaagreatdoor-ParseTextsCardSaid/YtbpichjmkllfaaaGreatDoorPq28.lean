/- Packed texts of one proof. Conditions: none. -/
import Derived.Test.YtbpichjmkllfaaaGreatDoorPq27
import Derived.Test.YtbpichjmkllfaaaGreatDoorPq16
import Derived.Maps.AppendAt
namespace Go.Proofs.YtbpichjmkllfaaaGreatDoor.Flt
open Go.RowKit Go.Extern.Stop Go.Stop Go.Extern
set_option linter.unusedVariables false
def Glob (w : World) : Prop := w.cell? ⟨0, 0, none⟩ = some (.iface 172 (.agg #[.pointer (some ⟨3, 29, none⟩)]))
theorem Glob.pos {w : World} (h : Glob w) : 0 < w.heap.size := World.block_lt_of_cell? w _ h
theorem Glob.below {B : Nat} {w w' : World} (h : Glob w) (hb : Below B w w') (hB : 0 < B) : Glob w' := (hb.cell (by exact hB)).trans h
theorem Glob.alloc {w : World} (h : Glob w) (o : Obj) : Glob (w.alloc o) := (World.cell?_alloc_lt _ _ ⟨0, 0, none⟩ h.pos).trans h
theorem as_nil (t : Value) (w : World) :
  Calls Tryz.prog 28 #[.nilIface, t] w fun e w' => e = .returned (.bool false) ∧ w' = w := by
 go_enter Tryz.func28, Tryz.ntmps28
 go_wp2
 go_ret
 exact ⟨rfl, rfl⟩
theorem grown_after {w w1 w2 : World} {b : Nat} (h : Below w.heap.size w w1) (g : w1.grownBy w2 (some b)) : w.grownBy w2 (some b) :=
 ⟨g.os.trans h.os, g.tape.trans h.tape, g.output.trans h.output, Nat.le_trans h.size g.size, fun k hk hne => (g.block k (Nat.lt_of_lt_of_le hk h.size) hne).trans (h.block k hk)⟩
set_option maxRecDepth 100000 in
set_option maxHeartbeats 4000000 in
theorem As_f (code place : Int) (path : List ByteArray) (tb : Nat) (x y : Value) (w : World) (hg : Glob w)
  (ht : w.heap[tb]? = some (.cells #[x, y] 84 (0, 0))) :
  Calls Tryz.prog 28 #[err code place path, .iface 140 (.pointer (some ⟨tb, 0, none⟩))] w
   fun e w' => e = .returned (.bool true) ∧ w.grownBy w' (some tb) ∧ w'.heap[tb]? = some (.cells #[.int .i64 code, .int .i64 place] 84 (0, 0)) := by
 have h25 := @run_callFunc_extern Tryz.prog 57 _ (fun args => ReflectliteValue.unpack (args.getD 0 (.tuple #[]))) Tryz.func57 (by kernel_rfl) (by kernel_rfl) (by kernel_rfl) (by kernel_rfl)
 have h26 := @run_callFunc_extern Tryz.prog 58 _ (ReflectliteValue.methodAny (ReflectliteValue.valueError "reflectlite.Value.Type" 0) (fun t _ _ _ => ReflectliteType.toType t)) Tryz.func58 (by kernel_rfl) (by kernel_rfl) (by kernel_rfl) (by kernel_rfl)
 have h27 := @run_callFunc_extern Tryz.prog 59 _ (ReflectliteValue.method (ReflectliteValue.valueError "reflectlite.Value.IsNil" 0) ReflectliteValue.isNil) Tryz.func59 (by kernel_rfl) (by kernel_rfl) (by kernel_rfl) (by kernel_rfl)
 have h50 := @run_callFunc_extern Tryz.prog 218 _ (ReflectliteType.abiMethod fun t => do pure (.int .u8 (← Rtype.kind t))) Tryz.func218 (by kernel_rfl) (by kernel_rfl) (by kernel_rfl) (by kernel_rfl)
 have h64 := @run_callFunc_extern Tryz.prog 231 _ (ReflectliteType.method ReflectliteType.elem) Tryz.func231 (by kernel_rfl) (by kernel_rfl) (by kernel_rfl) (by kernel_rfl)
 have h65 := @run_callFunc_extern Tryz.prog 232 _ (ReflectliteType.relation "Implements" ReflectliteType.implements_) Tryz.func232 (by kernel_rfl) (by kernel_rfl) (by kernel_rfl) (by kernel_rfl)
 have f6 := valueOf56
 have f7 := type56
 have mK := methodKind
 have mE := methodElem
 have mI := methodImplements
 have k56 := kind56
 have k41 := kind41
 have e56 := elem56
 have i41 := implements41
 have n8 := isNil56 ⟨w.heap.size, 0, none⟩ ⟨tb, 0, none⟩ ((w.alloc (.cells #[.pointer (some ⟨tb, 0, none⟩)] 140)).alloc (.cells #[.pointer (some ⟨3, 140, none⟩), .pointer (some ⟨w.heap.size, 0, none⟩), .int .u64 150] 130)) (by simp)
 have hg2 : ((w.alloc (.cells #[.pointer (some ⟨tb, 0, none⟩)] 140)).alloc (.cells #[.pointer (some ⟨3, 140, none⟩), .pointer (some ⟨w.heap.size, 0, none⟩), .int .u64 150] 130)).cell? ⟨0, 0, none⟩ = some (.iface 172 (.agg #[.pointer (some ⟨3, 29, none⟩)])) := (hg.alloc _).alloc _
 have hb : Below w.heap.size w ((w.alloc (.cells #[.pointer (some ⟨tb, 0, none⟩)] 140)).alloc (.cells #[.pointer (some ⟨3, 140, none⟩), .pointer (some ⟨w.heap.size, 0, none⟩), .int .u64 150] 130)) := ((Below.refl _ w).alloc (Nat.le_refl _) _).alloc (by simp) _
 have HT := Hh (Ai ht hb)
 clear ht hg hb
 obtain ⟨T, v, hE⟩ := err_iface code place path
 have HE := Hh hE
 rw [hE]
 clear hE
 go_enter Tryz.func28, Tryz.ntmps28
 go_wp2_with fail
 rw [← HE.out]
 refine (as_f code place path tb w.heap.size x y _ (by rw [HT.out.2.block tb (fresh0 HT.out.1)]; exact HT.out.1) (by simp) (by simp; omega)).mono ?_
 rintro e w1 ⟨rfl, hgr, hh⟩
 have H1 := Hh (Ai (grown_after HT.out.2 hgr) hh)
 clear hgr hh
 go_wp2_with fail
 go_ret
 exact ⟨rfl, H1.out⟩
set_option maxRecDepth 100000 in
set_option maxHeartbeats 4000000 in
theorem As_w (p : ByteArray) (T : TypeId) (v : Value) (tb : Nat) (x y : Value) (w : World) (hg : Glob w)
  (ht : w.heap[tb]? = some (.cells #[x, y] 76 (0, 0))) :
  Calls Tryz.prog 28 #[.iface 76 (.agg #[.string p, .iface T v]), .iface 78 (.pointer (some ⟨tb, 0, none⟩))] w
   fun e w' => e = .returned (.bool true) ∧ w.grownBy w' (some tb) ∧ w'.heap[tb]? = some (.cells #[.string p, .iface T v] 76 (0, 0)) := by
 have h25 := @run_callFunc_extern Tryz.prog 57 _ (fun args => ReflectliteValue.unpack (args.getD 0 (.tuple #[]))) Tryz.func57 (by kernel_rfl) (by kernel_rfl) (by kernel_rfl) (by kernel_rfl)
 have h26 := @run_callFunc_extern Tryz.prog 58 _ (ReflectliteValue.methodAny (ReflectliteValue.valueError "reflectlite.Value.Type" 0) (fun t _ _ _ => ReflectliteType.toType t)) Tryz.func58 (by kernel_rfl) (by kernel_rfl) (by kernel_rfl) (by kernel_rfl)
 have h27 := @run_callFunc_extern Tryz.prog 59 _ (ReflectliteValue.method (ReflectliteValue.valueError "reflectlite.Value.IsNil" 0) ReflectliteValue.isNil) Tryz.func59 (by kernel_rfl) (by kernel_rfl) (by kernel_rfl) (by kernel_rfl)
 have h50 := @run_callFunc_extern Tryz.prog 218 _ (ReflectliteType.abiMethod fun t => do pure (.int .u8 (← Rtype.kind t))) Tryz.func218 (by kernel_rfl) (by kernel_rfl) (by kernel_rfl) (by kernel_rfl)
 have h64 := @run_callFunc_extern Tryz.prog 231 _ (ReflectliteType.method ReflectliteType.elem) Tryz.func231 (by kernel_rfl) (by kernel_rfl) (by kernel_rfl) (by kernel_rfl)
 have h65 := @run_callFunc_extern Tryz.prog 232 _ (ReflectliteType.relation "Implements" ReflectliteType.implements_) Tryz.func232 (by kernel_rfl) (by kernel_rfl) (by kernel_rfl) (by kernel_rfl)
 have f6 := valueOf54
 have f7 := type54
 have mK := methodKind
 have mE := methodElem
 have mI := methodImplements
 have k54 := kind54
 have k52 := kind52
 have e54 := elem54
 have i52 := implements52
 have n8 := isNil54 ⟨w.heap.size, 0, none⟩ ⟨tb, 0, none⟩ ((w.alloc (.cells #[.pointer (some ⟨tb, 0, none⟩)] 78)).alloc (.cells #[.pointer (some ⟨3, 78, none⟩), .pointer (some ⟨w.heap.size, 0, none⟩), .int .u64 150] 130)) (by simp)
 have hg2 : ((w.alloc (.cells #[.pointer (some ⟨tb, 0, none⟩)] 78)).alloc (.cells #[.pointer (some ⟨3, 78, none⟩), .pointer (some ⟨w.heap.size, 0, none⟩), .int .u64 150] 130)).cell? ⟨0, 0, none⟩ = some (.iface 172 (.agg #[.pointer (some ⟨3, 29, none⟩)])) := (hg.alloc _).alloc _
 have hb : Below w.heap.size w ((w.alloc (.cells #[.pointer (some ⟨tb, 0, none⟩)] 78)).alloc (.cells #[.pointer (some ⟨3, 78, none⟩), .pointer (some ⟨w.heap.size, 0, none⟩), .int .u64 150] 130)) := ((Below.refl _ w).alloc (Nat.le_refl _) _).alloc (by simp) _
 have HT := Hh (Ai ht hb)
 clear ht hg hb
 go_enter Tryz.func28, Tryz.ntmps28
 go_wp2_with fail
 refine (as_w p T v tb w.heap.size x y _ (by rw [HT.out.2.block tb (fresh0 HT.out.1)]; exact HT.out.1) (by simp) (by simp; omega)).mono ?_
 rintro e w1 ⟨rfl, hgr, hh⟩
 have H1 := Hh (Ai (grown_after HT.out.2 hgr) hh)
 clear hgr hh
 go_wp2_with fail
 go_ret
 exact ⟨rfl, H1.out⟩
set_option maxRecDepth 100000 in
set_option maxHeartbeats 4000000 in
theorem As_miss (code place : Int) (tb : Nat) (w : World) (hg : Glob w) :
  Calls Tryz.prog 28 #[bare code place, .iface 78 (.pointer (some ⟨tb, 0, none⟩))] w
   fun e w' => e = .returned (.bool false) ∧ Below w.heap.size w w' := by
 have h25 := @run_callFunc_extern Tryz.prog 57 _ (fun args => ReflectliteValue.unpack (args.getD 0 (.tuple #[]))) Tryz.func57 (by kernel_rfl) (by kernel_rfl) (by kernel_rfl) (by kernel_rfl)
 have h26 := @run_callFunc_extern Tryz.prog 58 _ (ReflectliteValue.methodAny (ReflectliteValue.valueError "reflectlite.Value.Type" 0) (fun t _ _ _ => ReflectliteType.toType t)) Tryz.func58 (by kernel_rfl) (by kernel_rfl) (by kernel_rfl) (by kernel_rfl)
 have h27 := @run_callFunc_extern Tryz.prog 59 _ (ReflectliteValue.method (ReflectliteValue.valueError "reflectlite.Value.IsNil" 0) ReflectliteValue.isNil) Tryz.func59 (by kernel_rfl) (by kernel_rfl) (by kernel_rfl) (by kernel_rfl)
 have h50 := @run_callFunc_extern Tryz.prog 218 _ (ReflectliteType.abiMethod fun t => do pure (.int .u8 (← Rtype.kind t))) Tryz.func218 (by kernel_rfl) (by kernel_rfl) (by kernel_rfl) (by kernel_rfl)
 have h64 := @run_callFunc_extern Tryz.prog 231 _ (ReflectliteType.method ReflectliteType.elem) Tryz.func231 (by kernel_rfl) (by kernel_rfl) (by kernel_rfl) (by kernel_rfl)
 have h65 := @run_callFunc_extern Tryz.prog 232 _ (ReflectliteType.relation "Implements" ReflectliteType.implements_) Tryz.func232 (by kernel_rfl) (by kernel_rfl) (by kernel_rfl) (by kernel_rfl)
 have f6 := valueOf54
 have f7 := type54
 have mK := methodKind
 have mE := methodElem
 have mI := methodImplements
 have k54 := kind54
 have k52 := kind52
 have e54 := elem54
 have i52 := implements52
 have n8 := isNil54 ⟨w.heap.size, 0, none⟩ ⟨tb, 0, none⟩ ((w.alloc (.cells #[.pointer (some ⟨tb, 0, none⟩)] 78)).alloc (.cells #[.pointer (some ⟨3, 78, none⟩), .pointer (some ⟨w.heap.size, 0, none⟩), .int .u64 150] 130)) (by simp)
 have hg2 : ((w.alloc (.cells #[.pointer (some ⟨tb, 0, none⟩)] 78)).alloc (.cells #[.pointer (some ⟨3, 78, none⟩), .pointer (some ⟨w.heap.size, 0, none⟩), .int .u64 150] 130)).cell? ⟨0, 0, none⟩ = some (.iface 172 (.agg #[.pointer (some ⟨3, 29, none⟩)])) := (hg.alloc _).alloc _
 have hb : Below w.heap.size w ((w.alloc (.cells #[.pointer (some ⟨tb, 0, none⟩)] 78)).alloc (.cells #[.pointer (some ⟨3, 78, none⟩), .pointer (some ⟨w.heap.size, 0, none⟩), .int .u64 150] 130)) := ((Below.refl _ w).alloc (Nat.le_refl _) _).alloc (by simp) _
 have HT := Hh hb
 clear hg hb
 unfold bare
 go_enter Tryz.func28, Tryz.ntmps28
 go_wp2_with fail
 refine (as_miss code place ⟨tb, 0, none⟩ ⟨w.heap.size, 0, none⟩ _).mono ?_
 rintro e w1 ⟨rfl, hb⟩
 have H1 := Hh (HT.out.trans (hb.mono HT.out.size))
 clear hb
 go_wp2_with fail
 go_ret
 exact ⟨rfl, H1.out⟩
theorem int_beq {x y : Int} (h : ¬ x = y) : (x == y) = false := by simpa using h
theorem new_v (code place : Int) (hc : ¬ code = 0) (w : World) : Calls Tryz.prog 26 #[.int .i64 code, .int .i64 place] w fun e w' => e = .returned (err code place []) ∧ w = w' := by
 have h := int_beq hc
 go_enter Tryz.func26, Tryz.ntmps26
 go_wp2_with fail
 go_ret
 exact ⟨rfl, rfl⟩
theorem in_v (p : ByteArray) (code place : Int) (r : List ByteArray) (w : World) : Calls Tryz.prog 25 #[.string p, err code place r] w fun e w' => e = .returned (err code place (p :: r)) ∧ w = w' := by
 obtain ⟨T, v, h1, h2⟩ := err_cons code place p r
 rw [h1, h2]
 clear h1 h2
 go_enter Tryz.func25, Tryz.ntmps25
 go_wp2_with fail
 go_ret
 exact ⟨rfl, rfl⟩
theorem alloc_zero (w : World) : (w.alloc (.cells #[.int .i64 0, .int .i64 0] 84)).heap[w.heap.size]? = some (.cells #[.int .i64 0, .int .i64 0] 84 (0, 0)) := heap_alloc_new w _
set_option maxHeartbeats 1000000 in
theorem inmost_v (code place : Int) (path : List ByteArray) (w : World) (hg : Glob w) : Calls Tryz.prog 31 #[err code place path] w fun e w' => e = .returned (.agg #[.int .i64 code, .int .i64 place]) ∧ Below w.heap.size w w' := by
 have hb : Below w.heap.size w (((w.alloc (.cells #[.int .i64 0, .int .i64 0] 84)).alloc (.cells #[.int .i64 0, .int .i64 0] 84))) := ((Below.refl _ w).alloc (Nat.le_refl _) _).alloc (by simp) _
 have HG := Hh hg
 have HB := Hh hb
 clear hg hb
 go_enter Tryz.func31, Tryz.ntmps31
 go_wp2_with fail
 refine (As_f code place path (w.heap.size + 1) (.int .i64 0) (.int .i64 0) _ ((HG.out.alloc _).alloc _) (by have := alloc_zero (w.alloc (.cells #[.int .i64 0, .int .i64 0] 84)); simpa using this)).mono ?_
 rintro e w1 ⟨rfl, hgr, hh⟩
 have c0 : w1.cell? ⟨w.heap.size + 1, 0, none⟩ = some (.int .i64 code) := by rw [Lib.cell_of_heap hh]; rfl
 have c1 : w1.cell? ⟨w.heap.size + 1, 1, none⟩ = some (.int .i64 place) := by rw [Lib.cell_of_heap hh]; rfl
 have hr : w1.heap[w.heap.size]? = some (.cells #[.int .i64 0, .int .i64 0] 84 (0, 0)) := by
  rw [hgr.block _ (by simp; omega) (by simp), Below.heap_alloc _ _ _ (by simp)]; exact alloc_zero w
 have r0 : w1.cell? ⟨w.heap.size, 0, none⟩ = some (.int .i64 0) := by rw [Lib.cell_of_heap hr]; rfl
 have r1 : w1.cell? ⟨w.heap.size, 1, none⟩ = some (.int .i64 0) := by rw [Lib.cell_of_heap hr]; rfl
 have z0 : w1.frozen? ⟨w.heap.size, 0, none⟩ = false := Lib.frozen_of_heap hr 0
 have z1 : w1.frozen? ⟨w.heap.size, 1, none⟩ = false := Lib.frozen_of_heap hr 1
 have H1 := Hh (HB.out.grown hgr (by simp; omega) (fun k hk => by injection hk; omega))
 have HR := Hh hr
 clear hgr hh hr
 go_wp2_with fail
 refine bodyPost_ret (results_cell_row (fn := Tryz.f31) rfl _ _ w.heap.size 84 #[.int .i64 code, .int .i64 place] (0, 0) _ rfl (two_heap HR.out) Tryz.underlying84 rfl (by kernel_rfl)) rfl ?_
 exact ⟨rfl, (H1.out.setCell (Nat.le_refl _) _).setCell (Nat.le_refl _) _⟩
theorem field0 (x y : Int) (w : World) : (Instr.field 84 (.agg #[.int .i64 x, .int .i64 y]) 0).run Tryz.prog w = .ok (.int .i64 x) w := by kernel_rfl
theorem field1 (x y : Int) (w : World) : (Instr.field 84 (.agg #[.int .i64 x, .int .i64 y]) 1).run Tryz.prog w = .ok (.int .i64 y) w := by kernel_rfl
theorem of_v (code place : Int) (path : List ByteArray) (w : World) (hg : Glob w) : Calls Tryz.prog 12 #[err code place path] w fun e w' => e = .returned (.int .i64 code) ∧ Below w.heap.size w w' := by
 have HG := Hh hg
 clear hg
 have hf := field0
 go_enter Tryz.func12, Tryz.ntmps12
 go_wp2_with fail
 refine (inmost_v code place path _ HG.out).mono ?_
 rintro e w1 ⟨rfl, hb⟩
 have H1 := Hh hb
 clear hb
 go_wp2_with fail
 go_ret
 exact ⟨rfl, H1.out⟩
theorem at_v (code place : Int) (path : List ByteArray) (w : World) (hg : Glob w) : Calls Tryz.prog 13 #[err code place path] w fun e w' => e = .returned (.int .i64 place) ∧ Below w.heap.size w w' := by
 have HG := Hh hg
 clear hg
 have hf := field1
 go_enter Tryz.func13, Tryz.ntmps13
 go_wp2_with fail
 refine (inmost_v code place path _ HG.out).mono ?_
 rintro e w1 ⟨rfl, hb⟩
 have H1 := Hh hb
 clear hb
 go_wp2_with fail
 go_ret
 exact ⟨rfl, H1.out⟩
end Go.Proofs.YtbpichjmkllfaaaGreatDoor.Flt
namespace Go.Proofs.YtbpichjmkllfaaaGreatDoor.Opr
open Go.ChangeShapes Go.WideShapes Go.RowKit
set_option linter.unusedVariables false
set_option maxRecDepth 20000
theorem news_new (w : World) (cs : Array Value) (t : TypeId) (l : List Value) (hl : cs.toList = l) : ∀ j u, l[j]? = some u → (w.alloc (.cells cs t)).cell? ((⟨w.heap.size, 0, none⟩ : Addr).add j) = some u := by
 subst hl
 exact World.news_of_block (heap_alloc_new w _)
end Go.Proofs.YtbpichjmkllfaaaGreatDoor.Opr
