/- Texts between quotes, as plain lists: how a byte is told, and what is read. -/
import Derived.Test.YtakfoncdiejhaaaDoorRows
import Derived.Outline
import Derived.WalkKit
import Derived.WalkLawsBesides
import Derived.LoopTactic
import Derived.Below
import Derived.IntWalk
import Derived.Deep.Light
import Derived.Deep.LoopGhost
import Derived.Deep.WholeRow
import Derived.Lib.Hide
import Derived.Laws.IdiomStrings
import Derived.OwnWalk
import Derived.Maps.AppendAt
import Derived.Deep.AppendLies
import Derived.Deep.RegionLaw
import Derived.Lib.BufferRead
import Derived.Deep.QuietTactic
import Derived.BigQuiet
namespace Go.Proofs.YtakfoncdiejhaaaDoor.Quo
set_option linter.unusedVariables false
set_option maxRecDepth 20000

/-- A digit to the base 16. -/
def hexd (n : Nat) : UInt8 := if n < 10 then UInt8.ofNat (48 + n) else UInt8.ofNat (87 + n)
/-- A byte between quotes. -/
def one (c : UInt8) : List UInt8 :=
  if c = 34 ∨ c = 92 then [92, c] else if c = 10 then [92, 110] else if c = 9 then [92, 116]
  else if 32 ≤ c.toNat ∧ c.toNat ≤ 126 then [c] else [92, 120, hexd (c.toNat / 16), hexd (c.toNat % 16)]
def body (l : List UInt8) : List UInt8 := l.flatMap one
/-- A text between quotes. -/
def put (l : List UInt8) : List UInt8 := 34 :: (body l ++ [34])
/-- The number of a digit to the base 16; 99: it is none. -/
def dig (c : UInt8) : Nat :=
  if 48 ≤ c.toNat ∧ c.toNat ≤ 57 then c.toNat - 48 else if 97 ≤ c.toNat ∧ c.toNat ≤ 102 then c.toNat - 87
  else if 65 ≤ c.toNat ∧ c.toNat ≤ 70 then c.toNat - 55 else 99
/-- The byte that two digits stand for, and 4; or 0. -/
def two : List UInt8 → UInt8 × Nat
  | h :: l :: _ => if dig h < 16 ∧ dig l < 16 then (UInt8.ofNat (16 * dig h + dig l), 4) else (0, 0)
  | _ => (0, 0)
/-- What stands behind a backslash. -/
def esc : List UInt8 → UInt8 × Nat
  | [] => (0, 0)
  | d :: r => if d = 34 ∨ d = 92 then (d, 2) else if d = 110 then (10, 2) else if d = 116 then (9, 2) else if d = 120 then two r else (0, 0)
/-- The byte that a text's beginning stands for, and how long that is; 0: none. -/
def piece : List UInt8 → UInt8 × Nat
  | [] => (0, 0)
  | c :: r => if c = 92 then esc r else (c, 1)
/-- What stands behind a quote: the text, where it ends, OK; or where it is wrong. -/
def scan : Nat → List UInt8 → Nat → List UInt8 → List UInt8 × Nat × Int
  | 0, _, p, _ => ([], p, 11)
  | _ + 1, [], p, _ => ([], p, 11)
  | f + 1, c :: r, p, t =>
    if c = 34 then (t, p + 1, 0) else if c = 10 then ([], p, 11) else if t.length = 64 then ([], p, 3)
    else if (piece (c :: r)).2 = 0 then ([], p, 11) else scan f ((c :: r).drop (piece (c :: r)).2) (p + (piece (c :: r)).2) (t ++ [(piece (c :: r)).1])

theorem all_bytes (P : UInt8 → Prop) (h : ∀ n, n < 256 → P (UInt8.ofNat n)) (c : UInt8) : P c := by
  have := h c.toNat c.toNat_lt
  rwa [UInt8.ofNat_toNat] at this
theorem hex_back (c : UInt8) : dig (hexd (c.toNat / 16)) = c.toNat / 16 ∧ dig (hexd (c.toNat % 16)) = c.toNat % 16 := by
  refine all_bytes (fun c => dig (hexd (c.toNat / 16)) = c.toNat / 16 ∧ dig (hexd (c.toNat % 16)) = c.toNat % 16) ?_ c
  decide +kernel
theorem piece_one (c : UInt8) (r : List UInt8) : piece (one c ++ r) = (c, (one c).length) := by
  unfold one
  split
  · rename_i h
    show (if c = 34 ∨ c = 92 then (c, 2) else _) = _
    rw [if_pos h]; rfl
  · split
    · subst_vars; rfl
    · split
      · subst_vars; rfl
      · split
        · rename_i h1 _ _ _
          have : c ≠ 92 := fun h => h1 (.inr h)
          show (if c = 92 then esc r else (c, 1)) = _
          rw [if_neg this]; rfl
        · show (if dig (hexd (c.toNat / 16)) < 16 ∧ dig (hexd (c.toNat % 16)) < 16 then (UInt8.ofNat (16 * dig (hexd (c.toNat / 16)) + dig (hexd (c.toNat % 16))), 4) else (0, 0)) = _
          have hl := c.toNat_lt
          rw [(hex_back c).1, (hex_back c).2, if_pos (by omega)]
          have : 16 * (c.toNat / 16) + c.toNat % 16 = c.toNat := by omega
          rw [this, UInt8.ofNat_toNat]; rfl
theorem one_len (c : UInt8) : 0 < (one c).length ∧ (one c).length ≤ 4 := by
  unfold one; repeat' split
  all_goals simp
theorem one_head (c : UInt8) : ∃ d r, one c = d :: r ∧ d ≠ 34 ∧ d ≠ 10 := by
  unfold one
  split
  · exact ⟨92, _, rfl, by decide, by decide⟩
  · split
    · exact ⟨92, _, rfl, by decide, by decide⟩
    · split
      · exact ⟨92, _, rfl, by decide, by decide⟩
      · split
        · rename_i h1 h2 _ _
          exact ⟨c, _, rfl, fun h => h1 (.inl h), h2⟩
        · exact ⟨92, _, rfl, by decide, by decide⟩
theorem one_range (c : UInt8) : ∀ d ∈ one c, 32 ≤ d.toNat ∧ d.toNat ≤ 126 := by
  refine all_bytes (fun c => ∀ d ∈ one c, 32 ≤ d.toNat ∧ d.toNat ≤ 126) ?_ c
  decide +kernel
theorem put_range (l : List UInt8) : ∀ d ∈ put l, 32 ≤ d.toNat ∧ d.toNat ≤ 126 := by
  intro d hd
  unfold put at hd
  simp only [List.mem_cons, List.mem_append, List.not_mem_nil, or_false] at hd
  rcases hd with rfl | hd | rfl
  · decide
  · obtain ⟨c, _, hc⟩ := List.mem_flatMap.1 hd
    exact one_range c d hc
  · decide
theorem body_len (l : List UInt8) : (body l).length ≤ 4 * l.length := by
  induction l with
  | nil => simp [body]
  | cons c l ih =>
    have := one_len c
    unfold body at ih ⊢
    rw [List.flatMap_cons, List.length_append, List.length_cons]; omega
theorem put_len (l : List UInt8) : (put l).length ≤ 4 * l.length + 2 := by
  have := body_len l
  unfold put; rw [List.length_cons, List.length_append]; simp; omega
theorem body_snoc (l : List UInt8) (c : UInt8) : body (l ++ [c]) = body l ++ one c := by unfold body; simp
/-- No two texts are told alike. -/
theorem body_inj : ∀ (s t : List UInt8) (r r' : List UInt8), body s ++ 34 :: r = body t ++ 34 :: r' → s = t := by
  intro s
  induction s with
  | nil =>
    intro t r r' h
    cases t with
    | nil => rfl
    | cons d t =>
      obtain ⟨x, y, hx, h34, _⟩ := one_head d
      unfold body at h
      rw [List.flatMap_cons, hx] at h
      simp at h
      exact absurd h.1.symm h34
  | cons c s ih =>
    intro t r r' h
    cases t with
    | nil =>
      obtain ⟨x, y, hx, h34, _⟩ := one_head c
      unfold body at h
      rw [List.flatMap_cons, hx] at h
      simp at h
      exact absurd h.1 h34
    | cons d t =>
      unfold body at h
      rw [List.flatMap_cons, List.flatMap_cons, List.append_assoc, List.append_assoc] at h
      have h1 := congrArg piece h
      rw [piece_one, piece_one] at h1
      injection h1 with h1 _
      subst h1
      have h2 := List.append_cancel_left h
      rw [ih t r r' h2]
theorem put_inj (s t : List UInt8) : put s = put t ↔ s = t := by
  constructor
  · intro h
    unfold put at h
    injection h with _ h
    exact body_inj s t [] [] h
  · rintro rfl; rfl

theorem two_size (l : List UInt8) : (two l).2 ≤ l.length + 2 := by
  unfold two
  split
  · split <;> simp
  · simp
theorem esc_size (l : List UInt8) : (esc l).2 ≤ l.length + 1 := by
  unfold esc
  split
  · simp
  · rename_i d r
    repeat' split
    · simp
    · simp
    · simp
    · have := two_size r; simp; omega
    · simp
theorem piece_size (l : List UInt8) : (piece l).2 ≤ l.length := by
  unfold piece
  split
  · simp
  · split
    · have := esc_size (by assumption); simp; omega
    · simp
/-- A step of the reading. -/
theorem scan_quote (f : Nat) (r : List UInt8) (p : Nat) (t : List UInt8) : scan (f + 1) (34 :: r) p t = (t, p + 1, 0) := by simp [scan]
theorem scan_step (f : Nat) (c : UInt8) (r : List UInt8) (p : Nat) (t : List UInt8) (h1 : c ≠ 34) (h2 : c ≠ 10) (h3 : t.length ≠ 64) (b : UInt8) (n : Nat) (hp : piece (c :: r) = (b, n)) (hn : n ≠ 0) :
    scan (f + 1) (c :: r) p t = scan f ((c :: r).drop n) (p + n) (t ++ [b]) := by
  rw [scan, if_neg h1, if_neg h2, if_neg h3, hp, if_neg hn]
/-- What is put is read as it was, or is too long. -/
theorem scan_body : ∀ (l : List UInt8) (f : Nat) (r : List UInt8) (p : Nat) (t : List UInt8), l.length < f → t.length + l.length ≤ 64 →
    scan f (body l ++ 34 :: r) p t = (t ++ l, p + (body l).length + 1, 0) := by
  intro l
  induction l with
  | nil =>
    intro f r p t hf ht
    obtain ⟨f, rfl⟩ : ∃ g, f = g + 1 := ⟨f - 1, by omega⟩
    rw [show body [] ++ 34 :: r = 34 :: r from rfl, scan_quote]; simp [body]
  | cons c l ih =>
    intro f r p t hf ht
    obtain ⟨f, rfl⟩ : ∃ g, f = g + 1 := ⟨f - 1, by omega⟩
    obtain ⟨x, y, hx, h34, h10⟩ := one_head c
    have hb : body (c :: l) ++ 34 :: r = one c ++ (body l ++ 34 :: r) := by unfold body; rw [List.flatMap_cons, List.append_assoc]
    have hp := piece_one c (body l ++ 34 :: r)
    have hl := one_len c
    rw [hx] at hl
    rw [hx, List.cons_append] at hp
    rw [hb, hx, List.cons_append]
    simp only [List.length_cons] at hf ht
    rw [scan_step f x _ p t h34 h10 (by omega) c _ hp (by omega)]
    rw [← List.cons_append, List.drop_left, ih f r _ _ (by omega) (by simp; omega)]
    have : (body (c :: l)).length = (x :: y).length + (body l).length := by unfold body; rw [List.flatMap_cons, List.length_append, hx]
    rw [this]
    simp; omega
theorem scan_body_long : ∀ (l : List UInt8) (f : Nat) (r : List UInt8) (p : Nat) (t : List UInt8), l.length < f → t.length ≤ 64 → 64 < t.length + l.length →
    ∃ q, scan f (body l ++ 34 :: r) p t = ([], q, 3) := by
  intro l
  induction l with
  | nil => intro f r p t _ h1 h2; simp at h2; omega
  | cons c l ih =>
    intro f r p t hf ht hm
    obtain ⟨f, rfl⟩ : ∃ g, f = g + 1 := ⟨f - 1, by omega⟩
    obtain ⟨x, y, hx, h34, h10⟩ := one_head c
    have hb : body (c :: l) ++ 34 :: r = one c ++ (body l ++ 34 :: r) := by unfold body; rw [List.flatMap_cons, List.append_assoc]
    have hp := piece_one c (body l ++ 34 :: r)
    have hl := one_len c
    rw [hx] at hl
    rw [hx, List.cons_append] at hp
    rw [hb, hx, List.cons_append]
    simp only [List.length_cons] at hf hm
    by_cases h64 : t.length = 64
    · exact ⟨p, by rw [scan, if_neg h34, if_neg h10, if_pos h64]⟩
    · rw [scan_step f x _ p t h34 h10 h64 c _ hp (by omega)]
      rw [← List.cons_append, List.drop_left]
      exact ih f r _ _ (by omega) (by simp; omega) (by simp; omega)
/-- What is read is no longer than 64 bytes; nothing is read beside a code. -/
theorem scan_out : ∀ (f : Nat) (l : List UInt8) (p : Nat) (t x : List UInt8) (y : Nat) (c : Int), t.length ≤ 64 → scan f l p t = (x, y, c) → x.length ≤ 64 ∧ (c ≠ 0 → x = []) := by
  intro f
  induction f with
  | zero => intro l p t x y c ht h; simp [scan] at h; obtain ⟨rfl, _, _⟩ := h; simp
  | succ f ih =>
    intro l p t x y c ht h
    cases l with
    | nil => simp [scan] at h; obtain ⟨rfl, _, _⟩ := h; simp
    | cons a r =>
      rw [scan] at h
      split at h
      · injection h with h1 h; injection h with h2 h3; subst h1 h3; exact ⟨ht, fun h => absurd rfl h⟩
      · split at h
        · injection h with h1 h; subst h1; simp
        · split at h
          · injection h with h1 h; subst h1; simp
          · split at h
            · injection h with h1 h; subst h1; simp
            · exact ih _ _ _ _ _ _ (by simp; omega) h
end Go.Proofs.YtakfoncdiejhaaaDoor.Quo
/- What the program's digit, twoDigits and piece answer. -/
namespace Go.Proofs.YtakfoncdiejhaaaDoor.Quo
open Go.ChangeShapes Go.WideShapes Go.RowKit
set_option linter.unusedVariables false
set_option maxRecDepth 20000

theorem ret_two {a b : Int} {k l : IntKind} {c d : Int} (h : a = c) (h2 : b = d) : Ending.returned (.tuple #[.int k a, .int l b]) = .returned (.tuple #[.int k c, .int l d]) := by rw [h, h2]
theorem ret_ib {a : Int} {k : IntKind} {c : Int} {x : Bool} (h : a = c) : Ending.returned (.tuple #[.int k a, .bool x]) = .returned (.tuple #[.int k c, .bool x]) := by rw [h]
end Go.Proofs.YtakfoncdiejhaaaDoor.Quo
/- What the program's twoDigits and piece answer. -/
namespace Go.Proofs.YtakfoncdiejhaaaDoor.Quo
open Go.ChangeShapes Go.WideShapes Go.RowKit
set_option linter.unusedVariables false
set_option maxRecDepth 20000

theorem len_list (s : ByteArray) : s.data.toList.length = s.size := rfl
theorem at_list (s : ByteArray) (i : Nat) (h : i < s.size) : s.data.toList[i]'(by rw [len_list]; exact h) = s[i] := by rfl
theorem drop_cons (s : ByteArray) (i : Nat) (h : i < s.size) : s.data.toList.drop i = s[i] :: s.data.toList.drop (i + 1) := by
  rw [List.drop_eq_getElem_cons (by rw [len_list]; exact h), at_list]
theorem ofNat_two (a b : Nat) (ha : a < 16) (hb : b < 16) : ((UInt8.ofNat (16 * a + b)).toNat : Int) = 16 * a + b := by
  rw [UInt8.toNat_ofNat']; omega
/-- What two digits stand for. -/
def two2 (h l : UInt8) : UInt8 × Nat := if dig h < 16 ∧ dig l < 16 then (UInt8.ofNat (16 * dig h + dig l), 4) else (0, 0)
theorem or_two : ∀ a : Nat, a < 16 → ∀ b : Nat, b < 16 → bits BinOp.or IntKind.u8 ((a : Int) * 16) (b : Int) = 16 * (a : Int) + (b : Int) := by decide +kernel
/-- A byte and a size handed back. -/
def E2 (t : UInt8 × Nat) : Ending := .returned (.tuple #[.int .u8 (t.1.toNat : Int), .int .i64 (t.2 : Int)])
theorem nat_eq {c d : UInt8} (h : c = d) : (c.toNat : Int) = (d.toNat : Int) := by rw [h]
theorem nat_beq {c : UInt8} {n : Nat} (h : c.toNat = n) : ((c.toNat : Int) == (n : Int)) = true := by rw [beq_iff_eq]; omega
theorem nat_bne {c : UInt8} {n : Nat} (h : c.toNat ≠ n) : ((c.toNat : Int) == (n : Int)) = false := by rw [beq_eq_false_iff_ne]; omega
theorem byte_ne {c d : UInt8} (h : c ≠ d) : c.toNat ≠ d.toNat := fun k => h (UInt8.toNat_inj.1 k)
theorem byte_is (c : UInt8) (n : Nat) (hn : n < 256) : c = UInt8.ofNat n ↔ c.toNat = n := by
  constructor
  · rintro rfl; rw [UInt8.toNat_ofNat']; omega
  · intro h; rw [← h, UInt8.ofNat_toNat]
end Go.Proofs.YtakfoncdiejhaaaDoor.Quo
/- What the program's told answers: the bytes so far, and behind them a byte as it stands between quotes. -/
namespace Go.Proofs.YtakfoncdiejhaaaDoor.Quo
open Go.ChangeShapes Go.WideShapes Go.RowKit
set_option linter.unusedVariables false
set_option maxRecDepth 20000

/-- Bytes as cells. -/
def cellsOf (l : List UInt8) : List Value := l.map fun c => .int .u8 (c.toNat : Int)
/-- The bytes t are those of a slice that the call has made. -/
def Own (base : Nat) (w : World) (A : Option Addr) (c : Nat) (t : List UInt8) : Prop := w.ownsRow base 5 1 (.slice A t.length c) t.length (cellsOf t)
/-- A slice of its own is handed back, with the bytes t. -/
def ToldP (base : Nat) (t : List UInt8) (w : World) (e : Ending) (w' : World) : Prop :=
  ∃ A c, e = .returned (.slice A t.length c) ∧ Own base w' A c t ∧ Below base w w'
theorem info5 : (Tryd.prog.info? 5).map (fun i => (i.zero, i.size, i.bytes)) = some (some (.int .u8 0), 1, 1) := by kernel_rfl
theorem one_cell (x : List UInt8) : ∀ u ∈ cellsOf x, u.oneCell' = true := by
  intro u hu
  obtain ⟨c, _, rfl⟩ := List.mem_map.1 hu
  rfl
theorem news_new (w : World) (cs : Array Value) (t : TypeId) (l : List Value) (hl : cs.toList = l) : ∀ j u, l[j]? = some u → (w.alloc (.cells cs t)).cell? ((⟨w.heap.size, 0, none⟩ : Addr).add j) = some u := by
  subst hl
  exact World.news_of_block (heap_alloc_new w _)
theorem own_next {base m : Nat} {w wr w1 : World} {A : Option Addr} {c : Nat} {t x : List UInt8} {v' : Value} {o : Obj} {xs : List Value}
    (ho : w1.ownsRow base 5 1 v' (t.length + m) (cellsOf t ++ xs)) (hx : xs = cellsOf x) (hm : x.length = m) (h0 : 0 < m)
    (hg : (wr.alloc o).grownBy w1 (Value.ownBlock (.slice A t.length c))) (hown : Own base wr A c t) (hb : Below base w wr) (hB : base ≤ wr.heap.size) :
    ∃ A' c', v' = .slice A' (t ++ x).length c' ∧ Own base w1 A' c' (t ++ x) ∧ Below base w w1 := by
  subst hx hm
  obtain ⟨g, cap, rfl, _, _⟩ := ho.form (by omega)
  have e1 : (t ++ x).length = t.length + x.length := by simp
  have e2 : cellsOf (t ++ x) = cellsOf t ++ cellsOf x := by unfold cellsOf; rw [List.map_append]
  unfold Own
  rw [e1, e2]
  refine ⟨_, _, rfl, ho, ?_⟩
  have h1 : Below base w (wr.alloc o) := hb.alloc hB o
  exact h1.grown hg (by simp; omega) (fun k hk => (hown.lt k hk).1)
set_option maxHeartbeats 400000 in
theorem told_34 (base : Nat) (A : Option Addr) (c : Nat) (t : List UInt8) (b : UInt8) (w : World) (h : Own base w A c t) (hl : t.length ≤ 100000000) (hB : base ≤ w.heap.size) (hb : b = 34) :
    Calls Tryd.prog 76 #[.slice A t.length c, .int .u8 (b.toNat : Int)] w (ToldP base (t ++ [92, 34]) w) := by
  obtain ⟨i0, hi0, hz0, hz1, hz2⟩ := info_parts info5
  have I0 := Lib.hid (And.intro hi0 (And.intro hz0 (And.intro hz1 hz2)))
  have HH := Lib.hid h
  clear hi0 hz0 hz1 hz2 h
  subst hb
  go_enter Tryd.func76, Tryd.ntmps76
  go_wp2_with (at_builtin; refine wpList_append_own _ rfl _ _ 62 rfl base 5 i0 (.int .u8 0) 1 1 Tryd.underlying62 I0.out.1 I0.out.2.1 I0.out.2.2.1 I0.out.2.2.2 rfl (by decide) _ _ _ rfl (HH.out.alloc _) ⟨w.heap.size, 0, none⟩ 2 2 _ rfl rfl (news_new _ _ _ _ rfl) (by intro x hx; simp at hx; rcases hx with rfl | rfl <;> rfl) (by unfold maxLen; omega) (by omega) (by simp; omega) ?_)
  intro v' w1 hown' hgrow _
  obtain ⟨A', c', rfl, h2, h3⟩ := own_next (x := [92, 34]) hown' rfl rfl (by omega) hgrow HH.out (Below.refl _ _) hB
  have H2 := Lib.hid (And.intro h2 h3)
  clear hown' hgrow h2 h3
  go_wp2_with fail
  go_ret
  exact ⟨A', c', rfl, H2.out⟩
set_option maxHeartbeats 400000 in
theorem told_92 (base : Nat) (A : Option Addr) (c : Nat) (t : List UInt8) (b : UInt8) (w : World) (h : Own base w A c t) (hl : t.length ≤ 100000000) (hB : base ≤ w.heap.size) (hb : b = 92) :
    Calls Tryd.prog 76 #[.slice A t.length c, .int .u8 (b.toNat : Int)] w (ToldP base (t ++ [92, 92]) w) := by
  obtain ⟨i0, hi0, hz0, hz1, hz2⟩ := info_parts info5
  have I0 := Lib.hid (And.intro hi0 (And.intro hz0 (And.intro hz1 hz2)))
  have HH := Lib.hid h
  clear hi0 hz0 hz1 hz2 h
  subst hb
  go_enter Tryd.func76, Tryd.ntmps76
  go_wp2_with (at_builtin; refine wpList_append_own _ rfl _ _ 62 rfl base 5 i0 (.int .u8 0) 1 1 Tryd.underlying62 I0.out.1 I0.out.2.1 I0.out.2.2.1 I0.out.2.2.2 rfl (by decide) _ _ _ rfl (HH.out.alloc _) ⟨w.heap.size, 0, none⟩ 2 2 _ rfl rfl (news_new _ _ _ _ rfl) (by intro x hx; simp at hx; rcases hx with rfl | rfl <;> rfl) (by unfold maxLen; omega) (by omega) (by simp; omega) ?_)
  intro v' w1 hown' hgrow _
  obtain ⟨A', c', rfl, h2, h3⟩ := own_next (x := [92, 92]) hown' rfl rfl (by omega) hgrow HH.out (Below.refl _ _) hB
  have H2 := Lib.hid (And.intro h2 h3)
  clear hown' hgrow h2 h3
  go_wp2_with fail
  go_ret
  exact ⟨A', c', rfl, H2.out⟩
set_option maxHeartbeats 400000 in
theorem told_10 (base : Nat) (A : Option Addr) (c : Nat) (t : List UInt8) (b : UInt8) (w : World) (h : Own base w A c t) (hl : t.length ≤ 100000000) (hB : base ≤ w.heap.size) (hb : b = 10) :
    Calls Tryd.prog 76 #[.slice A t.length c, .int .u8 (b.toNat : Int)] w (ToldP base (t ++ [92, 110]) w) := by
  obtain ⟨i0, hi0, hz0, hz1, hz2⟩ := info_parts info5
  have I0 := Lib.hid (And.intro hi0 (And.intro hz0 (And.intro hz1 hz2)))
  have HH := Lib.hid h
  clear hi0 hz0 hz1 hz2 h
  subst hb
  go_enter Tryd.func76, Tryd.ntmps76
  go_wp2_with (at_builtin; refine wpList_append_own _ rfl _ _ 62 rfl base 5 i0 (.int .u8 0) 1 1 Tryd.underlying62 I0.out.1 I0.out.2.1 I0.out.2.2.1 I0.out.2.2.2 rfl (by decide) _ _ _ rfl (HH.out.alloc _) ⟨w.heap.size, 0, none⟩ 2 2 _ rfl rfl (news_new _ _ _ _ rfl) (by intro x hx; simp at hx; rcases hx with rfl | rfl <;> rfl) (by unfold maxLen; omega) (by omega) (by simp; omega) ?_)
  intro v' w1 hown' hgrow _
  obtain ⟨A', c', rfl, h2, h3⟩ := own_next (x := [92, 110]) hown' rfl rfl (by omega) hgrow HH.out (Below.refl _ _) hB
  have H2 := Lib.hid (And.intro h2 h3)
  clear hown' hgrow h2 h3
  go_wp2_with fail
  go_ret
  exact ⟨A', c', rfl, H2.out⟩
set_option maxHeartbeats 400000 in
theorem told_9 (base : Nat) (A : Option Addr) (c : Nat) (t : List UInt8) (b : UInt8) (w : World) (h : Own base w A c t) (hl : t.length ≤ 100000000) (hB : base ≤ w.heap.size) (hb : b = 9) :
    Calls Tryd.prog 76 #[.slice A t.length c, .int .u8 (b.toNat : Int)] w (ToldP base (t ++ [92, 116]) w) := by
  obtain ⟨i0, hi0, hz0, hz1, hz2⟩ := info_parts info5
  have I0 := Lib.hid (And.intro hi0 (And.intro hz0 (And.intro hz1 hz2)))
  have HH := Lib.hid h
  clear hi0 hz0 hz1 hz2 h
  subst hb
  go_enter Tryd.func76, Tryd.ntmps76
  go_wp2_with (at_builtin; refine wpList_append_own _ rfl _ _ 62 rfl base 5 i0 (.int .u8 0) 1 1 Tryd.underlying62 I0.out.1 I0.out.2.1 I0.out.2.2.1 I0.out.2.2.2 rfl (by decide) _ _ _ rfl (HH.out.alloc _) ⟨w.heap.size, 0, none⟩ 2 2 _ rfl rfl (news_new _ _ _ _ rfl) (by intro x hx; simp at hx; rcases hx with rfl | rfl <;> rfl) (by unfold maxLen; omega) (by omega) (by simp; omega) ?_)
  intro v' w1 hown' hgrow _
  obtain ⟨A', c', rfl, h2, h3⟩ := own_next (x := [92, 116]) hown' rfl rfl (by omega) hgrow HH.out (Below.refl _ _) hB
  have H2 := Lib.hid (And.intro h2 h3)
  clear hown' hgrow h2 h3
  go_wp2_with fail
  go_ret
  exact ⟨A', c', rfl, H2.out⟩
set_option maxHeartbeats 400000 in
theorem told_plain (base : Nat) (A : Option Addr) (c : Nat) (t : List UInt8) (b : UInt8) (w : World) (h : Own base w A c t) (hl : t.length ≤ 100000000) (hB : base ≤ w.heap.size) (h1 : b.toNat ≠ 34) (h2 : b.toNat ≠ 92) (h3 : b.toNat ≠ 10) (h4 : b.toNat ≠ 9) (h5 : 32 ≤ b.toNat) (h6 : b.toNat ≤ 126) :
    Calls Tryd.prog 76 #[.slice A t.length c, .int .u8 (b.toNat : Int)] w (ToldP base (t ++ [b]) w) := by
  obtain ⟨i0, hi0, hz0, hz1, hz2⟩ := info_parts info5
  have I0 := Lib.hid (And.intro hi0 (And.intro hz0 (And.intro hz1 hz2)))
  have HH := Lib.hid h
  clear hi0 hz0 hz1 hz2 h
  have c1 : ((b.toNat : Int) == 34) = false := nat_bne h1
  have c2 : ((b.toNat : Int) == 92) = false := nat_bne h2
  have c3 : ((b.toNat : Int) == 10) = false := nat_bne h3
  have c4 : ((b.toNat : Int) == 9) = false := nat_bne h4
  clear h1 h2 h3 h4
  go_enter Tryd.func76, Tryd.ntmps76
  go_wp2_with (at_builtin; refine wpList_append_own _ rfl _ _ 62 rfl base 5 i0 (.int .u8 0) 1 1 Tryd.underlying62 I0.out.1 I0.out.2.1 I0.out.2.2.1 I0.out.2.2.2 rfl (by decide) _ _ _ rfl (HH.out.alloc _) ⟨w.heap.size, 0, none⟩ 1 1 _ rfl rfl (news_new _ _ _ _ rfl) (by intro x hx; simp at hx; subst hx; rfl) (by unfold maxLen; omega) (by omega) (by simp; omega) ?_)
  intro v' w1 hown' hgrow _
  obtain ⟨A', c', rfl, h2, h3⟩ := own_next (x := [b]) hown' rfl rfl (by omega) hgrow HH.out (Below.refl _ _) hB
  have H2 := Lib.hid (And.intro h2 h3)
  clear hown' hgrow h2 h3
  go_wp2_with fail
  go_ret
  exact ⟨A', c', rfl, H2.out⟩
end Go.Proofs.YtakfoncdiejhaaaDoor.Quo
/- What the program's told answers: a byte by its digits; and in all. -/
namespace Go.Proofs.YtakfoncdiejhaaaDoor.Quo
open Go.ChangeShapes Go.WideShapes Go.RowKit
set_option linter.unusedVariables false
set_option maxRecDepth 20000

theorem and_15 : ∀ n : Nat, n < 256 → bits BinOp.and IntKind.u8 (n : Int) 15 = ((n % 16 : Nat) : Int) := by decide +kernel
theorem tab_at : ∀ k : Nat, k < 16 → (⟨#[48, 49, 50, 51, 52, 53, 54, 55, 56, 57, 97, 98, 99, 100, 101, 102]⟩ : ByteArray)[k]! = hexd k := by decide +kernel
theorem tab_run (z : Int) (k : Nat) (hz : z = (k : Int)) (hk : k < 16) (W : World) :
    (Instr.index 9 (.string ⟨#[48, 49, 50, 51, 52, 53, 54, 55, 56, 57, 97, 98, 99, 100, 101, 102]⟩) (.int .u8 z)).run Tryd.prog W = .ok (.int .u8 ((hexd k).toNat : Int)) W := by
  subst hz
  rw [run_index_string W 9 _ .u8 _ Tryd.underlying9]
  have e := tab_at k hk
  have hs : (⟨#[48, 49, 50, 51, 52, 53, 54, 55, 56, 57, 97, 98, 99, 100, 101, 102]⟩ : ByteArray).size = 16 := rfl
  rw [dif_pos ⟨by omega, by rw [hs]; omega⟩]
  rw [getElem!_pos _ k (by rw [hs]; omega)] at e
  rw [← e]; rfl
theorem own_ret {base : Nat} {w w1 : World} {A : Option Addr} {c g cap : Nat} {t x : List UInt8} {o : Obj}
    (ho : w1.ownsRow base 5 1 (.slice (some ⟨g, 0, none⟩) (t.length + x.length) cap) (t.length + x.length) (cellsOf t ++ cellsOf x))
    (hg : (w.alloc o).drew.grownBy w1 (Value.ownBlock (.slice A t.length c))) (hown : Own base w A c t) (hB : base ≤ w.heap.size) :
    ToldP base (t ++ x) w (.returned (.slice (some ⟨g, 0, none⟩) (t.length + x.length) cap)) w1 := by
  have e1 : (t ++ x).length = t.length + x.length := by simp
  have e2 : cellsOf (t ++ x) = cellsOf t ++ cellsOf x := by unfold cellsOf; rw [List.map_append]
  unfold ToldP Own
  rw [e1, e2]
  refine ⟨_, _, rfl, ho, ?_⟩
  have h1 : Below base w (w.alloc o).drew := ((Below.refl _ _).alloc hB o).drew
  exact h1.grown hg (by simp; omega) (fun k hk => (hown.lt k hk).1)
set_option maxHeartbeats 400000 in
theorem told_hex (base : Nat) (A : Option Addr) (c : Nat) (t : List UInt8) (b : UInt8) (w : World) (h : Own base w A c t) (hl : t.length ≤ 100000000) (hB : base ≤ w.heap.size) (h1 : b.toNat ≠ 34) (h2 : b.toNat ≠ 92) (h3 : b.toNat ≠ 10) (h4 : b.toNat ≠ 9) (h5 : ¬ (32 ≤ b.toNat ∧ b.toNat ≤ 126)) :
    Calls Tryd.prog 76 #[.slice A t.length c, .int .u8 (b.toNat : Int)] w (ToldP base (t ++ [92, 120, hexd (b.toNat / 16), hexd (b.toNat % 16)]) w) := by
  obtain ⟨i0, hi0, hz0, hz1, hz2⟩ := info_parts info5
  have I0 := Lib.hid (And.intro hi0 (And.intro hz0 (And.intro hz1 hz2)))
  have HH := Lib.hid h
  clear hi0 hz0 hz1 hz2 h
  have c1 : ((b.toNat : Int) == 34) = false := nat_bne h1
  have c2 : ((b.toNat : Int) == 92) = false := nat_bne h2
  have c3 : ((b.toNat : Int) == 10) = false := nat_bne h3
  have c4 : ((b.toNat : Int) == 9) = false := nat_bne h4
  have hbl := b.toNat_lt
  have ways : b.toNat < 32 ∨ 126 < b.toNat := by omega
  have x1 := tab_run ((b.toNat : Int) / 16) (b.toNat / 16) (by omega) (by omega)
  have x2 := tab_run ((b.toNat : Int) % 16) (b.toNat % 16) (by omega) (by omega)
  have x3 := and_15 b.toNat hbl
  generalize hexd (b.toNat / 16) = y1 at *
  generalize hexd (b.toNat % 16) = y2 at *
  rw [show ((b.toNat % 16 : Nat) : Int) = (b.toNat : Int) % 16 by omega] at x3
  clear h1 h2 h3 h4 h5
  rcases ways with h | h
  all_goals
    go_enter Tryd.func76, Tryd.ntmps76
    go_wp2_with fail
    go_region_law (refine step_append_lies _ rfl (.tmp 39) (.tmp 46) 62 rfl base 5 i0 (.int .u8 0) 1 1 Tryd.underlying62 I0.out.1 I0.out.2.1 I0.out.2.2.1 I0.out.2.2.2 rfl (by decide) (.slice A t.length c) t.length (cellsOf t) (by simp [Act.eval]) (HH.out.alloc _).drew ⟨w.heap.size, 0, none⟩ 4 4 (cellsOf [92, 120, y1, y2]) (by simp [Act.eval]) rfl (fun j u hj => news_new w _ 5 _ rfl j u hj) (one_cell _) (by decide) (by unfold maxLen; omega) (by omega) (by simp; omega) _ rfl ?_; intro g cap w1 hown hgrow hat hlt)
    all_goals
      have H2 := Lib.hid (And.intro hown hgrow)
      clear hown hgrow hat hlt
      go_wp2_with fail
      go_ret
      exact own_ret (x := [92, 120, y1, y2]) H2.out.1 H2.out.2 HH.out hB
theorem told_v (base : Nat) (A : Option Addr) (c : Nat) (t : List UInt8) (b : UInt8) (w : World) (h : Own base w A c t) (hl : t.length ≤ 100000000) (hB : base ≤ w.heap.size) :
    Calls Tryd.prog 76 #[.slice A t.length c, .int .u8 (b.toNat : Int)] w (ToldP base (t ++ one b) w) := by
  unfold one
  by_cases k1 : b = 34
  · rw [if_pos (.inl k1)]; subst k1; exact told_34 base A c t _ w h hl hB rfl
  · by_cases k2 : b = 92
    · rw [if_pos (.inr k2)]; subst k2; exact told_92 base A c t _ w h hl hB rfl
    · rw [if_neg (fun k => k.elim k1 k2)]
      by_cases k3 : b = 10
      · rw [if_pos k3]; exact told_10 base A c t _ w h hl hB k3
      · rw [if_neg k3]
        by_cases k4 : b = 9
        · rw [if_pos k4]; exact told_9 base A c t _ w h hl hB k4
        · rw [if_neg k4]
          have n1 : b.toNat ≠ 34 := fun k => k1 ((byte_is _ 34 (by decide)).2 k)
          have n2 : b.toNat ≠ 92 := fun k => k2 ((byte_is _ 92 (by decide)).2 k)
          have n3 : b.toNat ≠ 10 := fun k => k3 ((byte_is _ 10 (by decide)).2 k)
          have n4 : b.toNat ≠ 9 := fun k => k4 ((byte_is _ 9 (by decide)).2 k)
          by_cases k5 : 32 ≤ b.toNat ∧ b.toNat ≤ 126
          · rw [if_pos k5]; exact told_plain base A c t b w h hl hB n1 n2 n3 n4 k5.1 k5.2
          · rw [if_neg k5]; exact told_hex base A c t b w h hl hB n1 n2 n3 n4 k5
end Go.Proofs.YtakfoncdiejhaaaDoor.Quo
/- What the program's Put answers: a text between quotes. -/
namespace Go.Proofs.YtakfoncdiejhaaaDoor.Quo
open Go.ChangeShapes Go.WideShapes Go.RowKit
set_option linter.unusedVariables false
set_option maxRecDepth 20000

theorem own_convert {base : Nat} {w : World} {A : Option Addr} {c : Nat} {t : List UInt8} (h : Own base w A c t) :
    (convert 62 9 (.slice A t.length c)).run Tryd.prog w = .ok (.string ⟨t.toArray⟩) w := by
  rcases h.2 with ⟨hv, h0⟩ | ⟨g, cap, cur, hv, _, hh, _⟩
  · have : t = [] := List.eq_nil_of_length_eq_zero h0
    subst this
    injection hv with h1 h2 h3
    subst h1 h3
    exact Lib.run_convert_nil_bytes w 62 9 5 0 Tryd.underlying62 Tryd.underlying5 Tryd.underlying9
  · injection hv with h1 h2 h3
    subst h1 h3
    refine run_convert_bytes_back w 62 9 5 _ c t Tryd.underlying62 Tryd.underlying5 Tryd.underlying9 (fun j hj => ?_)
    have k : w.ownsRow base 5 1 (.slice (some ⟨g, 0, none⟩) t.length c) t.length (cellsOf t) := h
    have e : (⟨g, 0, none⟩ : Addr).add j = ⟨g, j, none⟩ := by unfold Addr.add; split <;> simp_all
    rw [e, k.cellAt j (by omega)]
    simp [cellsOf, hj]
theorem take_snoc (s : ByteArray) (k : Nat) (h : k < s.size) : s.data.toList.take (k + 1) = s.data.toList.take k ++ [s[k]] := by
  rw [List.take_succ_eq_append_getElem (by rw [len_list]; exact h)]; rfl
theorem told_any (base n : Nat) (A : Option Addr) (c : Nat) (t x : List UInt8) (b : UInt8) (w : World) (h : Own base w A c t) (hn : t.length = n) (hx : t ++ one b = x) (hl : t.length ≤ 100000000) (hB : base ≤ w.heap.size) :
    Calls Tryd.prog 76 #[.slice A n c, .int .u8 (b.toNat : Int)] w (ToldP base x w) := by
  subst hn hx; exact told_v base A c t b w h hl hB
set_option maxHeartbeats 1000000 in
theorem put_v (s : ByteArray) (l : List UInt8) (hl : put s.data.toList = l) (hs : s.size ≤ 20000000) (w : World) :
    Calls Tryd.prog 74 #[.string s] w fun e w' => e = .returned (.string ⟨l.toArray⟩) ∧ Below w.heap.size w w' := by
  obtain ⟨i0, hi0, hz0, hz1, hz2⟩ := info_parts info5
  have I0 := Lib.hid (And.intro hi0 (And.intro hz0 (And.intro hz1 hz2)))
  have HL := Lib.hid hl
  clear hi0 hz0 hz1 hz2 hl
  go_enter Tryd.func74, Tryd.ntmps74
  go_wp2_with (at_make; refine wpList_make_own _ rfl _ _ 62 rfl w.heap.size 5 i0 (.int .u8 0) 1 Tryd.underlying62 I0.out.1 I0.out.2.1 I0.out.2.2.1 _ _ _ (s.size + 2) rfl rfl (by omega) (by rw [I0.out.2.2.2]; omega) (by unfold maxLen; omega) (Nat.le_refl _) ?_)
  intro w1 hown1 hgrow1
  have B1 : Below w.heap.size w w1 := (Below.refl _ _).grown hgrow1 (Nat.le_refl _) (fun k hk => by cases hk)
  have H1 := Lib.hid (And.intro hown1 B1)
  clear hown1 hgrow1 B1
  go_wp2_with (at_builtin; refine wpList_append_own _ rfl _ _ 62 rfl w.heap.size 5 i0 (.int .u8 0) 1 1 Tryd.underlying62 I0.out.1 I0.out.2.1 I0.out.2.2.1 I0.out.2.2.2 rfl (by decide) _ _ _ rfl (H1.out.1.alloc _) ⟨w1.heap.size, 0, none⟩ 1 1 _ rfl rfl (news_new _ _ _ _ rfl) (by intro x hx; simp at hx; subst hx; rfl) (by unfold maxLen; omega) (by omega) (by have := H1.out.2.size; simp; omega) ?_)
  intro v' w2 hown' hgrow _
  obtain ⟨A', c', rfl, h2, h3⟩ := own_next (m := 1) (t := []) (x := [34]) hown' rfl rfl (by omega) hgrow H1.out.1 H1.out.2 H1.out.2.size
  have H2 := Lib.hid (And.intro h2 h3)
  clear hown' hgrow h2 h3 H1
  go_wp2_with fail
  go_loopg [3, 14] s.size (fun gk v i wr => ∃ (k : Nat) (A : Option Addr) (c : Nat) (t : List UInt8), k + gk = s.size ∧ i = .int .i64 (k : Int) ∧ v = .slice A t.length c ∧
    Hid (t = 34 :: body (s.data.toList.take k) ∧ Own w.heap.size wr A c t ∧ Below w.heap.size w wr))
  case atStart => exact ⟨0, A', c', [34], by omega, rfl, rfl, rfl, H2.out.1, H2.out.2⟩
  case round =>
    obtain ⟨k, A, c, t, hk, rfl, rfl, HH⟩ := hrel
    have htl : t.length ≤ 80000001 := by
      rw [HH.out.1, List.length_cons]
      have h1 := body_len (s.data.toList.take k)
      have h2 : (s.data.toList.take k).length ≤ k := List.length_take_le _ _
      omega
    have HT := Lib.hid htl
    by_cases hg : gk = 0
    · subst hg
      obtain rfl : k = s.size := by omega
      have hf : t ++ [34] = l := by
        rw [← HL.out, HH.out.1, List.take_of_length_le (by rw [len_list]; omega)]; rfl
      have HF := Lib.hid hf
      clear hf hk
      go_wp2_with (at_builtin; refine wpList_append_own _ rfl _ _ 62 rfl w.heap.size 5 i0 (.int .u8 0) 1 1 Tryd.underlying62 I0.out.1 I0.out.2.1 I0.out.2.2.1 I0.out.2.2.2 rfl (by decide) _ _ _ rfl (HH.out.2.1.alloc _) ⟨wr.heap.size, 0, none⟩ 1 1 _ rfl rfl (news_new _ _ _ _ rfl) (by intro x hx; simp at hx; subst hx; rfl) (by unfold maxLen; omega) (by omega) (by have := HH.out.2.2.size; simp; omega) ?_)
      intro v' w3 hown' hgrow _
      obtain ⟨A3, c3, rfl, h2, h3⟩ := own_next (m := 1) (x := [34]) hown' rfl rfl (by omega) hgrow HH.out.2.1 HH.out.2.2 HH.out.2.2.size
      rw [HF.out] at h2 ⊢
      have hconv := own_convert h2
      have H3 := Lib.hid h3
      clear hown' hgrow h2 h3
      go_wp2_with fail
      go_ret
      exact ⟨rfl, H3.out⟩
    · obtain ⟨q, rfl⟩ : ∃ q, gk = q + 1 := ⟨gk - 1, by omega⟩
      have hlt : k < s.size := by omega
      have hnx : t ++ one s[k] = 34 :: body (s.data.toList.take (k + 1)) := by
        rw [HH.out.1, take_snoc s k hlt, body_snoc]; rfl
      obtain ⟨x, hx⟩ : ∃ x, t ++ one s[k] = x := ⟨_, rfl⟩
      rw [hx] at hnx
      have HX := Lib.hid (And.intro hx hnx)
      clear hx hnx hg
      have HK := Lib.hid hk
      clear hk htl
      go_wp2_with fail
      refine (told_any w.heap.size _ A c t x s[k] _ HH.out.2.1 rfl HX.out.1 (by have := HT.out; omega) HH.out.2.2.size).mono ?_
      rintro e w3 ⟨A3, c3, rfl, ho, hb⟩
      have H3 := Lib.hid (And.intro ho (HH.out.2.2.trans hb))
      clear ho hb
      go_wp2_with fail
      go_roundg q
      case measure => omega
      case rel => exact ⟨k + 1, A3, c3, x, by have := HK.out; omega, by go_num, rfl, HX.out.2, H3.out.1, H3.out.2⟩
end Go.Proofs.YtakfoncdiejhaaaDoor.Quo
/- What the document's own Put answers: a text between quotes. -/
namespace Go.Proofs.YtakfoncdiejhaaaDoor.Quo
open Go.ChangeShapes Go.WideShapes Go.RowKit
set_option linter.unusedVariables false
set_option maxRecDepth 20000

theorem one_convert (w : World) (c : UInt8) :
    (convert 62 9 (.slice (some ⟨w.heap.size, 0, none⟩) 1 1)).run Tryd.prog (w.alloc (.cells #[.int .u8 (c.toNat : Int)] 5)) = .ok (.string ⟨[c].toArray⟩) (w.alloc (.cells #[.int .u8 (c.toNat : Int)] 5)) := by
  refine run_convert_bytes_back _ 62 9 5 _ 1 [c] Tryd.underlying62 Tryd.underlying5 Tryd.underlying9 (fun j hj => ?_)
  simp at hj
  subst hj
  exact cell_one_new w _ 5 0 _ rfl
theorem tab_cut : ∀ k : Nat, k < 16 → (⟨#[48, 49, 50, 51, 52, 53, 54, 55, 56, 57, 97, 98, 99, 100, 101, 102]⟩ : ByteArray).extract k (k + 1) = ⟨#[hexd k]⟩ := by decide +kernel
theorem cut_run (z z1 : Int) (k : Nat) (hz : z = (k : Int)) (hz1 : z1 = z + 1) (hk : k < 16) (W : World) :
    (Instr.slice 9 (.string ⟨#[48, 49, 50, 51, 52, 53, 54, 55, 56, 57, 97, 98, 99, 100, 101, 102]⟩) (some (.int .u8 z)) (some (.int .u8 z1)) none).run Tryd.prog W = .ok (.string ⟨#[hexd k]⟩) W := by
  subst hz1 hz
  have hs : (⟨#[48, 49, 50, 51, 52, 53, 54, 55, 56, 57, 97, 98, 99, 100, 101, 102]⟩ : ByteArray).size = 16 := rfl
  rw [run_slice_string W 9 _ .u8 .u8 _ _ Tryd.underlying9 (by omega) (by omega) (by rw [hs]; omega)]
  rw [show ((k : Int) + 1).toNat = k + 1 by omega, show ((k : Int)).toNat = k by omega, tab_cut k hk]
theorem refone_plain (b : UInt8) (w : World) (h1 : b.toNat ≠ 34) (h2 : b.toNat ≠ 92) (h3 : b.toNat ≠ 10) (h4 : b.toNat ≠ 9) (h5 : 32 ≤ b.toNat) (h6 : b.toNat ≤ 126) :
    Calls Tryd.prog 51 #[.int .u8 (b.toNat : Int)] w fun e w' => e = .returned (.string ⟨[b].toArray⟩) ∧ Below w.heap.size w w' := by
  have c1 : ((b.toNat : Int) == 34) = false := nat_bne h1
  have c2 : ((b.toNat : Int) == 92) = false := nat_bne h2
  have c3 : ((b.toNat : Int) == 10) = false := nat_bne h3
  have c4 : ((b.toNat : Int) == 9) = false := nat_bne h4
  have hcv := one_convert w b
  clear h1 h2 h3 h4
  go_enter Tryd.func51, Tryd.ntmps51
  go_wp2_with fail
  go_ret
  exact ⟨rfl, (Below.refl _ _).alloc (Nat.le_refl _) _⟩
theorem refone_34 (w : World) : Calls Tryd.prog 51 #[.int .u8 34] w fun e w' => e = .returned (.string ⟨#[92, 34]⟩) ∧ Below w.heap.size w w' := by
  go_enter Tryd.func51, Tryd.ntmps51
  go_wp2_with fail
  go_ret
  exact ⟨rfl, Below.refl _ _⟩
theorem refone_92 (w : World) : Calls Tryd.prog 51 #[.int .u8 92] w fun e w' => e = .returned (.string ⟨#[92, 92]⟩) ∧ Below w.heap.size w w' := by
  go_enter Tryd.func51, Tryd.ntmps51
  go_wp2_with fail
  go_ret
  exact ⟨rfl, Below.refl _ _⟩
theorem refone_10 (w : World) : Calls Tryd.prog 51 #[.int .u8 10] w fun e w' => e = .returned (.string ⟨#[92, 110]⟩) ∧ Below w.heap.size w w' := by
  go_enter Tryd.func51, Tryd.ntmps51
  go_wp2_with fail
  go_ret
  exact ⟨rfl, Below.refl _ _⟩
theorem refone_9 (w : World) : Calls Tryd.prog 51 #[.int .u8 9] w fun e w' => e = .returned (.string ⟨#[92, 116]⟩) ∧ Below w.heap.size w w' := by
  go_enter Tryd.func51, Tryd.ntmps51
  go_wp2_with fail
  go_ret
  exact ⟨rfl, Below.refl _ _⟩
theorem below_drewN (B : Nat) (w : World) (n : Nat) : Below B w (w.drewN n) := ⟨rfl, rfl, rfl, Nat.le_refl _, fun _ _ => rfl⟩
theorem ret_hex (y1 y2 : UInt8) : Ending.returned (.string (ByteArray.mk #[92, 120] ++ ByteArray.mk #[y1] ++ ByteArray.mk #[y2])) = .returned (.string ⟨[92, 120, y1, y2].toArray⟩) := rfl
theorem refone_hex (b : UInt8) (w : World) (h1 : b.toNat ≠ 34) (h2 : b.toNat ≠ 92) (h3 : b.toNat ≠ 10) (h4 : b.toNat ≠ 9) (h5 : ¬ (32 ≤ b.toNat ∧ b.toNat ≤ 126)) :
    Calls Tryd.prog 51 #[.int .u8 (b.toNat : Int)] w fun e w' => e = .returned (.string ⟨[92, 120, hexd (b.toNat / 16), hexd (b.toNat % 16)].toArray⟩) ∧ Below w.heap.size w w' := by
  have c1 : ((b.toNat : Int) == 34) = false := nat_bne h1
  have c2 : ((b.toNat : Int) == 92) = false := nat_bne h2
  have c3 : ((b.toNat : Int) == 10) = false := nat_bne h3
  have c4 : ((b.toNat : Int) == 9) = false := nat_bne h4
  have hbl := b.toNat_lt
  have ways : b.toNat < 32 ∨ 126 < b.toNat := by omega
  have x1 := cut_run ((b.toNat : Int) / 16) ((b.toNat : Int) / 16 + 1) (b.toNat / 16) (by omega) rfl (by omega)
  have x2 := cut_run ((b.toNat : Int) % 16) ((b.toNat : Int) % 16 + 1) (b.toNat % 16) (by omega) rfl (by omega)
  have d1 : (b.toNat : Int).tdiv 16 = (b.toNat : Int) / 16 := Int.tdiv_eq_ediv_of_nonneg (by omega)
  have d2 : (b.toNat : Int).tmod 16 = (b.toNat : Int) % 16 := Int.tmod_eq_emod_of_nonneg (by omega)
  have e1 : IntKind.u8.wrap ((b.toNat : Int) / 16 + 1) = (b.toNat : Int) / 16 + 1 := by
    have hb : (2 : Int) ^ IntKind.u8.bits = 256 := by decide
    have hs : IntKind.u8.signed = false := rfl
    simp only [IntKind.wrap, hb, hs, Bool.false_and]
    simp only [Bool.false_eq_true, if_false]
    omega
  have e2 : IntKind.u8.wrap ((b.toNat : Int) % 16 + 1) = (b.toNat : Int) % 16 + 1 := by
    have hb : (2 : Int) ^ IntKind.u8.bits = 256 := by decide
    have hs : IntKind.u8.signed = false := rfl
    simp only [IntKind.wrap, hb, hs, Bool.false_and]
    simp only [Bool.false_eq_true, if_false]
    omega
  generalize hexd (b.toNat / 16) = y1 at *
  generalize hexd (b.toNat % 16) = y2 at *
  clear h1 h2 h3 h4 h5
  rcases ways with h | h
  · go_enter Tryd.func51, Tryd.ntmps51
    go_wp2_with fail
    go_quiet (fail)
    go_wp2_with fail
    go_ret
    exact ⟨ret_hex y1 y2, below_drewN _ _ _⟩
  · have h6 : 32 ≤ b.toNat := by omega
    go_enter Tryd.func51, Tryd.ntmps51
    go_wp2_with fail
    go_quiet (fail)
    go_wp2_with fail
    go_ret
    exact ⟨ret_hex y1 y2, below_drewN _ _ _⟩
theorem refone_v (b : UInt8) (l : List UInt8) (hl : one b = l) (w : World) : Calls Tryd.prog 51 #[.int .u8 (b.toNat : Int)] w fun e w' => e = .returned (.string ⟨l.toArray⟩) ∧ Below w.heap.size w w' := by
  subst hl
  unfold one
  by_cases k1 : b = 34
  · rw [if_pos (.inl k1)]; subst k1; exact refone_34 w
  · by_cases k2 : b = 92
    · rw [if_pos (.inr k2)]; subst k2; exact refone_92 w
    · rw [if_neg (fun k => k.elim k1 k2)]
      by_cases k3 : b = 10
      · rw [if_pos k3]; subst k3; exact refone_10 w
      · rw [if_neg k3]
        by_cases k4 : b = 9
        · rw [if_pos k4]; subst k4; exact refone_9 w
        · rw [if_neg k4]
          have n1 : b.toNat ≠ 34 := fun k => k1 ((byte_is _ 34 (by decide)).2 k)
          have n2 : b.toNat ≠ 92 := fun k => k2 ((byte_is _ 92 (by decide)).2 k)
          have n3 : b.toNat ≠ 10 := fun k => k3 ((byte_is _ 10 (by decide)).2 k)
          have n4 : b.toNat ≠ 9 := fun k => k4 ((byte_is _ 9 (by decide)).2 k)
          by_cases k5 : 32 ≤ b.toNat ∧ b.toNat ≤ 126
          · rw [if_pos k5]; exact refone_plain b w n1 n2 n3 n4 k5.1 k5.2
          · rw [if_neg k5]; exact refone_hex b w n1 n2 n3 n4 k5
theorem ret_str {a b : List UInt8} (h : a = b) : Ending.returned (.string ⟨a.toArray⟩) = .returned (.string ⟨b.toArray⟩) := by rw [h]
theorem ret_cat (x l y : List UInt8) (h : x ++ l = y) : Ending.returned (.string (ByteArray.mk x.toArray ++ ByteArray.mk l.toArray)) = .returned (.string ⟨y.toArray⟩) := by rw [ByteArray.mk_append_mk, ← h]
set_option maxHeartbeats 400000 in
theorem refput_v (s : ByteArray) (l : List UInt8) (hl : put s.data.toList = l) (hs : s.size ≤ 20000000) (w : World) :
    Calls Tryd.prog 40 #[.string s] w fun e w' => e = .returned (.string ⟨l.toArray⟩) ∧ Below w.heap.size w w' := by
  have HL := Lib.hid hl
  clear hl
  go_enter Tryd.func40, Tryd.ntmps40
  go_wp2_with fail
  go_loopg [3, 4] s.size (fun gk v i wr => ∃ (k : Nat) (t : List UInt8), k + gk = s.size ∧ i = .int .i64 (k : Int) ∧ v = .string ⟨t.toArray⟩ ∧
    Hid (t = 34 :: body (s.data.toList.take k) ∧ Below w.heap.size w wr))
  case atStart => exact ⟨0, [34], by omega, rfl, rfl, rfl, Below.refl _ _⟩
  case round =>
    obtain ⟨k, t, hk, rfl, rfl, HH⟩ := hrel
    have htl : t.length ≤ 80000001 := by
      rw [HH.out.1, List.length_cons]
      have h1 := body_len (s.data.toList.take k)
      have h2 : (s.data.toList.take k).length ≤ k := List.length_take_le _ _
      omega
    by_cases hg : gk = 0
    · subst hg
      obtain rfl : k = s.size := by omega
      have hf : t ++ [34] = l := by
        rw [← HL.out, HH.out.1, List.take_of_length_le (by rw [len_list]; omega)]; rfl
      have HF := Lib.hid hf
      clear hf hk
      go_wp2_with fail
      go_ret
      exact ⟨ret_cat t [34] l HF.out, HH.out.2⟩
    · obtain ⟨q, rfl⟩ : ∃ q, gk = q + 1 := ⟨gk - 1, by omega⟩
      have hlt : k < s.size := by omega
      obtain ⟨o, ho⟩ : ∃ o, one s[k] = o := ⟨_, rfl⟩
      have hol : o.length ≤ 4 := by rw [← ho]; exact (one_len _).2
      have hnx : t ++ o = 34 :: body (s.data.toList.take (k + 1)) := by
        rw [HH.out.1, take_snoc s k hlt, body_snoc, ho]; rfl
      have HX := Lib.hid (And.intro ho hnx)
      have HK := Lib.hid hk
      clear ho hnx hg hk
      go_wp2_with fail
      refine (refone_v s[k] o HX.out.1 _).mono ?_
      rintro e w3 ⟨rfl, hb⟩
      have H3 := Lib.hid (HH.out.2.trans (hb.mono HH.out.2.size))
      clear hb
      go_wp2_with fail
      go_roundg q
      case measure => omega
      case rel => exact ⟨k + 1, t ++ o, by have := HK.out; omega, by go_num, by rw [← ByteArray.mk_append_mk], HX.out.2, H3.out⟩
end Go.Proofs.YtakfoncdiejhaaaDoor.Quo
