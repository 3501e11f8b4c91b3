/- Texts between quotes, as plain lists: how a byte is told, and what is read. -/
import Derived.Test.YtgjaajofhfhadaaDoorRows
import Derived.Outline
import Derived.WalkKit
import Derived.WalkLawsBesides
import Derived.LoopTactic
import Derived.Below
import Derived.IntWalk
import Derived.Deep.Light
import Derived.Deep.LoopGhost
import Derived.Deep.WholeRow
import Derived.Lib.Hide
import Derived.Laws.IdiomStrings
import Derived.OwnWalk
import Derived.Maps.AppendAt
import Derived.Deep.AppendLies
import Derived.Deep.RegionLaw
import Derived.Lib.BufferRead
import Derived.Deep.QuietTactic
import Derived.BigQuiet
namespace Go.Proofs.YtgjaajofhfhadaaDoor.Quo
set_option linter.unusedVariables false
set_option maxRecDepth 20000

/-- A digit to the base 16. -/
def hexd (n : Nat) : UInt8 := if n < 10 then UInt8.ofNat (48 + n) else UInt8.ofNat (87 + n)
/-- A byte between quotes. -/
def one (c : UInt8) : List UInt8 :=
  if c = 34 ∨ c = 92 then [92, c] else if c = 10 then [92, 110] else if c = 9 then [92, 116]
  else if 32 ≤ c.toNat ∧ c.toNat ≤ 126 then [c] else [92, 120, hexd (c.toNat / 16), hexd (c.toNat % 16)]
def body (l : List UInt8) : List UInt8 := l.flatMap one
/-- A text between quotes. -/
def put (l : List UInt8) : List UInt8 := 34 :: (body l ++ [34])
/-- The number of a digit to the base 16; 99: it is none. -/
def dig (c : UInt8) : Nat :=
  if 48 ≤ c.toNat ∧ c.toNat ≤ 57 then c.toNat - 48 else if 97 ≤ c.toNat ∧ c.toNat ≤ 102 then c.toNat - 87
  else if 65 ≤ c.toNat ∧ c.toNat ≤ 70 then c.toNat - 55 else 99
/-- The byte that two digits stand for, and 4; or 0. -/
def two : List UInt8 → UInt8 × Nat
  | h :: l :: _ => if dig h < 16 ∧ dig l < 16 then (UInt8.ofNat (16 * dig h + dig l), 4) else (0, 0)
  | _ => (0, 0)
/-- What stands behind a backslash. -/
def esc : List UInt8 → UInt8 × Nat
  | [] => (0, 0)
  | d :: r => if d = 34 ∨ d = 92 then (d, 2) else if d = 110 then (10, 2) else if d = 116 then (9, 2) else if d = 120 then two r else (0, 0)
/-- The byte that a text's beginning stands for, and how long that is; 0: none. -/
def piece : List UInt8 → UInt8 × Nat
  | [] => (0, 0)
  | c :: r => if c = 92 then esc r else (c, 1)
/-- What stands behind a quote: the text, where it ends, OK; or where it is wrong. -/
def scan : Nat → List UInt8 → Nat → List UInt8 → List UInt8 × Nat × Int
  | 0, _, p, _ => ([], p, 11)
  | _ + 1, [], p, _ => ([], p, 11)
  | f + 1, c :: r, p, t =>
    if c = 34 then (t, p + 1, 0) else if c = 10 then ([], p, 11) else if t.length = 64 then ([], p, 3)
    else if (piece (c :: r)).2 = 0 then ([], p, 11) else scan f ((c :: r).drop (piece (c :: r)).2) (p + (piece (c :: r)).2) (t ++ [(piece (c :: r)).1])

theorem all_bytes (P : UInt8 → Prop) (h : ∀ n, n < 256 → P (UInt8.ofNat n)) (c : UInt8) : P c := by
  have := h c.toNat c.toNat_lt
  rwa [UInt8.ofNat_toNat] at this
theorem hex_back (c : UInt8) : dig (hexd (c.toNat / 16)) = c.toNat / 16 ∧ dig (hexd (c.toNat % 16)) = c.toNat % 16 := by
  refine all_bytes (fun c => dig (hexd (c.toNat / 16)) = c.toNat / 16 ∧ dig (hexd (c.toNat % 16)) = c.toNat % 16) ?_ c
  decide +kernel
theorem piece_one (c : UInt8) (r : List UInt8) : piece (one c ++ r) = (c, (one c).length) := by
  unfold one
  split
  · rename_i h
    show (if c = 34 ∨ c = 92 then (c, 2) else _) = _
    rw [if_pos h]; rfl
  · split
    · subst_vars; rfl
    · split
      · subst_vars; rfl
      · split
        · rename_i h1 _ _ _
          have : c ≠ 92 := fun h => h1 (.inr h)
          show (if c = 92 then esc r else (c, 1)) = _
          rw [if_neg this]; rfl
        · show (if dig (hexd (c.toNat / 16)) < 16 ∧ dig (hexd (c.toNat % 16)) < 16 then (UInt8.ofNat (16 * dig (hexd (c.toNat / 16)) + dig (hexd (c.toNat % 16))), 4) else (0, 0)) = _
          have hl := c.toNat_lt
          rw [(hex_back c).1, (hex_back c).2, if_pos (by omega)]
          have : 16 * (c.toNat / 16) + c.toNat % 16 = c.toNat := by omega
          rw [this, UInt8.ofNat_toNat]; rfl
theorem one_len (c : UInt8) : 0 < (one c).length ∧ (one c).length ≤ 4 := by
  unfold one; repeat' split
  all_goals simp
theorem one_head (c : UInt8) : ∃ d r, one c = d :: r ∧ d ≠ 34 ∧ d ≠ 10 := by
  unfold one
  split
  · exact ⟨92, _, rfl, by decide, by decide⟩
  · split
    · exact ⟨92, _, rfl, by decide, by decide⟩
    · split
      · exact ⟨92, _, rfl, by decide, by decide⟩
      · split
        · rename_i h1 h2 _ _
          exact ⟨c, _, rfl, fun h => h1 (.inl h), h2⟩
        · exact ⟨92, _, rfl, by decide, by decide⟩
theorem one_range (c : UInt8) : ∀ d ∈ one c, 32 ≤ d.toNat ∧ d.toNat ≤ 126 := by
  refine all_bytes (fun c => ∀ d ∈ one c, 32 ≤ d.toNat ∧ d.toNat ≤ 126) ?_ c
  decide +kernel
theorem put_range (l : List UInt8) : ∀ d ∈ put l, 32 ≤ d.toNat ∧ d.toNat ≤ 126 := by
  intro d hd
  unfold put at hd
  simp only [List.mem_cons, List.mem_append, List.not_mem_nil, or_false] at hd
  rcases hd with rfl | hd | rfl
  · decide
  · obtain ⟨c, _, hc⟩ := List.mem_flatMap.1 hd
    exact one_range c d hc
  · decide
theorem body_len (l : List UInt8) : (body l).length ≤ 4 * l.length := by
  induction l with
  | nil => simp [body]
  | cons c l ih =>
    have := one_len c
    unfold body at ih ⊢
    rw [List.flatMap_cons, List.length_append, List.length_cons]; omega
theorem put_len (l : List UInt8) : (put l).length ≤ 4 * l.length + 2 := by
  have := body_len l
  unfold put; rw [List.length_cons, List.length_append]; simp; omega
theorem body_snoc (l : List UInt8) (c : UInt8) : body (l ++ [c]) = body l ++ one c := by unfold body; simp
/-- No two texts are told alike. -/
theorem body_inj : ∀ (s t : List UInt8) (r r' : List UInt8), body s ++ 34 :: r = body t ++ 34 :: r' → s = t := by
  intro s
  induction s with
  | nil =>
    intro t r r' h
    cases t with
    | nil => rfl
    | cons d t =>
      obtain ⟨x, y, hx, h34, _⟩ := one_head d
      unfold body at h
      rw [List.flatMap_cons, hx] at h
      simp at h
      exact absurd h.1.symm h34
  | cons c s ih =>
    intro t r r' h
    cases t with
    | nil =>
      obtain ⟨x, y, hx, h34, _⟩ := one_head c
      unfold body at h
      rw [List.flatMap_cons, hx] at h
      simp at h
      exact absurd h.1 h34
    | cons d t =>
      unfold body at h
      rw [List.flatMap_cons, List.flatMap_cons, List.append_assoc, List.append_assoc] at h
      have h1 := congrArg piece h
      rw [piece_one, piece_one] at h1
      injection h1 with h1 _
      subst h1
      have h2 := List.append_cancel_left h
      rw [ih t r r' h2]
theorem put_inj (s t : List UInt8) : put s = put t ↔ s = t := by
  constructor
  · intro h
    unfold put at h
    injection h with _ h
    exact body_inj s t [] [] h
  · rintro rfl; rfl

theorem two_size (l : List UInt8) : (two l).2 ≤ l.length + 2 := by
  unfold two
  split
  · split <;> simp
  · simp
theorem esc_size (l : List UInt8) : (esc l).2 ≤ l.length + 1 := by
  unfold esc
  split
  · simp
  · rename_i d r
    repeat' split
    · simp
    · simp
    · simp
    · have := two_size r; simp; omega
    · simp
theorem piece_size (l : List UInt8) : (piece l).2 ≤ l.length := by
  unfold piece
  split
  · simp
  · split
    · have := esc_size (by assumption); simp; omega
    · simp
/-- A step of the reading. -/
theorem scan_quote (f : Nat) (r : List UInt8) (p : Nat) (t : List UInt8) : scan (f + 1) (34 :: r) p t = (t, p + 1, 0) := by simp [scan]
theorem scan_step (f : Nat) (c : UInt8) (r : List UInt8) (p : Nat) (t : List UInt8) (h1 : c ≠ 34) (h2 : c ≠ 10) (h3 : t.length ≠ 64) (b : UInt8) (n : Nat) (hp : piece (c :: r) = (b, n)) (hn : n ≠ 0) :
    scan (f + 1) (c :: r) p t = scan f ((c :: r).drop n) (p + n) (t ++ [b]) := by
  rw [scan, if_neg h1, if_neg h2, if_neg h3, hp, if_neg hn]
/-- What is put is read as it was, or is too long. -/
theorem scan_body : ∀ (l : List UInt8) (f : Nat) (r : List UInt8) (p : Nat) (t : List UInt8), l.length < f → t.length + l.length ≤ 64 →
    scan f (body l ++ 34 :: r) p t = (t ++ l, p + (body l).length + 1, 0) := by
  intro l
  induction l with
  | nil =>
    intro f r p t hf ht
    obtain ⟨f, rfl⟩ : ∃ g, f = g + 1 := ⟨f - 1, by omega⟩
    rw [show body [] ++ 34 :: r = 34 :: r from rfl, scan_quote]; simp [body]
  | cons c l ih =>
    intro f r p t hf ht
    obtain ⟨f, rfl⟩ : ∃ g, f = g + 1 := ⟨f - 1, by omega⟩
    obtain ⟨x, y, hx, h34, h10⟩ := one_head c
    have hb : body (c :: l) ++ 34 :: r = one c ++ (body l ++ 34 :: r) := by unfold body; rw [List.flatMap_cons, List.append_assoc]
    have hp := piece_one c (body l ++ 34 :: r)
    have hl := one_len c
    rw [hx] at hl
    rw [hx, List.cons_append] at hp
    rw [hb, hx, List.cons_append]
    simp only [List.length_cons] at hf ht
    rw [scan_step f x _ p t h34 h10 (by omega) c _ hp (by omega)]
    rw [← List.cons_append, List.drop_left, ih f r _ _ (by omega) (by simp; omega)]
    have : (body (c :: l)).length = (x :: y).length + (body l).length := by unfold body; rw [List.flatMap_cons, List.length_append, hx]
    rw [this]
    simp; omega
theorem scan_body_long : ∀ (l : List UInt8) (f : Nat) (r : List UInt8) (p : Nat) (t : List UInt8), l.length < f → t.length ≤ 64 → 64 < t.length + l.length →
    ∃ q, scan f (body l ++ 34 :: r) p t = ([], q, 3) := by
  intro l
  induction l with
  | nil => intro f r p t _ h1 h2; simp at h2; omega
  | cons c l ih =>
    intro f r p t hf ht hm
    obtain ⟨f, rfl⟩ : ∃ g, f = g + 1 := ⟨f - 1, by omega⟩
    obtain ⟨x, y, hx, h34, h10⟩ := one_head c
    have hb : body (c :: l) ++ 34 :: r = one c ++ (body l ++ 34 :: r) := by unfold body; rw [List.flatMap_cons, List.append_assoc]
    have hp := piece_one c (body l ++ 34 :: r)
    have hl := one_len c
    rw [hx] at hl
    rw [hx, List.cons_append] at hp
    rw [hb, hx, List.cons_append]
    simp only [List.length_cons] at hf hm
    by_cases h64 : t.length = 64
    · exact ⟨p, by rw [scan, if_neg h34, if_neg h10, if_pos h64]⟩
    · rw [scan_step f x _ p t h34 h10 h64 c _ hp (by omega)]
      rw [← List.cons_append, List.drop_left]
      exact ih f r _ _ (by omega) (by simp; omega) (by simp; omega)
/-- What is read is no longer than 64 bytes; nothing is read beside a code. -/
theorem scan_out : ∀ (f : Nat) (l : List UInt8) (p : Nat) (t x : List UInt8) (y : Nat) (c : Int), t.length ≤ 64 → scan f l p t = (x, y, c) → x.length ≤ 64 ∧ (c ≠ 0 → x = []) := by
  intro f
  induction f with
  | zero => intro l p t x y c ht h; simp [scan] at h; obtain ⟨rfl, _, _⟩ := h; simp
  | succ f ih =>
    intro l p t x y c ht h
    cases l with
    | nil => simp [scan] at h; obtain ⟨rfl, _, _⟩ := h; simp
    | cons a r =>
      rw [scan] at h
      split at h
      · injection h with h1 h; injection h with h2 h3; subst h1 h3; exact ⟨ht, fun h => absurd rfl h⟩
      · split at h
        · injection h with h1 h; subst h1; simp
        · split at h
          · injection h with h1 h; subst h1; simp
          · split at h
            · injection h with h1 h; subst h1; simp
            · exact ih _ _ _ _ _ _ (by simp; omega) h
end Go.Proofs.YtgjaajofhfhadaaDoor.Quo
/- What the program's digit, twoDigits and piece answer. -/
namespace Go.Proofs.YtgjaajofhfhadaaDoor.Quo
open Go.ChangeShapes Go.WideShapes Go.RowKit
set_option linter.unusedVariables false
set_option maxRecDepth 20000

theorem ret_two {a b : Int} {k l : IntKind} {c d : Int} (h : a = c) (h2 : b = d) : Ending.returned (.tuple #[.int k a, .int l b]) = .returned (.tuple #[.int k c, .int l d]) := by rw [h, h2]
theorem ret_ib {a : Int} {k : IntKind} {c : Int} {x : Bool} (h : a = c) : Ending.returned (.tuple #[.int k a, .bool x]) = .returned (.tuple #[.int k c, .bool x]) := by rw [h]
end Go.Proofs.YtgjaajofhfhadaaDoor.Quo
/- What the program's twoDigits and piece answer. -/
namespace Go.Proofs.YtgjaajofhfhadaaDoor.Quo
open Go.ChangeShapes Go.WideShapes Go.RowKit
set_option linter.unusedVariables false
set_option maxRecDepth 20000

theorem len_list (s : ByteArray) : s.data.toList.length = s.size := rfl
theorem at_list (s : ByteArray) (i : Nat) (h : i < s.size) : s.data.toList[i]'(by rw [len_list]; exact h) = s[i] := by rfl
theorem drop_cons (s : ByteArray) (i : Nat) (h : i < s.size) : s.data.toList.drop i = s[i] :: s.data.toList.drop (i + 1) := by
  rw [List.drop_eq_getElem_cons (by rw [len_list]; exact h), at_list]
theorem ofNat_two (a b : Nat) (ha : a < 16) (hb : b < 16) : ((UInt8.ofNat (16 * a + b)).toNat : Int) = 16 * a + b := by
  rw [UInt8.toNat_ofNat']; omega
/-- What two digits stand for. -/
def two2 (h l : UInt8) : UInt8 × Nat := if dig h < 16 ∧ dig l < 16 then (UInt8.ofNat (16 * dig h + dig l), 4) else (0, 0)
theorem or_two : ∀ a : Nat, a < 16 → ∀ b : Nat, b < 16 → bits BinOp.or IntKind.u8 ((a : Int) * 16) (b : Int) = 16 * (a : Int) + (b : Int) := by decide +kernel
/-- A byte and a size handed back. -/
def E2 (t : UInt8 × Nat) : Ending := .returned (.tuple #[.int .u8 (t.1.toNat : Int), .int .i64 (t.2 : Int)])
theorem nat_eq {c d : UInt8} (h : c = d) : (c.toNat : Int) = (d.toNat : Int) := by rw [h]
theorem nat_beq {c : UInt8} {n : Nat} (h : c.toNat = n) : ((c.toNat : Int) == (n : Int)) = true := by rw [beq_iff_eq]; omega
theorem nat_bne {c : UInt8} {n : Nat} (h : c.toNat ≠ n) : ((c.toNat : Int) == (n : Int)) = false := by rw [beq_eq_false_iff_ne]; omega
theorem byte_ne {c d : UInt8} (h : c ≠ d) : c.toNat ≠ d.toNat := fun k => h (UInt8.toNat_inj.1 k)
theorem byte_is (c : UInt8) (n : Nat) (hn : n < 256) : c = UInt8.ofNat n ↔ c.toNat = n := by
  constructor
  · rintro rfl; rw [UInt8.toNat_ofNat']; omega
  · intro h; rw [← h, UInt8.ofNat_toNat]
end Go.Proofs.YtgjaajofhfhadaaDoor.Quo
/- What the program's told answers: the bytes so far, and behind them a byte as it stands between quotes. -/
namespace Go.Proofs.YtgjaajofhfhadaaDoor.Quo
open Go.ChangeShapes Go.WideShapes Go.RowKit
set_option linter.unusedVariables false
set_option maxRecDepth 20000

/-- Bytes as cells. -/
def cellsOf (l : List UInt8) : List Value := l.map fun c => .int .u8 (c.toNat : Int)
/-- The bytes t are those of a slice that the call has made. -/
def Own (base : Nat) (w : World) (A : Option Addr) (c : Nat) (t : List UInt8) : Prop := w.ownsRow base 5 1 (.slice A t.length c) t.length (cellsOf t)
/-- A slice of its own is handed back, with the bytes t. -/
def ToldP (base : Nat) (t : List UInt8) (w : World) (e : Ending) (w' : World) : Prop :=
  ∃ A c, e = .returned (.slice A t.length c) ∧ Own base w' A c t ∧ Below base w w'
theorem info5 : (Tryd.prog.info? 5).map (fun i => (i.zero, i.size, i.bytes)) = some (some (.int .u8 0), 1, 1) := by kernel_rfl
theorem one_cell (x : List UInt8) : ∀ u ∈ cellsOf x, u.oneCell' = true := by
  intro u hu
  obtain ⟨c, _, rfl⟩ := List.mem_map.1 hu
  rfl
theorem news_new (w : World) (cs : Array Value) (t : TypeId) (l : List Value) (hl : cs.toList = l) : ∀ j u, l[j]? = some u → (w.alloc (.cells cs t)).cell? ((⟨w.heap.size, 0, none⟩ : Addr).add j) = some u := by
  subst hl
  exact World.news_of_block (heap_alloc_new w _)
theorem own_next {base m : Nat} {w wr w1 : World} {A : Option Addr} {c : Nat} {t x : List UInt8} {v' : Value} {o : Obj} {xs : List Value}
    (ho : w1.ownsRow base 5 1 v' (t.length + m) (cellsOf t ++ xs)) (hx : xs = cellsOf x) (hm : x.length = m) (h0 : 0 < m)
    (hg : (wr.alloc o).grownBy w1 (Value.ownBlock (.slice A t.length c))) (hown : Own base wr A c t) (hb : Below base w wr) (hB : base ≤ wr.heap.size) :
    ∃ A' c', v' = .slice A' (t ++ x).length c' ∧ Own base w1 A' c' (t ++ x) ∧ Below base w w1 := by
  subst hx hm
  obtain ⟨g, cap, rfl, _, _⟩ := ho.form (by omega)
  have e1 : (t ++ x).length = t.length + x.length := by simp
  have e2 : cellsOf (t ++ x) = cellsOf t ++ cellsOf x := by unfold cellsOf; rw [List.map_append]
  unfold Own
  rw [e1, e2]
  refine ⟨_, _, rfl, ho, ?_⟩
  have h1 : Below base w (wr.alloc o) := hb.alloc hB o
  exact h1.grown hg (by simp; omega) (fun k hk => (hown.lt k hk).1)
end Go.Proofs.YtgjaajofhfhadaaDoor.Quo
/- What the program's told answers: a byte by its digits; and in all. -/
namespace Go.Proofs.YtgjaajofhfhadaaDoor.Quo
open Go.ChangeShapes Go.WideShapes Go.RowKit
set_option linter.unusedVariables false
set_option maxRecDepth 20000

theorem and_15 : ∀ n : Nat, n < 256 → bits BinOp.and IntKind.u8 (n : Int) 15 = ((n % 16 : Nat) : Int) := by decide +kernel
theorem tab_at : ∀ k : Nat, k < 16 → (⟨#[48, 49, 50, 51, 52, 53, 54, 55, 56, 57, 97, 98, 99, 100, 101, 102]⟩ : ByteArray)[k]! = hexd k := by decide +kernel
theorem tab_run (z : Int) (k : Nat) (hz : z = (k : Int)) (hk : k < 16) (W : World) :
    (Instr.index 9 (.string ⟨#[48, 49, 50, 51, 52, 53, 54, 55, 56, 57, 97, 98, 99, 100, 101, 102]⟩) (.int .u8 z)).run Tryd.prog W = .ok (.int .u8 ((hexd k).toNat : Int)) W := by
  subst hz
  rw [run_index_string W 9 _ .u8 _ Tryd.underlying9]
  have e := tab_at k hk
  have hs : (⟨#[48, 49, 50, 51, 52, 53, 54, 55, 56, 57, 97, 98, 99, 100, 101, 102]⟩ : ByteArray).size = 16 := rfl
  rw [dif_pos ⟨by omega, by rw [hs]; omega⟩]
  rw [getElem!_pos _ k (by rw [hs]; omega)] at e
  rw [← e]; rfl
theorem own_ret {base : Nat} {w w1 : World} {A : Option Addr} {c g cap : Nat} {t x : List UInt8} {o : Obj}
    (ho : w1.ownsRow base 5 1 (.slice (some ⟨g, 0, none⟩) (t.length + x.length) cap) (t.length + x.length) (cellsOf t ++ cellsOf x))
    (hg : (w.alloc o).drew.grownBy w1 (Value.ownBlock (.slice A t.length c))) (hown : Own base w A c t) (hB : base ≤ w.heap.size) :
    ToldP base (t ++ x) w (.returned (.slice (some ⟨g, 0, none⟩) (t.length + x.length) cap)) w1 := by
  have e1 : (t ++ x).length = t.length + x.length := by simp
  have e2 : cellsOf (t ++ x) = cellsOf t ++ cellsOf x := by unfold cellsOf; rw [List.map_append]
  unfold ToldP Own
  rw [e1, e2]
  refine ⟨_, _, rfl, ho, ?_⟩
  have h1 : Below base w (w.alloc o).drew := ((Below.refl _ _).alloc hB o).drew
  exact h1.grown hg (by simp; omega) (fun k hk => (hown.lt k hk).1)
end Go.Proofs.YtgjaajofhfhadaaDoor.Quo
/- What the program's Put answers: a text between quotes. -/
namespace Go.Proofs.YtgjaajofhfhadaaDoor.Quo
open Go.ChangeShapes Go.WideShapes Go.RowKit
set_option linter.unusedVariables false
set_option maxRecDepth 20000

theorem own_convert {base : Nat} {w : World} {A : Option Addr} {c : Nat} {t : List UInt8} (h : Own base w A c t) :
    (convert 34 9 (.slice A t.length c)).run Tryd.prog w = .ok (.string ⟨t.toArray⟩) w := by
  rcases h.2 with ⟨hv, h0⟩ | ⟨g, cap, cur, hv, _, hh, _⟩
  · have : t = [] := List.eq_nil_of_length_eq_zero h0
    subst this
    injection hv with h1 h2 h3
    subst h1 h3
    exact Lib.run_convert_nil_bytes w 34 9 5 0 Tryd.underlying34 Tryd.underlying5 Tryd.underlying9
  · injection hv with h1 h2 h3
    subst h1 h3
    refine run_convert_bytes_back w 34 9 5 _ c t Tryd.underlying34 Tryd.underlying5 Tryd.underlying9 (fun j hj => ?_)
    have k : w.ownsRow base 5 1 (.slice (some ⟨g, 0, none⟩) t.length c) t.length (cellsOf t) := h
    have e : (⟨g, 0, none⟩ : Addr).add j = ⟨g, j, none⟩ := by unfold Addr.add; split <;> simp_all
    rw [e, k.cellAt j (by omega)]
    simp [cellsOf, hj]
theorem take_snoc (s : ByteArray) (k : Nat) (h : k < s.size) : s.data.toList.take (k + 1) = s.data.toList.take k ++ [s[k]] := by
  rw [List.take_succ_eq_append_getElem (by rw [len_list]; exact h)]; rfl
end Go.Proofs.YtgjaajofhfhadaaDoor.Quo
/- What the program's Scan answers. -/
namespace Go.Proofs.YtgjaajofhfhadaaDoor.Quo
open Go.ChangeShapes Go.WideShapes Go.RowKit
set_option linter.unusedVariables false
set_option maxRecDepth 20000

/-- A text, a place and a code handed back. -/
def E3 (x : List UInt8) (y : Nat) (c : Int) : Ending := .returned (.tuple #[.string ⟨x.toArray⟩, .int .i64 (y : Int), .int .i64 c])
theorem ret_E3 {x x' : List UInt8} {y : Nat} {z c c' : Int} (h1 : x = x') (h2 : z = (y : Int)) (h3 : c = c') : Ending.returned (.tuple #[.string ⟨x.toArray⟩, .int .i64 z, .int .i64 c]) = E3 x' y c' := by
  subst h1 h2 h3; rfl
theorem from_run (s : ByteArray) (n : Nat) (h : n ≤ s.size) (W : World) :
    (Instr.slice 9 (.string s) (some (.int .i64 (n : Int))) none none).run Tryd.prog W = .ok (.string (s.extract n s.size)) W := by
  rw [run_slice_string_from_if W 9 s .i64 _ Tryd.underlying9, if_pos (by omega), show ((n : Int)).toNat = n by omega]
theorem extract_list (s : ByteArray) (n : Nat) : (s.extract n s.size).data.toList = s.data.toList.drop n := by
  rw [ByteArray.data_extract]; simp
  rw [List.take_of_length_le]; rw [List.length_drop]; exact Nat.le_refl _
theorem extract_size (s : ByteArray) (n : Nat) : (s.extract n s.size).size = s.size - n := by
  rw [ByteArray.size_extract]; omega
theorem is34 {c : UInt8} (h : c.toNat = 34) : c = 34 := (byte_is _ 34 (by decide)).2 h
theorem is10 {c : UInt8} (h : c.toNat = 10) : c = 10 := (byte_is _ 10 (by decide)).2 h
theorem not34 {c : UInt8} (h : c.toNat ≠ 34) : ¬ c = 34 := fun k => h ((byte_is _ 34 (by decide)).1 k)
theorem not10 {c : UInt8} (h : c.toNat ≠ 10) : ¬ c = 10 := fun k => h ((byte_is _ 10 (by decide)).1 k)
/-- What holds at a round's head. -/
def Sc (s : ByteArray) (w wr : World) (n : Nat) (A : Option Addr) (c : Nat) (t x : List UInt8) (y : Nat) (e : Int) : Prop :=
  (∃ f, s.size ≤ n + f ∧ scan f (s.data.toList.drop n) n t = (x, y, e)) ∧ Own w.heap.size wr A c t ∧ Below w.heap.size w wr
theorem Sc.fin {s : ByteArray} {w wr : World} {A : Option Addr} {c : Nat} {t x : List UInt8} {y : Nat} {e : Int} (h : Sc s w wr s.size A c t x y e) : x = [] ∧ y = s.size ∧ e = 11 := by
  obtain ⟨⟨f, _, h⟩, _⟩ := h
  rw [List.drop_eq_nil_of_le (by rw [len_list]; omega)] at h
  cases f with
  | zero => simp [scan] at h; obtain ⟨h1, h2, h3⟩ := h; exact ⟨h1, h2.symm, h3.symm⟩
  | succ f => simp [scan] at h; obtain ⟨h1, h2, h3⟩ := h; exact ⟨h1, h2.symm, h3.symm⟩
theorem Sc.open {s : ByteArray} {w wr : World} {n : Nat} {A : Option Addr} {c : Nat} {t x : List UInt8} {y : Nat} {e : Int} (h : Sc s w wr n A c t x y e) (hn : n < s.size) :
    ∃ f, s.size ≤ n + (f + 1) ∧ scan (f + 1) (s[n] :: s.data.toList.drop (n + 1)) n t = (x, y, e) := by
  obtain ⟨⟨f, h1, h⟩, _⟩ := h
  obtain ⟨g, rfl⟩ : ∃ g, f = g + 1 := ⟨f - 1, by omega⟩
  rw [drop_cons s n hn] at h
  exact ⟨g, h1, h⟩
theorem Sc.quote {s : ByteArray} {w wr : World} {n : Nat} {A : Option Addr} {c : Nat} {t x : List UInt8} {y : Nat} {e : Int} (h : Sc s w wr n A c t x y e) (hn : n < s.size) (hq : s[n].toNat = 34) :
    t = x ∧ n + 1 = y ∧ 0 = e := by
  obtain ⟨f, _, h⟩ := h.open hn
  rw [scan, if_pos (is34 hq)] at h
  injection h with h1 h; injection h with h2 h3; exact ⟨h1, h2, h3⟩
theorem Sc.line {s : ByteArray} {w wr : World} {n : Nat} {A : Option Addr} {c : Nat} {t x : List UInt8} {y : Nat} {e : Int} (h : Sc s w wr n A c t x y e) (hn : n < s.size) (hq : s[n].toNat = 10) :
    [] = x ∧ n = y ∧ 11 = e := by
  obtain ⟨f, _, h⟩ := h.open hn
  have e1 : s[n] = 10 := is10 hq
  rw [scan, if_neg (by rw [e1]; decide), if_pos e1] at h
  injection h with h1 h; injection h with h2 h3; exact ⟨h1, h2, h3⟩
theorem Sc.long {s : ByteArray} {w wr : World} {n : Nat} {A : Option Addr} {c : Nat} {t x : List UInt8} {y : Nat} {e : Int} (h : Sc s w wr n A c t x y e) (hn : n < s.size) (h1 : s[n].toNat ≠ 34) (h2 : s[n].toNat ≠ 10) (h3 : t.length = 64) :
    [] = x ∧ n = y ∧ 3 = e := by
  obtain ⟨f, _, h⟩ := h.open hn
  rw [scan, if_neg (not34 h1), if_neg (not10 h2), if_pos h3] at h
  injection h with h1 h; injection h with h2 h3; exact ⟨h1, h2, h3⟩
theorem Sc.bad {s : ByteArray} {w wr : World} {n : Nat} {A : Option Addr} {c : Nat} {t x : List UInt8} {y : Nat} {e : Int} (h : Sc s w wr n A c t x y e) (hn : n < s.size) (h1 : s[n].toNat ≠ 34) (h2 : s[n].toNat ≠ 10) (h3 : t.length ≠ 64)
    {b : UInt8} (hp : piece (s.data.toList.drop n) = (b, 0)) : [] = x ∧ n = y ∧ 11 = e := by
  obtain ⟨f, _, h⟩ := h.open hn
  rw [drop_cons s n hn] at hp
  rw [scan, if_neg (not34 h1), if_neg (not10 h2), if_neg h3, hp, if_pos rfl] at h
  injection h with h1 h; injection h with h2 h3; exact ⟨h1, h2, h3⟩
theorem Sc.step {s : ByteArray} {w wr w' : World} {n : Nat} {A A' : Option Addr} {c c' : Nat} {t t' x : List UInt8} {y : Nat} {e : Int} (h : Sc s w wr n A c t x y e) (hn : n < s.size) (h1 : s[n].toNat ≠ 34) (h2 : s[n].toNat ≠ 10) (h3 : t.length ≠ 64)
    {b : UInt8} {m n' : Nat} (hp : piece (s.data.toList.drop n) = (b, m)) (hm : m ≠ 0) (hn' : n' = n + m) (ht : t' = t ++ [b]) (ho : Own w.heap.size w' A' c' t') (hb : Below w.heap.size w w') : Sc s w w' n' A' c' t' x y e := by
  subst hn' ht
  obtain ⟨f, hf, h⟩ := h.open hn
  rw [drop_cons s n hn] at hp
  rw [scan_step f _ _ n t (not34 h1) (not10 h2) h3 b m hp hm, ← drop_cons s n hn, List.drop_drop] at h
  exact ⟨⟨f, by omega, h⟩, ho, hb⟩
end Go.Proofs.YtgjaajofhfhadaaDoor.Quo
/- What the program's Scan answers where a quote stands, and Get. -/
namespace Go.Proofs.YtgjaajofhfhadaaDoor.Quo
open Go.ChangeShapes Go.WideShapes Go.RowKit
set_option linter.unusedVariables false
set_option maxRecDepth 20000

end Go.Proofs.YtgjaajofhfhadaaDoor.Quo
/- What the program's Scan at any place, and Get, answer. -/
namespace Go.Proofs.YtgjaajofhfhadaaDoor.Quo
open Go.ChangeShapes Go.WideShapes Go.RowKit
set_option linter.unusedVariables false
set_option maxRecDepth 20000

/-- What stands between the quotes that begin at a place. -/
def scanL (n a : Nat) : List UInt8 → List UInt8 × Nat × Int
  | [] => ([], 0, 1)
  | c :: r => if c = 34 then scan n r (a + 1) [] else ([], 0, 1)
def scanAt (s : ByteArray) (a : Nat) : List UInt8 × Nat × Int := scanL s.size a (s.data.toList.drop a)
/-- What Get makes of that. -/
def getT (n : Nat) (t : List UInt8 × Nat × Int) : List UInt8 × Int := if t.2.2 = 0 then (if t.2.1 < n then ([], 11) else (t.1, 0)) else ([], t.2.2)
theorem scanL_out (n a : Nat) (l : List UInt8) (x : List UInt8) (y : Nat) (c : Int) (h : scanL n a l = (x, y, c)) : x.length ≤ 64 ∧ (c ≠ 0 → x = []) := by
  unfold scanL at h
  split at h
  · injection h with h1 h; subst h1; simp
  · split at h
    · exact scan_out _ _ _ _ _ _ _ (by simp) h
    · injection h with h1 h; subst h1; simp
/-- What is put stands somewhere. -/
theorem scanAt_put (s : ByteArray) (A B : List UInt8) (l : List UInt8) (hs : s.data.toList = A ++ (put l ++ B)) (hl : l.length ≤ 64) : scanAt s A.length = (l, A.length + (put l).length, 0) := by
  have hsz : s.size = A.length + ((put l).length + B.length) := by rw [← len_list, hs, List.length_append, List.length_append]
  have hb : l.length ≤ (body l).length := by
    clear hs hsz hl
    induction l with
    | nil => simp
    | cons c l ih => have := one_len c; unfold body at ih ⊢; rw [List.flatMap_cons, List.length_append, List.length_cons]; omega
  have hp : (put l).length = (body l).length + 2 := by unfold put; simp
  unfold scanAt
  rw [hs, List.drop_left]
  show scanL s.size A.length (34 :: (body l ++ [34]) ++ B) = _
  rw [List.cons_append]
  unfold scanL
  simp only [if_true]
  rw [List.append_assoc, show [34] ++ B = 34 :: B from rfl, scan_body l s.size B _ _ (by omega) (by simp; omega), hp]
  simp; omega
theorem scanAt_long (s : ByteArray) (A B : List UInt8) (l : List UInt8) (hs : s.data.toList = A ++ (put l ++ B)) (hl : 64 < l.length) : ∃ q, scanAt s A.length = ([], q, 3) := by
  have hsz : s.size = A.length + ((put l).length + B.length) := by rw [← len_list, hs, List.length_append, List.length_append]
  have hb : l.length ≤ (body l).length := by
    clear hs hsz hl
    induction l with
    | nil => simp
    | cons c l ih => have := one_len c; unfold body at ih ⊢; rw [List.flatMap_cons, List.length_append, List.length_cons]; omega
  have hp : (put l).length = (body l).length + 2 := by unfold put; simp
  unfold scanAt
  rw [hs, List.drop_left]
  show ∃ q, scanL s.size A.length (34 :: (body l ++ [34]) ++ B) = _
  rw [List.cons_append]
  unfold scanL
  simp only [if_true]
  rw [List.append_assoc, show [34] ++ B = 34 :: B from rfl]
  exact scan_body_long l s.size B _ _ (by omega) (by simp) (by simp; omega)
end Go.Proofs.YtgjaajofhfhadaaDoor.Quo
/- What the document's own Put answers: a text between quotes. -/
namespace Go.Proofs.YtgjaajofhfhadaaDoor.Quo
open Go.ChangeShapes Go.WideShapes Go.RowKit
set_option linter.unusedVariables false
set_option maxRecDepth 20000

theorem one_convert (w : World) (c : UInt8) :
    (convert 34 9 (.slice (some ⟨w.heap.size, 0, none⟩) 1 1)).run Tryd.prog (w.alloc (.cells #[.int .u8 (c.toNat : Int)] 5)) = .ok (.string ⟨[c].toArray⟩) (w.alloc (.cells #[.int .u8 (c.toNat : Int)] 5)) := by
  refine run_convert_bytes_back _ 34 9 5 _ 1 [c] Tryd.underlying34 Tryd.underlying5 Tryd.underlying9 (fun j hj => ?_)
  simp at hj
  subst hj
  exact cell_one_new w _ 5 0 _ rfl
theorem tab_cut : ∀ k : Nat, k < 16 → (⟨#[48, 49, 50, 51, 52, 53, 54, 55, 56, 57, 97, 98, 99, 100, 101, 102]⟩ : ByteArray).extract k (k + 1) = ⟨#[hexd k]⟩ := by decide +kernel
theorem cut_run (z z1 : Int) (k : Nat) (hz : z = (k : Int)) (hz1 : z1 = z + 1) (hk : k < 16) (W : World) :
    (Instr.slice 9 (.string ⟨#[48, 49, 50, 51, 52, 53, 54, 55, 56, 57, 97, 98, 99, 100, 101, 102]⟩) (some (.int .u8 z)) (some (.int .u8 z1)) none).run Tryd.prog W = .ok (.string ⟨#[hexd k]⟩) W := by
  subst hz1 hz
  have hs : (⟨#[48, 49, 50, 51, 52, 53, 54, 55, 56, 57, 97, 98, 99, 100, 101, 102]⟩ : ByteArray).size = 16 := rfl
  rw [run_slice_string W 9 _ .u8 .u8 _ _ Tryd.underlying9 (by omega) (by omega) (by rw [hs]; omega)]
  rw [show ((k : Int) + 1).toNat = k + 1 by omega, show ((k : Int)).toNat = k by omega, tab_cut k hk]
theorem below_drewN (B : Nat) (w : World) (n : Nat) : Below B w (w.drewN n) := ⟨rfl, rfl, rfl, Nat.le_refl _, fun _ _ => rfl⟩
theorem ret_hex (y1 y2 : UInt8) : Ending.returned (.string (ByteArray.mk #[92, 120] ++ ByteArray.mk #[y1] ++ ByteArray.mk #[y2])) = .returned (.string ⟨[92, 120, y1, y2].toArray⟩) := rfl
theorem ret_str {a b : List UInt8} (h : a = b) : Ending.returned (.string ⟨a.toArray⟩) = .returned (.string ⟨b.toArray⟩) := by rw [h]
theorem ret_cat (x l y : List UInt8) (h : x ++ l = y) : Ending.returned (.string (ByteArray.mk x.toArray ++ ByteArray.mk l.toArray)) = .returned (.string ⟨y.toArray⟩) := by rw [ByteArray.mk_append_mk, ← h]
end Go.Proofs.YtgjaajofhfhadaaDoor.Quo
