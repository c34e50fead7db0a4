/-
  Some texts of this seat, one behind the other.
-/
import Derived.Test.YtlcablkhomnieaaK1
/-
  Machines in plain words: which tables are machines and where the first fault is; where a word leads, and what is said.
-/
namespace Go.Proofs.Ytlcablkhomnieaa
open Go.RowKit

/-- A machine's table. -/
structure Mc where
  kind : Int
  k : Int
  o : Int
  n : Int
  nx : List Int
  out : List Int

/-- The first place of l whose number is not from 0 to n - 1. -/
def bdAt (l : List Int) (n : Int) : Option Nat := first (badB (fun i => l.getD i 0) n) l.length
def bdV (l : List Int) (n : Int) : Int := match bdAt l n with
  | some i => i
  | none => l.length
theorem bdV_at {l : List Int} {n : Int} {j : Nat} (hj : j < l.length) (hb : badB (fun i => l.getD i 0) n j = true) (hg : ∀ i, i < j → badB (fun i => l.getD i 0) n i = false) : bdV l n = j := by
  unfold bdV bdAt; rw [first_some hj hb hg]
theorem bdV_none {l : List Int} {n : Int} (hg : ∀ i, i < l.length → badB (fun i => l.getD i 0) n i = false) : bdV l n = l.length := by
  unfold bdV bdAt; rw [first_none hg]
theorem bdAt_cases (l : List Int) (n : Int) : (bdAt l n = none ∧ ∀ j, j < l.length → 0 ≤ l.getD j 0 ∧ l.getD j 0 < n) ∨ ∃ i, bdAt l n = some i ∧ i < l.length := by
  rcases first_cases (badB (fun i => l.getD i 0) n) l.length with ⟨h, hl⟩ | ⟨i, h, hi, _, _⟩
  · exact .inl ⟨h, fun j hj => bad_not (hl j hj)⟩
  · exact .inr ⟨i, h, hi⟩

/-- The sizes' first fault; 0: none. lo, hi, p: what is asked of O, and how many are said a state. -/
def szV (m : Mc) (lo hi p : Int) : Int :=
  if m.k < 1 ∨ 64 < m.k then 1 else if m.o < lo ∨ hi < m.o then 33 else if m.n < 1 ∨ 1024 < m.n then 3
  else if (m.nx.length : Int) ≠ m.n * m.k ∨ (m.out.length : Int) ≠ m.n * p then 31 else 0
/-- The entries' first fault. -/
def enV (m : Mc) : Int × Int := match bdAt m.nx m.n with
  | some i => (i, 32)
  | none => match bdAt m.out m.o with
    | some i => (i, 33)
    | none => (0, 0)
/-- Check, as the document has it: the place and the error. -/
def mchV (m : Mc) : Int × Int :=
  if m.kind = 1 then (if szV m 2 2 1 = 0 then enV m else (0, szV m 2 2 1))
  else if m.kind = 2 then (if szV m 1 64 m.k = 0 then enV m else (0, szV m 1 64 m.k))
  else (0, 30)

theorem enV_state {m : Mc} {i : Nat} (h : bdAt m.nx m.n = some i) : enV m = ((i : Int), 32) := by unfold enV; rw [h]
theorem enV_out {m : Mc} {i : Nat} (h : bdAt m.nx m.n = none) (h2 : bdAt m.out m.o = some i) : enV m = ((i : Int), 33) := by unfold enV; rw [h, h2]
theorem enV_ok {m : Mc} (h : bdAt m.nx m.n = none) (h2 : bdAt m.out m.o = none) : enV m = (0, 0) := by unfold enV; rw [h, h2]
theorem bdV_some {l : List Int} {n : Int} {i : Nat} (h : bdAt l n = some i) : bdV l n = i := by unfold bdV; rw [h]
theorem bdV_no {l : List Int} {n : Int} (h : bdAt l n = none) : bdV l n = l.length := by unfold bdV; rw [h]

theorem szV_arg {m : Mc} {lo hi p : Int} (h : m.k < 1 ∨ 64 < m.k) : szV m lo hi p = 1 := by unfold szV; rw [if_pos h]
theorem szV_o {m : Mc} {lo hi p : Int} (h : 1 ≤ m.k) (h' : m.k ≤ 64) (h1 : m.o < lo ∨ hi < m.o) : szV m lo hi p = 33 := by unfold szV; rw [if_neg (by omega), if_pos h1]
theorem szV_n {m : Mc} {lo hi p : Int} (h : 1 ≤ m.k) (h' : m.k ≤ 64) (h1 : lo ≤ m.o) (h1' : m.o ≤ hi) (h2 : m.n < 1 ∨ 1024 < m.n) : szV m lo hi p = 3 := by unfold szV; rw [if_neg (by omega), if_neg (by omega), if_pos h2]
theorem szV_shape {m : Mc} {lo hi p : Int} (h : 1 ≤ m.k) (h' : m.k ≤ 64) (h1 : lo ≤ m.o) (h1' : m.o ≤ hi) (h2 : 1 ≤ m.n) (h2' : m.n ≤ 1024) (h3 : (m.nx.length : Int) ≠ m.n * m.k ∨ (m.out.length : Int) ≠ m.n * p) : szV m lo hi p = 31 := by
  unfold szV; rw [if_neg (by omega), if_neg (by omega), if_neg (by omega), if_pos h3]
theorem szV_ok {m : Mc} {lo hi p : Int} (h : 1 ≤ m.k) (h' : m.k ≤ 64) (h1 : lo ≤ m.o) (h1' : m.o ≤ hi) (h2 : 1 ≤ m.n) (h2' : m.n ≤ 1024) (h3 : (m.nx.length : Int) = m.n * m.k) (h4 : (m.out.length : Int) = m.n * p) : szV m lo hi p = 0 := by
  unfold szV; rw [if_neg (by omega), if_neg (by omega), if_neg (by omega), if_neg (by simp [h3, h4])]
/-- The sizes are right. -/
structure Sized (m : Mc) (lo hi p : Int) : Prop where
  k0 : 1 ≤ m.k
  k1 : m.k ≤ 64
  o0 : lo ≤ m.o
  o1 : m.o ≤ hi
  n0 : 1 ≤ m.n
  n1 : m.n ≤ 1024
  nx : (m.nx.length : Int) = m.n * m.k
  out : (m.out.length : Int) = m.n * p
theorem szV_cases (m : Mc) (lo hi p : Int) : (szV m lo hi p = 0 ∧ Sized m lo hi p) ∨ (szV m lo hi p ≠ 0 ∧ 0 ≤ szV m lo hi p ∧ szV m lo hi p ≤ 33) := by
  by_cases h : m.k < 1 ∨ 64 < m.k
  · exact .inr (by rw [szV_arg h]; decide)
  by_cases h1 : m.o < lo ∨ hi < m.o
  · exact .inr (by rw [szV_o (by omega) (by omega) h1]; decide)
  by_cases h2 : m.n < 1 ∨ 1024 < m.n
  · exact .inr (by rw [szV_n (by omega) (by omega) (by omega) (by omega) h2]; decide)
  by_cases h3 : (m.nx.length : Int) = m.n * m.k
  · by_cases h4 : (m.out.length : Int) = m.n * p
    · exact .inl ⟨szV_ok (by omega) (by omega) (by omega) (by omega) (by omega) (by omega) h3 h4, by omega, by omega, by omega, by omega, by omega, by omega, h3, h4⟩
    · exact .inr (by rw [szV_shape (by omega) (by omega) (by omega) (by omega) (by omega) (by omega) (.inr h4)]; decide)
  · exact .inr (by rw [szV_shape (by omega) (by omega) (by omega) (by omega) (by omega) (by omega) (.inl h3)]; decide)

end Go.Proofs.Ytlcablkhomnieaa

/-
  Where a word leads in a machine and what is said on the way, in plain words; which machines are right.
-/
namespace Go.Proofs.Ytlcablkhomnieaa
open Go.RowKit

/-- Where w leads from s, and what is said, behind acc. -/
def goV (m : Mc) : Int → List Int → List Int → Int × List Int
  | s, [], acc => (s, if m.kind = 1 then [m.out.getD s.toNat 0] else acc)
  | s, x :: w, acc => goV m (m.nx.getD (s * m.k + x).toNat 0) w (if m.kind = 2 then acc ++ [m.out.getD (s * m.k + x).toNat 0] else acc)
theorem goV_nil1 {m : Mc} {s : Int} {acc : List Int} (h : m.kind = 1) : goV m s [] acc = (s, [m.out.getD s.toNat 0]) := by simp [goV, h]
theorem goV_nil2 {m : Mc} {s : Int} {acc : List Int} (h : m.kind ≠ 1) : goV m s [] acc = (s, acc) := by simp [goV, h]
theorem goV_cons1 {m : Mc} {s x : Int} {w acc : List Int} {P : Nat} (h : m.kind ≠ 2) (hP : s * m.k + x = (P : Int)) : goV m s (x :: w) acc = goV m (m.nx.getD P 0) w acc := by simp [goV, h, hP]
theorem goV_cons2 {m : Mc} {s x : Int} {w acc : List Int} {P : Nat} (h : m.kind = 2) (hP : s * m.k + x = (P : Int)) : goV m s (x :: w) acc = goV m (m.nx.getD P 0) w (acc ++ [m.out.getD P 0]) := by simp [goV, h, hP]

/-- A machine that Check finds nothing wrong with. -/
structure Right (m : Mc) : Prop where
  kd : m.kind = 1 ∨ m.kind = 2
  k0 : 1 ≤ m.k
  k1 : m.k ≤ 64
  n0 : 1 ≤ m.n
  n1 : m.n ≤ 1024
  nx : (m.nx.length : Int) = m.n * m.k
  outD : m.kind = 1 → (m.out.length : Int) = m.n
  outM : m.kind = 2 → (m.out.length : Int) = m.n * m.k
  st : ∀ j, j < m.nx.length → 0 ≤ m.nx.getD j 0 ∧ m.nx.getD j 0 < m.n
  so : ∀ j, j < m.out.length → 0 ≤ m.out.getD j 0 ∧ m.out.getD j 0 < m.o
theorem enV_right {m : Mc} (h : (enV m).2 = 0) : (∀ j, j < m.nx.length → 0 ≤ m.nx.getD j 0 ∧ m.nx.getD j 0 < m.n) ∧ ∀ j, j < m.out.length → 0 ≤ m.out.getD j 0 ∧ m.out.getD j 0 < m.o := by
  rcases bdAt_cases m.nx m.n with ⟨e, h1⟩ | ⟨i, e, _⟩
  · rcases bdAt_cases m.out m.o with ⟨e', h2⟩ | ⟨i, e', _⟩
    · exact ⟨h1, h2⟩
    · rw [enV_out e e'] at h; cases h
  · rw [enV_state e] at h; cases h
theorem right_of {m : Mc} (h : (mchV m).2 = 0) : Right m := by
  unfold mchV at h
  by_cases hk : m.kind = 1
  · rw [if_pos hk] at h
    rcases szV_cases m 2 2 1 with ⟨hz, s⟩ | ⟨hz, _, _⟩
    · rw [if_pos hz] at h
      obtain ⟨e1, e2⟩ := enV_right h
      exact ⟨.inl hk, s.k0, s.k1, s.n0, s.n1, s.nx, fun _ => by rw [s.out, Int.mul_one], fun h2 => by omega, e1, e2⟩
    · rw [if_neg hz] at h; exact absurd h hz
  · rw [if_neg hk] at h
    by_cases hk2 : m.kind = 2
    · rw [if_pos hk2] at h
      rcases szV_cases m 1 64 m.k with ⟨hz, s⟩ | ⟨hz, _, _⟩
      · rw [if_pos hz] at h
        obtain ⟨e1, e2⟩ := enV_right h
        exact ⟨.inr hk2, s.k0, s.k1, s.n0, s.n1, s.nx, fun h => absurd h hk, fun _ => s.out, e1, e2⟩
      · rw [if_neg hz] at h; exact absurd h hz
    · rw [if_neg hk2] at h; cases h
/-- The way from s by x: its place in the lists. -/
theorem way_of {m : Mc} (R : Right m) {s x : Int} (s0 : 0 ≤ s) (s1 : s < m.n) (x0 : 0 ≤ x) (x1 : x < m.k) : ∃ P : Nat, s * m.k + x = (P : Int) ∧ P < m.nx.length ∧ 0 ≤ s * m.k ∧ s * m.k ≤ 65536 ∧ P ≤ 65536 := by
  have k0 := R.k0
  have h0 : 0 ≤ s * m.k := Int.mul_nonneg s0 (by omega)
  have h1 : (s + 1) * m.k ≤ m.n * m.k := Int.mul_le_mul_of_nonneg_right (by omega) (by omega)
  have h2 : (s + 1) * m.k = s * m.k + m.k := by rw [Int.add_mul, Int.one_mul]
  have h3 := R.nx
  have h4 : m.n * m.k ≤ 1024 * 64 := Int.mul_le_mul R.n1 R.k1 (by omega) (by have := R.n0; omega)
  refine ⟨(s * m.k + x).toNat, by omega, by omega, h0, by omega, by omega⟩

end Go.Proofs.Ytlcablkhomnieaa

/-
  From, as the document has it.
-/
namespace Go.Proofs.Ytlcablkhomnieaa
open Go.RowKit

/-- Which lists are words: the place and the error. -/
def wchV (wd : List Int) (k : Int) : Int × Int := chkV wd.length (fun i => wd.getD i 0) k
/-- From, as the document has it: the state, what is said, the error. -/
def fromV (m : Mc) (s : Int) (wd : List Int) : Int × List Int × Int :=
  if (mchV m).2 ≠ 0 then (0, [], (mchV m).2) else if s < 0 ∨ m.n ≤ s then (0, [], 32) else if (wchV wd m.k).2 ≠ 0 then (0, [], (wchV wd m.k).2) else ((goV m s wd []).1, (goV m s wd []).2, 0)
theorem fromV_mach {m : Mc} {s : Int} {wd : List Int} (h : (mchV m).2 ≠ 0) : fromV m s wd = (0, [], (mchV m).2) := by unfold fromV; rw [if_pos h]
theorem fromV_state {m : Mc} {s : Int} {wd : List Int} (h : (mchV m).2 = 0) (h2 : s < 0 ∨ m.n ≤ s) : fromV m s wd = (0, [], 32) := by unfold fromV; rw [if_neg (by simp [h]), if_pos h2]
theorem fromV_word {m : Mc} {s : Int} {wd : List Int} (h : (mchV m).2 = 0) (h1 : 0 ≤ s) (h2 : s < m.n) (h3 : (wchV wd m.k).2 ≠ 0) : fromV m s wd = (0, [], (wchV wd m.k).2) := by unfold fromV; rw [if_neg (by simp [h]), if_neg (by omega), if_pos h3]
theorem fromV_ok {m : Mc} {s : Int} {wd : List Int} (h : (mchV m).2 = 0) (h1 : 0 ≤ s) (h2 : s < m.n) (h3 : (wchV wd m.k).2 = 0) : fromV m s wd = ((goV m s wd []).1, (goV m s wd []).2, 0) := by unfold fromV; rw [if_neg (by simp [h]), if_neg (by omega), if_neg (by simp [h3])]
theorem ret_ivi {k j : IntKind} {a b c d : Int} {v : Value} (h : a = b) (g : c = d) : Ending.returned (.tuple #[.int k a, v, .int j c]) = .returned (.tuple #[.int k b, v, .int j d]) := by rw [h, g]
theorem ret_vi {j : IntKind} {c d : Int} {v : Value} (g : c = d) : Ending.returned (.tuple #[v, .int j c]) = .returned (.tuple #[v, .int j d]) := by rw [g]

end Go.Proofs.Ytlcablkhomnieaa

/-
  Which states of a machine can be come to, in plain words: one by one, symbol by symbol; access words, their order.
-/
namespace Go.Proofs.Ytlcablkhomnieaa
open Go.RowKit

/-- Where x leads from s. -/
def nxt (m : Mc) (s x : Int) : Int := m.nx.getD (s * m.k + x).toNat 0
/-- Where w leads from s. -/
def ends (m : Mc) (s : Int) (w : List Int) : Int := w.foldl (nxt m) s
theorem ends_snoc (m : Mc) (s : Int) (w : List Int) (x : Int) : ends m s (w ++ [x]) = nxt m (ends m s w) x := by simp [ends]
theorem goV_ends (m : Mc) : ∀ (w : List Int) (s : Int) (acc : List Int), (goV m s w acc).1 = ends m s w
  | [], s, acc => by simp only [goV]; rfl
  | x :: w, s, acc => by
    simp only [goV]
    rw [goV_ends m w]
    rfl

/-- Lists in the order of their length, then number by number. -/
def Lex : List Int → List Int → Prop
  | x :: a, y :: b => x < y ∨ (x = y ∧ Lex a b)
  | _, _ => False
def Ahd (a b : List Int) : Prop := a.length < b.length ∨ (a.length = b.length ∧ Lex a b)
theorem Lex.trans : ∀ {a b c : List Int}, Lex a b → Lex b c → Lex a c
  | x :: a, y :: b, z :: c, h1, h2 => by
    simp only [Lex] at h1 h2 ⊢
    rcases h1 with h1 | ⟨e1, h1⟩ <;> rcases h2 with h2 | ⟨e2, h2⟩
    · exact .inl (by omega)
    · exact .inl (by omega)
    · exact .inl (by omega)
    · exact .inr ⟨by omega, Lex.trans h1 h2⟩
  | [], _, _, h, _ => by simp [Lex] at h
  | _ :: _, [], _, h, _ => by simp [Lex] at h
  | _ :: _, _ :: _, [], _, h => by simp [Lex] at h
theorem Lex.irrefl : ∀ (a : List Int), ¬ Lex a a
  | [], h => by simp [Lex] at h
  | x :: a, h => by
    simp only [Lex] at h
    rcases h with h | ⟨_, h⟩
    · omega
    · exact Lex.irrefl a h
theorem Lex.total : ∀ {a b : List Int}, a.length = b.length → Lex a b ∨ a = b ∨ Lex b a
  | [], [], _ => .inr (.inl rfl)
  | [], _ :: _, h => by simp at h
  | _ :: _, [], h => by simp at h
  | x :: a, y :: b, h => by
    simp only [Lex]
    rcases Int.lt_trichotomy x y with e | e | e
    · exact .inl (.inl e)
    · subst e
      rcases Lex.total (a := a) (b := b) (by simpa using h) with h1 | h1 | h1
      · exact .inl (.inr ⟨rfl, h1⟩)
      · exact .inr (.inl (by rw [h1]))
      · exact .inr (.inr (.inr ⟨rfl, h1⟩))
    · exact .inr (.inr (.inl e))
theorem Lex.snoc : ∀ {a b : List Int} (x y : Int), a.length = b.length → Lex a b → Lex (a ++ [x]) (b ++ [y])
  | u :: a, v :: b, x, y, hl, h => by
    simp only [Lex, List.cons_append] at h ⊢
    rcases h with h | ⟨e, h⟩
    · exact .inl h
    · exact .inr ⟨e, Lex.snoc x y (by simpa using hl) h⟩
  | [], _, _, _, _, h => by simp [Lex] at h
  | _ :: _, [], _, _, _, h => by simp [Lex] at h
theorem Lex.last : ∀ (a : List Int) {x y : Int}, x < y → Lex (a ++ [x]) (a ++ [y])
  | [], x, y, h => by simp [Lex, h]
  | u :: a, x, y, h => by simp only [Lex, List.cons_append]; exact .inr ⟨trivial, Lex.last a h⟩
theorem Ahd.trans {a b c : List Int} (h1 : Ahd a b) (h2 : Ahd b c) : Ahd a c := by
  rcases h1 with h1 | ⟨e1, h1⟩ <;> rcases h2 with h2 | ⟨e2, h2⟩
  · exact .inl (by omega)
  · exact .inl (by omega)
  · exact .inl (by omega)
  · exact .inr ⟨by omega, h1.trans h2⟩
theorem Ahd.irrefl (a : List Int) : ¬ Ahd a a := fun h => by
  rcases h with h | ⟨_, h⟩
  · omega
  · exact Lex.irrefl a h
theorem Ahd.total (a b : List Int) : Ahd a b ∨ a = b ∨ Ahd b a := by
  rcases Nat.lt_trichotomy a.length b.length with h | h | h
  · exact .inl (.inl h)
  · rcases Lex.total h with h1 | h1 | h1
    · exact .inl (.inr ⟨h, h1⟩)
    · exact .inr (.inl h1)
    · exact .inr (.inr (.inr ⟨h.symm, h1⟩))
  · exact .inr (.inr (.inl h))
theorem Ahd.snoc {a b : List Int} (h : Ahd a b) (x y : Int) : Ahd (a ++ [x]) (b ++ [y]) := by
  rcases h with h | ⟨e, h⟩
  · exact .inl (by simp; omega)
  · exact .inr ⟨by simp [e], Lex.snoc x y e h⟩
theorem Ahd.last (a : List Int) {x y : Int} (h : x < y) : Ahd (a ++ [x]) (a ++ [y]) := .inr ⟨by simp, Lex.last a h⟩
theorem Ahd.nil (a : List Int) (x : Int) : Ahd [] (a ++ [x]) := .inl (by simp)

/-- The states that can be come to and their words, from the place (i, x) on. -/
def rch (m : Mc) : Nat → Nat → Nat → List Int → List (List Int) → List Int × List (List Int)
  | 0, _, _, S, V => (S, V)
  | f + 1, i, x, S, V =>
    if i < S.length then
      (if (x : Int) < m.k then
        (if nxt m (S.getD i 0) x ∈ S then rch m f i (x + 1) S V else rch m f i (x + 1) (S ++ [nxt m (S.getD i 0) x]) (V ++ [V.getD i [] ++ [(x : Int)]]))
      else rch m f (i + 1) 0 S V)
    else (S, V)
theorem rch_end {m : Mc} {f i x : Nat} {S : List Int} {V : List (List Int)} (h : ¬ i < S.length) : rch m f i x S V = (S, V) := by
  cases f <;> simp [rch, h]
theorem rch_old {m : Mc} {f i x : Nat} {S : List Int} {V : List (List Int)} (h : i < S.length) (hx : (x : Int) < m.k) (ht : nxt m (S.getD i 0) x ∈ S) : rch m (f + 1) i x S V = rch m f i (x + 1) S V := by
  rw [rch, if_pos h, if_pos hx, if_pos ht]
theorem rch_new {m : Mc} {f i x : Nat} {S : List Int} {V : List (List Int)} (h : i < S.length) (hx : (x : Int) < m.k) (ht : ¬ nxt m (S.getD i 0) x ∈ S) : rch m (f + 1) i x S V = rch m f i (x + 1) (S ++ [nxt m (S.getD i 0) x]) (V ++ [V.getD i [] ++ [(x : Int)]]) := by
  rw [rch, if_pos h, if_pos hx, if_neg ht]
theorem rch_row {m : Mc} {f i x : Nat} {S : List Int} {V : List (List Int)} (h : i < S.length) (hx : ¬ (x : Int) < m.k) : rch m (f + 1) i x S V = rch m f (i + 1) 0 S V := by
  rw [rch, if_pos h, if_neg hx]
/-- How many steps are enough from (i, x) on. -/
def need (m : Mc) (i x : Nat) : Nat := (m.n.toNat - i) * (m.k.toNat + 1) - x
theorem need_sym {m : Mc} {i x f : Nat} (hi : i < m.n.toNat) (hx : (x : Int) < m.k) (h : need m i x ≤ f) : ∃ g, f = g + 1 ∧ need m i (x + 1) ≤ g := by
  unfold need at h ⊢
  have : (m.n.toNat - i) * (m.k.toNat + 1) = (m.n.toNat - i - 1) * (m.k.toNat + 1) + (m.k.toNat + 1) := by
    rw [← Nat.succ_mul]; congr 1; omega
  refine ⟨f - 1, by omega, by omega⟩
theorem need_row {m : Mc} {i x f : Nat} (hi : i < m.n.toNat) (hx : (x : Int) = m.k) (h : need m i x ≤ f) : ∃ g, f = g + 1 ∧ need m (i + 1) 0 ≤ g := by
  unfold need at h ⊢
  have e : (m.n.toNat - i) * (m.k.toNat + 1) = (m.n.toNat - (i + 1)) * (m.k.toNat + 1) + (m.k.toNat + 1) := by
    rw [← Nat.succ_mul]; congr 1; omega
  refine ⟨f - 1, by omega, by omega⟩
def rchV (m : Mc) : List Int × List (List Int) := rch m (need m 0 0) 0 0 [0] [[]]

/-- Numbers from 0 to n - 1, each once: at most n. -/
theorem nodup_le : ∀ (n : Nat) (l : List Int), l.Nodup → (∀ a ∈ l, 0 ≤ a ∧ a < n) → l.length ≤ n
  | 0, l, _, h => by
    cases l with
    | nil => simp
    | cons a l => have := h a (by simp); omega
  | n + 1, l, hd, h => by
    have h1 := nodup_le n (l.erase (n : Int)) (hd.erase _) fun a ha => by
      have h2 := h a (List.mem_of_mem_erase ha)
      have h3 : a ≠ (n : Int) := fun e => by
        subst e
        exact (List.Nodup.mem_erase_iff hd).1 ha |>.1 rfl
      omega
    have h4 : l.length ≤ (l.erase (n : Int)).length + 1 := by
      rw [List.length_erase]; split <;> omega
    omega

end Go.Proofs.Ytlcablkhomnieaa

/-
  What holds of the states that can be come to and their words: each once, in the words' order, each word the first one that leads to its state.
-/
namespace Go.Proofs.Ytlcablkhomnieaa
open Go.RowKit

theorem gd_left {α : Type} {l r : List α} {i : Nat} (d : α) (h : i < l.length) : (l ++ r).getD i d = l.getD i d := by
  simp only [List.getD, List.getElem?_append_left h]
theorem gd_mid {α : Type} (l : List α) (a d : α) : (l ++ [a]).getD l.length d = a := by simp
theorem gd_mem {l : List Int} {i : Nat} (h : i < l.length) : l.getD i 0 ∈ l := by
  simp only [List.getD, List.getElem?_eq_getElem h, Option.getD_some]
  exact List.getElem_mem h
theorem mem_gd {l : List Int} {a : Int} (h : a ∈ l) : ∃ p, p < l.length ∧ l.getD p 0 = a := by
  obtain ⟨p, hp, e⟩ := List.getElem_of_mem h
  exact ⟨p, hp, by simp [List.getD, List.getElem?_eq_getElem hp, e]⟩
theorem nd_inj {l : List Int} (hd : l.Nodup) {p q : Nat} (hp : p < l.length) (hq : q < l.length) (e : l.getD p 0 = l.getD q 0) : p = q := by
  simp only [List.getD, List.getElem?_eq_getElem hp, List.getElem?_eq_getElem hq, Option.getD_some] at e
  have hw := List.pairwise_iff_getElem.1 hd
  rcases Nat.lt_trichotomy p q with h | h | h
  · exact absurd e (hw p q hp hq h)
  · exact h
  · exact absurd e.symm (hw q p hq hp h)

theorem nxt_range {m : Mc} (R : Right m) {s : Int} {x : Nat} (s0 : 0 ≤ s) (s1 : s < m.n) (hx : (x : Int) < m.k) : 0 ≤ nxt m s x ∧ nxt m s x < m.n := by
  obtain ⟨P, hP, hPl, _⟩ := way_of R s0 s1 (x := (x : Int)) (by omega) hx
  unfold nxt
  rw [hP, Int.toNat_natCast]
  exact R.st P hPl

/-- What holds at the place (i, x). -/
structure RInv (m : Mc) (i x : Nat) (S : List Int) (V : List (List Int)) : Prop where
  len : S.length = V.length
  ne : 0 < S.length
  s0 : S.getD 0 0 = 0
  v0 : V.getD 0 [] = []
  nd : S.Nodup
  rng : ∀ p, p < S.length → 0 ≤ S.getD p 0 ∧ S.getD p 0 < m.n
  il : i ≤ S.length
  xl : (x : Int) ≤ m.k
  lead : ∀ p, p < S.length → ends m 0 (V.getD p []) = S.getD p 0
  sym : ∀ p, p < S.length → ∀ y ∈ V.getD p [], 0 ≤ y ∧ y < m.k
  par : ∀ p, 0 < p → p < S.length → ∃ j y : Nat, j < p ∧ (j < i ∨ (j = i ∧ y < x)) ∧ (y : Int) < m.k ∧ V.getD p [] = V.getD j [] ++ [(y : Int)]
  srt : ∀ p q, p < q → q < S.length → Ahd (V.getD p []) (V.getD q [])
  cov : ∀ j y : Nat, (j < i ∧ (y : Int) < m.k ∨ j = i ∧ y < x) → j < S.length → ∃ p, p < S.length ∧ S.getD p 0 = nxt m (S.getD j 0) y ∧ (V.getD p [] = V.getD j [] ++ [(y : Int)] ∨ Ahd (V.getD p []) (V.getD j [] ++ [(y : Int)]))

theorem RInv.start {m : Mc} (R : Right m) : RInv m 0 0 [0] [[]] := by
  have := R.n0
  have := R.k0
  refine ⟨rfl, by simp, rfl, rfl, by simp, fun p hp => ?_, by simp, by simp; omega, fun p hp => ?_, fun p hp y hy => ?_, fun p h1 h2 => ?_, fun p q h1 h2 => ?_, fun j y h _ => by omega⟩
  · obtain rfl : p = 0 := by simpa using hp
    simp; omega
  · obtain rfl : p = 0 := by simpa using hp
    rfl
  · obtain rfl : p = 0 := by simpa using hp
    simp at hy
  · simp at h2; omega
  · simp at h2; omega

/-- All words so far are ahead of the next one. -/
theorem RInv.ahead {m : Mc} {i x : Nat} {S : List Int} {V : List (List Int)} (h : RInv m i x S V) (hi : i < S.length) (p : Nat) (hp : p < S.length) : Ahd (V.getD p []) (V.getD i [] ++ [(x : Int)]) := by
  by_cases e : p = 0
  · subst e; rw [h.v0]; exact Ahd.nil _ _
  · obtain ⟨j, y, _, hc, _, ev⟩ := h.par p (by omega) hp
    rw [ev]
    rcases hc with hc | ⟨rfl, hc⟩
    · exact (h.srt j i hc hi).snoc _ _
    · exact Ahd.last _ (by omega)

theorem RInv.old {m : Mc} {i x : Nat} {S : List Int} {V : List (List Int)} (h : RInv m i x S V) (hi : i < S.length) (hx : (x : Int) < m.k) (ht : nxt m (S.getD i 0) x ∈ S) : RInv m i (x + 1) S V := by
  refine ⟨h.len, h.ne, h.s0, h.v0, h.nd, h.rng, h.il, by omega, h.lead, h.sym, fun p h1 h2 => ?_, h.srt, fun j y hc hj => ?_⟩
  · obtain ⟨j, y, a, b, c, d⟩ := h.par p h1 h2
    exact ⟨j, y, a, by omega, c, d⟩
  · by_cases e : j = i ∧ y = x
    · obtain ⟨rfl, rfl⟩ := e
      obtain ⟨p, hp, ep⟩ := mem_gd ht
      exact ⟨p, hp, ep, .inr (h.ahead hi p hp)⟩
    · exact h.cov j y (by omega) hj

theorem RInv.row {m : Mc} {i x : Nat} {S : List Int} {V : List (List Int)} (h : RInv m i x S V) (hi : i < S.length) (hx : ¬ (x : Int) < m.k) (k0 : 1 ≤ m.k) : RInv m (i + 1) 0 S V := by
  have hxl := h.xl
  refine ⟨h.len, h.ne, h.s0, h.v0, h.nd, h.rng, hi, by omega, h.lead, h.sym, fun p h1 h2 => ?_, h.srt, fun j y hc hj => ?_⟩
  · obtain ⟨j, y, a, b, c, d⟩ := h.par p h1 h2
    exact ⟨j, y, a, by omega, c, d⟩
  · exact h.cov j y (by omega) hj

theorem RInv.new {m : Mc} {i x : Nat} {S : List Int} {V : List (List Int)} (R : Right m) (h : RInv m i x S V) (hi : i < S.length) (hx : (x : Int) < m.k) (ht : ¬ nxt m (S.getD i 0) x ∈ S) :
    RInv m i (x + 1) (S ++ [nxt m (S.getD i 0) x]) (V ++ [V.getD i [] ++ [(x : Int)]]) := by
  have hlen := h.len
  have hiV : i < V.length := by omega
  have hr := h.rng i hi
  have hnr := nxt_range R hr.1 hr.2 hx
  have L : (S ++ [nxt m (S.getD i 0) x]).length = S.length + 1 := by simp
  have gS : ∀ p, p < S.length → (S ++ [nxt m (S.getD i 0) x]).getD p 0 = S.getD p 0 := fun p hp => gd_left 0 hp
  have gV : ∀ p, p < S.length → (V ++ [V.getD i [] ++ [(x : Int)]]).getD p [] = V.getD p [] := fun p hp => gd_left [] (by omega)
  have eS : (S ++ [nxt m (S.getD i 0) x]).getD S.length 0 = nxt m (S.getD i 0) x := gd_mid _ _ _
  have eV : (V ++ [V.getD i [] ++ [(x : Int)]]).getD S.length [] = V.getD i [] ++ [(x : Int)] := by rw [hlen]; exact gd_mid _ _ _
  refine ⟨by simp [hlen], by simp, by rw [gS 0 h.ne]; exact h.s0, by rw [gV 0 h.ne]; exact h.v0, ?_, fun p hp => ?_, by rw [L]; omega, by omega, fun p hp => ?_, fun p hp => ?_, fun p h1 h2 => ?_, fun p q h1 h2 => ?_, fun j y hc hj => ?_⟩
  · rw [List.nodup_append]
    refine ⟨h.nd, by simp, fun a ha b hb e => ?_⟩
    rw [List.mem_singleton] at hb
    rw [hb] at e
    exact ht (e ▸ ha)
  · rw [L] at hp
    by_cases e : p = S.length
    · subst e; rw [eS]; exact hnr
    · rw [gS p (by omega)]; exact h.rng p (by omega)
  · rw [L] at hp
    by_cases e : p = S.length
    · subst e; rw [eS, eV, ends_snoc, h.lead i hi]
    · rw [gS p (by omega), gV p (by omega)]; exact h.lead p (by omega)
  · rw [L] at hp
    by_cases e : p = S.length
    · subst e
      rw [eV]
      intro y hy
      rw [List.mem_append] at hy
      rcases hy with hy | hy
      · exact h.sym i hi y hy
      · rw [List.mem_singleton] at hy; subst hy; omega
    · rw [gV p (by omega)]; exact h.sym p (by omega)
  · rw [L] at h2
    by_cases e : p = S.length
    · subst e
      exact ⟨i, x, hi, by omega, hx, by rw [eV, gV i hi]⟩
    · obtain ⟨j, y, a, b, c, d⟩ := h.par p h1 (by omega)
      exact ⟨j, y, a, by omega, c, by rw [gV p (by omega), gV j (by omega)]; exact d⟩
  · rw [L] at h2
    by_cases e : q = S.length
    · subst e
      rw [eV, gV p h1]
      exact h.ahead hi p h1
    · rw [gV p (by omega), gV q (by omega)]; exact h.srt p q h1 (by omega)
  · have hj' : j < S.length := by omega
    rw [gS j hj', gV j hj']
    by_cases e : j = i ∧ y = x
    · obtain ⟨rfl, rfl⟩ := e
      exact ⟨S.length, by rw [L]; omega, by rw [eS], .inl (by rw [eV])⟩
    · obtain ⟨p, hp, a, b⟩ := h.cov j y (by omega) hj'
      exact ⟨p, by rw [L]; omega, by rw [gS p hp]; exact a, by rw [gV p hp]; exact b⟩

theorem RInv.size {m : Mc} {i x : Nat} {S : List Int} {V : List (List Int)} (R : Right m) (h : RInv m i x S V) : S.length ≤ m.n.toNat := by
  refine nodup_le _ S h.nd fun a ha => ?_
  obtain ⟨p, hp, rfl⟩ := mem_gd ha
  have := h.rng p hp
  have := R.n0
  omega

theorem RInv.last {m : Mc} {x : Nat} {S : List Int} {V : List (List Int)} (h : RInv m S.length x S V) (R : Right m) : RInv m S.length 0 S V := by
  have k0 := R.k0
  refine ⟨h.len, h.ne, h.s0, h.v0, h.nd, h.rng, h.il, by omega, h.lead, h.sym, fun p h1 h2 => ?_, h.srt, fun j y hc hj => h.cov j y (by omega) hj⟩
  obtain ⟨j, y, a, b, c, d⟩ := h.par p h1 h2
  exact ⟨j, y, a, by omega, c, d⟩

theorem rch_inv {m : Mc} (R : Right m) : ∀ (f i x : Nat) (S : List Int) (V : List (List Int)), RInv m i x S V → need m i x ≤ f → RInv m (rch m f i x S V).1.length 0 (rch m f i x S V).1 (rch m f i x S V).2
  | 0, i, x, S, V, h, hf => by
    have hs := h.size R
    have hi : ¬ i < S.length := fun hi => by
      by_cases hx : (x : Int) < m.k
      · obtain ⟨g, e, _⟩ := need_sym (by omega) hx hf
        omega
      · have := h.xl
        obtain ⟨g, e, _⟩ := need_row (by omega) (by omega) hf
        omega
    rw [rch_end hi]
    have hil := h.il
    have e : i = S.length := by omega
    subst e
    exact h.last R
  | f + 1, i, x, S, V, h, hf => by
    have hs := h.size R
    by_cases hi : i < S.length
    · by_cases hx : (x : Int) < m.k
      · obtain ⟨g, e, hg⟩ := need_sym (by omega) hx hf
        obtain rfl : g = f := by omega
        by_cases ht : nxt m (S.getD i 0) x ∈ S
        · rw [rch_old hi hx ht]
          exact rch_inv R _ _ _ _ _ (h.old hi hx ht) hg
        · rw [rch_new hi hx ht]
          exact rch_inv R _ _ _ _ _ (h.new R hi hx ht) hg
      · have := h.xl
        obtain ⟨g, e, hg⟩ := need_row (by omega) (by omega) hf
        obtain rfl : g = f := by omega
        rw [rch_row hi hx]
        exact rch_inv R _ _ _ _ _ (h.row hi hx R.k0) hg
    · rw [rch_end hi]
      have hil := h.il
      have e : i = S.length := by omega
      subst e
      exact h.last R

/-- What holds of all that can be come to. -/
theorem rchV_inv {m : Mc} (R : Right m) : RInv m (rchV m).1.length 0 (rchV m).1 (rchV m).2 := rch_inv R _ _ _ _ _ (RInv.start R) (Nat.le_refl _)

/-- Each word leads to a state that is there, and the state's word is not behind it. -/
theorem reach_all {m : Mc} {S : List Int} {V : List (List Int)} (h : RInv m S.length 0 S V) : ∀ (r : List Int), (∀ y ∈ r, 0 ≤ y ∧ y < m.k) → ∃ p, p < S.length ∧ S.getD p 0 = ends m 0 r.reverse ∧ (V.getD p [] = r.reverse ∨ Ahd (V.getD p []) r.reverse)
  | [], _ => ⟨0, h.ne, by rw [h.s0]; rfl, .inl h.v0⟩
  | x :: r, hr => by
    obtain ⟨p, hp, e, hc⟩ := reach_all h r fun y hy => hr y (by simp [hy])
    have hx := hr x (by simp)
    obtain ⟨y, rfl⟩ := Int.eq_ofNat_of_zero_le hx.1
    obtain ⟨p', hp', e', hc'⟩ := h.cov p y (.inl ⟨hp, hx.2⟩) hp
    refine ⟨p', hp', ?_, ?_⟩
    · rw [List.reverse_cons, ends_snoc, ← e, e']
    · rw [List.reverse_cons]
      rcases hc with hc | hc
      · rw [← hc]; exact hc'
      · have h1 : Ahd (V.getD p [] ++ [(y : Int)]) (r.reverse ++ [(y : Int)]) := hc.snoc _ _
        rcases hc' with hc' | hc'
        · rw [hc']; exact .inr h1
        · exact .inr (hc'.trans h1)
theorem reach_word {m : Mc} {S : List Int} {V : List (List Int)} (h : RInv m S.length 0 S V) {w : List Int} (hw : ∀ y ∈ w, 0 ≤ y ∧ y < m.k) : ∃ p, p < S.length ∧ S.getD p 0 = ends m 0 w ∧ (V.getD p [] = w ∨ Ahd (V.getD p []) w) := by
  have := reach_all h w.reverse fun y hy => hw y (by simpa using hy)
  rwa [List.reverse_reverse] at this
/-- No word ahead of a state's own leads to it. -/
theorem reach_least {m : Mc} {S : List Int} {V : List (List Int)} (h : RInv m S.length 0 S V) {w : List Int} (hw : ∀ y ∈ w, 0 ≤ y ∧ y < m.k) {p : Nat} (hp : p < S.length) (e : S.getD p 0 = ends m 0 w) : ¬ Ahd w (V.getD p []) := by
  obtain ⟨p', hp', e', hc⟩ := reach_word h hw
  obtain rfl : p = p' := nd_inj h.nd hp hp' (by rw [e, e'])
  intro ha
  rcases hc with hc | hc
  · rw [hc] at ha; exact Ahd.irrefl _ ha
  · exact Ahd.irrefl _ (ha.trans hc)

end Go.Proofs.Ytlcablkhomnieaa

/-
  The ways by which states are come to, beside the words; a search that has found all states finds no more.
-/
namespace Go.Proofs.Ytlcablkhomnieaa
open Go.RowKit

/-- W: the ways by which all states but the first were come to. -/
def Wy (m : Mc) (S : List Int) (V : List (List Int)) (W : List Int) : Prop :=
  W.length + 1 = V.length ∧ ∀ t, t < W.length → ∃ j y : Nat, j ≤ t ∧ (y : Int) < m.k ∧ W.getD t 0 = S.getD j 0 * m.k + y ∧ V.getD (t + 1) [] = V.getD j [] ++ [(y : Int)]
theorem Wy.start (m : Mc) : Wy m [0] [[]] [] := ⟨rfl, fun t h => by simp at h⟩
theorem Wy.new {m : Mc} {S : List Int} {V : List (List Int)} {W : List Int} {i x : Nat} (h : Wy m S V W) (hl : S.length = V.length) (hi : i < S.length) (hx : (x : Int) < m.k) (t : Int) :
    Wy m (S ++ [t]) (V ++ [V.getD i [] ++ [(x : Int)]]) (W ++ [S.getD i 0 * m.k + x]) := by
  obtain ⟨h1, h2⟩ := h
  refine ⟨by simp; omega, fun q hq => ?_⟩
  rw [List.length_append, List.length_singleton] at hq
  by_cases e : q = W.length
  · subst e
    refine ⟨i, x, by omega, hx, ?_, ?_⟩
    · rw [gd_mid, gd_left 0 hi]
    · rw [h1, gd_mid, gd_left [] (by omega)]
  · obtain ⟨j, y, a, b, c, d⟩ := h2 q (by omega)
    refine ⟨j, y, a, b, ?_, ?_⟩
    · rw [gd_left 0 (by omega), gd_left 0 (by omega)]; exact c
    · rw [gd_left [] (by omega), gd_left [] (by omega)]; exact d

theorem all_mem {n : Int} {S : List Int} (hd : S.Nodup) (hr : ∀ p, p < S.length → 0 ≤ S.getD p 0 ∧ S.getD p 0 < n) (hl : (S.length : Int) = n) {t : Int} (t0 : 0 ≤ t) (t1 : t < n) : t ∈ S := by
  apply Decidable.byContradiction
  intro hn
  have h1 := nodup_le n.toNat (t :: S) (by rw [List.nodup_cons]; exact ⟨hn, hd⟩) fun a ha => by
    rw [List.mem_cons] at ha
    rcases ha with rfl | ha
    · omega
    · obtain ⟨p, hp, rfl⟩ := mem_gd ha
      have := hr p hp
      omega
  rw [List.length_cons] at h1
  omega
theorem rch_full {m : Mc} (R : Right m) {S : List Int} {V : List (List Int)} (hd : S.Nodup) (hr : ∀ p, p < S.length → 0 ≤ S.getD p 0 ∧ S.getD p 0 < m.n) (hl : (S.length : Int) = m.n) : ∀ (f i x : Nat), rch m f i x S V = (S, V)
  | 0, i, x => rfl
  | f + 1, i, x => by
    by_cases hi : i < S.length
    · by_cases hx : (x : Int) < m.k
      · have h1 := hr i hi
        have h2 := nxt_range R h1.1 h1.2 hx
        rw [rch_old hi hx (all_mem hd hr hl h2.1 h2.2)]
        exact rch_full R hd hr hl f i (x + 1)
      · rw [rch_row hi hx]; exact rch_full R hd hr hl f (i + 1) 0
    · exact rch_end hi

/-- There is fuel left that is enough, and the end is the whole's. -/
def Fuel (m : Mc) (i x : Nat) (S : List Int) (V : List (List Int)) : Prop := ∃ f, need m i x ≤ f ∧ rch m f i x S V = rchV m
theorem Fuel.start (m : Mc) : Fuel m 0 0 [0] [[]] := ⟨_, Nat.le_refl _, rfl⟩
theorem Fuel.old {m : Mc} {i x : Nat} {S : List Int} {V : List (List Int)} (h : Fuel m i x S V) (hn : S.length ≤ m.n.toNat) (hi : i < S.length) (hx : (x : Int) < m.k) (ht : nxt m (S.getD i 0) x ∈ S) : Fuel m i (x + 1) S V := by
  obtain ⟨f, h1, h2⟩ := h
  obtain ⟨g, rfl, hg⟩ := need_sym (by omega) hx h1
  exact ⟨g, hg, by rw [← h2, rch_old hi hx ht]⟩
theorem Fuel.new {m : Mc} {i x : Nat} {S : List Int} {V : List (List Int)} (h : Fuel m i x S V) (hn : S.length ≤ m.n.toNat) (hi : i < S.length) (hx : (x : Int) < m.k) (ht : ¬ nxt m (S.getD i 0) x ∈ S) : Fuel m i (x + 1) (S ++ [nxt m (S.getD i 0) x]) (V ++ [V.getD i [] ++ [(x : Int)]]) := by
  obtain ⟨f, h1, h2⟩ := h
  obtain ⟨g, rfl, hg⟩ := need_sym (by omega) hx h1
  exact ⟨g, hg, by rw [← h2, rch_new hi hx ht]⟩
theorem Fuel.row {m : Mc} {i x : Nat} {S : List Int} {V : List (List Int)} (h : Fuel m i x S V) (hn : S.length ≤ m.n.toNat) (hi : i < S.length) (hx : (x : Int) = m.k) : Fuel m (i + 1) 0 S V := by
  obtain ⟨f, h1, h2⟩ := h
  obtain ⟨g, rfl, hg⟩ := need_row (by omega) hx h1
  exact ⟨g, hg, by rw [← h2, rch_row hi (by omega)]⟩
theorem Fuel.fin {m : Mc} {i x : Nat} {S : List Int} {V : List (List Int)} (h : Fuel m i x S V) (hi : ¬ i < S.length) : rchV m = (S, V) := by
  obtain ⟨f, h1, h2⟩ := h
  rw [← h2, rch_end hi]
theorem Fuel.full {m : Mc} (R : Right m) {i x : Nat} {S : List Int} {V : List (List Int)} (h : Fuel m i x S V) (r : RInv m i x S V) (hl : (S.length : Int) = m.n) : rchV m = (S, V) := by
  obtain ⟨f, h1, h2⟩ := h
  rw [← h2, rch_full R r.nd r.rng hl]

end Go.Proofs.Ytlcablkhomnieaa

/-
  A machine of some of the states of another one, with new numbers, in plain words.
-/
namespace Go.Proofs.Ytlcablkhomnieaa
open Go.RowKit

/-- How many are said a state. -/
def pp (m : Mc) : Nat := if m.kind = 1 then 1 else m.k.toNat
/-- Where s leads by its first n symbols, by new numbers. -/
def rowN (m : Mc) (f : Int → Int) (s : Int) (n : Nat) : List Int := (List.range n).map fun y : Nat => f (nxt m s (y : Int))
/-- The first n of what s says. -/
def rowO (m : Mc) (s : Int) (n : Nat) : List Int := (List.range n).map fun y : Nat => m.out.getD (s * (pp m : Int) + (y : Int)).toNat 0
def nxR (m : Mc) (f : Int → Int) (S : List Int) : List Int := S.flatMap fun s => rowN m f s m.k.toNat
def ouR (m : Mc) (S : List Int) : List Int := S.flatMap fun s => rowO m s (pp m)
/-- The machine of the states S alone, in their order; f: their new numbers. -/
def pickV (m : Mc) (S : List Int) (f : Int → Int) : Mc := ⟨m.kind, m.k, m.o, S.length, nxR m f S, ouR m S⟩

theorem rowN_len (m : Mc) (f : Int → Int) (s : Int) (n : Nat) : (rowN m f s n).length = n := by simp [rowN]
theorem rowO_len (m : Mc) (s : Int) (n : Nat) : (rowO m s n).length = n := by simp [rowO]
theorem rowN_succ (m : Mc) (f : Int → Int) (s : Int) (n : Nat) : rowN m f s (n + 1) = rowN m f s n ++ [f (nxt m s (n : Int))] := by simp [rowN, List.range_succ]
theorem rowO_succ (m : Mc) (s : Int) (n : Nat) : rowO m s (n + 1) = rowO m s n ++ [m.out.getD (s * (pp m : Int) + (n : Int)).toNat 0] := by simp [rowO, List.range_succ]
theorem take_snoc {S : List Int} {i : Nat} (h : i < S.length) : S.take (i + 1) = S.take i ++ [S.getD i 0] := by
  rw [List.take_add_one]; simp [h]
theorem nxR_snoc (m : Mc) (f : Int → Int) (S : List Int) (s : Int) : nxR m f (S ++ [s]) = nxR m f S ++ rowN m f s m.k.toNat := by simp [nxR]
theorem ouR_snoc (m : Mc) (S : List Int) (s : Int) : ouR m (S ++ [s]) = ouR m S ++ rowO m s (pp m) := by simp [ouR]
theorem nxR_len (m : Mc) (f : Int → Int) : ∀ (S : List Int), (nxR m f S).length = S.length * m.k.toNat
  | [] => by simp [nxR]
  | s :: S => by
    have := nxR_len m f S
    unfold nxR at this ⊢
    rw [List.flatMap_cons, List.length_append, rowN_len, this, List.length_cons, Nat.add_mul, Nat.one_mul, Nat.add_comm]
theorem ouR_len (m : Mc) : ∀ (S : List Int), (ouR m S).length = S.length * pp m
  | [] => by simp [ouR]
  | s :: S => by
    have := ouR_len m S
    unfold ouR at this ⊢
    rw [List.flatMap_cons, List.length_append, rowO_len, this, List.length_cons, Nat.add_mul, Nat.one_mul, Nat.add_comm]
theorem pp_le {m : Mc} (R : Right m) : pp m ≤ 64 ∧ 1 ≤ pp m := by
  have := R.k0
  have := R.k1
  unfold pp; split <;> omega
theorem out_len {m : Mc} (R : Right m) : (m.out.length : Int) = m.n * (pp m : Int) := by
  unfold pp
  rcases R.kd with h | h
  · rw [if_pos h, R.outD h]; omega
  · rw [if_neg (by omega), R.outM h]
    have := R.k0
    rw [Int.toNat_of_nonneg (by omega)]
/-- The places of what s says. -/
theorem said_of {m : Mc} (R : Right m) {s : Int} (s0 : 0 ≤ s) (s1 : s < m.n) : ∃ Q : Nat, s * (pp m : Int) = (Q : Int) ∧ (s + 1) * (pp m : Int) = ((Q + pp m : Nat) : Int) ∧ Q + pp m ≤ m.out.length ∧ Q ≤ 65536 := by
  have h0 : 0 ≤ s * (pp m : Int) := Int.mul_nonneg s0 (by omega)
  have h1 : (s + 1) * (pp m : Int) ≤ m.n * (pp m : Int) := Int.mul_le_mul_of_nonneg_right (by omega) (by omega)
  have h2 : (s + 1) * (pp m : Int) = s * (pp m : Int) + (pp m : Int) := by rw [Int.add_mul, Int.one_mul]
  have h3 := out_len R
  have h4 : m.n * (pp m : Int) ≤ 1024 * 64 := Int.mul_le_mul R.n1 (by have := pp_le R; omega) (by omega) (by omega)
  refine ⟨(s * (pp m : Int)).toNat, by omega, by omega, by omega, by omega⟩
theorem pickV_congr {m : Mc} {S : List Int} {f g : Int → Int} (h : ∀ s ∈ S, ∀ y : Nat, (y : Int) < m.k → f (nxt m s y) = g (nxt m s y)) : pickV m S f = pickV m S g := by
  have : nxR m f S = nxR m g S := by
    unfold nxR
    have hr : ∀ s ∈ S, rowN m f s m.k.toNat = rowN m g s m.k.toNat := fun s hs => by
      unfold rowN
      apply List.map_congr_left
      intro y hy
      rw [List.mem_range] at hy
      exact h s hs y (by omega)
    clear h
    induction S with
    | nil => rfl
    | cons s S ih => rw [List.flatMap_cons, List.flatMap_cons, hr s (by simp), ih fun t ht => hr t (by simp [ht])]
  unfold pickV; rw [this]

/-- Canon, as the document has it. -/
def canM (m : Mc) : Mc := pickV m (rchV m).1 fun t => ((rchV m).1.idxOf t : Nat)

end Go.Proofs.Ytlcablkhomnieaa

/-
  Lists in which each of 0 to n - 1 stands once, in plain words: where each number stands.
-/
namespace Go.Proofs.Ytlcablkhomnieaa
open Go.RowKit

theorem cover_le : ∀ (n : Nat) (l : List Int), (∀ i : Nat, i < n → (i : Int) ∈ l) → n ≤ l.length
  | 0, _, _ => Nat.zero_le _
  | n + 1, l, h => by
    have hm := h n (Nat.lt_succ_self _)
    have h1 := cover_le n (l.erase (n : Int)) fun i hi => (List.mem_erase_of_ne (by omega)).2 (h i (by omega))
    rw [List.length_erase_of_mem hm] at h1
    have : 0 < l.length := List.length_pos_of_mem hm
    omega
/-- p has n numbers, 0 first, and each of 0 to n - 1 is there. -/
def IsP (p : List Int) (n : Int) : Prop := (p.length : Int) = n ∧ p.getD 0 0 = 0 ∧ ∀ i : Nat, (i : Int) < n → (i : Int) ∈ p
theorem cover_inj {p : List Int} (h : ∀ i : Nat, i < p.length → (i : Int) ∈ p) {a b : Nat} (ha : a < b) (hb : b < p.length) : p.getD a 0 ≠ p.getD b 0 := fun e => by
  have h1 := cover_le p.length (p.eraseIdx b) fun i hi => by
    obtain ⟨c, hc, ec⟩ := mem_gd (h i hi)
    rw [List.mem_eraseIdx_iff_getElem?]
    by_cases hcb : c = b
    · refine ⟨a, by omega, ?_⟩
      rw [List.getElem?_eq_getElem (by omega)]
      rw [hcb, ← e, List.getD, List.getElem?_eq_getElem (by omega)] at ec
      simpa using ec
    · refine ⟨c, hcb, ?_⟩
      rw [List.getElem?_eq_getElem hc]
      rw [List.getD, List.getElem?_eq_getElem hc] at ec
      simpa using ec
  rw [List.length_eraseIdx_of_lt hb] at h1
  omega
theorem IsP.inj {p : List Int} {n : Int} (h : IsP p n) {a b : Nat} (ha : a < p.length) (hb : b < p.length) (e : p.getD a 0 = p.getD b 0) : a = b := by
  have hc : ∀ i : Nat, i < p.length → (i : Int) ∈ p := fun i hi => h.2.2 i (by have := h.1; omega)
  rcases Nat.lt_trichotomy a b with h1 | h1 | h1
  · exact absurd e (cover_inj hc h1 hb)
  · exact h1
  · exact absurd e.symm (cover_inj hc h1 ha)
/-- S: which one has the number q. -/
structure Inv (p S : List Int) : Prop where
  rng : ∀ q, q < S.length → 0 ≤ S.getD q 0 ∧ S.getD q 0 < p.length
  at_ : ∀ q, q < S.length → p.getD (S.getD q 0).toNat 0 = (q : Int)
theorem Inv.nil (p : List Int) : Inv p [] := ⟨fun q h => by simp at h, fun q h => by simp at h⟩
theorem Inv.snoc {p S : List Int} (h : Inv p S) {s : Nat} (hs : s < p.length) (e : p.getD s 0 = (S.length : Int)) : Inv p (S ++ [(s : Int)]) := by
  refine ⟨fun q hq => ?_, fun q hq => ?_⟩
  all_goals
    rw [List.length_append, List.length_singleton] at hq
    by_cases c : q = S.length
    · subst c
      rw [gd_mid]
      first | exact ⟨by omega, by omega⟩ | (rw [Int.toNat_natCast]; exact e)
    · rw [gd_left 0 (by omega)]
      first | exact h.rng q (by omega) | exact h.at_ q (by omega)
theorem Inv.new {p S : List Int} (h : Inv p S) {s : Nat} (e : p.getD s 0 = (S.length : Int)) : ¬ (s : Int) ∈ S := fun hm => by
  obtain ⟨q, hq, eq⟩ := mem_gd hm
  have := h.at_ q hq
  rw [eq, Int.toNat_natCast, e] at this
  omega
theorem Inv.nodup {p S : List Int} (h : Inv p S) : S.Nodup := by
  rw [List.Nodup, List.pairwise_iff_getElem]
  intro i j hi hj hij e
  have h1 := h.at_ i hi
  have h2 := h.at_ j hj
  have e' : S.getD i 0 = S.getD j 0 := by simp only [List.getD, List.getElem?_eq_getElem hi, List.getElem?_eq_getElem hj, Option.getD_some]; exact e
  rw [e'] at h1
  omega
/-- Which one has each number. -/
def ordP (p : List Int) : List Int := (List.range p.length).map fun i : Nat => ((p.idxOf (i : Int) : Nat) : Int)
theorem ordP_len (p : List Int) : (ordP p).length = p.length := by simp [ordP]
theorem ordP_inv {p : List Int} {n : Int} (h : IsP p n) : Inv p (ordP p) := by
  have hg : ∀ q, q < p.length → (ordP p).getD q 0 = ((p.idxOf (q : Int) : Nat) : Int) := fun q hq => by
    unfold ordP
    simp only [List.getD, List.getElem?_map, List.getElem?_range hq, Option.map_some, Option.getD_some]
  have hi : ∀ q, q < p.length → p.idxOf (q : Int) < p.length := fun q hq => List.idxOf_lt_length_iff.2 (h.2.2 q (by have := h.1; omega))
  refine ⟨fun q hq => ?_, fun q hq => ?_⟩
  · rw [ordP_len] at hq
    rw [hg q hq]; have := hi q hq; omega
  · rw [ordP_len] at hq
    rw [hg q hq, Int.toNat_natCast]
    have h1 := hi q hq
    rw [List.getD, List.getElem?_eq_getElem h1, Option.getD_some]
    exact List.getElem_idxOf h1
/-- There is but one. -/
theorem Inv.one {p S : List Int} {n : Int} (h : IsP p n) (i : Inv p S) (hl : S.length = p.length) : S = ordP p := by
  have j := ordP_inv h
  refine List.ext_getElem (by rw [hl, ordP_len]) fun q h1 h2 => ?_
  have a1 := i.rng q h1
  have b1 := i.at_ q h1
  have a2 := j.rng q h2
  have b2 := j.at_ q h2
  have e := h.inj (a := (S.getD q 0).toNat) (b := ((ordP p).getD q 0).toNat) (by omega) (by omega) (by rw [b1, b2])
  have e2 : S.getD q 0 = (ordP p).getD q 0 := by omega
  simpa only [List.getD, List.getElem?_eq_getElem h1, List.getElem?_eq_getElem h2, Option.getD_some] using e2
theorem Inv.isP {p S : List Int} {n : Int} (i : Inv p S) (hl : (p.length : Int) = n) (h0 : p.getD 0 0 = 0) (hS : (S.length : Int) = n) : IsP p n :=
  ⟨hl, h0, fun q hq => by
    have h1 := i.rng q (by omega)
    have h2 := i.at_ q (by omega)
    rw [← h2]
    exact gd_mem (by omega)⟩
/-- A number is its place. -/
theorem ordP_idx {p : List Int} {n : Int} (h : IsP p n) {t : Int} (t0 : 0 ≤ t) (t1 : t < n) : (((ordP p).idxOf t : Nat) : Int) = p.getD t.toNat 0 ∧ t ∈ ordP p := by
  have i := ordP_inv h
  have hl := h.1
  have hm : t ∈ ordP p := by
    refine all_mem (n := n) i.nodup (fun q hq => ?_) (by rw [ordP_len]; exact hl) t0 t1
    have := i.rng q hq; omega
  refine ⟨?_, hm⟩
  have h1 := List.idxOf_lt_length_iff.2 hm
  have h2 := i.at_ _ h1
  have h3 : (ordP p).getD ((ordP p).idxOf t) 0 = t := by
    rw [List.getD, List.getElem?_eq_getElem h1, Option.getD_some]; exact List.getElem_idxOf h1
  rw [h3] at h2
  exact h2.symm

/-- Turn, as the document has it. -/
def turM (m : Mc) (p : List Int) : Mc := pickV m (ordP p) fun t => ((ordP p).idxOf t : Nat)

end Go.Proofs.Ytlcablkhomnieaa

/-
  Places in a list that has nothing twice.
-/
namespace Go.Proofs.Ytlcablkhomnieaa
open Go.RowKit

theorem idx_at {S : List Int} (hd : S.Nodup) {j : Nat} (hj : j < S.length) : S.idxOf (S.getD j 0) = j := by
  obtain ⟨x, hx⟩ : ∃ x, x = S.getD j 0 := ⟨_, rfl⟩
  rw [← hx]
  have h1 : S.idxOf x < S.length := List.idxOf_lt_length_iff.2 (hx ▸ gd_mem hj)
  refine nd_inj hd h1 hj ?_
  rw [← hx, List.getD, List.getElem?_eq_getElem h1, Option.getD_some]
  exact List.getElem_idxOf h1

end Go.Proofs.Ytlcablkhomnieaa

/-
  Classes of a relation, numbered in the order of their least members, in plain words.
-/
namespace Go.Proofs.Ytlcablkhomnieaa
open Go.RowKit

/-- How many classes begin ahead of s. -/
def nc (R : Nat → Nat → Bool) : Nat → Nat
  | 0 => 0
  | s + 1 => nc R s + (if first (R s) s = none then 1 else 0)
/-- The classes' numbers of the first s. -/
def clL (R : Nat → Nat → Bool) : Nat → List Int
  | 0 => []
  | s + 1 => clL R s ++ [match first (R s) s with
    | some t => (clL R s).getD t 0
    | none => (nc R s : Nat)]
/-- Those that are the least of their class. -/
def reps (R : Nat → Nat → Bool) : Nat → List Int
  | 0 => []
  | s + 1 => if first (R s) s = none then reps R s ++ [(s : Int)] else reps R s

theorem clL_len (R : Nat → Nat → Bool) : ∀ s, (clL R s).length = s
  | 0 => rfl
  | s + 1 => by unfold clL; rw [List.length_append, clL_len R s]; rfl
theorem reps_len (R : Nat → Nat → Bool) : ∀ s, (reps R s).length = nc R s
  | 0 => rfl
  | s + 1 => by
    unfold reps nc
    split
    · rw [List.length_append, reps_len R s]; rfl
    · rw [reps_len R s]; rfl
theorem nc_mono (R : Nat → Nat → Bool) {s t : Nat} (h : s ≤ t) : nc R s ≤ nc R t := by
  induction t with
  | zero => have : s = 0 := by omega
            subst this; exact Nat.le_refl _
  | succ t ih =>
    by_cases e : s = t + 1
    · subst e; exact Nat.le_refl _
    · have h1 := ih (by omega)
      have h2 : nc R t ≤ nc R (t + 1) := by show nc R t ≤ nc R t + _; omega
      omega
theorem nc_le (R : Nat → Nat → Bool) : ∀ s, nc R s ≤ s
  | 0 => Nat.le_refl _
  | s + 1 => by
    have := nc_le R s
    unfold nc; split <;> omega
theorem clL_get (R : Nat → Nat → Bool) {N t : Nat} (h : t < N) : (clL R N).getD t 0 = (clL R (t + 1)).getD t 0 := by
  induction N with
  | zero => omega
  | succ N ih =>
    by_cases e : t = N
    · subst e; rfl
    · have h1 := ih (by omega)
      rw [← h1]
      show (clL R N ++ _).getD t 0 = _
      exact gd_left 0 (by rw [clL_len]; omega)
/-- s's class. -/
def cl (R : Nat → Nat → Bool) (s : Nat) : Int := (clL R (s + 1)).getD s 0
theorem cl_at (R : Nat → Nat → Bool) {N s : Nat} (h : s < N) : (clL R N).getD s 0 = cl R s := clL_get R h
theorem cl_none {R : Nat → Nat → Bool} {s : Nat} (h : first (R s) s = none) : cl R s = (nc R s : Nat) := by
  unfold cl
  show (clL R s ++ [match first (R s) s with | some t => (clL R s).getD t 0 | none => (nc R s : Nat)]).getD s 0 = _
  rw [h]
  have := gd_mid (clL R s) ((nc R s : Nat) : Int) 0
  rwa [clL_len] at this
theorem cl_some {R : Nat → Nat → Bool} {s t : Nat} (h : first (R s) s = some t) (ht : t < s) : cl R s = cl R t := by
  have e : cl R s = (clL R s).getD t 0 := by
    unfold cl
    show (clL R s ++ [match first (R s) s with | some t => (clL R s).getD t 0 | none => (nc R s : Nat)]).getD s 0 = _
    rw [h]
    have := gd_mid (clL R s) ((clL R s).getD t 0) 0
    rwa [clL_len] at this
  rw [e, cl_at R ht]

/-- A relation that is one of sameness among the first N. -/
structure Eqv (R : Nat → Nat → Bool) (N : Nat) : Prop where
  refl : ∀ s, s < N → R s s = true
  symm : ∀ s t, s < N → t < N → R s t = true → R t s = true
  trans : ∀ s t u, s < N → t < N → u < N → R s t = true → R t u = true → R s u = true

/-- The least of s's class. -/
theorem rep_of {R : Nat → Nat → Bool} {N : Nat} (E : Eqv R N) {s : Nat} (hs : s < N) : ∃ r, r ≤ s ∧ R s r = true ∧ first (R r) r = none ∧ cl R s = (nc R r : Nat) ∧ ∀ t, t < r → R s t = false := by
  rcases first_cases (R s) s with ⟨h, hl⟩ | ⟨t, h, ht, hp, hl⟩
  · exact ⟨s, Nat.le_refl _, E.refl s hs, h, cl_none h, hl⟩
  · have hn : first (R t) t = none := first_none fun u hu => by
      cases e : R t u
      · rfl
      · have := E.trans s t u hs (by omega) (by omega) hp e
        rw [hl u hu] at this
        cases this
    exact ⟨t, by omega, hp, hn, by rw [cl_some h ht, cl_none hn], hl⟩
theorem nc_rep {R : Nat → Nat → Bool} {r q : Nat} (h : first (R r) r = none) (hq : r < q) : nc R r < nc R q := by
  have h1 : nc R (r + 1) = nc R r + 1 := by show nc R r + _ = _; rw [if_pos h]
  have := nc_mono R (s := r + 1) (t := q) hq
  omega
/-- Two have one number just where they are in one class. -/
theorem cl_iff {R : Nat → Nat → Bool} {N : Nat} (E : Eqv R N) {s t : Nat} (hs : s < N) (ht : t < N) : cl R s = cl R t ↔ R s t = true := by
  obtain ⟨r, r1, r2, r3, r4, r5⟩ := rep_of E hs
  obtain ⟨q, q1, q2, q3, q4, q5⟩ := rep_of E ht
  constructor
  · intro e
    rw [r4, q4] at e
    have : r = q := by
      rcases Nat.lt_trichotomy r q with h | h | h
      · have := nc_rep r3 h; omega
      · exact h
      · have := nc_rep q3 h; omega
    subst this
    exact E.trans s r t hs (by omega) ht r2 (E.symm t r ht (by omega) q2)
  · intro e
    have : r = q := by
      rcases Nat.lt_trichotomy r q with h | h | h
      · have h1 := E.trans t s r ht hs (by omega) (E.symm s t hs ht e) r2
        rw [q5 r h] at h1; cases h1
      · exact h
      · have h1 := E.trans s t q hs ht (by omega) e q2
        rw [r5 q h] at h1; cases h1
    rw [r4, q4, this]
theorem cl_range {R : Nat → Nat → Bool} {N : Nat} (E : Eqv R N) {s : Nat} (hs : s < N) : 0 ≤ cl R s ∧ cl R s < (nc R N : Nat) := by
  obtain ⟨r, r1, _, r3, r4, _⟩ := rep_of E hs
  have := nc_rep r3 (q := N) (by omega)
  rw [r4]; omega
/-- The least of the class i. -/
theorem reps_at {R : Nat → Nat → Bool} : ∀ {N r : Nat}, r < N → first (R r) r = none → (reps R N).getD (nc R r) 0 = (r : Int)
  | 0, r, h, _ => by omega
  | N + 1, r, h, hr => by
    by_cases e : r = N
    · subst e
      show (if first (R r) r = none then reps R r ++ [(r : Int)] else reps R r).getD (nc R r) 0 = _
      rw [if_pos hr, ← reps_len]
      exact gd_mid _ _ _
    · have ih := reps_at (N := N) (by omega) hr
      have hl : nc R r < (reps R N).length := by rw [reps_len]; exact nc_rep hr (by omega)
      unfold reps
      split
      · rw [gd_left 0 hl]; exact ih
      · exact ih
theorem reps_mem {R : Nat → Nat → Bool} : ∀ {N : Nat} {i : Nat}, i < (reps R N).length → ∃ r, r < N ∧ first (R r) r = none ∧ (reps R N).getD i 0 = (r : Int) ∧ nc R r = i
  | 0, i, h => by simp [reps] at h
  | N + 1, i, h => by
    by_cases c : first (R N) N = none
    · have e : reps R (N + 1) = reps R N ++ [(N : Int)] := by show (if _ then _ else _) = _; rw [if_pos c]
      rw [e] at h ⊢
      rw [List.length_append, List.length_singleton] at h
      by_cases d : i = (reps R N).length
      · subst d
        exact ⟨N, by omega, c, gd_mid _ _ _, (reps_len R N).symm⟩
      · obtain ⟨r, h1, h2, h3, h4⟩ := reps_mem (R := R) (N := N) (i := i) (by omega)
        exact ⟨r, by omega, h2, by rw [gd_left 0 (by omega)]; exact h3, h4⟩
    · have e : reps R (N + 1) = reps R N := by show (if _ then _ else _) = _; rw [if_neg c]
      rw [e] at h ⊢
      obtain ⟨r, h1, h2, h3, h4⟩ := reps_mem h
      exact ⟨r, by omega, h2, h3, h4⟩
/-- The numbers depend on the relation alone. -/
theorem cls_congr {R Q : Nat → Nat → Bool} : ∀ {N : Nat}, (∀ s t, s < N → t < N → R s t = Q s t) → nc R N = nc Q N ∧ clL R N = clL Q N ∧ reps R N = reps Q N
  | 0, _ => ⟨rfl, rfl, rfl⟩
  | N + 1, h => by
    obtain ⟨h1, h2, h3⟩ := cls_congr (N := N) fun s t hs ht => h s t (by omega) (by omega)
    have e : first (R N) N = first (Q N) N := first_congr fun t ht => h N t (by omega) (by omega)
    refine ⟨?_, ?_, ?_⟩
    · show nc R N + _ = nc Q N + _; rw [h1, e]
    · show clL R N ++ _ = clL Q N ++ _; rw [h1, h2, e]
    · show (if _ then _ else _) = (if _ then _ else _); rw [h3, e]

end Go.Proofs.Ytlcablkhomnieaa
