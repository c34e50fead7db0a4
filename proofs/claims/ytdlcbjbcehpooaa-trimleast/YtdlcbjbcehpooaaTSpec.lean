/-
  Which states of a machine can be come to, in plain words: one by one, symbol by symbol; access words, their order.
-/
import Derived.Test.YtdlcbjbcehpooaaMGo
namespace Go.Proofs.Ytdlcbjbcehpooaa
open Go.RowKit

/-- Where x leads from s. -/
def nxt (m : Mc) (s x : Int) : Int := m.nx.getD (s * m.k + x).toNat 0
/-- Where w leads from s. -/
def ends (m : Mc) (s : Int) (w : List Int) : Int := w.foldl (nxt m) s
theorem ends_snoc (m : Mc) (s : Int) (w : List Int) (x : Int) : ends m s (w ++ [x]) = nxt m (ends m s w) x := by simp [ends]
theorem goV_ends (m : Mc) : ∀ (w : List Int) (s : Int) (acc : List Int), (goV m s w acc).1 = ends m s w
  | [], s, acc => by simp only [goV]; rfl
  | x :: w, s, acc => by
    simp only [goV]
    rw [goV_ends m w]
    rfl

/-- Lists in the order of their length, then number by number. -/
def Lex : List Int → List Int → Prop
  | x :: a, y :: b => x < y ∨ (x = y ∧ Lex a b)
  | _, _ => False
def Ahd (a b : List Int) : Prop := a.length < b.length ∨ (a.length = b.length ∧ Lex a b)
theorem Lex.trans : ∀ {a b c : List Int}, Lex a b → Lex b c → Lex a c
  | x :: a, y :: b, z :: c, h1, h2 => by
    simp only [Lex] at h1 h2 ⊢
    rcases h1 with h1 | ⟨e1, h1⟩ <;> rcases h2 with h2 | ⟨e2, h2⟩
    · exact .inl (by omega)
    · exact .inl (by omega)
    · exact .inl (by omega)
    · exact .inr ⟨by omega, Lex.trans h1 h2⟩
  | [], _, _, h, _ => by simp [Lex] at h
  | _ :: _, [], _, h, _ => by simp [Lex] at h
  | _ :: _, _ :: _, [], _, h => by simp [Lex] at h
theorem Lex.irrefl : ∀ (a : List Int), ¬ Lex a a
  | [], h => by simp [Lex] at h
  | x :: a, h => by
    simp only [Lex] at h
    rcases h with h | ⟨_, h⟩
    · omega
    · exact Lex.irrefl a h
theorem Lex.total : ∀ {a b : List Int}, a.length = b.length → Lex a b ∨ a = b ∨ Lex b a
  | [], [], _ => .inr (.inl rfl)
  | [], _ :: _, h => by simp at h
  | _ :: _, [], h => by simp at h
  | x :: a, y :: b, h => by
    simp only [Lex]
    rcases Int.lt_trichotomy x y with e | e | e
    · exact .inl (.inl e)
    · subst e
      rcases Lex.total (a := a) (b := b) (by simpa using h) with h1 | h1 | h1
      · exact .inl (.inr ⟨rfl, h1⟩)
      · exact .inr (.inl (by rw [h1]))
      · exact .inr (.inr (.inr ⟨rfl, h1⟩))
    · exact .inr (.inr (.inl e))
theorem Lex.snoc : ∀ {a b : List Int} (x y : Int), a.length = b.length → Lex a b → Lex (a ++ [x]) (b ++ [y])
  | u :: a, v :: b, x, y, hl, h => by
    simp only [Lex, List.cons_append] at h ⊢
    rcases h with h | ⟨e, h⟩
    · exact .inl h
    · exact .inr ⟨e, Lex.snoc x y (by simpa using hl) h⟩
  | [], _, _, _, _, h => by simp [Lex] at h
  | _ :: _, [], _, _, _, h => by simp [Lex] at h
theorem Lex.last : ∀ (a : List Int) {x y : Int}, x < y → Lex (a ++ [x]) (a ++ [y])
  | [], x, y, h => by simp [Lex, h]
  | u :: a, x, y, h => by simp only [Lex, List.cons_append]; exact .inr ⟨trivial, Lex.last a h⟩
theorem Ahd.trans {a b c : List Int} (h1 : Ahd a b) (h2 : Ahd b c) : Ahd a c := by
  rcases h1 with h1 | ⟨e1, h1⟩ <;> rcases h2 with h2 | ⟨e2, h2⟩
  · exact .inl (by omega)
  · exact .inl (by omega)
  · exact .inl (by omega)
  · exact .inr ⟨by omega, h1.trans h2⟩
theorem Ahd.irrefl (a : List Int) : ¬ Ahd a a := fun h => by
  rcases h with h | ⟨_, h⟩
  · omega
  · exact Lex.irrefl a h
theorem Ahd.total (a b : List Int) : Ahd a b ∨ a = b ∨ Ahd b a := by
  rcases Nat.lt_trichotomy a.length b.length with h | h | h
  · exact .inl (.inl h)
  · rcases Lex.total h with h1 | h1 | h1
    · exact .inl (.inr ⟨h, h1⟩)
    · exact .inr (.inl h1)
    · exact .inr (.inr (.inr ⟨h.symm, h1⟩))
  · exact .inr (.inr (.inl h))
theorem Ahd.snoc {a b : List Int} (h : Ahd a b) (x y : Int) : Ahd (a ++ [x]) (b ++ [y]) := by
  rcases h with h | ⟨e, h⟩
  · exact .inl (by simp; omega)
  · exact .inr ⟨by simp [e], Lex.snoc x y e h⟩
theorem Ahd.last (a : List Int) {x y : Int} (h : x < y) : Ahd (a ++ [x]) (a ++ [y]) := .inr ⟨by simp, Lex.last a h⟩
theorem Ahd.nil (a : List Int) (x : Int) : Ahd [] (a ++ [x]) := .inl (by simp)

/-- The states that can be come to and their words, from the place (i, x) on. -/
def rch (m : Mc) : Nat → Nat → Nat → List Int → List (List Int) → List Int × List (List Int)
  | 0, _, _, S, V => (S, V)
  | f + 1, i, x, S, V =>
    if i < S.length then
      (if (x : Int) < m.k then
        (if nxt m (S.getD i 0) x ∈ S then rch m f i (x + 1) S V else rch m f i (x + 1) (S ++ [nxt m (S.getD i 0) x]) (V ++ [V.getD i [] ++ [(x : Int)]]))
      else rch m f (i + 1) 0 S V)
    else (S, V)
theorem rch_end {m : Mc} {f i x : Nat} {S : List Int} {V : List (List Int)} (h : ¬ i < S.length) : rch m f i x S V = (S, V) := by
  cases f <;> simp [rch, h]
theorem rch_old {m : Mc} {f i x : Nat} {S : List Int} {V : List (List Int)} (h : i < S.length) (hx : (x : Int) < m.k) (ht : nxt m (S.getD i 0) x ∈ S) : rch m (f + 1) i x S V = rch m f i (x + 1) S V := by
  rw [rch, if_pos h, if_pos hx, if_pos ht]
theorem rch_new {m : Mc} {f i x : Nat} {S : List Int} {V : List (List Int)} (h : i < S.length) (hx : (x : Int) < m.k) (ht : ¬ nxt m (S.getD i 0) x ∈ S) : rch m (f + 1) i x S V = rch m f i (x + 1) (S ++ [nxt m (S.getD i 0) x]) (V ++ [V.getD i [] ++ [(x : Int)]]) := by
  rw [rch, if_pos h, if_pos hx, if_neg ht]
theorem rch_row {m : Mc} {f i x : Nat} {S : List Int} {V : List (List Int)} (h : i < S.length) (hx : ¬ (x : Int) < m.k) : rch m (f + 1) i x S V = rch m f (i + 1) 0 S V := by
  rw [rch, if_pos h, if_neg hx]
/-- How many steps are enough from (i, x) on. -/
def need (m : Mc) (i x : Nat) : Nat := (m.n.toNat - i) * (m.k.toNat + 1) - x
theorem need_sym {m : Mc} {i x f : Nat} (hi : i < m.n.toNat) (hx : (x : Int) < m.k) (h : need m i x ≤ f) : ∃ g, f = g + 1 ∧ need m i (x + 1) ≤ g := by
  unfold need at h ⊢
  have : (m.n.toNat - i) * (m.k.toNat + 1) = (m.n.toNat - i - 1) * (m.k.toNat + 1) + (m.k.toNat + 1) := by
    rw [← Nat.succ_mul]; congr 1; omega
  refine ⟨f - 1, by omega, by omega⟩
theorem need_row {m : Mc} {i x f : Nat} (hi : i < m.n.toNat) (hx : (x : Int) = m.k) (h : need m i x ≤ f) : ∃ g, f = g + 1 ∧ need m (i + 1) 0 ≤ g := by
  unfold need at h ⊢
  have e : (m.n.toNat - i) * (m.k.toNat + 1) = (m.n.toNat - (i + 1)) * (m.k.toNat + 1) + (m.k.toNat + 1) := by
    rw [← Nat.succ_mul]; congr 1; omega
  refine ⟨f - 1, by omega, by omega⟩
def rchV (m : Mc) : List Int × List (List Int) := rch m (need m 0 0) 0 0 [0] [[]]

/-- Numbers from 0 to n - 1, each once: at most n. -/
theorem nodup_le : ∀ (n : Nat) (l : List Int), l.Nodup → (∀ a ∈ l, 0 ≤ a ∧ a < n) → l.length ≤ n
  | 0, l, _, h => by
    cases l with
    | nil => simp
    | cons a l => have := h a (by simp); omega
  | n + 1, l, hd, h => by
    have h1 := nodup_le n (l.erase (n : Int)) (hd.erase _) fun a ha => by
      have h2 := h a (List.mem_of_mem_erase ha)
      have h3 : a ≠ (n : Int) := fun e => by
        subst e
        exact (List.Nodup.mem_erase_iff hd).1 ha |>.1 rfl
      omega
    have h4 : l.length ≤ (l.erase (n : Int)).length + 1 := by
      rw [List.length_erase]; split <;> omega
    omega

end Go.Proofs.Ytdlcbjbcehpooaa
