/-
  A machine's drawing, in plain words: its lines; two machines that are drawn alike.
-/
import Derived.Test.YtbhdcgebcmgidaaDoorUDig
import Derived.Test.YtbhdcgebcmgidaaDoorK7
import Derived.Lib.RuneBytes
import Derived.Lib.Small
namespace Go.Proofs.YtbhdcgebcmgidaaDoor

/-! ### The lines -/
def dRank : List UInt8 := [114, 97, 110, 107, 100, 105, 114, 61, 76, 82]
def dStart : List UInt8 := [115, 116, 97, 114, 116, 32, 91, 115, 104, 97, 112, 101, 61, 112, 111, 105, 110, 116, 93]
def dGo : List UInt8 := [115, 116, 97, 114, 116, 32, 45, 62, 32, 48]
def dTwo : List UInt8 := [32, 91, 115, 104, 97, 112, 101, 61, 100, 111, 117, 98, 108, 101, 99, 105, 114, 99, 108, 101, 93]
def dOne : List UInt8 := [32, 91, 115, 104, 97, 112, 101, 61, 99, 105, 114, 99, 108, 101, 93]
def dArr : List UInt8 := [32, 45, 62, 32]
def dLab : List UInt8 := [32, 91, 108, 97, 98, 101, 108, 61, 34]
def dEnd : List UInt8 := [34, 93]
def dHead : List UInt8 := [100, 105, 103, 114, 97, 112, 104, 32, 109, 32, 123, 10]
/-- A state's line. -/
def dtS (m : Mc) (s : Nat) : List UInt8 := Lib.itoa (s : Int) ++ (if m.kind = 1 ∧ m.out.getD s 0 = 1 then dTwo else dOne)
/-- What a way says. -/
def dtO (m : Mc) (s x : Nat) : List UInt8 := if m.kind = 2 then [47] ++ Lib.itoa (m.out.getD (s * m.k.toNat + x) 0) else []
/-- A way's line. -/
def dtA (m : Mc) (ls : List (List UInt8)) (s x : Nat) : List UInt8 := Lib.itoa (s : Int) ++ dArr ++ Lib.itoa (m.nx.getD (s * m.k.toNat + x) 0) ++ dLab ++ (ls.getD x [] ++ dtO m s x) ++ dEnd
/-- The lines of the first s states' ways. -/
def dtW (m : Mc) (ls : List (List UInt8)) (s : Nat) : List (List UInt8) := (List.range s).flatMap fun s => (List.range m.k.toNat).map (dtA m ls s)
def dtL (m : Mc) (ls : List (List UInt8)) : List (List UInt8) := [dRank, dStart] ++ (List.range m.n.toNat).map (dtS m) ++ [dGo] ++ dtW m ls m.n.toNat
/-- Lines, two blanks ahead of each, a line break behind it. -/
def ind (l : List (List UInt8)) : List UInt8 := l.flatMap fun x => [32, 32] ++ x ++ [10]
/-- The drawing. -/
def dtT (m : Mc) (ls : List (List UInt8)) : List UInt8 := dHead ++ ind (dtL m ls) ++ [125, 10]

theorem ind_app (l k : List (List UInt8)) : ind (l ++ k) = ind l ++ ind k := by simp [ind]
theorem ind_cons (x : List UInt8) (l : List (List UInt8)) : ind (x :: l) = [32, 32] ++ x ++ [10] ++ ind l := by simp [ind]
theorem dtW_succ (m : Mc) (ls : List (List UInt8)) (s : Nat) : dtW m ls (s + 1) = dtW m ls s ++ (List.range m.k.toNat).map (dtA m ls s) := by simp [dtW, List.range_succ]
theorem dtW_len (m : Mc) (ls : List (List UInt8)) : ∀ s, (dtW m ls s).length = s * m.k.toNat
  | 0 => by simp [dtW]
  | s + 1 => by rw [dtW_succ, List.length_append, dtW_len m ls s, List.length_map, List.length_range, Nat.add_mul]; omega
theorem dtL_len (m : Mc) (ls : List (List UInt8)) : (dtL m ls).length = m.n.toNat + m.n.toNat * m.k.toNat + 3 := by
  unfold dtL
  simp only [List.length_append, List.length_cons, List.length_nil, List.length_map, List.length_range, dtW_len]; omega

/-! ### No line holds a line break -/
def NoB (x : List UInt8) : Prop := ∀ c ∈ x, c ≠ 10
theorem NoB.app {x y : List UInt8} (h : NoB x) (k : NoB y) : NoB (x ++ y) := fun c hc => by
  rcases List.mem_append.1 hc with hc | hc
  · exact h c hc
  · exact k c hc
theorem nob_dig {n : Int} (h : 0 ≤ n) : NoB (Lib.itoa n) := fun c hc e => by
  obtain ⟨u, rfl⟩ := Int.eq_ofNat_of_zero_le h
  subst e
  have h2 := dec_dgt u 10 (by rw [← itoa_nat]; exact hc)
  exact absurd h2 (by decide)
theorem nob_nil : NoB [] := fun c hc => by cases hc
section
variable {m : Mc} {ls : List (List UInt8)}
theorem Full.nxN (F : Full m) (i : Nat) : 0 ≤ m.nx.getD i 0 := by
  by_cases h : i < m.nx.length
  · exact (F.r.st i h).1
  · rw [List.getD_eq_getElem?_getD, List.getElem?_eq_none (by omega)]; exact Int.le_refl _
theorem Full.outN (F : Full m) (i : Nat) : 0 ≤ m.out.getD i 0 := by
  by_cases h : i < m.out.length
  · exact (F.r.so i h).1
  · rw [List.getD_eq_getElem?_getD, List.getElem?_eq_none (by omega)]; exact Int.le_refl _
theorem nob_S (s : Nat) : NoB (dtS m s) := by
  unfold dtS
  refine (nob_dig (Int.natCast_nonneg s)).app ?_
  split
  · unfold NoB dTwo; decide
  · unfold NoB dOne; decide
theorem nob_O (F : Full m) (s x : Nat) : NoB (dtO m s x) := by
  unfold dtO
  split
  · exact NoB.app (by unfold NoB; decide) (nob_dig (F.outN _))
  · exact nob_nil
theorem nob_A (F : Full m) (hl : ∀ l ∈ ls, NoB l) (s x : Nat) : NoB (dtA m ls s x) := by
  unfold dtA
  refine NoB.app (NoB.app (NoB.app (NoB.app (NoB.app (nob_dig (Int.natCast_nonneg s)) ?_) (nob_dig (F.nxN _))) ?_) (NoB.app ?_ (nob_O F s x))) ?_
  · unfold NoB dArr; decide
  · unfold NoB dLab; decide
  · by_cases h : x < ls.length
    · exact hl _ (by simp [h])
    · rw [List.getD_eq_getElem?_getD, List.getElem?_eq_none (by omega)]; exact nob_nil
  · unfold NoB dEnd; decide
theorem nob_L (F : Full m) (hl : ∀ l ∈ ls, NoB l) : ∀ x ∈ dtL m ls, NoB x := fun x hx => by
  unfold dtL dtW at hx
  simp only [List.mem_append, List.mem_map, List.mem_flatMap, List.mem_cons, List.not_mem_nil, or_false] at hx
  rcases hx with ((hx | hx) | hx) | ⟨s, -, y, -, rfl⟩
  · rcases hx with rfl | rfl
    · unfold NoB dRank; decide
    · unfold NoB dStart; decide
  · obtain ⟨s, -, rfl⟩ := hx
    exact nob_S s
  · subst hx; unfold NoB dGo; decide
  · exact nob_A F hl s y
end

/-! ### Lines that are laid alike -/
theorem brk_inj : ∀ {x x' r r' : List UInt8}, NoB x → NoB x' → x ++ 10 :: r = x' ++ 10 :: r' → x = x' ∧ r = r'
  | [], [], r, r', _, _, h => by injection h with _ h; exact ⟨rfl, h⟩
  | [], c :: x', r, r', _, h', h => by
    injection h with h _; exact absurd h.symm (h' c List.mem_cons_self)
  | c :: x, [], r, r', h0, _, h => by
    injection h with h _; exact absurd h (h0 c List.mem_cons_self)
  | c :: x, c' :: x', r, r', h0, h0', h => by
    injection h with h1 h2
    obtain ⟨e, e'⟩ := brk_inj (fun d hd => h0 d (List.mem_cons_of_mem _ hd)) (fun d hd => h0' d (List.mem_cons_of_mem _ hd)) h2
    exact ⟨by rw [h1, e], e'⟩
theorem ind_inj : ∀ {l l' : List (List UInt8)}, (∀ x ∈ l, NoB x) → (∀ x ∈ l', NoB x) → ind l = ind l' → l = l'
  | [], [], _, _, _ => rfl
  | [], x' :: l', _, _, h => by rw [ind_cons] at h; simp [ind] at h
  | x :: l, [], _, _, h => by rw [ind_cons] at h; simp [ind] at h
  | x :: l, x' :: l', h0, h0', h => by
    rw [ind_cons, ind_cons] at h
    simp only [List.append_assoc, List.cons_append, List.nil_append, List.cons.injEq, true_and] at h
    obtain ⟨e, e'⟩ := brk_inj (h0 x List.mem_cons_self) (h0' x' List.mem_cons_self) h
    rw [e, ind_inj (fun y hy => h0 y (List.mem_cons_of_mem _ hy)) (fun y hy => h0' y (List.mem_cons_of_mem _ hy)) e']
/-- A number with no digit behind it. -/
theorem itoa_inj {a b : Int} (ha : 0 ≤ a) (hb : 0 ≤ b) {r r' : List UInt8} (hr : ∀ c, r.head? = some c → dgt c = false) (hr' : ∀ c, r'.head? = some c → dgt c = false) (h : Lib.itoa a ++ r = Lib.itoa b ++ r') : a = b ∧ r = r' := by
  obtain ⟨u, rfl⟩ := Int.eq_ofNat_of_zero_le ha
  obtain ⟨v, rfl⟩ := Int.eq_ofNat_of_zero_le hb
  rw [itoa_nat, itoa_nat] at h
  have h1 := tw_stop (dec_dgt u) hr
  rw [h, tw_stop (dec_dgt v) hr'] at h1
  have h2 : u = v := by rw [← dec_val u, ← h1, dec_val]
  subst h2
  exact ⟨rfl, List.append_cancel_left h⟩
theorem head_dgt {c : UInt8} {l : List UInt8} (h : dgt c = false) : ∀ d, (c :: l).head? = some d → dgt d = false := fun d hd => by
  cases hd; exact h

section
variable {m m' : Mc} {ls : List (List UInt8)}
theorem dtS_inj {s : Nat} (hk : m.kind = m'.kind) (h : dtS m s = dtS m' s) (h1 : m.kind = 1) : m.out.getD s 0 = 1 ↔ m'.out.getD s 0 = 1 := by
  have h := List.append_cancel_left h
  have h1' : m'.kind = 1 := by omega
  by_cases a : m.out.getD s 0 = 1 <;> by_cases b : m'.out.getD s 0 = 1
  · exact ⟨fun _ => b, fun _ => a⟩
  · rw [if_pos ⟨h1, a⟩, if_neg (fun c => b c.2)] at h; exact absurd h (by decide)
  · rw [if_neg (fun c => a c.2), if_pos ⟨h1', b⟩] at h; exact absurd h (by decide)
  · exact ⟨fun c => absurd c a, fun c => absurd c b⟩
theorem dtA_inj {s x : Nat} (F : Full m) (G : Full m') (hk : m.kind = m'.kind) (hK : m.k = m'.k) (h : dtA m ls s x = dtA m' ls s x) : m.nx.getD (s * m.k.toNat + x) 0 = m'.nx.getD (s * m.k.toNat + x) 0 ∧ (m.kind = 2 → m.out.getD (s * m.k.toNat + x) 0 = m'.out.getD (s * m.k.toNat + x) 0) := by
  unfold dtA at h
  have h := List.append_cancel_right h
  simp only [List.append_assoc] at h
  have h := List.append_cancel_left (List.append_cancel_left h)
  obtain ⟨h1, h2⟩ := itoa_inj (F.nxN _) (G.nxN _) (head_dgt (by decide)) (head_dgt (by decide)) h
  rw [← hK] at h1
  refine ⟨h1, fun hk2 => ?_⟩
  have h2 : dLab ++ (ls.getD x [] ++ dtO m s x) = dLab ++ (ls.getD x [] ++ dtO m' s x) := h2
  have h3 := List.append_cancel_left (List.append_cancel_left h2)
  unfold dtO at h3
  rw [if_pos hk2, if_pos (by omega), ← hK] at h3
  have h3 : Lib.itoa (m.out.getD (s * m.k.toNat + x) 0) ++ [] = Lib.itoa (m'.out.getD (s * m.k.toNat + x) 0) ++ [] := by simpa using h3
  exact (itoa_inj (F.outN _) (G.outN _) (fun c hc => by cases hc) (fun c hc => by cases hc) h3).1
theorem map_eq_at {α : Type} {f g : Nat → α} : ∀ {n : Nat}, (List.range n).map f = (List.range n).map g → ∀ i, i < n → f i = g i := fun {n} h i hi => by
  have := congrArg (·[i]?) h
  simp only [List.getElem?_map, List.getElem?_range hi, Option.map_some, Option.some.injEq] at this
  exact this
theorem dtW_at (hK : m.k = m'.k) : ∀ {n : Nat}, dtW m ls n = dtW m' ls n → ∀ s, s < n → ∀ x, x < m.k.toNat → dtA m ls s x = dtA m' ls s x
  | 0, _, s, hs, _, _ => by omega
  | n + 1, h, s, hs, x, hx => by
    rw [dtW_succ, dtW_succ] at h
    obtain ⟨h1, h2⟩ := List.append_inj h (by rw [dtW_len, dtW_len, hK])
    by_cases e : s = n
    · subst e
      rw [← hK] at h2
      exact map_eq_at h2 x hx
    · exact dtW_at hK h1 s (by omega) x hx
theorem list_eq {a b : List Int} (hl : a.length = b.length) (h : ∀ i, i < a.length → a.getD i 0 = b.getD i 0) : a = b := by
  refine List.ext_getElem hl fun i h1 h2 => ?_
  have := h i h1
  simpa [h1, h2] using this
/-- Two machines of a kind that are drawn alike are the same, but for O. -/
theorem dt_inj (F : Full m) (G : Full m') (hk : m.kind = m'.kind) (hK : m.k = m'.k) (hl : ∀ l ∈ ls, NoB l) (h : dtT m ls = dtT m' ls) : m.n = m'.n ∧ m.nx = m'.nx ∧ m.out = m'.out := by
  have hL : dtL m ls = dtL m' ls := ind_inj (nob_L F hl) (nob_L G hl) (by
    unfold dtT at h
    exact List.append_cancel_left (List.append_cancel_right h))
  have k0 := F.r.k0
  have n0 := F.r.n0
  have n0' := G.r.n0
  have hn : m.n.toNat = m'.n.toNat := by
    have h1 := congrArg List.length hL
    rw [dtL_len, dtL_len, ← hK] at h1
    have e1 : m.n.toNat + m.n.toNat * m.k.toNat = m.n.toNat * (m.k.toNat + 1) := by rw [Nat.mul_add]; omega
    have e2 : m'.n.toNat + m'.n.toNat * m.k.toNat = m'.n.toNat * (m.k.toNat + 1) := by rw [Nat.mul_add]; omega
    exact Nat.eq_of_mul_eq_mul_right (show 0 < m.k.toNat + 1 by omega) (by omega)
  have hN : m.n = m'.n := by omega
  unfold dtL at hL
  rw [← hn] at hL
  obtain ⟨h1, h2⟩ := List.append_inj hL (by simp)
  obtain ⟨h3, -⟩ := List.append_inj h1 (by simp)
  have h4 := List.append_cancel_left h3
  have hS := map_eq_at h4
  have hW := dtW_at hK h2
  have ix : ∀ i, i < m.n.toNat * m.k.toNat → ∃ s x, s < m.n.toNat ∧ x < m.k.toNat ∧ i = s * m.k.toNat + x := fun i hi => by
    refine ⟨i / m.k.toNat, i % m.k.toNat, ?_, Nat.mod_lt _ (by omega), ?_⟩
    · exact (Nat.div_lt_iff_lt_mul (by omega)).2 hi
    · rw [Nat.mul_comm]; exact (Nat.div_add_mod i _).symm
  have ln : ∀ {q : Nat}, (q : Int) = m.n * m.k → q = m.n.toNat * m.k.toNat := fun {q} e => by
    have : ((m.n.toNat * m.k.toNat : Nat) : Int) = m.n * m.k := by rw [Int.natCast_mul, Int.toNat_of_nonneg (by omega), Int.toNat_of_nonneg (by omega)]
    omega
  have lx := ln F.r.nx
  have lx' := ln (q := m'.nx.length) (by rw [G.r.nx, hN, hK])
  refine ⟨hN, list_eq (by omega) fun i hi => ?_, ?_⟩
  · obtain ⟨s, x, hs, hx, rfl⟩ := ix i (by omega)
    exact (dtA_inj F G hk hK (hW s hs x hx)).1
  · rcases F.r.kd with hk1 | hk2
    · have o1 := F.r.outD hk1
      have o2 := G.r.outD (by omega)
      refine list_eq (by omega) fun i hi => ?_
      have h5 := dtS_inj hk (hS i (by omega)) hk1
      have h6 := F.r.so i hi
      have h7 := G.r.so i (by omega)
      have h8 := F.od hk1
      have h9 := G.od (by omega)
      omega
    · have o1 := ln (F.r.outM hk2)
      have o2 := ln (q := m'.out.length) (by rw [G.r.outM (by omega), hN, hK])
      refine list_eq (by omega) fun i hi => ?_
      obtain ⟨s, x, hs, hx, rfl⟩ := ix i (by omega)
      exact (dtA_inj F G hk hK (hW s hs x hx)).2 hk2
end

end Go.Proofs.YtbhdcgebcmgidaaDoor
