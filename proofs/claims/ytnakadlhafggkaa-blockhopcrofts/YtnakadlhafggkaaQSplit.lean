/-
  What the program's split does: classes that have both are split, in the order of their numbers.
-/
import Derived.Test.YtnakadlhafggkaaQCut
import Derived.Test.YtnakadlhafggkaaQKeys
namespace Go.Proofs.Ytnakadlhafggkaa
open Go.RowKit Go.Maps

/-- A slice of n cuts in memory of one's own reads as G. -/
def OwnC (w : World) (B : Nat) (v : Value) (n : Nat) (G : Nat → Nat → Int) : Prop := w.ownsRow B 66 2 v n (cellsP n G)
theorem infoCut : (Try.prog.info? 66).map (fun i => (i.zero, i.size, i.bytes)) = some (some (.agg #[.int .i64 0, .int .i64 0]), 2, 16) := by kernel_rfl
theorem OwnC.nil (w : World) (B : Nat) (G : Nat → Nat → Int) : OwnC w B (.slice none 0 0) 0 G := ⟨rfl, .inl ⟨rfl, rfl⟩⟩
theorem OwnC.lt {w : World} {B n : Nat} {v : Value} {F : Nat → Nat → Int} (h : OwnC w B v n F) {b : Nat} (e : v.ownBlock = some b) : B ≤ b ∧ b < w.heap.size := World.ownsRow.lt h b e
theorem OwnC.congr {w : World} {B n : Nat} {v : Value} {F G : Nat → Nat → Int} (h : OwnC w B v n F) (e : ∀ s i, s < n → i < 2 → F s i = G s i) : OwnC w B v n G := by
  unfold OwnC; rw [← cellsP_congr e]; exact h
theorem OwnC.keep {w w' : World} {B n : Nat} {v : Value} {F : Nat → Nat → Int} (h : OwnC w B v n F) (k : ∀ b, v.ownBlock = some b → w'.heap[b]? = w.heap[b]?) : OwnC w' B v n F := by
  obtain ⟨h1, h2⟩ := h
  refine ⟨h1, ?_⟩
  rcases h2 with h2 | ⟨g, cap, cur, rfl, hg, hcell, rest⟩
  · exact .inl h2
  · exact .inr ⟨g, cap, cur, rfl, hg, by rw [k g rfl]; exact hcell, rest⟩
theorem OwnC.mono {w : World} {B B' n : Nat} {v : Value} {F : Nat → Nat → Int} (h : OwnC w B v n F) (hb : B' ≤ B) : OwnC w B' v n F := by
  obtain ⟨h1, h2⟩ := h
  refine ⟨h1, ?_⟩
  rcases h2 with h | ⟨g, cap, cur, e, hg, r⟩
  · exact .inl h
  · exact .inr ⟨g, cap, cur, e, Nat.le_trans hb hg, r⟩
theorem OwnC.pos {w : World} {B n : Nat} {v : Value} {F : Nat → Nat → Int} (h : OwnC w B v n F) (hn : 0 < n) :
    ∃ g cap, v = .slice (some ⟨g, 0, none⟩) n cap ∧ n ≤ cap ∧ cap ≤ maxLen ∧ B ≤ g ∧ g < w.heap.size ∧ (∀ s i, s < n → i < 2 → w.cell? ⟨g, s * 2 + i, none⟩ = some (.int .i64 (F s i))) := by
  have hlt := World.ownsRow.lt h
  obtain ⟨h1, h2⟩ := id h
  rcases h2 with ⟨rfl, h0⟩ | ⟨g, cap, cur, rfl, hg, hcell, hnc, hm, hs, ht⟩
  · omega
  · refine ⟨g, cap, rfl, hnc, hm, hg, (hlt g rfl).2, fun s i hs hi => ?_⟩
    have := World.ownsRow.cellAt h (s * 2 + i) (by omega)
    rw [cellsP_get hs hi] at this
    exact this
theorem OwnC.shape {w : World} {B n : Nat} {v : Value} {F : Nat → Nat → Int} (h : OwnC w B v n F) : ∃ a cap, v = .slice a n cap := by
  rcases h.2 with ⟨rfl, rfl⟩ | ⟨g, cap, cur, rfl, _⟩
  · exact ⟨none, 0, rfl⟩
  · exact ⟨_, cap, rfl⟩
section
variable {w : World} {ops : Array Oper} {rest : List Oper} {o : Oper} {a : Act} {Q : Exit → Act → World → Prop}
/-- append(s, cut{x, y}). -/
theorem wplC_push (hgd : o.guard = none) (s z : Operand) (ho : o.op = .call { callee := .builtin .append, args := #[s, z], argTypes := #[63, 63] })
    (B : Nat) (v : Value) (n : Nat) (F : Nat → Nat → Int) (hs : a.eval s = v) (hown : OwnC w B v n F)
    (g c : Nat) (x y : Int) (hx : a.eval z = .slice (some ⟨g, 0, none⟩) 1 c) (h0 : w.cell? ⟨g, 0, none⟩ = some (.int .i64 x)) (h1 : w.cell? ⟨g, 1, none⟩ = some (.int .i64 y))
    (hn : n ≤ 100000) (hbase : B ≤ w.heap.size)
    (h : ∀ v' w', OwnC w' B v' (n + 1) (addP n x y F) → w.grownBy w' v.ownBlock → (∀ b, v'.ownBlock = some b → v.ownBlock = some b ∨ b = w.heap.size) → wpList Try.prog ops Q rest (a.put o.dst v') w') :
    wpList Try.prog ops Q (o :: rest) a w := by
  obtain ⟨i, hi, hz0, hz1, hz2⟩ := info_parts infoCut
  refine wpList_append_own_at w hgd s z 63 ho B 66 i (.agg #[.int .i64 0, .int .i64 0]) 2 16 Try.underlying63 hi hz0 hz1 hz2 rfl (by decide) v n (cellsP n F) hs hown ⟨g, 0, none⟩ 1 c [.int .i64 x, .int .i64 y] hx rfl ?_ ?_ (by unfold maxLen; omega) (by omega) hbase ?_
  · intro j u hj
    match j, hj with
    | 0, hj =>
      have : u = .int .i64 x := by simpa using hj.symm
      subst this; exact h0
    | 1, hj =>
      have : u = .int .i64 y := by simpa using hj.symm
      subst this; exact h1
    | j + 2, hj => simp at hj
  · intro u hu
    simp at hu
    rcases hu with rfl | rfl <;> rfl
  · intro v' w' r1 r2 _ r4
    refine h v' w' ?_ r2 fun b hb => ?_
    · rw [cellsP_add] at r1; exact r1
    · rcases r4 with r4 | r4
      · exact .inl (r4 ▸ hb)
      · rw [r4] at hb; cases hb; exact .inr rfl
end

/-- The class at place t of the keys, K behind the last. -/
def nxK (K : Nat) (N : Nat → Nat) (t : Nat) : Nat := if t < (ksL K N).length then ((ksL K N).getD t 0).toNat else K
theorem ks_lt {K : Nat} {N : Nat → Nat} {i j : Nat} (hij : i < j) (hj : j < (ksL K N).length) : (ksL K N).getD i 0 < (ksL K N).getD j 0 := by
  have h := List.pairwise_iff_getElem.1 (ksL_sorted K N) i j (by omega) hj hij
  simp only [List.getD]
  rw [List.getElem?_eq_getElem (by omega), List.getElem?_eq_getElem hj]
  exact h
theorem ks_at {K : Nat} {N : Nat → Nat} {t : Nat} (ht : t < (ksL K N).length) : (ksL K N).getD t 0 = ((nxK K N t : Nat) : Int) ∧ nxK K N t < K ∧ 0 < N (nxK K N t) := by
  have hm : (ksL K N).getD t 0 ∈ ksL K N := gd_mem ht
  obtain ⟨c, e, h1, h2⟩ := ksL_mem.1 hm
  have e2 : nxK K N t = c := by unfold nxK; rw [if_pos ht, e]; rfl
  rw [e2, e]
  exact ⟨rfl, h1, h2⟩
theorem ks_gap {K : Nat} {N : Nat → Nat} {t j : Nat} (h0 : t = 0 ∨ nxK K N (t - 1) < j) (h0' : t ≤ (ksL K N).length) (h1 : j < nxK K N t) : N j = 0 := by
  rcases Nat.eq_zero_or_pos (N j) with h | h
  · exact h
  · exfalso
    have hjK : j < K := by
      unfold nxK at h1
      by_cases c : t < (ksL K N).length
      · have := (ks_at c).2.1
        unfold nxK at this
        omega
      · rw [if_neg c] at h1; exact h1
    obtain ⟨i, hi, ei⟩ := mem_gd (ksL_mem.2 ⟨j, rfl, hjK, h⟩)
    rcases Nat.lt_or_ge i t with c | c
    · rcases h0 with h0 | h0
      · omega
      · have e1 := (ks_at (K := K) (N := N) (t := t - 1) (by omega)).1
        by_cases d : i = t - 1
        · subst d; omega
        · have := ks_lt (K := K) (N := N) (i := i) (j := t - 1) (by omega) (by omega)
          omega
    · have ht : t < (ksL K N).length := by omega
      have e1 := (ks_at ht).1
      by_cases d : i = t
      · subst d; omega
      · have := ks_lt (K := K) (N := N) (i := t) (j := i) (by omega) hi
        omega
theorem nxK_le (K : Nat) (N : Nat → Nat) (t : Nat) : nxK K N t ≤ K := by
  by_cases c : t < (ksL K N).length
  · exact Nat.le_of_lt (ks_at c).2.1
  · unfold nxK; rw [if_neg c]; exact Nat.le_refl _
theorem nxK_end (K : Nat) (N : Nat → Nat) : nxK K N (ksL K N).length = K := by unfold nxK; rw [if_neg (by omega)]
theorem nxK_lt {K : Nat} {N : Nat → Nat} {t : Nat} (ht : t < (ksL K N).length) : nxK K N t < nxK K N (t + 1) := by
  obtain ⟨e1, h1, _⟩ := ks_at ht
  by_cases c : t + 1 < (ksL K N).length
  · have e2 := (ks_at c).1
    have := ks_lt (K := K) (N := N) (i := t) (j := t + 1) (by omega) c
    omega
  · have : nxK K N (t + 1) = K := by unfold nxK; rw [if_neg c]
    omega

/-- The cuts: from which class, which class was made. -/
def Cuts (C l : List Int) (K k : Nat) (G : Nat → Nat → Int) : Prop := ∀ j, j < mixN C l k → ∃ c : Nat, c < k ∧ mixB C l (c : Int) = true ∧ mixN C l c = j ∧ G j 0 = (c : Int) ∧ G j 1 = ((K + j : Nat) : Int)
theorem Cuts.jump {C l : List Int} {K k k' : Nat} {G : Nat → Nat → Int} (h : Cuts C l K k G) (hk : k ≤ k') (hm : mixN C l k' = mixN C l k) : Cuts C l K k' G := fun j hj => by
  obtain ⟨c, h1, h2⟩ := h j (by omega)
  exact ⟨c, by omega, h2⟩
theorem Cuts.yes {C l : List Int} {K k : Nat} {G : Nat → Nat → Int} (h : Cuts C l K k G) (hm : mixB C l (k : Int) = true) : Cuts C l K (k + 1) (addP (mixN C l k) (k : Int) ((K + mixN C l k : Nat) : Int) G) := fun j hj => by
  rw [mixN_yes hm] at hj
  by_cases e : j = mixN C l k
  · subst e
    exact ⟨k, by omega, hm, rfl, by simp [addP], by simp [addP]⟩
  · obtain ⟨c, h1, h2, h3, h4, h5⟩ := h j (by omega)
    exact ⟨c, by omega, h2, h3, by simp only [addP]; rw [if_pos (by omega)]; exact h4, by simp only [addP]; rw [if_pos (by omega)]; exact h5⟩
theorem mixN_flat {C l : List Int} {k : Nat} : ∀ {k' : Nat}, k ≤ k' → (∀ j, k ≤ j → j < k' → mixB C l (j : Int) = false) → mixN C l k' = mixN C l k
  | 0, h, _ => by obtain rfl : k = 0 := by omega
                  rfl
  | k' + 1, h, hm => by
    by_cases e : k = k' + 1
    · subst e; rfl
    · rw [mixN_no (hm k' (by omega) (by omega))]; exact mixN_flat (by omega) fun j a b => hm j a (by omega)

/-- What split leaves. -/
structure SpPost (w : World) (p : Pp) (gs : Nat) (s : St) (l : List Int) (w' : World) (gs' cap' : Nat) (s' : St) (v : Value) (G : Nat → Nat → Int) : Prop where
  at_ : PtS w' p gs' cap' s'
  pi : PI p.n s'
  K : s'.K = s.K + mixN (tab p.n s.c) l s.K
  c : tab p.n s'.c = spC (tab p.n s.c) l s.K s.K
  own : OwnC w' w.heap.size v (mixN (tab p.n s.c) l s.K) G
  cuts : Cuts (tab p.n s.c) l s.K s.K G
  new : gs' = gs ∨ w.heap.size ≤ gs'
  vgs : v.ownBlock ≠ some gs'
  bx : Bx (p.has gs) w w'
  inn : ∀ x, x < p.n → s.b (s.c x) ≤ s'.p x ∧ s'.p x < s.e (s.c x)

end Go.Proofs.Ytnakadlhafggkaa
