/-
  What a cache keeps: what follows. Plain words.
-/
import Derived.Test.YtemalidanjfmkaaUCac
namespace Go.Proofs.Ytemalidanjfmkaa

theorem fndL_app (kd : Int) (u : List Int) : ∀ (xs ys : List (List Int)) (x y : List Int), xs.length = ys.length → fndL kd u (xs ++ [x]) (ys ++ [y]) = (fndL kd u xs ys).orElse fun _ => fndL kd u [x] [y]
  | [], [], x, y, _ => rfl
  | a :: xs, b :: ys, x, y, h => by
    rw [List.cons_append, List.cons_append, fndL, fndL]
    split
    · rfl
    · split
      · rfl
      · exact fndL_app kd u xs ys x y (by simpa using h)
theorem begV_self (w : List Int) : begV w w = true := by unfold begV; simp
theorem begV_nil (w : List Int) : begV w [] = true := by unfold begV; simp
/-- An error changes nothing. -/
theorem put_err {c : Cs} {w out : List Int} (h : (putV c w out).2 ≠ 0) : (putV c w out).1 = c := by
  unfold putV at h ⊢
  split at h
  · rename_i h1; rw [if_pos h1]
  · rename_i h1
    rw [if_neg h1]
    split at h
    · rename_i h2; rw [if_pos h2]
    · rename_i h2
      rw [if_neg h2]
      split at h
      · rename_i h3; rw [if_pos h3]
      · rename_i h3
        rw [if_neg h3]
        split at h
        · rename_i h4; rw [if_pos h4]
        · exact absurd rfl h
/-- What Put leaves when it keeps. -/
theorem put_ok {c : Cs} {w out : List Int} (h : (putV c w out).2 = 0) :
    (putV c w out).1 = { c with ws := c.ws ++ [w], os := c.os ++ [out], bg := frsV c w } ∧ wdE w c.k = 0 ∧ chkA ⟨1, w, ⟨c.kind, c.k, c.o, 0, [], []⟩⟩ ⟨1, out, []⟩ = 0 ∧ clsV c w out = false ∧ ((frsV c w).length : Int) ≤ c.most := by
  unfold putV at h ⊢
  by_cases h1 : wdE w c.k ≠ 0
  · rw [if_pos h1] at h; exact absurd h h1
  rw [if_neg h1] at h ⊢
  by_cases h2 : chkA ⟨1, w, ⟨c.kind, c.k, c.o, 0, [], []⟩⟩ ⟨1, out, []⟩ ≠ 0
  · rw [if_pos h2] at h; exact absurd h h2
  rw [if_neg h2] at h ⊢
  by_cases h3 : clsV c w out = true
  · rw [if_pos h3] at h; exact absurd (show (111 : Int) = 0 from h) (by decide)
  rw [if_neg h3] at h ⊢
  by_cases h4 : c.most < ((frsV c w).length : Int)
  · rw [if_pos h4] at h; exact absurd (show (110 : Int) = 0 from h) (by decide)
  rw [if_neg h4]
  exact ⟨rfl, by simpa using h1, by simpa using h2, by simpa using h3, by omega⟩
/-- What is told is told from then on. -/
theorem find_keep {c : Cs} {w out u y : List Int} (hl : c.ws.length = c.os.length) (h : (putV c w out).2 = 0) (hu : findV c u = some y) : findV (putV c w out).1 u = some y := by
  rw [(put_ok h).1]
  unfold findV at hu ⊢
  by_cases h0 : c.kind = 2 ∧ u.length = 0
  · rw [if_pos h0] at hu ⊢; exact hu
  · rw [if_neg h0] at hu ⊢
    show fndL c.kind u (c.ws ++ [w]) (c.os ++ [out]) = some y
    rw [fndL_app c.kind u c.ws c.os w out hl, hu]
    rfl
theorem cls_no {c : Cs} {w out : List Int} (h : clsV c w out = false) {i : Nat} (hi : i ≤ w.length) : clsA c w out i = false := by
  unfold clsV at h
  rw [List.any_eq_false] at h
  have := h i (List.mem_range.2 (by omega))
  simpa using this
theorem chk_out {v out : List Int} {kind k o : Int} (h : chkA ⟨1, v, ⟨kind, k, o, 0, [], []⟩⟩ ⟨1, out, []⟩ = 0) : (kind = 1 ∧ out.length = 1) ∨ (kind = 2 ∧ out.length = v.length) := by
  unfold chkA at h
  rw [if_neg (by simp), if_neg (by simp)] at h
  refine Classical.byContradiction fun c => ?_
  rw [if_neg] at h
  · exact absurd h (by decide)
  · rintro ⟨-, -, ⟨h1, h2, -⟩ | ⟨h1, h2, -⟩⟩
    · exact c (.inl ⟨h1, h2⟩)
    · exact c (.inr ⟨h1, h2⟩)
/-- What was Put is told. -/
theorem find_put {c : Cs} {w out : List Int} (hl : c.ws.length = c.os.length) (h : (putV c w out).2 = 0) : findV (putV c w out).1 w = some out := by
  obtain ⟨e, h1, h2, h3, h4⟩ := put_ok h
  have hca := cls_no h3 (Nat.le_refl w.length)
  rw [e]
  unfold findV
  show (if c.kind = 2 ∧ w.length = 0 then some [] else fndL c.kind w (c.ws ++ [w]) (c.os ++ [out])) = some out
  rcases chk_out h2 with ⟨hk, ho⟩ | ⟨hk, ho⟩
  · rw [if_neg (by omega), fndL_app c.kind w c.ws c.os w out hl]
    unfold clsA at hca
    rw [List.take_length] at hca
    have hf : findV c w = fndL c.kind w c.ws c.os := by unfold findV; rw [if_neg (by omega)]
    rw [hf] at hca
    cases hff : fndL c.kind w c.ws c.os with
    | none => simp [fndL, hk]
    | some y =>
      rw [hff] at hca
      simp [hk] at hca
      simp [hca]
  · by_cases h0 : w.length = 0
    · rw [if_pos ⟨hk, h0⟩]
      rw [h0] at ho
      rw [List.length_eq_zero_iff.1 ho]
    · rw [if_neg (fun c => h0 c.2), fndL_app c.kind w c.ws c.os w out hl]
      unfold clsA at hca
      rw [List.take_length] at hca
      have hf : findV c w = fndL c.kind w c.ws c.os := by unfold findV; rw [if_neg (fun c => h0 c.2)]
      rw [hf] at hca
      cases hff : fndL c.kind w c.ws c.os with
      | none => simp [fndL, hk, begV_self, ← ho]
      | some y =>
        rw [hff] at hca
        simp [hk, ← ho] at hca
        simp [hca]
/-- All beginnings. -/
theorem frs_mem (w : List Int) : ∀ (n : Nat) (f : List (List Int)) (u : List Int), u ∈ frs w n f ↔ u ∈ f ∨ ∃ i, i < n ∧ u = w.take i
  | 0, f, u => by simp [frs]
  | n + 1, f, u => by
    rw [frs]
    have ih := frs_mem w n f
    by_cases h : w.take n ∈ frs w n f
    · simp only [if_pos h]
      rw [ih]
      constructor
      · rintro (h1 | ⟨i, hi, rfl⟩)
        · exact .inl h1
        · exact .inr ⟨i, by omega, rfl⟩
      · rintro (h1 | ⟨i, hi, rfl⟩)
        · exact .inl h1
        · by_cases c : i = n
          · subst c; exact (ih _).1 h
          · exact .inr ⟨i, by omega, rfl⟩
    · simp only [if_neg h]
      rw [List.mem_append, ih, List.mem_singleton]
      constructor
      · rintro ((h1 | ⟨i, hi, rfl⟩) | rfl)
        · exact .inl h1
        · exact .inr ⟨i, by omega, rfl⟩
        · exact .inr ⟨n, by omega, rfl⟩
      · rintro (h1 | ⟨i, hi, rfl⟩)
        · exact .inl (.inl h1)
        · by_cases c : i = n
          · subst c; exact .inr rfl
          · exact .inl (.inr ⟨i, by omega, rfl⟩)
theorem frs_nodup (w : List Int) : ∀ (n : Nat) (f : List (List Int)), f.Nodup → (frs w n f).Nodup
  | 0, f, h => h
  | n + 1, f, h => by
    rw [frs]
    have ih := frs_nodup w n f h
    by_cases c : w.take n ∈ frs w n f
    · simp only [if_pos c]; exact ih
    · simp only [if_neg c]
      rw [List.nodup_append]
      refine ⟨ih, by simp, fun a ha b hb e => ?_⟩
      rw [List.mem_singleton] at hb
      subst hb; subst e
      exact c ha
theorem frs_pre (w : List Int) : ∀ (n : Nat) (f : List (List Int)), ∃ g, frs w n f = f ++ g
  | 0, f => ⟨[], by simp [frs]⟩
  | n + 1, f => by
    obtain ⟨g, hg⟩ := frs_pre w n f
    rw [frs]
    by_cases c : w.take n ∈ frs w n f
    · simp only [if_pos c]; exact ⟨g, hg⟩
    · simp only [if_neg c]; exact ⟨g ++ [w.take n], by rw [hg]; simp⟩

end Go.Proofs.Ytemalidanjfmkaa
