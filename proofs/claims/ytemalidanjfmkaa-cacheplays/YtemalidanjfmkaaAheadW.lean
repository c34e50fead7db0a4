/-
  What the reference's Ahead returns, for any two lists.
-/
import Derived.Test.YtemalidanjfmkaaK1
namespace Go.Proofs.Ytemalidanjfmkaa
open Go.RowKit

theorem ahead_any (a a' : Option Addr) (n c n' c' : Nat) (f f' : Nat → Int) (w : World) (hr : Rd w a n f) (hr' : Rd w a' n' f') (hn : n ≤ maxLen) (hn' : n' ≤ maxLen) :
    Calls Try.prog 51 #[.slice a n c, .slice a' n' c'] w fun e w' => e = .returned (.bool (ahdV n f n' f')) ∧ Below w.heap.size w w' := by
  unfold maxLen at hn hn'
  by_cases hl : n = n'
  · subst hl
    have hne : ((n : Int) != (n : Int)) = false := by simp
    go_enter Try.func51, Try.ntmps51
    go_wp2
    go_loopw [5] (fun i wr => ∃ j : Nat, j ≤ n ∧ i = .int .i64 j ∧ (∀ l, l < j → f l = f' l) ∧ Below w.heap.size w wr) (fun i _ => n - (intOf i).toNat)
    case atStart => exact ⟨0, Nat.zero_le _, rfl, fun l hl => by omega, Below.refl _ _⟩
    case round =>
      obtain ⟨j, hj, rfl, hg, hb⟩ := hrel
      have HG := hide hg
      clear hg
      by_cases hlt : j < n
      · obtain ⟨b, off, rfl, hc⟩ := (hr.below hb).at hlt
        obtain ⟨b', off', rfl, hc'⟩ := (hr'.below hb).at hlt
        have hcj := hc j hlt
        have hcj' := hc' j hlt
        have hlt' : (j : Int) < (n : Int) := by omega
        clear hc hc'
        by_cases h1 : f j = f' j
        · have ht : (f j != f' j) = false := by simpa using h1
          have HE := hide h1
          clear h1
          go_wp2
          go_quiet (fail)
          go_wp2
          go_roundw
          case rel => exact ⟨j + 1, by omega, by go_num, fun l hl => by by_cases e : l = j; { subst e; exact unhide HE }; exact unhide HG l (by omega), below_drewN hb _⟩
          case measure => simp [intOf]; omega
        · have ht : (f j != f' j) = true := by simpa using h1
          have H : Hid (ahdV n f n f' = decide (f j < f' j)) := by
            show _ = _
            rw [ahdV, cmpV_at hlt h1 (unhide HG)]
            by_cases h2 : f j < f' j
            · simp [cmp_lt h2, h2]
            · rw [cmp_gt (by omega)]; simp [h2]
          clear h1
          go_wp2
          go_quiet (fail)
          go_wp2
          go_quiet (fail)
          go_wp2
          go_ret
          exact ⟨ret_bool (by rw [unhide H]), below_drewN (below_drewN hb _) _⟩
      · have he : j = n := by omega
        subst he
        have H : Hid (ahdV j f j f' = false) := by show _ = _; rw [ahdV, cmpV_same (unhide HG)]; rfl
        go_wp2
        go_ret
        exact ⟨ret_bool (by rw [unhide H]), hb⟩
  · have hne : ((n : Int) != (n' : Int)) = true := by simp; omega
    have H : Hid (ahdV n f n' f' = decide ((n : Int) < (n' : Int))) := by
      show _ = _
      rw [ahdV, cmpV_len hl]
      by_cases h2 : (n : Int) < (n' : Int)
      · rw [cmp_lt h2]; simp [h2]
      · rw [cmp_gt (by omega)]; simp; omega
    by_cases h2 : (n : Int) < (n' : Int)
    · have H2 : Hid (ahdV n f n' f' = true) := by show _ = _; rw [unhide H]; simp [h2]
      clear H
      go_enter Try.func51, Try.ntmps51
      go_wp2
      go_ret
      exact ⟨ret_bool (by rw [unhide H2]), Below.refl _ _⟩
    · have H2 : Hid (ahdV n f n' f' = false) := by show _ = _; rw [unhide H]; simp; omega
      clear H
      go_enter Try.func51, Try.ntmps51
      go_wp2
      go_ret
      exact ⟨ret_bool (by rw [unhide H2]), Below.refl _ _⟩

end Go.Proofs.Ytemalidanjfmkaa
