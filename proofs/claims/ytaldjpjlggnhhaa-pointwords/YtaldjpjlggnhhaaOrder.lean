/-
  What Same, Compare and the reference's Ahead and Compare return, for any two lists.
-/
import Derived.Test.YtaldjpjlggnhhaaCheck
import Derived.Test.YtaldjpjlggnhhaaAheadW
import Derived.Test.YtaldjpjlggnhhaaSmall
namespace Go.Proofs.Ytaldjpjlggnhhaa
open Go.RowKit

theorem same_any (a a' : Option Addr) (n c n' c' : Nat) (f f' : Nat → Int) (w : World) (hr : Rd w a n f) (hr' : Rd w a' n' f') (hn : n ≤ maxLen) (hn' : n' ≤ maxLen) :
    Calls Try.prog 34 #[.slice a n c, .slice a' n' c'] w fun e w' => e = .returned (.bool (samB n f n' f')) ∧ Below w.heap.size w w' := by
  unfold maxLen at hn hn'
  by_cases hl : n = n'
  · subst hl
    have hne : ((n : Int) != (n : Int)) = false := by simp
    go_enter Try.func34, Try.ntmps34
    go_wp2
    go_loopw [5] (fun i wr => ∃ j : Nat, j ≤ n ∧ i = .int .i64 j ∧ (∀ l, l < j → f l = f' l) ∧ Below w.heap.size w wr) (fun i _ => n - (intOf i).toNat)
    case atStart => exact ⟨0, Nat.zero_le _, rfl, fun l hl => by omega, Below.refl _ _⟩
    case round =>
      obtain ⟨j, hj, rfl, hg, hb⟩ := hrel
      have HG := hide hg
      clear hg
      by_cases hlt : j < n
      · obtain ⟨b, off, rfl, hc⟩ := (hr.below hb).at hlt
        obtain ⟨b', off', rfl, hc'⟩ := (hr'.below hb).at hlt
        have hcj := hc j hlt
        have hcj' := hc' j hlt
        have hlt' : (j : Int) < (n : Int) := by omega
        clear hc hc'
        by_cases h1 : f j = f' j
        · have ht : (f j != f' j) = false := by simpa using h1
          have HE := hide h1
          clear h1
          go_wp2
          go_quiet (fail)
          go_wp2
          go_roundw
          case rel => exact ⟨j + 1, by omega, by go_num, fun l hl => by by_cases e : l = j; { subst e; exact unhide HE }; exact unhide HG l (by omega), below_drewN hb _⟩
          case measure => simp [intOf]; omega
        · have ht : (f j != f' j) = true := by simpa using h1
          have H := hide (samB_at hlt h1)
          clear h1
          go_wp2
          go_quiet (fail)
          go_wp2
          go_ret
          exact ⟨ret_bool (by rw [unhide H]), below_drewN hb _⟩
      · have he : j = n := by omega
        subst he
        have H := hide (samB_yes (unhide HG))
        go_wp2
        go_ret
        exact ⟨ret_bool (by rw [unhide H]), hb⟩
  · have hne : ((n : Int) != (n' : Int)) = true := by simp; omega
    have H := hide (samB_len (f := f) (g := f') hl)
    go_enter Try.func34, Try.ntmps34
    go_wp2
    go_ret
    exact ⟨ret_bool (by rw [unhide H]), Below.refl _ _⟩

theorem ahdV_yes {n m : Nat} {f g : Nat → Int} (h : cmpV n f m g = -1) : ahdV n f m g = true := by simp [ahdV, h]
theorem ahdV_no {n m : Nat} {f g : Nat → Int} (h : cmpV n f m g ≠ -1) : ahdV n f m g = false := by simp [ahdV, h]

end Go.Proofs.Ytaldjpjlggnhhaa
