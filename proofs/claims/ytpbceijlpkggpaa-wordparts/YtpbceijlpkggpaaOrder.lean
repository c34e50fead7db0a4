/-
  What Same, Compare and the reference's Ahead and Compare return, for any two lists.
-/
import Derived.Test.YtpbceijlpkggpaaCheck
namespace Go.Proofs.Ytpbceijlpkggpaa
open Go.RowKit

theorem same_any (a a' : Option Addr) (n c n' c' : Nat) (f f' : Nat → Int) (w : World) (hr : Rd w a n f) (hr' : Rd w a' n' f') (hn : n ≤ maxLen) (hn' : n' ≤ maxLen) :
    Calls Try.prog 23 #[.slice a n c, .slice a' n' c'] w fun e w' => e = .returned (.bool (samB n f n' f')) ∧ Below w.heap.size w w' := by
  unfold maxLen at hn hn'
  by_cases hl : n = n'
  · subst hl
    have hne : ((n : Int) != (n : Int)) = false := by simp
    go_enter Try.func23, Try.ntmps23
    go_wp2
    go_loopw [5] (fun i wr => ∃ j : Nat, j ≤ n ∧ i = .int .i64 j ∧ (∀ l, l < j → f l = f' l) ∧ Below w.heap.size w wr) (fun i _ => n - (intOf i).toNat)
    case atStart => exact ⟨0, Nat.zero_le _, rfl, fun l hl => by omega, Below.refl _ _⟩
    case round =>
      obtain ⟨j, hj, rfl, hg, hb⟩ := hrel
      have HG := hide hg
      clear hg
      by_cases hlt : j < n
      · obtain ⟨b, off, rfl, hc⟩ := (hr.below hb).at hlt
        obtain ⟨b', off', rfl, hc'⟩ := (hr'.below hb).at hlt
        have hcj := hc j hlt
        have hcj' := hc' j hlt
        have hlt' : (j : Int) < (n : Int) := by omega
        clear hc hc'
        by_cases h1 : f j = f' j
        · have ht : (f j != f' j) = false := by simpa using h1
          have HE := hide h1
          clear h1
          go_wp2
          go_quiet (fail)
          go_wp2
          go_roundw
          case rel => exact ⟨j + 1, by omega, by go_num, fun l hl => by by_cases e : l = j; { subst e; exact unhide HE }; exact unhide HG l (by omega), below_drewN hb _⟩
          case measure => simp [intOf]; omega
        · have ht : (f j != f' j) = true := by simpa using h1
          have H := hide (samB_at hlt h1)
          clear h1
          go_wp2
          go_quiet (fail)
          go_wp2
          go_ret
          exact ⟨ret_bool (by rw [unhide H]), below_drewN hb _⟩
      · have he : j = n := by omega
        subst he
        have H := hide (samB_yes (unhide HG))
        go_wp2
        go_ret
        exact ⟨ret_bool (by rw [unhide H]), hb⟩
  · have hne : ((n : Int) != (n' : Int)) = true := by simp; omega
    have H := hide (samB_len (f := f) (g := f') hl)
    go_enter Try.func23, Try.ntmps23
    go_wp2
    go_ret
    exact ⟨ret_bool (by rw [unhide H]), Below.refl _ _⟩

theorem compare_any (a a' : Option Addr) (n c n' c' : Nat) (f f' : Nat → Int) (w : World) (hr : Rd w a n f) (hr' : Rd w a' n' f') (hn : n ≤ maxLen) (hn' : n' ≤ maxLen) :
    Calls Try.prog 18 #[.slice a n c, .slice a' n' c'] w fun e w' => e = .returned (.int .i64 (cmpV n f n' f')) ∧ Below w.heap.size w w' := by
  unfold maxLen at hn hn'
  by_cases hl : n = n'
  · subst hl
    have hne : ((n : Int) != (n : Int)) = false := by simp
    go_enter Try.func18, Try.ntmps18
    go_wp2
    go_loopw [18] (fun i wr => ∃ j : Nat, j ≤ n ∧ i = .int .i64 j ∧ (∀ l, l < j → f l = f' l) ∧ Below w.heap.size w wr) (fun i _ => n - (intOf i).toNat)
    case atStart => exact ⟨0, Nat.zero_le _, rfl, fun l hl => by omega, Below.refl _ _⟩
    case round =>
      obtain ⟨j, hj, rfl, hg, hb⟩ := hrel
      have HG := hide hg
      clear hg
      by_cases hlt : j < n
      · obtain ⟨b, off, rfl, hc⟩ := (hr.below hb).at hlt
        obtain ⟨b', off', rfl, hc'⟩ := (hr'.below hb).at hlt
        have hcj := hc j hlt
        have hcj' := hc' j hlt
        have hlt' : (j : Int) < (n : Int) := by omega
        clear hc hc'
        by_cases h1 : f j = f' j
        · have ht : (f j != f' j) = false := by simpa using h1
          have HE := hide h1
          clear h1
          go_wp2
          go_quiet (fail)
          go_wp2
          go_roundw
          case rel => exact ⟨j + 1, by omega, by go_num, fun l hl => by by_cases e : l = j; { subst e; exact unhide HE }; exact unhide HG l (by omega), below_drewN hb _⟩
          case measure => simp [intOf]; omega
        · have ht : (f j != f' j) = true := by simpa using h1
          have H := hide (cmpV_at hlt h1 (unhide HG))
          clear h1
          go_wp2
          go_quiet (fail)
          have hb2 := below_drewN hb nq
          have hd : (wr.drewN nq).cell? ⟨b, off + j, none⟩ = some (.int .i64 (f j)) := hcj
          have hd' : (wr.drewN nq).cell? ⟨b', off' + j, none⟩ = some (.int .i64 (f' j)) := hcj'
          generalize wr.drewN nq = w2 at *
          go_wp2
          go_quiet ((go_at_call 42; exact Calls.quiet_of_same (cmpInt_any _ _ _)))
          go_wp2
          go_ret
          exact ⟨ret_int (by rw [unhide H]), below_drewN hb2 _⟩
      · have he : j = n := by omega
        subst he
        have H := hide (cmpV_same (unhide HG))
        go_wp2
        go_ret
        exact ⟨ret_int (by rw [unhide H]), hb⟩
  · have hne : ((n : Int) != (n' : Int)) = true := by simp; omega
    have H := hide (cmpV_len (f := f) (g := f') hl)
    go_enter Try.func18, Try.ntmps18
    go_wp2_with (go_at_call 42; refine (cmpInt_any _ _ _).mono ?_; rintro e w' ⟨rfl, rfl⟩)
    go_ret
    exact ⟨ret_int (by rw [unhide H]), Below.refl _ _⟩

theorem ahead_any (a a' : Option Addr) (n c n' c' : Nat) (f f' : Nat → Int) (w : World) (hr : Rd w a n f) (hr' : Rd w a' n' f') (hn : n ≤ maxLen) (hn' : n' ≤ maxLen) :
    Calls Try.prog 43 #[.slice a n c, .slice a' n' c'] w fun e w' => e = .returned (.bool (ahdV n f n' f')) ∧ Below w.heap.size w w' := by
  unfold maxLen at hn hn'
  by_cases hl : n = n'
  · subst hl
    have hne : ((n : Int) != (n : Int)) = false := by simp
    go_enter Try.func43, Try.ntmps43
    go_wp2
    go_loopw [5] (fun i wr => ∃ j : Nat, j ≤ n ∧ i = .int .i64 j ∧ (∀ l, l < j → f l = f' l) ∧ Below w.heap.size w wr) (fun i _ => n - (intOf i).toNat)
    case atStart => exact ⟨0, Nat.zero_le _, rfl, fun l hl => by omega, Below.refl _ _⟩
    case round =>
      obtain ⟨j, hj, rfl, hg, hb⟩ := hrel
      have HG := hide hg
      clear hg
      by_cases hlt : j < n
      · obtain ⟨b, off, rfl, hc⟩ := (hr.below hb).at hlt
        obtain ⟨b', off', rfl, hc'⟩ := (hr'.below hb).at hlt
        have hcj := hc j hlt
        have hcj' := hc' j hlt
        have hlt' : (j : Int) < (n : Int) := by omega
        clear hc hc'
        by_cases h1 : f j = f' j
        · have ht : (f j != f' j) = false := by simpa using h1
          have HE := hide h1
          clear h1
          go_wp2
          go_quiet (fail)
          go_wp2
          go_roundw
          case rel => exact ⟨j + 1, by omega, by go_num, fun l hl => by by_cases e : l = j; { subst e; exact unhide HE }; exact unhide HG l (by omega), below_drewN hb _⟩
          case measure => simp [intOf]; omega
        · have ht : (f j != f' j) = true := by simpa using h1
          have H : Hid (ahdV n f n f' = decide (f j < f' j)) := by
            show _ = _
            rw [ahdV, cmpV_at hlt h1 (unhide HG)]
            by_cases h2 : f j < f' j
            · simp [cmp_lt h2, h2]
            · rw [cmp_gt (by omega)]; simp [h2]
          clear h1
          go_wp2
          go_quiet (fail)
          go_wp2
          go_quiet (fail)
          go_wp2
          go_ret
          exact ⟨ret_bool (by rw [unhide H]), below_drewN (below_drewN hb _) _⟩
      · have he : j = n := by omega
        subst he
        have H : Hid (ahdV j f j f' = false) := by show _ = _; rw [ahdV, cmpV_same (unhide HG)]; rfl
        go_wp2
        go_ret
        exact ⟨ret_bool (by rw [unhide H]), hb⟩
  · have hne : ((n : Int) != (n' : Int)) = true := by simp; omega
    have H : Hid (ahdV n f n' f' = decide ((n : Int) < (n' : Int))) := by
      show _ = _
      rw [ahdV, cmpV_len hl]
      by_cases h2 : (n : Int) < (n' : Int)
      · rw [cmp_lt h2]; simp [h2]
      · rw [cmp_gt (by omega)]; simp; omega
    by_cases h2 : (n : Int) < (n' : Int)
    · have H2 : Hid (ahdV n f n' f' = true) := by show _ = _; rw [unhide H]; simp [h2]
      clear H
      go_enter Try.func43, Try.ntmps43
      go_wp2
      go_ret
      exact ⟨ret_bool (by rw [unhide H2]), Below.refl _ _⟩
    · have H2 : Hid (ahdV n f n' f' = false) := by show _ = _; rw [unhide H]; simp; omega
      clear H
      go_enter Try.func43, Try.ntmps43
      go_wp2
      go_ret
      exact ⟨ret_bool (by rw [unhide H2]), Below.refl _ _⟩

theorem ahdV_yes {n m : Nat} {f g : Nat → Int} (h : cmpV n f m g = -1) : ahdV n f m g = true := by simp [ahdV, h]
theorem ahdV_no {n m : Nat} {f g : Nat → Int} (h : cmpV n f m g ≠ -1) : ahdV n f m g = false := by simp [ahdV, h]

theorem rcompare_any (a a' : Option Addr) (n c n' c' : Nat) (f f' : Nat → Int) (w : World) (hr : Rd w a n f) (hr' : Rd w a' n' f') (hn : n ≤ maxLen) (hn' : n' ≤ maxLen) :
    Calls Try.prog 19 #[.slice a n c, .slice a' n' c'] w fun e w' => e = .returned (.int .i64 (cmpV n f n' f')) ∧ Below w.heap.size w w' := by
  have hneg := cmpV_neg n f n' f'
  have hrg := cmpV_range n f n' f'
  by_cases h1 : cmpV n f n' f' = -1
  · have A := ahdV_yes h1
    have H := hide h1
    clear h1 hneg hrg
    go_enter Try.func19, Try.ntmps19
    go_wp2_with fail
    refine (ahead_any a a' n c n' c' f f' w hr hr' hn hn').mono ?_
    rintro e w1 ⟨rfl, hb1⟩
    go_wp2
    go_ret
    exact ⟨ret_int (by rw [unhide H]), hb1⟩
  · have A := ahdV_no h1
    by_cases h2 : cmpV n f n' f' = 1
    · have A' := ahdV_yes (n := n') (f := f') (m := n) (g := f) (by rw [hneg, h2])
      have H := hide h2
      clear h1 h2 hneg hrg
      go_enter Try.func19, Try.ntmps19
      go_wp2_with fail
      refine (ahead_any a a' n c n' c' f f' w hr hr' hn hn').mono ?_
      rintro e w1 ⟨rfl, hb1⟩
      go_wp2_with fail
      refine (ahead_any a' a n' c' n c f' f w1 (hr'.below hb1) (hr.below hb1) hn' hn).mono ?_
      rintro e w2 ⟨rfl, hb2⟩
      go_wp2
      go_ret
      exact ⟨ret_int (by rw [unhide H]), hb1.trans (hb2.mono hb1.size)⟩
    · have h3 : cmpV n f n' f' = 0 := by omega
      have A' := ahdV_no (n := n') (f := f') (m := n) (g := f) (by rw [hneg, h3]; omega)
      have H := hide h3
      clear h1 h2 h3 hneg hrg
      go_enter Try.func19, Try.ntmps19
      go_wp2_with fail
      refine (ahead_any a a' n c n' c' f f' w hr hr' hn hn').mono ?_
      rintro e w1 ⟨rfl, hb1⟩
      go_wp2_with fail
      refine (ahead_any a' a n' c' n c f' f w1 (hr'.below hb1) (hr.below hb1) hn' hn).mono ?_
      rintro e w2 ⟨rfl, hb2⟩
      go_wp2
      go_ret
      exact ⟨ret_int (by rw [unhide H]), hb1.trans (hb2.mono hb1.size)⟩

end Go.Proofs.Ytpbceijlpkggpaa
