/-
  The law WordBetween returns true in every world, for all arguments, and turns nothing that was there.
-/
import Derived.Test.YtpbceijlpkggpaaLive
import Derived.Test.YtpbceijlpkggpaaArg
namespace Go.Proofs.Ytpbceijlpkggpaa
open Go.RowKit

theorem next_isword {n : Nat} {f : Nat → Int} {k : Int} (h : (nextV n f k).2.2 = 0) : IsWord n f k := by
  rcases chkV_cases n f k with h1 | ⟨h1, _⟩
  · exact h1
  · rw [nextV_err h1] at h; exact absurd h h1
theorem bneq {x : Int} (h : x ≠ 0) : (x != 0) = true := by simpa using h

theorem wordBetween_walk (a0 : Option Addr) (n0 c0 : Nat) (f0 : Nat → Int) (k : Int) (a2 : Option Addr) (n2 c2 : Nat) (f2 : Nat → Int) (w : World) (h0 : Arg w a0 n0 c0 f0) (_hk : Fits k) (h2 : Arg w a2 n2 c2 f2) :
    Calls Try.prog 9 #[.slice a0 n0 c0, .int .i64 k, .slice a2 n2 c2] w fun e w' => e = .returned (.bool true) ∧ Below w.heap.size w w' := by
  go_enter Try.func9, Try.ntmps9
  go_wp2_with fail
  refine (next_any a0 n0 c0 f0 k w h0.rd h0.nil h0.le h0.max).mono ?_
  rintro e w1 ⟨v, rfl, hown, hb1⟩
  go_wp2_with fail
  refine (check_any a2 n2 c2 f2 k w1 (h2.rd.below hb1) h2.max).mono ?_
  rintro e w' ⟨rfl, rfl⟩
  by_cases e1 : (nextV n0 f0 k).2.2 = 0
  · by_cases e2 : (chkV n2 f2 k).2 = 0
    · have W0 := next_isword e1
      have W2 := word_of_chk e2
      obtain ⟨WN, hr⟩ := next_word W0 e1
      have hC := chkV_word WN
      have c1 : cmpV n0 f0 (nextV n0 f0 k).1 (nextV n0 f0 k).2.1 = -1 := by
        rw [cmpV_rk W0.1 W0.2.2.2 WN.2.2.2, hr]; exact cmp_lt (by omega)
      have d1 := cmpV_rk W0.1 W2.2.2.2 W0.2.2.2
      have d2 := cmpV_rk W0.1 W2.2.2.2 WN.2.2.2
      rw [hr] at d2
      have hm : (nextV n0 f0 k).1 ≤ maxLen := by
        have := nextV_len n0 f0 k
        unfold maxLen; omega
      obtain ⟨a1, c1', rfl, hnil1, hle1, R1, _⟩ := hown.shape
      rw [e1, e2]
      generalize (chkV n2 f2 k).1 = z
      generalize (nextV n0 f0 k).1 = m at *
      generalize (nextV n0 f0 k).2.1 = q at *
      have HC := hide hC
      have HC1 := hide c1
      clear hown e1 e2 W0 W2 WN hr hC c1 hnil1
      go_wp2_with (first | (go_at_call 15; refine (num_any _ _).mono ?_; rintro e w' ⟨rfl, rfl⟩) | fail)
      refine (check_any a1 m c1' q k _ R1 hm).mono ?_
      rw [unhide HC]
      rintro e w1 ⟨rfl, rfl⟩
      go_wp2_with (first | (go_at_call 15; refine (num_any _ _).mono ?_; rintro e w' ⟨rfl, rfl⟩) | fail)
      refine (compare_any a0 a1 n0 c0 m c1' f0 q _ (h0.rd.below hb1) R1 h0.max hm).mono ?_
      rw [unhide HC1]
      rintro e w3 ⟨rfl, hb3⟩
      have B3 := bstep hb1 hb3
      have R3 := R1.below hb3
      go_wp2_with fail
      refine (compare_any a2 a0 n2 c2 n0 c0 f2 f0 w3 (h2.rd.below B3) (h0.rd.below B3) h2.max h0.max).mono ?_
      rintro e w4 ⟨rfl, hb4⟩
      have B4 := bstep B3 hb4
      have R4 := R3.below hb4
      by_cases hle : rk f2 k n2 ≤ rk f0 k n0
      · have hx : cmpV n2 f2 n0 f0 ≤ 0 := by
          rw [d1]
          rcases Int.lt_or_eq_of_le hle with h | h
          · rw [cmp_lt h]; omega
          · rw [cmp_eq h]; omega
        clear d1 d2 hle
        generalize cmpV n2 f2 n0 f0 = x at *
        go_wp2_with fail
        refine (live_any _).mono ?_
        rintro e wl ⟨rfl, hbl⟩
        have Bl := bstep B4 hbl
        go_wp2
        go_ret
        exact ⟨rfl, Bl⟩
      · have hx : 0 < cmpV n2 f2 n0 f0 := by rw [d1, cmp_gt (by omega)]; omega
        have hy : 0 ≤ cmpV n2 f2 m q := by
          rw [d2]
          by_cases h : rk f0 k n0 + 1 < rk f2 k n2
          · rw [cmp_gt h]; omega
          · rw [cmp_eq (by omega)]; omega
        clear d1 d2 hle
        generalize cmpV n2 f2 n0 f0 = x at *
        go_wp2_with fail
        refine (compare_any a2 a1 n2 c2 m c1' f2 q w4 (h2.rd.below B4) R4 h2.max hm).mono ?_
        rintro e w5 ⟨rfl, hb5⟩
        have B5 := bstep B4 hb5
        generalize cmpV n2 f2 m q = y at *
        go_wp2_with fail
        refine (live_any _).mono ?_
        rintro e wl ⟨rfl, hbl⟩
        have Bl := bstep B5 hbl
        go_wp2
        go_ret
        exact ⟨rfl, Bl⟩
    · have hb := bneq e2
      rw [e1]
      clear e1 e2
      generalize (chkV n2 f2 k).2 = y at *
      generalize (chkV n2 f2 k).1 = z at *
      go_wp2_with (first | (go_at_call 15; refine (num_any _ _).mono ?_; rintro e w' ⟨rfl, rfl⟩) | fail)
      refine (live_any _).mono ?_
      rintro e wl ⟨rfl, hbl⟩
      have Bl := bstep hb1 hbl
      go_wp2
      go_ret
      exact ⟨rfl, Bl⟩
  · have hb := bneq e1
    clear e1
    generalize (nextV n0 f0 k).2.2 = x at *
    generalize (chkV n2 f2 k).2 = y at *
    generalize (chkV n2 f2 k).1 = z at *
    go_wp2_with (first | (go_at_call 15; refine (num_any _ _).mono ?_; rintro e w' ⟨rfl, rfl⟩) | fail)
    refine (live_any _).mono ?_
    rintro e wl ⟨rfl, hbl⟩
    have Bl := bstep hb1 hbl
    go_wp2
    go_ret
    exact ⟨rfl, Bl⟩

end Go.Proofs.Ytpbceijlpkggpaa
