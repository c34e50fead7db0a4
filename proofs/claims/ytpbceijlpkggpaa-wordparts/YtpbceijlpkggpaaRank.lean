/-
  What Rank and the reference's Rank return, for every list and every k.
-/
import Derived.Test.YtpbceijlpkggpaaCheck
namespace Go.Proofs.Ytpbceijlpkggpaa
open Go.RowKit

theorem ne_bne {x : Int} (h : x ≠ 0) : (x != 0) = true := by simpa using h

theorem rank_any (a : Option Addr) (n c : Nat) (f : Nat → Int) (k : Int) (w : World) (hr : Rd w a n f) (hn : n ≤ maxLen) :
    Calls Try.prog 39 #[.slice a n c, .int .i64 k] w fun e w' => e = .returned (.tuple #[.int .i64 (rankV n f k).1, .int .i64 (rankV n f k).2]) ∧ w' = w := by
  rcases chkV_cases n f k with hw | ⟨hw, _, _⟩
  · have HC := chkV_word hw
    obtain ⟨k0, k1, hl2, hd⟩ := id hw
    have HW := hide hw
    have HD := hide hd
    clear hw hd
    go_enter Try.func39, Try.ntmps39
    go_wp2_with fail
    refine (check_any a n c f k w hr hn).mono ?_
    rw [HC]
    rintro e w' ⟨rfl, rfl⟩
    clear HC
    go_wp2
    go_loop [8, 21] (fun s i => ∃ j : Nat, j ≤ n ∧ i = .int .i64 j ∧ s = .int .i64 (rk f k j) ∧ rk f k j ≤ 1099511627776) (fun _ i => n - (intOf i).toNat)
    case atStart => exact ⟨0, Nat.zero_le _, rfl, rfl, by simp [rk]⟩
    case round =>
      obtain ⟨j, hj, rfl, rfl, hle⟩ := hrel
      have hnn := rk_nn (f := f) k0 (n := j) fun i hi => (unhide HD i (by omega)).1
      by_cases hlt : j < n
      · obtain ⟨b, off, rfl, hc⟩ := hr.at hlt
        have hcj := hc j hlt
        have hd1 := (unhide HD j hlt).1
        have hd2 := (unhide HD j hlt).2
        have hm1 : 0 ≤ rk f k j * k := Int.mul_nonneg hnn (by omega)
        have hm2 : rk f k j * k ≤ 1099511627776 * 64 := Int.mul_le_mul hle k1 (by omega) (by omega)
        clear hc
        by_cases ho : 1099511627776 < rk f k j * k + f j + 1
        · have H := hide (rankV_over (unhide HW) (j := j + 1) (by omega) (by simp only [rk]; omega))
          go_wp2
          go_ret2
          exact ⟨by rw [unhide H]; rfl, rfl⟩
        · go_wp2
          go_round
          case rel => exact ⟨j + 1, by omega, by go_num, rfl, by simp only [rk]; omega⟩
          case measure => simp [intOf]; omega
      · have he : j = n := by omega
        subst he
        have H := hide (rankV_ok (unhide HW) hle)
        go_wp2
        go_ret2
        exact ⟨by rw [unhide H]; rfl, rfl⟩
  · have H := hide (rankV_err hw)
    have hb := ne_bne hw
    clear hw
    go_enter Try.func39, Try.ntmps39
    go_wp2_with fail
    refine (check_any a n c f k w hr hn).mono ?_
    rintro e w' ⟨rfl, rfl⟩
    go_wp2
    go_ret2
    exact ⟨by rw [unhide H]; rfl, rfl⟩

theorem rrank_any (a : Option Addr) (n c : Nat) (f : Nat → Int) (k : Int) (w : World) (hr : Rd w a n f) (hn : n ≤ maxLen) :
    Calls Try.prog 40 #[.slice a n c, .int .i64 k] w fun e w' => e = .returned (.tuple #[.int .i64 (rankV n f k).1, .int .i64 (rankV n f k).2]) ∧ w' = w := by
  rcases chkV_cases n f k with hw | ⟨hw, _, _⟩
  · have HC := chkV_word hw
    obtain ⟨k0, k1, hl2, hd⟩ := id hw
    have HW := hide hw
    have HD := hide hd
    clear hw hd
    go_enter Try.func40, Try.ntmps40
    go_wp2_with fail
    refine (rcheck_any a n c f k w hr hn).mono ?_
    rw [HC]
    rintro e w' ⟨rfl, rfl⟩
    clear HC
    go_wp2
    go_loop [8, 9] (fun s i => ∃ j : Nat, j ≤ n ∧ i = .int .i64 j ∧ s = .int .i64 (rk f k j) ∧ rk f k j ≤ 1099511627776) (fun _ i => n - (intOf i).toNat)
    case atStart => exact ⟨0, Nat.zero_le _, rfl, rfl, by simp [rk]⟩
    case round =>
      obtain ⟨j, hj, rfl, rfl, hle⟩ := hrel
      have hnn := rk_nn (f := f) k0 (n := j) fun i hi => (unhide HD i (by omega)).1
      by_cases hlt : j < n
      · obtain ⟨b, off, rfl, hc⟩ := hr.at hlt
        have hcj := hc j hlt
        have hd1 := (unhide HD j hlt).1
        have hd2 := (unhide HD j hlt).2
        have hm1 : 0 ≤ rk f k j * k := Int.mul_nonneg hnn (by omega)
        have hm2 : rk f k j * k ≤ 1099511627776 * 64 := Int.mul_le_mul hle k1 (by omega) (by omega)
        clear hc
        by_cases ho : 1099511627776 < rk f k j * k + f j + 1
        · have H := hide (rankV_over (unhide HW) (j := j + 1) (by omega) (by simp only [rk]; omega))
          go_wp2
          go_ret2
          exact ⟨by rw [unhide H]; rfl, rfl⟩
        · go_wp2
          go_round
          case rel => exact ⟨j + 1, by omega, by go_num, rfl, by simp only [rk]; omega⟩
          case measure => simp [intOf]; omega
      · have he : j = n := by omega
        subst he
        have H := hide (rankV_ok (unhide HW) hle)
        go_wp2
        go_ret2
        exact ⟨by rw [unhide H]; rfl, rfl⟩
  · have H := hide (rankV_err hw)
    have hb := ne_bne hw
    clear hw
    go_enter Try.func40, Try.ntmps40
    go_wp2_with fail
    refine (rcheck_any a n c f k w hr hn).mono ?_
    rintro e w' ⟨rfl, rfl⟩
    go_wp2
    go_ret2
    exact ⟨by rw [unhide H]; rfl, rfl⟩

end Go.Proofs.Ytpbceijlpkggpaa
