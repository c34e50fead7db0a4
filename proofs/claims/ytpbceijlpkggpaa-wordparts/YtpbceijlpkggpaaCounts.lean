/-
  What Mul, Count and the reference's Add, Mul, Count return, for all arguments.
-/
import Derived.Test.YtpbceijlpkggpaaSmall
import Derived.Test.YtpbceijlpkggpaaMath
namespace Go.Proofs.Ytpbceijlpkggpaa
open Go.RowKit

theorem mul_any (a b : Int) (w : World) : Calls Try.prog 33 #[.int .i64 a, .int .i64 b] w fun e w' => e = .returned (.tuple #[.int .i64 (mulV a b).1, .int .i64 (mulV a b).2]) ∧ w' = w := by
  by_cases ha : 0 ≤ a ∧ a ≤ 1099511627776
  · obtain ⟨a0, a1⟩ := ha
    have ca := cnt_yes a0 a1
    by_cases hb : 0 ≤ b ∧ b ≤ 1099511627776
    · obtain ⟨b0, b1⟩ := hb
      have cb := cnt_yes b0 b1
      by_cases hz : 0 < b
      · have hq := over_iff (a := a) hz
        by_cases hs : 1099511627776 < a * b
        · have H := hide (mulV_over a0 b0 a1 b1 hs)
          have hd : 1099511627776 / b < a := hq.2 hs
          clear hq
          go_enter Try.func33, Try.ntmps33
          go_wp2_with (go_at_call 46; refine (isCounter_any _ _).mono ?_; rintro e w' ⟨rfl, rfl⟩)
          go_ret2
          exact ⟨by rw [unhide H]; rfl, rfl⟩
        · have H := hide (mulV_ok a0 b0 a1 b1 (by omega))
          have hd : a ≤ 1099511627776 / b := by have := mt hq.1 hs; omega
          have hp : 0 ≤ a * b := Int.mul_nonneg a0 b0
          clear hq
          go_enter Try.func33, Try.ntmps33
          go_wp2_with (go_at_call 46; refine (isCounter_any _ _).mono ?_; rintro e w' ⟨rfl, rfl⟩)
          go_ret2
          exact ⟨by rw [unhide H]; rfl, rfl⟩
      · have hb0 : b = 0 := by omega
        subst hb0
        have H := hide (mulV_ok a0 b0 a1 b1 (by omega))
        go_enter Try.func33, Try.ntmps33
        go_wp2_with (go_at_call 46; refine (isCounter_any _ _).mono ?_; rintro e w' ⟨rfl, rfl⟩)
        go_ret2
        exact ⟨by rw [unhide H]; simp, rfl⟩
    · have cb := cnt_no (k := b) (by omega)
      have H := hide (mulV_arg (a := a) (b := b) (by omega))
      go_enter Try.func33, Try.ntmps33
      go_wp2_with (go_at_call 46; refine (isCounter_any _ _).mono ?_; rintro e w' ⟨rfl, rfl⟩)
      go_ret2
      exact ⟨by rw [unhide H]; rfl, rfl⟩
  · have ca := cnt_no (k := a) (by omega)
    have H := hide (mulV_arg (a := a) (b := b) (by omega))
    go_enter Try.func33, Try.ntmps33
    go_wp2_with (go_at_call 46; refine (isCounter_any _ _).mono ?_; rintro e w' ⟨rfl, rfl⟩)
    go_ret2
    exact ⟨by rw [unhide H]; rfl, rfl⟩

theorem radd_any (a b : Int) (w : World) : Calls Try.prog 32 #[.int .i64 a, .int .i64 b] w fun e w' => e = .returned (.tuple #[.int .i64 (addV a b).1, .int .i64 (addV a b).2]) ∧ w' = w := by
  by_cases h : a < 0 ∨ b < 0 ∨ 1099511627776 < a ∨ 1099511627776 < b
  · have H : Hid (addV a b = (0, 1)) := by unfold addV; rw [if_pos h]; exact rfl
    rcases h with h | h | h | h
    · go_enter Try.func32, Try.ntmps32
      go_wp2
      go_ret2
      exact ⟨by rw [unhide H]; rfl, rfl⟩
    · by_cases h1 : a < 0
      · go_enter Try.func32, Try.ntmps32
        go_wp2
        go_ret2
        exact ⟨by rw [unhide H]; rfl, rfl⟩
      · go_enter Try.func32, Try.ntmps32
        go_wp2
        go_ret2
        exact ⟨by rw [unhide H]; rfl, rfl⟩
    · by_cases h2 : b < 0
      · go_enter Try.func32, Try.ntmps32
        go_wp2
        go_ret2
        exact ⟨by rw [unhide H]; rfl, rfl⟩
      · go_enter Try.func32, Try.ntmps32
        go_wp2
        go_ret2
        exact ⟨by rw [unhide H]; rfl, rfl⟩
    · by_cases h1 : a < 0
      · go_enter Try.func32, Try.ntmps32
        go_wp2
        go_ret2
        exact ⟨by rw [unhide H]; rfl, rfl⟩
      · by_cases h2 : 1099511627776 < a
        · go_enter Try.func32, Try.ntmps32
          go_wp2
          go_ret2
          exact ⟨by rw [unhide H]; rfl, rfl⟩
        · go_enter Try.func32, Try.ntmps32
          go_wp2
          go_ret2
          exact ⟨by rw [unhide H]; rfl, rfl⟩
  · have h0 : 0 ≤ a := by omega
    have h1 : 0 ≤ b := by omega
    have h2 : a ≤ 1099511627776 := by omega
    have h3 : b ≤ 1099511627776 := by omega
    by_cases hs : 1099511627776 < a + b
    · have H : Hid (addV a b = (0, 11)) := by unfold addV; rw [if_neg h, if_pos hs]; exact rfl
      clear h
      go_enter Try.func32, Try.ntmps32
      go_wp2
      go_ret2
      exact ⟨by rw [unhide H]; rfl, rfl⟩
    · have H : Hid (addV a b = (a + b, 0)) := by unfold addV; rw [if_neg h, if_neg hs]; exact rfl
      clear h
      go_enter Try.func32, Try.ntmps32
      go_wp2
      go_ret2
      exact ⟨by rw [unhide H]; rfl, rfl⟩

theorem rmul_any (a b : Int) (w : World) : Calls Try.prog 34 #[.int .i64 a, .int .i64 b] w fun e w' => e = .returned (.tuple #[.int .i64 (mulV a b).1, .int .i64 (mulV a b).2]) ∧ w' = w := by
  by_cases h : a < 0 ∨ b < 0 ∨ 1099511627776 < a ∨ 1099511627776 < b
  · have H := hide (mulV_arg h)
    by_cases h1 : a < 0
    · clear h
      go_enter Try.func34, Try.ntmps34
      go_wp2
      go_ret2
      exact ⟨by rw [unhide H]; rfl, rfl⟩
    · by_cases h2 : b < 0
      · clear h
        go_enter Try.func34, Try.ntmps34
        go_wp2
        go_ret2
        exact ⟨by rw [unhide H]; rfl, rfl⟩
      · by_cases h3 : 1099511627776 < a
        · clear h
          go_enter Try.func34, Try.ntmps34
          go_wp2
          go_ret2
          exact ⟨by rw [unhide H]; rfl, rfl⟩
        · have h4 : 1099511627776 < b := by omega
          clear h
          go_enter Try.func34, Try.ntmps34
          go_wp2
          go_ret2
          exact ⟨by rw [unhide H]; rfl, rfl⟩
  · have h0 : 0 ≤ a := by omega
    have h1 : 0 ≤ b := by omega
    have h2 : a ≤ 1099511627776 := by omega
    have h3 : b ≤ 1099511627776 := by omega
    clear h
    have H0 : Hid (a * (b / 2 ^ 41) = 0) := by rw [shr_top h1 h3]; exact Int.mul_zero a
    go_enter Try.func34, Try.ntmps34
    go_wp2
    go_loop [6, 7] (fun s i => ∃ k : Nat, k ≤ 41 ∧ i = .int .i64 ((k : Int) - 1) ∧ s = .int .i64 (a * (b / 2 ^ k)) ∧ a * (b / 2 ^ k) ≤ 1099511627776) (fun _ i => (intOf i + 1).toNat)
    case atStart => exact ⟨41, by omega, rfl, by rw [unhide H0], by rw [unhide H0]; omega⟩
    case round =>
      obtain ⟨k, hk, rfl, rfl, hle⟩ := hrel
      have hnn := shr_nn h0 h1 k
      match k, hk, hle, hnn with
      | 0, hk, hle, hnn =>
        have H1 : Hid (a * (b / 2 ^ 0) = a * b) := by simp [Hid]
        have H := hide (mulV_ok h0 h1 h2 h3 (by rw [← unhide H1]; exact hle))
        generalize a * (b / 2 ^ 0) = s at *
        go_wp2
        go_ret2
        exact ⟨by rw [unhide H, ← unhide H1]; rfl, rfl⟩
      | k + 1, hk, hle, hnn =>
        have hst := shr_step a b k
        have hle2 := shr_le h0 h1 k
        have hnn2 := shr_nn h0 h1 k
        by_cases hbit : b / 2 ^ k % 2 = 1
        · have ht := bit_yes hbit
          have H1 : Hid (a * (b / 2 ^ k) = 2 * (a * (b / 2 ^ (k + 1))) + a) := by rw [hbit] at hst; show _ = _; omega
          clear hst hbit
          by_cases ho : 1099511627776 < 2 * (a * (b / 2 ^ (k + 1))) + a
          · have H := hide (mulV_over h0 h1 h2 h3 (by have := unhide H1; omega))
            go_wp2
            go_ret2
            exact ⟨by rw [unhide H]; rfl, rfl⟩
          · go_wp2
            go_round
            case rel => exact ⟨k, by omega, rfl, by rw [unhide H1], by rw [unhide H1]; omega⟩
            case measure => simp [intOf]
        · have ht := bit_no (n := b / 2 ^ k) (by omega)
          have H1 : Hid (a * (b / 2 ^ k) = 2 * (a * (b / 2 ^ (k + 1)))) := by rw [show b / 2 ^ k % 2 = 0 by omega] at hst; show _ = _; omega
          clear hst hbit
          by_cases ho : 1099511627776 < 2 * (a * (b / 2 ^ (k + 1)))
          · have H := hide (mulV_over h0 h1 h2 h3 (by have := unhide H1; omega))
            go_wp2
            go_ret2
            exact ⟨by rw [unhide H]; rfl, rfl⟩
          · go_wp2
            go_round
            case rel => exact ⟨k, by omega, rfl, by rw [unhide H1], by rw [unhide H1]; omega⟩
            case measure => simp [intOf]

theorem countV_arg {k n : Int} (h : k < 1 ∨ 64 < k ∨ n < 0) : countV k n = (0, 1) := by unfold countV; rw [if_pos h]
theorem countV_one {n : Int} (h : 0 ≤ n) : countV 1 n = if 1099511627776 ≤ n then (0, 11) else (n + 1, 0) := by unfold countV; rw [if_neg (by omega), if_pos rfl]
theorem countV_over {k : Int} {n j : Nat} (hk : 2 ≤ k) (hk' : k ≤ 64) (hj : j ≤ n) (h : 1099511627776 < geo k j) : countV k n = (0, 11) := by
  unfold countV
  rw [if_neg (by omega), if_neg (by omega), if_pos]
  have := geo_mono (k := k) (by omega) hj
  simp only [Int.toNat_natCast]; omega
theorem countV_ok {k : Int} {n : Nat} (hk : 2 ≤ k) (hk' : k ≤ 64) (h : geo k n ≤ 1099511627776) : countV k n = (geo k n, 0) := by
  unfold countV
  rw [if_neg (by omega), if_neg (by omega), if_neg]
  · simp only [Int.toNat_natCast]
  · simp only [Int.toNat_natCast]; omega

theorem mul_over (a b : Int) (w : World) (ha : 0 ≤ a) (hb : 0 ≤ b) (ha' : a ≤ 1099511627776) (hb' : b ≤ 1099511627776) (h : 1099511627776 < a * b) :
    Calls Try.prog 33 #[.int .i64 a, .int .i64 b] w fun e w' => e = .returned (.tuple #[.int .i64 0, .int .i64 11]) ∧ w' = w := by
  have := mul_any a b w; rw [mulV_over ha hb ha' hb' h] at this; exact this
theorem mul_ok (a b : Int) (w : World) (ha : 0 ≤ a) (hb : 0 ≤ b) (ha' : a ≤ 1099511627776) (hb' : b ≤ 1099511627776) (h : a * b ≤ 1099511627776) :
    Calls Try.prog 33 #[.int .i64 a, .int .i64 b] w fun e w' => e = .returned (.tuple #[.int .i64 (a * b), .int .i64 0]) ∧ w' = w := by
  have := mul_any a b w; rw [mulV_ok ha hb ha' hb' h] at this; exact this
theorem add_over (a : Int) (w : World) (ha : a = 1099511627776) :
    Calls Try.prog 31 #[.int .i64 a, .int .i64 1] w fun e w' => e = .returned (.tuple #[.int .i64 0, .int .i64 11]) ∧ w' = w := by
  subst ha; exact add_any _ 1 w
theorem add_ok (a : Int) (w : World) (ha : 0 ≤ a) (ha' : a < 1099511627776) :
    Calls Try.prog 31 #[.int .i64 a, .int .i64 1] w fun e w' => e = .returned (.tuple #[.int .i64 (a + 1), .int .i64 0]) ∧ w' = w := by
  have := add_any a 1 w
  rw [show addV a 1 = (a + 1, 0) by unfold addV; rw [if_neg (by omega), if_neg (by omega)]] at this; exact this

set_option maxRecDepth 100000 in
theorem count_any (k n : Int) (w : World) (hn : n ≤ 9223372036854775807) : Calls Try.prog 35 #[.int .i64 k, .int .i64 n] w fun e w' => e = .returned (.tuple #[.int .i64 (countV k n).1, .int .i64 (countV k n).2]) ∧ w' = w := by
  by_cases hk : 1 ≤ k ∧ k ≤ 64
  · obtain ⟨k0, k1⟩ := hk
    have ck := alp_yes k0 k1
    by_cases hn0 : n < 0
    · have H := hide (countV_arg (k := k) (n := n) (by omega))
      go_enter Try.func35, Try.ntmps35
      go_wp2_with (go_at_call 41; refine (isAlphabet_any _ _).mono ?_; rintro e w' ⟨rfl, rfl⟩)
      go_ret2
      exact ⟨by rw [unhide H]; rfl, rfl⟩
    · have hn1 : 0 ≤ n := by omega
      clear hn0
      by_cases h1 : k = 1
      · subst h1
        have h := countV_one hn1
        by_cases hM : 1099511627776 ≤ n
        · have H : Hid (countV 1 n = (0, 11)) := by rw [if_pos hM] at h; exact h
          clear h
          go_enter Try.func35, Try.ntmps35
          go_wp2_with (go_at_call 41; refine (isAlphabet_any _ _).mono ?_; rintro e w' ⟨rfl, rfl⟩)
          go_ret2
          exact ⟨by rw [unhide H]; rfl, rfl⟩
        · have H : Hid (countV 1 n = (n + 1, 0)) := by rw [if_neg hM] at h; exact h
          clear h
          go_enter Try.func35, Try.ntmps35
          go_wp2_with (go_at_call 41; refine (isAlphabet_any _ _).mono ?_; rintro e w' ⟨rfl, rfl⟩)
          go_ret2
          exact ⟨by rw [unhide H]; rfl, rfl⟩
      · obtain ⟨m, rfl⟩ := Int.eq_ofNat_of_zero_le hn1
        have hk1 : (k == 1) = false := by simpa using h1
        have k2 : 2 ≤ k := by omega
        clear h1
        go_enter Try.func35, Try.ntmps35
        go_wp2_with (go_at_call 41; refine (isAlphabet_any _ _).mono ?_; rintro e w' ⟨rfl, rfl⟩)
        go_loop [6, 23] (fun c i => ∃ j : Nat, j ≤ m ∧ i = .int .i64 j ∧ c = .int .i64 (geo k j) ∧ geo k j ≤ 1099511627776) (fun _ i => m - (intOf i).toNat)
        case atStart => exact ⟨0, Nat.zero_le _, rfl, rfl, by simp [geo]⟩
        case round =>
          obtain ⟨j, hj, rfl, rfl, hle⟩ := hrel
          have hp := geo_pos k0 j
          by_cases hlt : j < m
          · by_cases ho : 1099511627776 < geo k j * k
            · have H := hide (countV_over (n := m) (j := j + 1) k2 k1 (by omega) (by simp only [geo]; omega))
              go_wp2_with (go_at_call 33; refine (mul_over _ _ _ (by omega) (by omega) (by omega) (by omega) (by omega)).mono ?_; rintro e w' ⟨rfl, rfl⟩)
              go_ret2
              exact ⟨by rw [unhide H]; rfl, rfl⟩
            · have hnn : 0 ≤ geo k j * k := Int.mul_nonneg (by omega) (by omega)
              by_cases ho2 : geo k j * k = 1099511627776
              · have H := hide (countV_over (n := m) (j := j + 1) k2 k1 (by omega) (by simp only [geo]; omega))
                have HE := hide ho2
                clear ho2
                go_wp2_with (first | (go_at_call 33; refine (mul_ok _ _ _ (by omega) (by omega) (by omega) (by omega) (by omega)).mono ?_; rintro e w' ⟨rfl, rfl⟩) | (go_at_call 31; refine (add_over _ _ (by exact unhide HE)).mono ?_; rintro e w' ⟨rfl, rfl⟩))
                go_ret2
                exact ⟨by rw [unhide H]; rfl, rfl⟩
              · go_wp2_with (first | (go_at_call 33; refine (mul_ok _ _ _ (by omega) (by omega) (by omega) (by omega) (by omega)).mono ?_; rintro e w' ⟨rfl, rfl⟩) | (go_at_call 31; refine (add_ok _ _ (by omega) (by omega)).mono ?_; rintro e w' ⟨rfl, rfl⟩))
                go_round
                case rel => exact ⟨j + 1, by omega, by go_num, rfl, by simp only [geo]; omega⟩
                case measure => simp [intOf]; omega
          · have he : j = m := by omega
            subst he
            have H := hide (countV_ok (n := j) k2 k1 hle)
            go_wp2
            go_ret2
            exact ⟨by rw [unhide H]; rfl, rfl⟩
  · have ck := alp_no (k := k) (by omega)
    have H := hide (countV_arg (k := k) (n := n) (by omega))
    go_enter Try.func35, Try.ntmps35
    go_wp2_with (go_at_call 41; refine (isAlphabet_any _ _).mono ?_; rintro e w' ⟨rfl, rfl⟩)
    go_ret2
    exact ⟨by rw [unhide H]; rfl, rfl⟩

theorem rcount_any (k n : Int) (w : World) (hn : n ≤ 9223372036854775807) : Calls Try.prog 36 #[.int .i64 k, .int .i64 n] w fun e w' => e = .returned (.tuple #[.int .i64 (countV k n).1, .int .i64 (countV k n).2]) ∧ w' = w := by
  by_cases h1 : k < 1
  · have H := hide (countV_arg (k := k) (n := n) (by omega))
    go_enter Try.func36, Try.ntmps36
    go_wp2
    go_ret2
    exact ⟨by rw [unhide H]; rfl, rfl⟩
  · by_cases h2 : 64 < k
    · have H := hide (countV_arg (k := k) (n := n) (by omega))
      go_enter Try.func36, Try.ntmps36
      go_wp2
      go_ret2
      exact ⟨by rw [unhide H]; rfl, rfl⟩
    · by_cases h3 : n < 0
      · have H := hide (countV_arg (k := k) (n := n) (by omega))
        go_enter Try.func36, Try.ntmps36
        go_wp2
        go_ret2
        exact ⟨by rw [unhide H]; rfl, rfl⟩
      · obtain ⟨m, rfl⟩ := Int.eq_ofNat_of_zero_le (show 0 ≤ n by omega)
        have k0 : 1 ≤ k := by omega
        have k1 : k ≤ 64 := by omega
        clear h1 h2 h3
        by_cases h1 : k = 1
        · subst h1
          have h := countV_one (n := m) (by omega)
          by_cases hM : 1099511627776 ≤ (m : Int)
          · have H : Hid (countV 1 m = (0, 11)) := by rw [if_pos hM] at h; exact h
            clear h
            go_enter Try.func36, Try.ntmps36
            go_wp2
            go_ret2
            exact ⟨by rw [unhide H]; rfl, rfl⟩
          · have H : Hid (countV 1 m = ((m : Int) + 1, 0)) := by rw [if_neg hM] at h; exact h
            clear h
            go_enter Try.func36, Try.ntmps36
            go_wp2
            go_ret2
            exact ⟨by rw [unhide H]; rfl, rfl⟩
        · have hk1 : (k == 1) = false := by simpa using h1
          have k2 : 2 ≤ k := by omega
          clear h1
          go_enter Try.func36, Try.ntmps36
          go_wp2
          go_loop [6, 7, 8] (fun c r i => ∃ j : Nat, j ≤ m + 1 ∧ i = .int .i64 j ∧ c = .int .i64 (geo0 k j) ∧ r = .int .i64 (k ^ j) ∧ geo0 k j ≤ 1099511627776) (fun _ _ i => m + 1 - (intOf i).toNat)
          case atStart => exact ⟨0, Nat.zero_le _, rfl, rfl, by simp, by simp [geo0]⟩
          case round =>
            obtain ⟨j, hj, rfl, rfl, rfl, hle⟩ := hrel
            have hp := pow_pos' k0 j
            have hq := pow_bound k0 k1 hle
            have hg := geo0_nn k0 j
            have hjb := geo0_ge k0 j
            have hst := geo0_step k0 j
            by_cases hlt : j ≤ m
            · by_cases ho : 1099511627776 < geo0 k j + k ^ j
              · have H := hide (countV_over (n := m) (j := j) k2 k1 (by omega) (by rw [geo0] at hst; omega))
                clear hst
                go_wp2
                go_ret2
                exact ⟨by rw [unhide H]; rfl, rfl⟩
              · have H := hide hst
                have HP := hide (Int.pow_succ k j)
                have hr : k ^ j * k ≤ 64 * 1099511627776 * 64 := by
                  have h1 : k ^ j * k ≤ k ^ j * 64 := Int.mul_le_mul_of_nonneg_left k1 (by omega)
                  omega
                have hr0 : 0 ≤ k ^ j * k := Int.mul_nonneg (by omega) (by omega)
                clear hst
                go_wp2
                go_round
                case rel => exact ⟨j + 1, by omega, by go_num, by rw [unhide H], by rw [unhide HP], by rw [unhide H]; omega⟩
                case measure => simp [intOf]; omega
            · have he : j = m + 1 := by omega
              subst he
              have H := hide (countV_ok (n := m) k2 k1 hle)
              clear hst
              go_wp2
              go_ret2
              exact ⟨by rw [unhide H]; rfl, rfl⟩

end Go.Proofs.Ytpbceijlpkggpaa
