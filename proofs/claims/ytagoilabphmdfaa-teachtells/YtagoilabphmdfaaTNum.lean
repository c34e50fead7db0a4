/-
  The program's Number, the reference's Number: the same.
-/
import Derived.Test.YtagoilabphmdfaaUNum
import Derived.Test.YtagoilabphmdfaaTByt
namespace Go.Proofs.Ytagoilabphmdfaa
open Go.RowKit

/-- Bytes in memory. -/
theorem RdL.byte {w : World} {a : Option Addr} {b : List UInt8} (h : RdL .u8 w a (zs b)) {p : Nat} (hp : p < b.length) :
    ∃ g off, a = some ⟨g, off, none⟩ ∧ ∀ j, j < b.length → w.cell? ⟨g, off + j, none⟩ = some (.int .u8 (bt8 b j)) := by
  obtain ⟨g, off, e, hc⟩ := h.at (i := p) (by rw [zs_len]; exact hp)
  refine ⟨g, off, e, fun j hj => ?_⟩
  rw [hc j (by rw [zs_len]; exact hj), zs_getD hj]
  rfl
theorem ret3 {a b c a' b' c' : Int} (h1 : a = a') (h2 : b = b') (h3 : c = c') : Ending.returned (.tuple #[.int .i64 a, .int .i64 b, .int .i64 c]) = .returned (.tuple #[.int .i64 a', .int .i64 b', .int .i64 c']) := by rw [h1, h2, h3]

def isD (x : Int) : Bool := decide (48 ≤ x ∧ x ≤ 57)
theorem isDigit_any (x : Int) (w : World) : Calls Try.prog 66 #[.int .u8 x] w fun e w' => e = .returned (.bool (isD x)) ∧ w' = w := by
  by_cases h1 : 48 ≤ x
  · by_cases h2 : x ≤ 57
    · have H := hide (show isD x = true from decide_eq_true ⟨h1, h2⟩)
      go_enter Try.func66, Try.ntmps66
      go_wp2
      go_ret
      exact ⟨ret_bool (unhide H).symm, rfl⟩
    · have H := hide (show isD x = false from decide_eq_false (by omega))
      go_enter Try.func66, Try.ntmps66
      go_wp2
      go_ret
      exact ⟨ret_bool (unhide H).symm, rfl⟩
  · have H := hide (show isD x = false from decide_eq_false (by omega))
    go_enter Try.func66, Try.ntmps66
    go_wp2
    go_ret
    exact ⟨ret_bool (unhide H).symm, rfl⟩

set_option maxRecDepth 100000 in
set_option maxHeartbeats 2000000 in
theorem number_any (a : Option Addr) (c : Nat) (b : List UInt8) (x : Int) (w : World) (hr : RdL .u8 w a (zs b)) (hl : b.length ≤ 140737488355328) :
    Calls Try.prog 59 #[.slice a b.length c, .int .i64 x] w fun e w' => e = .returned (.tuple #[.int .i64 (nmV b x).1, .int .i64 (nmV b x).2.1, .int .i64 (nmV b x).2.2]) ∧ w' = w := by
  by_cases hx0 : x < 0
  · have H := hide (nmV_arg (b := b) (.inl hx0))
    go_enter Try.func59, Try.ntmps59
    go_wp2
    go_ret3
    exact ⟨ret3 (by rw [unhide H]) (by rw [unhide H]) (by rw [unhide H]), rfl⟩
  by_cases hx1 : (b.length : Int) < x
  · have H := hide (nmV_arg (b := b) (.inr hx1))
    go_enter Try.func59, Try.ntmps59
    go_wp2
    go_ret3
    exact ⟨ret3 (by rw [unhide H]) (by rw [unhide H]) (by rw [unhide H]), rfl⟩
  obtain ⟨i, rfl⟩ : ∃ i : Nat, x = i := ⟨x.toNat, by omega⟩
  have hi : i ≤ b.length := by omega
  have HN := hide (nmV_at hi)
  go_enter Try.func59, Try.ntmps59
  go_wp2
  go_loopw [4, 5] (fun n p wr => ∃ j : Nat, Hid (j ≤ (digs b i).length) ∧ j ≤ 4 ∧ i + j ≤ b.length ∧ (j ≤ 1 ∨ bt8 b i ≠ 48) ∧ n = .int .i64 (vj b i j) ∧ p = .int .i64 ((i : Int) + j) ∧ w = wr) (fun _ p _ => b.length - (intOf p).toNat)
  case atStart => exact ⟨0, hide (Nat.zero_le _), by omega, by omega, .inl (by omega), by rw [vj_zero]; rfl, by simp, rfl⟩
  case round =>
    obtain ⟨j, HJ, hj4, hjb, hj0, rfl, rfl, hwr⟩ := hrel
    subst hwr
    have hq : ∀ x0 y0 z0, numV b i = (x0, y0, z0) → nmV b i = ((x0 : Int), (y0 : Int), z0) := fun _ _ _ e => by rw [unhide HN, e]
    have HQ := hide hq
    clear hq
    by_cases hlt : i + j < b.length
    · obtain ⟨g, off, rfl, hc⟩ := hr.byte hlt
      have hcp := hc (i + j) hlt
      have hc0 := hc i (by omega)
      obtain ⟨hy0, hy1⟩ := bt8_lo b i
      obtain ⟨hz0, hz1⟩ := bt8_lo b (i + j)
      have hlt' : (i : Int) + (j : Int) < (b.length : Int) := by omega
      have hv0 : (0 : Int) ≤ (vj b i j : Int) := by omega
      by_cases hd : 48 ≤ bt8 b (i + j) ∧ bt8 b (i + j) ≤ 57
      · have hjl := dg_on (unhide HJ) hlt hd.1 hd.2
        have HL := hide hjl
        have HD := hide (show isD (bt8 b (i + j)) = true from decide_eq_true hd)
        obtain ⟨hd0, hd1⟩ := hd
        by_cases h4 : j = 4
        · have hn48 : bt8 b i ≠ 48 := by omega
          have HR := hide (unhide HQ _ _ _ (numV_many (by have := unhide HL; omega) hn48))
          subst h4
          clear hc hjl
          generalize bt8 b i = y at *
          generalize bt8 b (i + 4) = z at *
          go_wp2_with (go_at_call 66; refine (isDigit_any _ _).mono ?_; rw [unhide HD]; rintro e w' ⟨rfl, rfl⟩)
          go_ret3
          exact ⟨ret3 (by rw [unhide HR]; rfl) (by rw [unhide HR]; dsimp only; omega) (by rw [unhide HR]), rfl⟩
        · by_cases hz : 0 < j ∧ bt8 b i = 48
          · have hj1 : j = 1 := by omega
            have HR := hide (unhide HQ _ _ _ (numV_lead (by have := unhide HL; omega) hz.2))
            have HY := hide hz.2
            subst hj1
            have hy48 : (bt8 b i == 48) = true := by simp [hz.2]
            clear hc hjl hz
            generalize bt8 b i = y at *
            generalize bt8 b (i + 1) = z at *
            go_wp2_with (go_at_call 66; refine (isDigit_any _ _).mono ?_; rw [unhide HD]; rintro e w' ⟨rfl, rfl⟩)
            go_ret3
            exact ⟨ret3 (by rw [unhide HR]; rfl) (by rw [unhide HR]; dsimp only; omega) (by rw [unhide HR]), rfl⟩
          · have hv := vj_three (unhide HJ) (show j ≤ 3 by omega)
            have HV := hide (vj_succ (unhide HL))
            have HJ1 := hide (show j + 1 ≤ (digs b i).length from unhide HL)
            have HZ := hide (show j + 1 ≤ 1 ∨ bt8 b i ≠ 48 by omega)
            rcases Nat.eq_zero_or_pos j with h0 | h0
            · subst h0
              have hgt : ¬ ((i : Int) > (i : Int)) := by omega
              clear hc hjl hz hcp
              rw [Nat.add_zero] at *
              generalize bt8 b i = z at *
              go_wp2_with (go_at_call 66; refine (isDigit_any _ _).mono ?_; rw [unhide HD]; rintro e w' ⟨rfl, rfl⟩)
              go_roundw
              case rel => exact ⟨0 + 1, HJ1, by omega, by omega, unhide HZ, by rw [unhide HV], by go_num, by first | rfl | trivial⟩
              case measure => simp [intOf]; omega
            · have hne : (bt8 b i == 48) = false := by simp; omega
              clear hc hjl hz
              generalize bt8 b i = y at *
              generalize bt8 b (i + j) = z at *
              go_wp2_with (go_at_call 66; refine (isDigit_any _ _).mono ?_; rw [unhide HD]; rintro e w' ⟨rfl, rfl⟩)
              go_roundw
              case rel => exact ⟨j + 1, HJ1, by omega, by omega, unhide HZ, by rw [unhide HV], by go_num, by first | rfl | trivial⟩
              case measure => simp [intOf]; omega
      · have HK := hide (show (digs b i).length = j by
          rcases Nat.lt_or_ge j (digs b i).length with h | h
          · exact absurd (dg_more h).2.1 hd
          · have := unhide HJ; omega)
        have HD := hide (show isD (bt8 b (i + j)) = false from decide_eq_false hd)
        rcases Nat.eq_zero_or_pos j with h0 | h0
        · have HR := hide (unhide HQ _ _ _ (numV_none (by rw [unhide HK, h0])))
          subst h0
          clear hc hcp hd
          rw [Nat.add_zero] at *
          generalize bt8 b i = z at *
          go_wp2_with (go_at_call 66; refine (isDigit_any _ _).mono ?_; rw [unhide HD]; rintro e w' ⟨rfl, rfl⟩)
          go_ret3
          exact ⟨ret3 (by rw [unhide HR]; rfl) (by rw [unhide HR]) (by rw [unhide HR]), rfl⟩
        · have HR := hide (unhide HQ _ _ _ (numV_ok (by rw [unhide HK]; exact h0) (by rw [unhide HK]; exact hj4) (by rw [unhide HK]; exact hj0)))
          rw [unhide HK] at HR
          clear hc hc0 hd
          generalize bt8 b i = y at *
          generalize bt8 b (i + j) = z at *
          go_wp2_with (go_at_call 66; refine (isDigit_any _ _).mono ?_; rw [unhide HD]; rintro e w' ⟨rfl, rfl⟩)
          go_ret3
          exact ⟨ret3 (by rw [unhide HR]) (by rw [unhide HR]; dsimp only; omega) (by rw [unhide HR]), rfl⟩
    · have HK := hide (show (digs b i).length = j by
        rcases Nat.lt_or_ge j (digs b i).length with h | h
        · exact absurd (dg_more h).1 hlt
        · have := unhide HJ; omega)
      have hge : ¬ ((i : Int) + (j : Int) < (b.length : Int)) := by omega
      rcases Nat.eq_zero_or_pos j with h0 | h0
      · have HR := hide (unhide HQ _ _ _ (numV_none (by rw [unhide HK, h0])))
        subst h0
        go_wp2
        go_ret3
        exact ⟨ret3 (by rw [unhide HR]; rfl) (by rw [unhide HR]) (by rw [unhide HR]), rfl⟩
      · have HR := hide (unhide HQ _ _ _ (numV_ok (by rw [unhide HK]; exact h0) (by rw [unhide HK]; exact hj4) (by rw [unhide HK]; exact hj0)))
        rw [unhide HK] at HR
        go_wp2
        go_ret3
        exact ⟨ret3 (by rw [unhide HR]) (by rw [unhide HR]; dsimp only; omega) (by rw [unhide HR]), rfl⟩

set_option maxRecDepth 100000 in
set_option maxHeartbeats 2000000 in
theorem rnumber_any (a : Option Addr) (c : Nat) (b : List UInt8) (x : Int) (w : World) (hr : RdL .u8 w a (zs b)) (hl : b.length ≤ 140737488355328) :
    Calls Try.prog 37 #[.slice a b.length c, .int .i64 x] w fun e w' => e = .returned (.tuple #[.int .i64 (nmV b x).1, .int .i64 (nmV b x).2.1, .int .i64 (nmV b x).2.2]) ∧ w' = w := by
  by_cases hx0 : x < 0
  · have H := hide (nmV_arg (b := b) (.inl hx0))
    go_enter Try.func37, Try.ntmps37
    go_wp2
    go_ret3
    exact ⟨ret3 (by rw [unhide H]) (by rw [unhide H]) (by rw [unhide H]), rfl⟩
  by_cases hx1 : (b.length : Int) < x
  · have H := hide (nmV_arg (b := b) (.inr hx1))
    go_enter Try.func37, Try.ntmps37
    go_wp2
    go_ret3
    exact ⟨ret3 (by rw [unhide H]) (by rw [unhide H]) (by rw [unhide H]), rfl⟩
  obtain ⟨i, rfl⟩ : ∃ i : Nat, x = i := ⟨x.toNat, by omega⟩
  have hi : i ≤ b.length := by omega
  have HN := hide (fun (x0 y0 : Nat) (z0 : Int) (e : numV b i = (x0, y0, z0)) => show nmV b i = ((x0 : Int), (y0 : Int), z0) by rw [nmV_at hi, e])
  go_enter Try.func37, Try.ntmps37
  go_wp2
  go_loopw [7] (fun k wr => ∃ j : Nat, Hid (j ≤ (digs b i).length) ∧ i + j ≤ b.length ∧ k = .int .i64 (j : Int) ∧ w = wr) (fun k _ => b.length - (intOf k).toNat)
  case atStart => exact ⟨0, hide (Nat.zero_le _), by omega, rfl, rfl⟩
  case round =>
    obtain ⟨j, HJ, hjb, rfl, hwr⟩ := hrel
    subst hwr
    by_cases hlt : i + j < b.length
    · obtain ⟨g, off, rfl, hc⟩ := hr.byte hlt
      have hcp := hc (i + j) hlt
      obtain ⟨hz0, hz1⟩ := bt8_lo b (i + j)
      have hlt' : (i : Int) + (j : Int) < (b.length : Int) := by omega
      by_cases hd : 48 ≤ bt8 b (i + j) ∧ bt8 b (i + j) ≤ 57
      · have HL := hide (dg_on (unhide HJ) hlt hd.1 hd.2)
        obtain ⟨hd0, hd1⟩ := hd
        clear hc
        generalize bt8 b (i + j) = z at *
        go_wp2
        go_roundw
        case rel => exact ⟨j + 1, HL, by omega, by go_num, by first | rfl | trivial⟩
        case measure => simp [intOf]; omega
      · have HK := hide (show (digs b i).length = j by
          rcases Nat.lt_or_ge j (digs b i).length with h | h
          · exact absurd (dg_more h).2.1 hd
          · have := unhide HJ; omega)
        by_cases hd0 : bt8 b (i + j) < 48
        · clear hd
          rcases Nat.eq_zero_or_pos j with h0 | h0
          · have HR := hide (unhide HN _ _ _ (numV_none (by rw [unhide HK, h0])))
            subst h0
            have hc0 := hc i (by omega)
            clear hc hcp
            rw [Nat.add_zero] at *
            generalize bt8 b i = z at *
            go_wp2
            go_ret3
            exact ⟨ret3 (by rw [unhide HR]; rfl) (by rw [unhide HR]) (by rw [unhide HR]), rfl⟩
          have hc0 := hc i (by omega)
          obtain ⟨hy0, hy1⟩ := bt8_lo b i
          have hi0 : (i : Int) < (b.length : Int) := by omega
          have HC := hide hc
          clear hc
          by_cases hz : 1 < j ∧ bt8 b i = 48
          · have HR := hide (unhide HN _ _ _ (numV_lead (by rw [unhide HK]; exact hz.1) hz.2))
            have hj1 := hz.1
            have hj1' : (j : Int) > 1 := by omega
            have hy48 : (bt8 b i == 48) = true := by simp [hz.2]
            clear hz
            generalize bt8 b (i + j) = z at *
            generalize bt8 b i = y at *
            go_wp2
            go_ret3
            exact ⟨ret3 (by rw [unhide HR]; rfl) (by rw [unhide HR]; dsimp only; omega) (by rw [unhide HR]), rfl⟩
          have HZ := hide (show (digs b i).length ≤ 1 ∨ bt8 b i ≠ 48 by rw [unhide HK]; omega)
          by_cases hj1 : j ≤ 1
          · have HR := hide (unhide HN _ _ _ (numV_ok (by rw [unhide HK]; exact h0) (by rw [unhide HK]; omega) (unhide HZ)))
            rw [unhide HK] at HR
            have hj1' : ¬ ((j : Int) > 1) := by omega
            clear hz
            generalize bt8 b (i + j) = z at *
            generalize bt8 b i = y at *
            go_wp2
            go_loopw [8, 9] (fun n p wr => ∃ t : Nat, t ≤ j ∧ n = .int .i64 (vj b i t : Int) ∧ p = .int .i64 ((i : Int) + (t : Int)) ∧ w = wr) (fun _ p _ => i + j - (intOf p).toNat)
            case atStart => exact ⟨0, Nat.zero_le _, by rw [vj_zero]; rfl, by simp, rfl⟩
            case round =>
              obtain ⟨t, ht, rfl, rfl, hwr⟩ := hrel
              subst hwr
              by_cases htj : t < j
              · have hct := unhide HC (i + t) (by omega)
                have HL : Hid (t < (digs b i).length) := hide (by rw [unhide HK]; exact htj)
                obtain ⟨hd0, hd1⟩ := (dg_more (unhide HL)).2.1
                have hv := vj_three (b := b) (i := i) (j := t) (by have := unhide HL; omega) (by omega)
                have hv0 : (0 : Int) ≤ (vj b i t : Int) := by omega
                have HV := hide (vj_succ (unhide HL))
                have htb : (i : Int) + (t : Int) < (b.length : Int) := by omega
                have htj' : (i : Int) + (t : Int) < (i : Int) + (j : Int) := by omega
                generalize bt8 b (i + t) = u at *
                go_wp2
                go_roundw
                case rel => exact ⟨t + 1, by omega, by rw [unhide HV], by go_num, by first | rfl | trivial⟩
                case measure => simp [intOf]; omega
              · have hte : t = j := by omega
                subst hte
                go_wp2
                go_ret3
                exact ⟨ret3 (by rw [unhide HR]) (by rw [unhide HR]; dsimp only; omega) (by rw [unhide HR]), rfl⟩
          have hy48 : (bt8 b i == 48) = false := by simp; omega
          have hj1' : (j : Int) > 1 := by omega
          by_cases h4 : 4 < j
          · have HR := hide (unhide HN _ _ _ (numV_many (by rw [unhide HK]; exact h4) (by omega)))
            have h4' : (j : Int) > 4 := by omega
            clear hz
            generalize bt8 b (i + j) = z at *
            generalize bt8 b i = y at *
            go_wp2
            go_ret3
            exact ⟨ret3 (by rw [unhide HR]; rfl) (by rw [unhide HR]; dsimp only; omega) (by rw [unhide HR]), rfl⟩
          · have HR := hide (unhide HN _ _ _ (numV_ok (by rw [unhide HK]; exact h0) (by rw [unhide HK]; omega) (unhide HZ)))
            rw [unhide HK] at HR
            have h4' : ¬ ((j : Int) > 4) := by omega
            clear hz
            generalize bt8 b (i + j) = z at *
            generalize bt8 b i = y at *
            go_wp2
            go_loopw [8, 9] (fun n p wr => ∃ t : Nat, t ≤ j ∧ n = .int .i64 (vj b i t : Int) ∧ p = .int .i64 ((i : Int) + (t : Int)) ∧ w = wr) (fun _ p _ => i + j - (intOf p).toNat)
            case atStart => exact ⟨0, Nat.zero_le _, by rw [vj_zero]; rfl, by simp, rfl⟩
            case round =>
              obtain ⟨t, ht, rfl, rfl, hwr⟩ := hrel
              subst hwr
              by_cases htj : t < j
              · have hct := unhide HC (i + t) (by omega)
                have HL : Hid (t < (digs b i).length) := hide (by rw [unhide HK]; exact htj)
                obtain ⟨hd0, hd1⟩ := (dg_more (unhide HL)).2.1
                have hv := vj_three (b := b) (i := i) (j := t) (by have := unhide HL; omega) (by omega)
                have hv0 : (0 : Int) ≤ (vj b i t : Int) := by omega
                have HV := hide (vj_succ (unhide HL))
                have htb : (i : Int) + (t : Int) < (b.length : Int) := by omega
                have htj' : (i : Int) + (t : Int) < (i : Int) + (j : Int) := by omega
                generalize bt8 b (i + t) = u at *
                go_wp2
                go_roundw
                case rel => exact ⟨t + 1, by omega, by rw [unhide HV], by go_num, by first | rfl | trivial⟩
                case measure => simp [intOf]; omega
              · have hte : t = j := by omega
                subst hte
                go_wp2
                go_ret3
                exact ⟨ret3 (by rw [unhide HR]) (by rw [unhide HR]; dsimp only; omega) (by rw [unhide HR]), rfl⟩
        · have hd1 : 57 < bt8 b (i + j) := by omega
          clear hd
          rcases Nat.eq_zero_or_pos j with h0 | h0
          · have HR := hide (unhide HN _ _ _ (numV_none (by rw [unhide HK, h0])))
            subst h0
            have hc0 := hc i (by omega)
            clear hc hcp
            rw [Nat.add_zero] at *
            generalize bt8 b i = z at *
            go_wp2
            go_ret3
            exact ⟨ret3 (by rw [unhide HR]; rfl) (by rw [unhide HR]) (by rw [unhide HR]), rfl⟩
          have hc0 := hc i (by omega)
          obtain ⟨hy0, hy1⟩ := bt8_lo b i
          have hi0 : (i : Int) < (b.length : Int) := by omega
          have HC := hide hc
          clear hc
          by_cases hz : 1 < j ∧ bt8 b i = 48
          · have HR := hide (unhide HN _ _ _ (numV_lead (by rw [unhide HK]; exact hz.1) hz.2))
            have hj1 := hz.1
            have hj1' : (j : Int) > 1 := by omega
            have hy48 : (bt8 b i == 48) = true := by simp [hz.2]
            clear hz
            generalize bt8 b (i + j) = z at *
            generalize bt8 b i = y at *
            go_wp2
            go_ret3
            exact ⟨ret3 (by rw [unhide HR]; rfl) (by rw [unhide HR]; dsimp only; omega) (by rw [unhide HR]), rfl⟩
          have HZ := hide (show (digs b i).length ≤ 1 ∨ bt8 b i ≠ 48 by rw [unhide HK]; omega)
          by_cases hj1 : j ≤ 1
          · have HR := hide (unhide HN _ _ _ (numV_ok (by rw [unhide HK]; exact h0) (by rw [unhide HK]; omega) (unhide HZ)))
            rw [unhide HK] at HR
            have hj1' : ¬ ((j : Int) > 1) := by omega
            clear hz
            generalize bt8 b (i + j) = z at *
            generalize bt8 b i = y at *
            go_wp2
            go_loopw [8, 9] (fun n p wr => ∃ t : Nat, t ≤ j ∧ n = .int .i64 (vj b i t : Int) ∧ p = .int .i64 ((i : Int) + (t : Int)) ∧ w = wr) (fun _ p _ => i + j - (intOf p).toNat)
            case atStart => exact ⟨0, Nat.zero_le _, by rw [vj_zero]; rfl, by simp, rfl⟩
            case round =>
              obtain ⟨t, ht, rfl, rfl, hwr⟩ := hrel
              subst hwr
              by_cases htj : t < j
              · have hct := unhide HC (i + t) (by omega)
                have HL : Hid (t < (digs b i).length) := hide (by rw [unhide HK]; exact htj)
                obtain ⟨hd0, hd1⟩ := (dg_more (unhide HL)).2.1
                have hv := vj_three (b := b) (i := i) (j := t) (by have := unhide HL; omega) (by omega)
                have hv0 : (0 : Int) ≤ (vj b i t : Int) := by omega
                have HV := hide (vj_succ (unhide HL))
                have htb : (i : Int) + (t : Int) < (b.length : Int) := by omega
                have htj' : (i : Int) + (t : Int) < (i : Int) + (j : Int) := by omega
                generalize bt8 b (i + t) = u at *
                go_wp2
                go_roundw
                case rel => exact ⟨t + 1, by omega, by rw [unhide HV], by go_num, by first | rfl | trivial⟩
                case measure => simp [intOf]; omega
              · have hte : t = j := by omega
                subst hte
                go_wp2
                go_ret3
                exact ⟨ret3 (by rw [unhide HR]) (by rw [unhide HR]; dsimp only; omega) (by rw [unhide HR]), rfl⟩
          have hy48 : (bt8 b i == 48) = false := by simp; omega
          have hj1' : (j : Int) > 1 := by omega
          by_cases h4 : 4 < j
          · have HR := hide (unhide HN _ _ _ (numV_many (by rw [unhide HK]; exact h4) (by omega)))
            have h4' : (j : Int) > 4 := by omega
            clear hz
            generalize bt8 b (i + j) = z at *
            generalize bt8 b i = y at *
            go_wp2
            go_ret3
            exact ⟨ret3 (by rw [unhide HR]; rfl) (by rw [unhide HR]; dsimp only; omega) (by rw [unhide HR]), rfl⟩
          · have HR := hide (unhide HN _ _ _ (numV_ok (by rw [unhide HK]; exact h0) (by rw [unhide HK]; omega) (unhide HZ)))
            rw [unhide HK] at HR
            have h4' : ¬ ((j : Int) > 4) := by omega
            clear hz
            generalize bt8 b (i + j) = z at *
            generalize bt8 b i = y at *
            go_wp2
            go_loopw [8, 9] (fun n p wr => ∃ t : Nat, t ≤ j ∧ n = .int .i64 (vj b i t : Int) ∧ p = .int .i64 ((i : Int) + (t : Int)) ∧ w = wr) (fun _ p _ => i + j - (intOf p).toNat)
            case atStart => exact ⟨0, Nat.zero_le _, by rw [vj_zero]; rfl, by simp, rfl⟩
            case round =>
              obtain ⟨t, ht, rfl, rfl, hwr⟩ := hrel
              subst hwr
              by_cases htj : t < j
              · have hct := unhide HC (i + t) (by omega)
                have HL : Hid (t < (digs b i).length) := hide (by rw [unhide HK]; exact htj)
                obtain ⟨hd0, hd1⟩ := (dg_more (unhide HL)).2.1
                have hv := vj_three (b := b) (i := i) (j := t) (by have := unhide HL; omega) (by omega)
                have hv0 : (0 : Int) ≤ (vj b i t : Int) := by omega
                have HV := hide (vj_succ (unhide HL))
                have htb : (i : Int) + (t : Int) < (b.length : Int) := by omega
                have htj' : (i : Int) + (t : Int) < (i : Int) + (j : Int) := by omega
                generalize bt8 b (i + t) = u at *
                go_wp2
                go_roundw
                case rel => exact ⟨t + 1, by omega, by rw [unhide HV], by go_num, by first | rfl | trivial⟩
                case measure => simp [intOf]; omega
              · have hte : t = j := by omega
                subst hte
                go_wp2
                go_ret3
                exact ⟨ret3 (by rw [unhide HR]) (by rw [unhide HR]; dsimp only; omega) (by rw [unhide HR]), rfl⟩
    · have HK := hide (show (digs b i).length = j by
        rcases Nat.lt_or_ge j (digs b i).length with h | h
        · exact absurd (dg_more h).1 hlt
        · have := unhide HJ; omega)
      have hge : ¬ ((i : Int) + (j : Int) < (b.length : Int)) := by omega
      rcases Nat.eq_zero_or_pos j with h0 | h0
      · have HR := hide (unhide HN _ _ _ (numV_none (by rw [unhide HK, h0])))
        subst h0
        go_wp2
        go_ret3
        exact ⟨ret3 (by rw [unhide HR]; rfl) (by rw [unhide HR]) (by rw [unhide HR]), rfl⟩
      obtain ⟨g, off, rfl, hc⟩ := hr.byte (p := i) (by omega)
      have hc0 := hc i (by omega)
      obtain ⟨hy0, hy1⟩ := bt8_lo b i
      have hi0 : (i : Int) < (b.length : Int) := by omega
      have HC := hide hc
      clear hc
      by_cases hz : 1 < j ∧ bt8 b i = 48
      · have HR := hide (unhide HN _ _ _ (numV_lead (by rw [unhide HK]; exact hz.1) hz.2))
        have hj1 := hz.1
        have hj1' : (j : Int) > 1 := by omega
        have hy48 : (bt8 b i == 48) = true := by simp [hz.2]
        clear hz
        generalize bt8 b i = y at *
        go_wp2
        go_ret3
        exact ⟨ret3 (by rw [unhide HR]; rfl) (by rw [unhide HR]; dsimp only; omega) (by rw [unhide HR]), rfl⟩
      have HZ := hide (show (digs b i).length ≤ 1 ∨ bt8 b i ≠ 48 by rw [unhide HK]; omega)
      by_cases hj1 : j ≤ 1
      · have HR := hide (unhide HN _ _ _ (numV_ok (by rw [unhide HK]; exact h0) (by rw [unhide HK]; omega) (unhide HZ)))
        rw [unhide HK] at HR
        have hj1' : ¬ ((j : Int) > 1) := by omega
        clear hz
        generalize bt8 b i = y at *
        go_wp2
        go_loopw [8, 9] (fun n p wr => ∃ t : Nat, t ≤ j ∧ n = .int .i64 (vj b i t : Int) ∧ p = .int .i64 ((i : Int) + (t : Int)) ∧ w = wr) (fun _ p _ => i + j - (intOf p).toNat)
        case atStart => exact ⟨0, Nat.zero_le _, by rw [vj_zero]; rfl, by simp, rfl⟩
        case round =>
          obtain ⟨t, ht, rfl, rfl, hwr⟩ := hrel
          subst hwr
          by_cases htj : t < j
          · have hct := unhide HC (i + t) (by omega)
            have HL : Hid (t < (digs b i).length) := hide (by rw [unhide HK]; exact htj)
            obtain ⟨hd0, hd1⟩ := (dg_more (unhide HL)).2.1
            have hv := vj_three (b := b) (i := i) (j := t) (by have := unhide HL; omega) (by omega)
            have hv0 : (0 : Int) ≤ (vj b i t : Int) := by omega
            have HV := hide (vj_succ (unhide HL))
            have htb : (i : Int) + (t : Int) < (b.length : Int) := by omega
            have htj' : (i : Int) + (t : Int) < (i : Int) + (j : Int) := by omega
            generalize bt8 b (i + t) = u at *
            go_wp2
            go_roundw
            case rel => exact ⟨t + 1, by omega, by rw [unhide HV], by go_num, by first | rfl | trivial⟩
            case measure => simp [intOf]; omega
          · have hte : t = j := by omega
            subst hte
            go_wp2
            go_ret3
            exact ⟨ret3 (by rw [unhide HR]) (by rw [unhide HR]; dsimp only; omega) (by rw [unhide HR]), rfl⟩
      have hy48 : (bt8 b i == 48) = false := by simp; omega
      have hj1' : (j : Int) > 1 := by omega
      by_cases h4 : 4 < j
      · have HR := hide (unhide HN _ _ _ (numV_many (by rw [unhide HK]; exact h4) (by omega)))
        have h4' : (j : Int) > 4 := by omega
        clear hz
        generalize bt8 b i = y at *
        go_wp2
        go_ret3
        exact ⟨ret3 (by rw [unhide HR]; rfl) (by rw [unhide HR]; dsimp only; omega) (by rw [unhide HR]), rfl⟩
      · have HR := hide (unhide HN _ _ _ (numV_ok (by rw [unhide HK]; exact h0) (by rw [unhide HK]; omega) (unhide HZ)))
        rw [unhide HK] at HR
        have h4' : ¬ ((j : Int) > 4) := by omega
        clear hz
        generalize bt8 b i = y at *
        go_wp2
        go_loopw [8, 9] (fun n p wr => ∃ t : Nat, t ≤ j ∧ n = .int .i64 (vj b i t : Int) ∧ p = .int .i64 ((i : Int) + (t : Int)) ∧ w = wr) (fun _ p _ => i + j - (intOf p).toNat)
        case atStart => exact ⟨0, Nat.zero_le _, by rw [vj_zero]; rfl, by simp, rfl⟩
        case round =>
          obtain ⟨t, ht, rfl, rfl, hwr⟩ := hrel
          subst hwr
          by_cases htj : t < j
          · have hct := unhide HC (i + t) (by omega)
            have HL : Hid (t < (digs b i).length) := hide (by rw [unhide HK]; exact htj)
            obtain ⟨hd0, hd1⟩ := (dg_more (unhide HL)).2.1
            have hv := vj_three (b := b) (i := i) (j := t) (by have := unhide HL; omega) (by omega)
            have hv0 : (0 : Int) ≤ (vj b i t : Int) := by omega
            have HV := hide (vj_succ (unhide HL))
            have htb : (i : Int) + (t : Int) < (b.length : Int) := by omega
            have htj' : (i : Int) + (t : Int) < (i : Int) + (j : Int) := by omega
            generalize bt8 b (i + t) = u at *
            go_wp2
            go_roundw
            case rel => exact ⟨t + 1, by omega, by rw [unhide HV], by go_num, by first | rfl | trivial⟩
            case measure => simp [intOf]; omega
          · have hte : t = j := by omega
            subst hte
            go_wp2
            go_ret3
            exact ⟨ret3 (by rw [unhide HR]) (by rw [unhide HR]; dsimp only; omega) (by rw [unhide HR]), rfl⟩

end Go.Proofs.Ytagoilabphmdfaa
