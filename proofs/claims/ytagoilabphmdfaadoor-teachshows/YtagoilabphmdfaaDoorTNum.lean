/-
  The program's Number, the reference's Number: the same.
-/
import Derived.Test.YtagoilabphmdfaaDoorUNum
import Derived.Test.YtagoilabphmdfaaDoorTByt
namespace Go.Proofs.YtagoilabphmdfaaDoor
open Go.RowKit

/-- Bytes in memory. -/
theorem RdL.byte {w : World} {a : Option Addr} {b : List UInt8} (h : RdL .u8 w a (zs b)) {p : Nat} (hp : p < b.length) :
    ∃ g off, a = some ⟨g, off, none⟩ ∧ ∀ j, j < b.length → w.cell? ⟨g, off + j, none⟩ = some (.int .u8 (bt8 b j)) := by
  obtain ⟨g, off, e, hc⟩ := h.at (i := p) (by rw [zs_len]; exact hp)
  refine ⟨g, off, e, fun j hj => ?_⟩
  rw [hc j (by rw [zs_len]; exact hj), zs_getD hj]
  rfl
theorem ret3 {a b c a' b' c' : Int} (h1 : a = a') (h2 : b = b') (h3 : c = c') : Ending.returned (.tuple #[.int .i64 a, .int .i64 b, .int .i64 c]) = .returned (.tuple #[.int .i64 a', .int .i64 b', .int .i64 c']) := by rw [h1, h2, h3]

def isD (x : Int) : Bool := decide (48 ≤ x ∧ x ≤ 57)
theorem isDigit_any (x : Int) (w : World) : Calls Tryd.prog 34 #[.int .u8 x] w fun e w' => e = .returned (.bool (isD x)) ∧ w' = w := by
  by_cases h1 : 48 ≤ x
  · by_cases h2 : x ≤ 57
    · have H := hide (show isD x = true from decide_eq_true ⟨h1, h2⟩)
      go_enter Tryd.func34, Tryd.ntmps34
      go_wp2
      go_ret
      exact ⟨ret_bool (unhide H).symm, rfl⟩
    · have H := hide (show isD x = false from decide_eq_false (by omega))
      go_enter Tryd.func34, Tryd.ntmps34
      go_wp2
      go_ret
      exact ⟨ret_bool (unhide H).symm, rfl⟩
  · have H := hide (show isD x = false from decide_eq_false (by omega))
    go_enter Tryd.func34, Tryd.ntmps34
    go_wp2
    go_ret
    exact ⟨ret_bool (unhide H).symm, rfl⟩

set_option maxRecDepth 100000 in
set_option maxHeartbeats 2000000 in
theorem number_any (a : Option Addr) (c : Nat) (b : List UInt8) (x : Int) (w : World) (hr : RdL .u8 w a (zs b)) (hl : b.length ≤ 140737488355328) :
    Calls Tryd.prog 31 #[.slice a b.length c, .int .i64 x] w fun e w' => e = .returned (.tuple #[.int .i64 (nmV b x).1, .int .i64 (nmV b x).2.1, .int .i64 (nmV b x).2.2]) ∧ w' = w := by
  by_cases hx0 : x < 0
  · have H := hide (nmV_arg (b := b) (.inl hx0))
    go_enter Tryd.func31, Tryd.ntmps31
    go_wp2
    go_ret3
    exact ⟨ret3 (by rw [unhide H]) (by rw [unhide H]) (by rw [unhide H]), rfl⟩
  by_cases hx1 : (b.length : Int) < x
  · have H := hide (nmV_arg (b := b) (.inr hx1))
    go_enter Tryd.func31, Tryd.ntmps31
    go_wp2
    go_ret3
    exact ⟨ret3 (by rw [unhide H]) (by rw [unhide H]) (by rw [unhide H]), rfl⟩
  obtain ⟨i, rfl⟩ : ∃ i : Nat, x = i := ⟨x.toNat, by omega⟩
  have hi : i ≤ b.length := by omega
  have HN := hide (nmV_at hi)
  go_enter Tryd.func31, Tryd.ntmps31
  go_wp2
  go_loopw [4, 5] (fun n p wr => ∃ j : Nat, Hid (j ≤ (digs b i).length) ∧ j ≤ 4 ∧ i + j ≤ b.length ∧ (j ≤ 1 ∨ bt8 b i ≠ 48) ∧ n = .int .i64 (vj b i j) ∧ p = .int .i64 ((i : Int) + j) ∧ w = wr) (fun _ p _ => b.length - (intOf p).toNat)
  case atStart => exact ⟨0, hide (Nat.zero_le _), by omega, by omega, .inl (by omega), by rw [vj_zero]; rfl, by simp, rfl⟩
  case round =>
    obtain ⟨j, HJ, hj4, hjb, hj0, rfl, rfl, hwr⟩ := hrel
    subst hwr
    have hq : ∀ x0 y0 z0, numV b i = (x0, y0, z0) → nmV b i = ((x0 : Int), (y0 : Int), z0) := fun _ _ _ e => by rw [unhide HN, e]
    have HQ := hide hq
    clear hq
    by_cases hlt : i + j < b.length
    · obtain ⟨g, off, rfl, hc⟩ := hr.byte hlt
      have hcp := hc (i + j) hlt
      have hc0 := hc i (by omega)
      obtain ⟨hy0, hy1⟩ := bt8_lo b i
      obtain ⟨hz0, hz1⟩ := bt8_lo b (i + j)
      have hlt' : (i : Int) + (j : Int) < (b.length : Int) := by omega
      have hv0 : (0 : Int) ≤ (vj b i j : Int) := by omega
      by_cases hd : 48 ≤ bt8 b (i + j) ∧ bt8 b (i + j) ≤ 57
      · have hjl := dg_on (unhide HJ) hlt hd.1 hd.2
        have HL := hide hjl
        have HD := hide (show isD (bt8 b (i + j)) = true from decide_eq_true hd)
        obtain ⟨hd0, hd1⟩ := hd
        by_cases h4 : j = 4
        · have hn48 : bt8 b i ≠ 48 := by omega
          have HR := hide (unhide HQ _ _ _ (numV_many (by have := unhide HL; omega) hn48))
          subst h4
          clear hc hjl
          generalize bt8 b i = y at *
          generalize bt8 b (i + 4) = z at *
          go_wp2_with (go_at_call 34; refine (isDigit_any _ _).mono ?_; rw [unhide HD]; rintro e w' ⟨rfl, rfl⟩)
          go_ret3
          exact ⟨ret3 (by rw [unhide HR]; rfl) (by rw [unhide HR]; dsimp only; omega) (by rw [unhide HR]), rfl⟩
        · by_cases hz : 0 < j ∧ bt8 b i = 48
          · have hj1 : j = 1 := by omega
            have HR := hide (unhide HQ _ _ _ (numV_lead (by have := unhide HL; omega) hz.2))
            have HY := hide hz.2
            subst hj1
            have hy48 : (bt8 b i == 48) = true := by simp [hz.2]
            clear hc hjl hz
            generalize bt8 b i = y at *
            generalize bt8 b (i + 1) = z at *
            go_wp2_with (go_at_call 34; refine (isDigit_any _ _).mono ?_; rw [unhide HD]; rintro e w' ⟨rfl, rfl⟩)
            go_ret3
            exact ⟨ret3 (by rw [unhide HR]; rfl) (by rw [unhide HR]; dsimp only; omega) (by rw [unhide HR]), rfl⟩
          · have hv := vj_three (unhide HJ) (show j ≤ 3 by omega)
            have HV := hide (vj_succ (unhide HL))
            have HJ1 := hide (show j + 1 ≤ (digs b i).length from unhide HL)
            have HZ := hide (show j + 1 ≤ 1 ∨ bt8 b i ≠ 48 by omega)
            rcases Nat.eq_zero_or_pos j with h0 | h0
            · subst h0
              have hgt : ¬ ((i : Int) > (i : Int)) := by omega
              clear hc hjl hz hcp
              rw [Nat.add_zero] at *
              generalize bt8 b i = z at *
              go_wp2_with (go_at_call 34; refine (isDigit_any _ _).mono ?_; rw [unhide HD]; rintro e w' ⟨rfl, rfl⟩)
              go_roundw
              case rel => exact ⟨0 + 1, HJ1, by omega, by omega, unhide HZ, by rw [unhide HV], by go_num, by first | rfl | trivial⟩
              case measure => simp [intOf]; omega
            · have hne : (bt8 b i == 48) = false := by simp; omega
              clear hc hjl hz
              generalize bt8 b i = y at *
              generalize bt8 b (i + j) = z at *
              go_wp2_with (go_at_call 34; refine (isDigit_any _ _).mono ?_; rw [unhide HD]; rintro e w' ⟨rfl, rfl⟩)
              go_roundw
              case rel => exact ⟨j + 1, HJ1, by omega, by omega, unhide HZ, by rw [unhide HV], by go_num, by first | rfl | trivial⟩
              case measure => simp [intOf]; omega
      · have HK := hide (show (digs b i).length = j by
          rcases Nat.lt_or_ge j (digs b i).length with h | h
          · exact absurd (dg_more h).2.1 hd
          · have := unhide HJ; omega)
        have HD := hide (show isD (bt8 b (i + j)) = false from decide_eq_false hd)
        rcases Nat.eq_zero_or_pos j with h0 | h0
        · have HR := hide (unhide HQ _ _ _ (numV_none (by rw [unhide HK, h0])))
          subst h0
          clear hc hcp hd
          rw [Nat.add_zero] at *
          generalize bt8 b i = z at *
          go_wp2_with (go_at_call 34; refine (isDigit_any _ _).mono ?_; rw [unhide HD]; rintro e w' ⟨rfl, rfl⟩)
          go_ret3
          exact ⟨ret3 (by rw [unhide HR]; rfl) (by rw [unhide HR]) (by rw [unhide HR]), rfl⟩
        · have HR := hide (unhide HQ _ _ _ (numV_ok (by rw [unhide HK]; exact h0) (by rw [unhide HK]; exact hj4) (by rw [unhide HK]; exact hj0)))
          rw [unhide HK] at HR
          clear hc hc0 hd
          generalize bt8 b i = y at *
          generalize bt8 b (i + j) = z at *
          go_wp2_with (go_at_call 34; refine (isDigit_any _ _).mono ?_; rw [unhide HD]; rintro e w' ⟨rfl, rfl⟩)
          go_ret3
          exact ⟨ret3 (by rw [unhide HR]) (by rw [unhide HR]; dsimp only; omega) (by rw [unhide HR]), rfl⟩
    · have HK := hide (show (digs b i).length = j by
        rcases Nat.lt_or_ge j (digs b i).length with h | h
        · exact absurd (dg_more h).1 hlt
        · have := unhide HJ; omega)
      have hge : ¬ ((i : Int) + (j : Int) < (b.length : Int)) := by omega
      rcases Nat.eq_zero_or_pos j with h0 | h0
      · have HR := hide (unhide HQ _ _ _ (numV_none (by rw [unhide HK, h0])))
        subst h0
        go_wp2
        go_ret3
        exact ⟨ret3 (by rw [unhide HR]; rfl) (by rw [unhide HR]) (by rw [unhide HR]), rfl⟩
      · have HR := hide (unhide HQ _ _ _ (numV_ok (by rw [unhide HK]; exact h0) (by rw [unhide HK]; exact hj4) (by rw [unhide HK]; exact hj0)))
        rw [unhide HK] at HR
        go_wp2
        go_ret3
        exact ⟨ret3 (by rw [unhide HR]) (by rw [unhide HR]; dsimp only; omega) (by rw [unhide HR]), rfl⟩

end Go.Proofs.YtagoilabphmdfaaDoor
