/-
  The reference's Put: the same digits.
-/
import Derived.Test.YtagoilabphmdfaaDoorTByt
import Derived.Lib.ItoaLen
namespace Go.Proofs.YtagoilabphmdfaaDoor
open Go.RowKit

theorem dec_small {u : Nat} (h : u < 10) : zs (Lib.decDigits u) = [48 + (u : Int)] := by
  rw [Lib.decDigits, dif_pos h]; simp [zs]; omega
theorem dec_big {u : Nat} (h : ¬ u < 10) : zs (Lib.decDigits u) = zs (Lib.decDigits (u / 10)) ++ [48 + ((u % 10 : Nat) : Int)] := by
  rw [Lib.decDigits, dif_neg h, zs_app]; simp [zs]; omega
theorem itoa_low {n : Int} (h : n < 0) (h1 : -10 < n) : zs (Lib.itoa n) = [45] ++ [48 - n] := by
  unfold Lib.itoa
  rw [if_pos h]
  have := dec_small (u := n.natAbs) (by omega)
  rw [show (45 : UInt8) :: Lib.decDigits n.natAbs = [45] ++ Lib.decDigits n.natAbs from rfl, zs_app, this]
  simp [zs]; omega
theorem tdiv_neg (m : Nat) : (-(m : Int)).tdiv 10 = -((m / 10 : Nat) : Int) := by
  rw [Int.neg_tdiv, Int.tdiv_eq_ediv_of_nonneg (by omega)]; simp
theorem tmod_neg (m : Nat) : (-(m : Int)).tmod 10 = -((m % 10 : Nat) : Int) := by
  rw [Int.neg_tmod, Int.tmod_eq_emod_of_nonneg (by omega)]; simp
theorem cons_app (l : List UInt8) : zs ((45 : UInt8) :: l) = [45] ++ zs l := by simp [zs]
theorem itoa_neg {m : Nat} (h : 10 ≤ m) : zs (Lib.itoa (-(m : Int))) = zs (Lib.itoa (-((m / 10 : Nat) : Int))) ++ [48 + ((m % 10 : Nat) : Int)] := by
  unfold Lib.itoa
  rw [if_pos (by omega), if_pos (by omega), cons_app, cons_app, Int.natAbs_neg, Int.natAbs_neg, Int.natAbs_natCast, Int.natAbs_natCast, dec_big (by omega), List.append_assoc]
theorem itoa_one {n : Int} (h : 0 ≤ n) (h1 : n < 10) : zs (Lib.itoa n) = [48 + n] := by
  unfold Lib.itoa
  rw [if_neg (by omega), dec_small (by omega)]
  simp; omega
theorem itoa_pos {n : Int} (h : 10 ≤ n) : zs (Lib.itoa n) = zs (Lib.itoa (n / 10)) ++ [48 + n % 10] := by
  unfold Lib.itoa
  rw [if_neg (by omega), if_neg (by omega), dec_big (by omega)]
  have e : (n / 10).toNat = n.toNat / 10 := by omega
  rw [e]
  simp; omega

set_option maxRecDepth 100000 in
set_option maxHeartbeats 2000000 in
theorem rput_any : ∀ (k : Nat) (n : Int) (w : World), n.natAbs < k → -9223372036854775808 ≤ n → n ≤ 9223372036854775807 →
    Calls Tryd.prog 17 #[.int .i64 n] w fun e w' => ∃ v, e = .returned v ∧ OwnL .u8 5 w' w.heap.size v (zs (Lib.itoa n)) ∧ Below w.heap.size w w'
  | 0, n, w, hk, h0, h1 => by omega
  | k + 1, n, w, hk, h0, h1 => by
    by_cases c1 : n < 0
    · by_cases c2 : -10 < n
      · have H := hide (itoa_low c1 c2)
        have hrd : RdL .u8 ((w.alloc (.cells #[.int .u8 45] 5)).alloc (.cells #[.int .u8 (48 - n)] 5)) (some ⟨w.heap.size + 1, 0, none⟩) [48 - n] := by
          have := RdL.one (q := .u8) (t := 5) (w.alloc (.cells #[.int .u8 45] 5)) (48 - n)
          simpa using this
        go_enter Tryd.func17, Tryd.ntmps17
        go_wp2_with (at_builtin; refine wpl_pushL e8 rfl (.tmp 9) (.tmp 13) rfl w.heap.size _ [45] rfl ((OwnL.lit w w.heap.size [45] _ (Nat.le_refl _) (by unfold maxLen; simp) rfl).alloc _) (some ⟨w.heap.size + 1, 0, none⟩) 1 [48 - n] rfl hrd (by intro h; cases h) (by simp only [List.length_cons, List.length_nil]; omega) (by simp; omega) ?_; intro v2 w2 hown2 hb2 _)
        go_ret
        refine ⟨v2, rfl, ?_, (((Below.refl _ _).alloc (Nat.le_refl _) _).alloc (by simp) _).trans hb2⟩
        rw [unhide H]
        exact hown2
      · obtain ⟨m, rfl⟩ : ∃ m : Nat, n = -(m : Int) := ⟨n.natAbs, by omega⟩
        have H0 := itoa_neg (show 10 ≤ m by omega)
        rw [show -((m / 10 : Nat) : Int) = -((m : Int) / 10) by omega, show ((m % 10 : Nat) : Int) = (m : Int) % 10 by omega] at H0
        have H := hide H0
        have hlen := Lib.itoa_length_le (-((m : Int) / 10)) (by omega) (by omega)
        rw [← zs_len] at hlen
        have ih := rput_any k (-((m : Int) / 10)) w (by omega) (by omega) (by omega)
        clear H0
        have hq := tdiv_neg m
        have hr := tmod_neg m
        go_enter Tryd.func17, Tryd.ntmps17
        go_wp2_with (first | (go_at_call 17; refine ih.mono ?_; rintro e w1 ⟨v1, rfl, hown1, hb1⟩; have hs1 := hb1.size) | (at_builtin; refine wpl_pushL e8 rfl (.tmp 19) (.tmp 24) rfl w.heap.size v1 (zs (Lib.itoa (-((m : Int) / 10)))) rfl (hown1.alloc _) (some ⟨w1.heap.size, 0, none⟩) 1 [48 + (m : Int) % 10] rfl (RdL.one w1 _) (by intro h; cases h) (by simp only [List.length_cons, List.length_nil]; omega) (by simp; omega) ?_; intro v2 w2 hown2 hb2 _))
        go_ret
        refine ⟨v2, rfl, ?_, (hb1.alloc hs1 _).trans hb2⟩
        rw [unhide H]
        exact hown2
    · by_cases c2 : n < 10
      · have H := hide (itoa_one (show 0 ≤ n by omega) c2)
        go_enter Tryd.func17, Tryd.ntmps17
        go_wp2
        go_ret
        refine ⟨_, rfl, ?_, (Below.refl _ _).alloc (Nat.le_refl _) _⟩
        rw [unhide H]
        exact OwnL.lit w w.heap.size [48 + n] _ (Nat.le_refl _) (by unfold maxLen; simp) rfl
      · have H := hide (itoa_pos (show 10 ≤ n by omega))
        have hlen := Lib.itoa_length_le (n / 10) (by omega) (by omega)
        rw [← zs_len] at hlen
        have ih := rput_any k (n / 10) w (by omega) (by omega) (by omega)
        go_enter Tryd.func17, Tryd.ntmps17
        go_wp2_with (first | (go_at_call 17; refine ih.mono ?_; rintro e w1 ⟨v1, rfl, hown1, hb1⟩; have hs1 := hb1.size) | (at_builtin; refine wpl_pushL e8 rfl (.tmp 34) (.tmp 39) rfl w.heap.size v1 (zs (Lib.itoa (n / 10))) rfl (hown1.alloc _) (some ⟨w1.heap.size, 0, none⟩) 1 [48 + n % 10] rfl (RdL.one w1 _) (by intro h; cases h) (by simp only [List.length_cons, List.length_nil]; omega) (by simp; omega) ?_; intro v2 w2 hown2 hb2 _))
        go_ret
        refine ⟨v2, rfl, ?_, (hb1.alloc hs1 _).trans hb2⟩
        rw [unhide H]
        exact hown2

end Go.Proofs.YtagoilabphmdfaaDoor
