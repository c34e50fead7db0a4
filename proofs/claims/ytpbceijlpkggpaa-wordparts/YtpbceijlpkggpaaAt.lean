/-
  What slices.Reverse does to a list of the call's own, and what At returns.
-/
import Derived.Test.YtpbceijlpkggpaaOwn
import Derived.Test.YtpbceijlpkggpaaRanks
import Derived.Test.YtpbceijlpkggpaaSmall
namespace Go.Proofs.Ytpbceijlpkggpaa
open Go.RowKit

/-- The first r and the last r places turned round. -/
def revTo (n r : Nat) (f : Nat → Int) (i : Nat) : Int := if i < r ∨ n ≤ i + r then f (n - 1 - i) else f i

theorem reverse_any (B n : Nat) (v : Value) (f : Nat → Int) (w : World) (hown : Own w B v n f) :
    Calls Try.prog 47 #[v] w fun e w' => e = .returned (.tuple #[]) ∧ Own w' B v n (fun i => f (n - 1 - i)) ∧ Below B w w' := by
  by_cases h0 : n = 0
  · subst h0
    obtain ⟨a, c, rfl, _⟩ := hown.shape
    go_enter Try.func47, Try.ntmps47
    go_wp2
    refine wp_loop_rounds 1 ?_
    rw [rounds_succ]
    go_wp2
    go_end0
    exact ⟨rfl, hown.congr fun i hi => by omega, Below.refl _ _⟩
  · obtain ⟨g, cap, rfl, hle, hmx, hBg, hgs, _, _⟩ := hown.pos (by omega)
    unfold maxLen at hmx
    go_enter Try.func47, Try.ntmps47
    go_wp2
    go_loopw [2, 3] (fun i j wr => ∃ r s : Nat, r + s + 1 = n ∧ r ≤ s + 1 ∧ i = .int .i64 r ∧ j = .int .i64 s ∧ Own wr B (.slice (some ⟨g, 0, none⟩) n cap) n (revTo n r f) ∧ Below B w wr) (fun _ j _ => (intOf j).toNat)
    case atStart => exact ⟨0, n - 1, by omega, by omega, rfl, by congr 1; omega, hown.congr fun i hi => by unfold revTo; rw [if_neg (by omega)], Below.refl _ _⟩
    case round =>
      obtain ⟨r, s, hsum, hrs, rfl, rfl, hownr, hbr⟩ := hrel
      have hrn : r < n := by omega
      have hsn : s < n := by omega
      obtain ⟨g', cap', e, _, _, _, _, hcell, hfr⟩ := hownr.pos (by omega)
      cases e
      have c1 := hcell r hrn
      have c2 := hcell s hsn
      have f1 := hfr r
      have f2 := hfr s
      have HS := hide hsum
      clear hcell hfr hsum
      by_cases hlt : r < s
      · go_wp2
        go_region
        all_goals go_wp2
        all_goals go_roundw
        case rel =>
          refine ⟨r + 1, s - 1, by have := unhide HS; omega, by omega, by go_num, by congr 1; omega, ((hownr.store r _).store s _).drew.congr fun i hi => ?_, ((hbr.setCell hBg _).setCell hBg _).drew⟩
          have := unhide HS
          unfold setF revTo
          by_cases h1 : i = s
          · rw [if_pos h1, if_neg (by omega), if_pos (by omega)]; congr 1; omega
          · rw [if_neg h1]
            by_cases h2 : i = r
            · rw [if_pos h2, if_neg (by omega), if_pos (by omega)]; congr 1; omega
            · rw [if_neg h2]
              by_cases h3 : i < r ∨ n ≤ i + r
              · rw [if_pos h3, if_pos (by omega)]
              · rw [if_neg h3, if_neg (by omega)]
        case measure => simp [intOf]; omega
      · go_wp2
        go_end0
        refine ⟨rfl, hownr.congr fun i hi => ?_, hbr⟩
        have := unhide HS
        unfold revTo
        by_cases h1 : i < r ∨ n ≤ i + r
        · rw [if_pos h1]
        · rw [if_neg h1, show n - 1 - i = i by omega]

/-- The error of At. -/
def atE (k i : Int) : Int := if k < 1 ∨ 64 < k ∨ i < 0 then 1 else if 1099511627776 < i then 11 else if k = 1 ∧ 4096 < i then 2 else 0
theorem atE_arg {k i : Int} (h : k < 1 ∨ 64 < k ∨ i < 0) : atE k i = 1 := by unfold atE; rw [if_pos h]
theorem atE_over {k i : Int} (h1 : 1 ≤ k) (h2 : k ≤ 64) (h : 1099511627776 < i) : atE k i = 11 := by unfold atE; rw [if_neg (by omega), if_pos h]
theorem atE_long {i : Int} (h : i ≤ 1099511627776) (h2 : 4096 < i) : atE 1 i = 2 := by unfold atE; rw [if_neg (by omega), if_neg (by omega), if_pos ⟨rfl, h2⟩]
theorem atE_ok {k i : Int} (h1 : 1 ≤ k) (h2 : k ≤ 64) (h3 : 0 ≤ i) (h : i ≤ 1099511627776) (h4 : 2 ≤ k ∨ i ≤ 4096) : atE k i = 0 := by unfold atE; rw [if_neg (by omega), if_neg (by omega), if_neg (by omega)]

/-- What At answers: nothing with an error; else the one word at that place. -/
def AtIs (k i : Int) (m : Nat) (g : Nat → Int) : Prop := (atE k i ≠ 0 → m = 0) ∧ (atE k i = 0 → m ≤ 4096 ∧ Dig m g k ∧ rk g k m = i)

/-- The numbers of d from the last one to the first, behind x. -/
def hrn (d : Nat → Int) (k : Int) : Nat → Int → Int
  | 0, x => x
  | t + 1, x => hrn d k t (x * k + d t + 1)
def rks (f : Nat → Int) (k x : Int) : Nat → Int
  | 0 => x
  | j + 1 => rks f k x j * k + f j + 1
theorem rks_front (f : Nat → Int) (k x : Int) : ∀ j, rks f k x (j + 1) = rks (fun p => f (p + 1)) k (x * k + f 0 + 1) j
  | 0 => rfl
  | j + 1 => by rw [rks, rks_front f k x j]; rfl
theorem rks_congr {f g : Nat → Int} {k x : Int} : ∀ {n}, (∀ i, i < n → f i = g i) → rks f k x n = rks g k x n
  | 0, _ => rfl
  | n + 1, h => by simp only [rks]; rw [rks_congr (n := n) fun i hi => h i (by omega), h n (by omega)]
theorem hrn_rks (d : Nat → Int) (k : Int) : ∀ t x, hrn d k t x = rks (fun p => d (t - 1 - p)) k x t
  | 0, _ => rfl
  | t + 1, x => by
    rw [hrn, hrn_rks d k t, rks_front]
    have e : t + 1 - 1 - 0 = t := by omega
    rw [e]
    exact rks_congr fun i hi => by congr 1; omega
theorem rks_rk (f : Nat → Int) (k : Int) : ∀ n, rks f k 0 n = rk f k n
  | 0 => rfl
  | n + 1 => by simp only [rks, rk]; rw [rks_rk f k n]
theorem hrn_congr {d d' : Nat → Int} {k : Int} : ∀ {t x}, (∀ i, i < t → d i = d' i) → hrn d k t x = hrn d' k t x
  | 0, _, _ => rfl
  | t + 1, x, h => by simp only [hrn]; rw [h t (by omega)]; exact hrn_congr fun i hi => h i (by omega)

/-- The digit that is found next. -/
theorem quo_step {k x : Int} : (x - 1) / k * k + (x - 1) % k + 1 = x := by
  have := Int.mul_ediv_add_emod (x - 1) k
  rw [Int.mul_comm] at this; omega

theorem two_pow_big {t : Nat} (h : 41 ≤ t) : (2199023255552 : Int) ≤ 2 ^ t := by
  obtain ⟨s, rfl⟩ : ∃ s, t = 41 + s := ⟨t - 41, by omega⟩
  have h1 := pow_pos' (k := 2) (by omega) s
  have e : (2 : Int) ^ 41 = 2199023255552 := by decide
  rw [Int.pow_add, e]; omega
theorem short_of {t : Nat} {y i : Int} (hy : 0 < y) (h : y * 2 ^ t ≤ i) (hi : i ≤ 1099511627776) : t ≤ 40 := by
  by_cases ht : 41 ≤ t
  · have h1 := two_pow_big ht
    have h2 : 1 * 2 ^ t ≤ y * 2 ^ t := Int.mul_le_mul_of_nonneg_right (by omega) (by omega)
    omega
  · omega
theorem half_step {k y i : Int} {t : Nat} (hk : 2 ≤ k) (hy : 0 < y) (h : y * 2 ^ t ≤ i) : (y - 1) / k * 2 ^ (t + 1) ≤ i := by
  have h1 : (y - 1) / k * k ≤ y - 1 := Int.ediv_mul_le _ (by omega)
  have h0 : 0 ≤ (y - 1) / k := Int.ediv_nonneg (by omega) (by omega)
  have h2 : (y - 1) / k * 2 ≤ (y - 1) / k * k := Int.mul_le_mul_of_nonneg_left hk h0
  have hp := pow_pos' (k := 2) (by omega) t
  have h3 : (y - 1) / k * 2 * 2 ^ t ≤ y * 2 ^ t := Int.mul_le_mul_of_nonneg_right (by omega) (by omega)
  have e : (y - 1) / k * 2 ^ (t + 1) = (y - 1) / k * 2 * 2 ^ t := by rw [Int.pow_succ, Int.mul_assoc, Int.mul_comm 2]
  omega
/-- What holds behind t rounds of At's loop. -/
structure AtInv (k i : Int) (y : Int) (t : Nat) (d : Nat → Int) : Prop where
  nn : 0 ≤ y
  le : y ≤ 1099511627776
  len : t ≤ 4096
  dig : Dig t d k
  val : hrn d k t y = i
  one : k = 1 → y + t = i
  two : 2 ≤ k → y * 2 ^ t ≤ i
theorem AtInv.step {k i y : Int} {t : Nat} {d : Nat → Int} (h : AtInv k i y t d) (hk : 1 ≤ k) (hy : 0 < y) (ht : t ≠ 4096) : AtInv k i ((y - 1) / k) (t + 1) (joinF t d (constF ((y - 1) % k))) := by
  have hm0 : 0 ≤ (y - 1) % k := Int.emod_nonneg _ (by omega)
  have hm1 : (y - 1) % k < k := Int.emod_lt_of_pos _ (by omega)
  refine ⟨Int.ediv_nonneg (by omega) (by omega), ?_, by have := h.len; omega, ?_, ?_, ?_, fun hk2 => half_step hk2 hy (h.two hk2)⟩
  · have := Int.ediv_le_self k (show 0 ≤ y - 1 by omega); have := h.le; omega
  · intro j hj
    by_cases e : j < t
    · rw [joinF_lt e]; exact h.dig j e
    · rw [joinF_ge (by omega)]; exact ⟨hm0, hm1⟩
  · rw [hrn, joinF_ge (Nat.le_refl _)]
    show hrn _ k t ((y - 1) / k * k + (y - 1) % k + 1) = i
    rw [quo_step, hrn_congr (d' := d) fun j hj => joinF_lt hj]
    exact h.val
  · intro e
    have := h.one e
    rw [e, Int.ediv_one]; omega
theorem AtInv.fin {k i : Int} {t : Nat} {d : Nat → Int} (h : AtInv k i 0 t d) (hk : 1 ≤ k) (hk2 : k ≤ 64) (hi : 0 ≤ i) (hi2 : i ≤ 1099511627776) : atE k i = 0 ∧ AtIs k i t fun p => d (t - 1 - p) := by
  have e : atE k i = 0 := atE_ok hk hk2 hi hi2 (by
    by_cases e : k = 1
    · have := h.one e; have := h.len; omega
    · omega)
  refine ⟨e, fun h2 => absurd e h2, fun _ => ⟨h.len, fun j hj => h.dig _ (by omega), ?_⟩⟩
  rw [← rks_rk, ← hrn_rks, h.val]
theorem AtInv.long {k i y : Int} {d : Nat → Int} (h : AtInv k i y 4096 d) (hk : 1 ≤ k) (hy : 0 < y) (hi2 : i ≤ 1099511627776) : atE k i = 2 := by
  by_cases e : k = 1
  · have := h.one e; subst e; exact atE_long hi2 (by omega)
  · have := short_of hy (h.two (by omega)) hi2; omega

set_option maxRecDepth 100000 in
theorem at_any (k i : Int) (w : World) : Calls Try.prog 37 #[.int .i64 k, .int .i64 i] w fun e w' =>
    ∃ v m g, e = .returned (.tuple #[v, .int .i64 (atE k i)]) ∧ Own w' w.heap.size v m g ∧ Below w.heap.size w w' ∧ AtIs k i m g := by
  by_cases hk : 1 ≤ k ∧ k ≤ 64
  · obtain ⟨k0, k1⟩ := hk
    have ck := alp_yes k0 k1
    by_cases hi0 : i < 0
    · have H := hide (atE_arg (k := k) (i := i) (by omega))
      go_enter Try.func37, Try.ntmps37
      go_wp2_with (go_at_call 41; refine (isAlphabet_any _ _).mono ?_; rintro e w' ⟨rfl, rfl⟩)
      go_ret2
      exact ⟨_, 0, fun _ => 0, by rw [unhide H]; rfl, Own.nil _ _ _, Below.refl _ _, fun _ => rfl, fun h => by rw [unhide H] at h; simp at h⟩
    · by_cases hi1 : 1099511627776 < i
      · have H := hide (atE_over (k := k) (i := i) k0 k1 hi1)
        go_enter Try.func37, Try.ntmps37
        go_wp2_with (go_at_call 41; refine (isAlphabet_any _ _).mono ?_; rintro e w' ⟨rfl, rfl⟩)
        go_ret2
        exact ⟨_, 0, fun _ => 0, by rw [unhide H]; rfl, Own.nil _ _ _, Below.refl _ _, fun _ => rfl, fun h => by rw [unhide H] at h; simp at h⟩
      · have hi2 : 0 ≤ i := by omega
        have hi3 : i ≤ 1099511627776 := by omega
        clear hi0 hi1
        go_enter Try.func37, Try.ntmps37
        go_wp2_with (go_at_call 41; refine (isAlphabet_any _ _).mono ?_; rintro e w' ⟨rfl, rfl⟩)
        go_loopw [1, 6] (fun x v wr => ∃ y t d, x = .int .i64 y ∧ AtInv k i y t d ∧ Own wr w'.heap.size v t d ∧ Below w'.heap.size w' wr) (fun x _ _ => (intOf x).toNat)
        case atStart => exact ⟨i, 0, fun _ => 0, rfl, ⟨hi2, hi3, by omega, fun j hj => by omega, rfl, fun _ => by simp, fun _ => by simp⟩, Own.nil _ _ _, Below.refl _ _⟩
        case round =>
          obtain ⟨y, t, d, rfl, hinv, hown, hbr⟩ := hrel
          have hy0 := hinv.nn
          have hy1 := hinv.le
          have htl := hinv.len
          have hszr := hbr.size
          have HI := hide hinv
          obtain ⟨ar, cr, rfl, hnilr, hcr, hrdr, hblk⟩ := hown.shape
          clear hinv hnilr hblk
          by_cases hy : 0 < y
          · by_cases h4 : t = 4096
            · subst h4
              have H := hide ((unhide HI).long k0 hy hi3)
              go_wp2
              go_ret2
              exact ⟨_, 0, fun _ => 0, by rw [unhide H]; rfl, Own.nil _ _ _, hbr, fun _ => rfl, fun h => by rw [unhide H] at h; simp at h⟩
            · have ht : ((t : Int) == 4096) = false := by simp; omega
              have HS := hide ((unhide HI).step k0 hy h4)
              have hd0 : 0 ≤ (y - 1) / k := (unhide HS).nn
              have hd1 : (y - 1) / k < y := by have := Int.ediv_le_self k (show 0 ≤ y - 1 by omega); omega
              clear h4
              go_wp2_with (at_builtin; refine wpl_append rfl (.tmp 25) (.tmp 30) rfl w'.heap.size _ t d rfl (hown.alloc _) (some ⟨wr.heap.size, 0, none⟩) 1 1 (constF ((y - 1) % k)) rfl (Rd.lit wr 1 (constF ((y - 1) % k)) _ (by unfold maxLen; omega) rfl) (by intro h; cases h) (by omega) (by simp; omega) ?_; intro v3 w3 hown3 hb3 _)
              go_roundw
              case rel => exact ⟨_, _, _, rfl, unhide HS, hown3, (hbr.alloc hszr _).trans hb3⟩
              case measure => simp [intOf]; omega
          · have he : y = 0 := by omega
            subst he
            obtain ⟨H1, H2⟩ := (unhide HI).fin k0 k1 hi2 hi3
            have H := hide H1
            clear H1
            go_wp2_with (go_at_call 47; refine (reverse_any w'.heap.size t _ d _ hown).mono ?_; rintro e w4 ⟨rfl, hown4, hb4⟩)
            go_ret2
            exact ⟨_, _, _, by rw [unhide H]; rfl, hown4, hbr.trans hb4, H2⟩
  · have ck := alp_no (k := k) (by omega)
    have H := hide (atE_arg (k := k) (i := i) (by omega))
    go_enter Try.func37, Try.ntmps37
    go_wp2_with (go_at_call 41; refine (isAlphabet_any _ _).mono ?_; rintro e w' ⟨rfl, rfl⟩)
    go_ret2
    exact ⟨_, 0, fun _ => 0, by rw [unhide H]; rfl, Own.nil _ _ _, Below.refl _ _, fun _ => rfl, fun h => by rw [unhide H] at h; simp at h⟩

end Go.Proofs.Ytpbceijlpkggpaa
