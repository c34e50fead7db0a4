/-
  What the reference's At returns.
-/
import Derived.Test.YtpbceijlpkggpaaAt
namespace Go.Proofs.Ytpbceijlpkggpaa
open Go.RowKit

/-- What holds behind j digits: s are left, y is what they must tell. -/
structure RAtInv (k r : Int) (N j s : Nat) (g : Nat → Int) (y : Int) : Prop where
  sum : j + s = N
  nn : 0 ≤ y
  lt : y < k ^ s
  dig : Dig j g k
  val : (rk g k j - geo0 k j) * k ^ s + y = r
theorem RAtInv.step {k r y : Int} {N j s : Nat} {g : Nat → Int} (h : RAtInv k r N j (s + 1) g y) (hk : 1 ≤ k) : RAtInv k r N (j + 1) s (joinF j g (constF (y / k ^ s))) (y % k ^ s) := by
  have hp := pow_pos' hk s
  have e : k ^ (s + 1) = k ^ s * k := Int.pow_succ ..
  have h0 := h.nn
  have h1 := h.lt
  rw [e, Int.mul_comm] at h1
  have hq0 : 0 ≤ y / k ^ s := Int.ediv_nonneg h0 (by omega)
  have hq1 : y / k ^ s < k := Int.ediv_lt_of_lt_mul (by omega) h1
  have hsum := h.sum
  refine ⟨by omega, Int.emod_nonneg _ (by omega), Int.emod_lt_of_pos _ (by omega), ?_, ?_⟩
  · intro i hi
    by_cases c : i < j
    · rw [joinF_lt c]; exact h.dig i c
    · rw [joinF_ge (by omega)]; exact ⟨hq0, hq1⟩
  · have e1 : rk (joinF j g (constF (y / k ^ s))) k (j + 1) = rk g k j * k + y / k ^ s + 1 := by
      simp only [rk]
      rw [rk_congr (g := g) fun i hi => joinF_lt hi, joinF_ge (Nat.le_refl _)]; rfl
    have e2 := geo0_mul (k := k) j
    have e3 : rk g k j * k + y / k ^ s + 1 - (geo0 k j * k + 1) = (rk g k j - geo0 k j) * k + y / k ^ s := by rw [Int.sub_mul]; omega
    have e4 := Int.mul_ediv_add_emod y (k ^ s)
    have hv := h.val
    rw [e] at hv
    rw [e1, e2, e3, Int.add_mul, Int.mul_assoc, Int.mul_comm k, Int.mul_comm (y / k ^ s)]
    omega
theorem RAtInv.fin {k i y : Int} {N j : Nat} {g : Nat → Int} (h : RAtInv k (i - geo0 k N) N j 0 g y) : Dig N g k ∧ rk g k N = i := by
  obtain ⟨hs, h0, h1, hd, hv⟩ := h
  have : j = N := by omega
  subst this
  rw [Int.pow_zero] at h1 hv
  exact ⟨hd, by omega⟩
theorem len_of {k i : Int} {m : Nat} {g : Nat → Int} (hk : 2 ≤ k) (hd : Dig m g k) (h : rk g k m = i) (hi : i ≤ 1099511627776) : m ≤ 4096 := by
  have h1 := rk_lo (by omega) hd
  have h2 := geo0_two (k := k) hk m
  by_cases hm : 42 ≤ m
  · have := two_pow_big (t := m) (by omega); omega
  · omega

theorem pow_div {k : Int} (hk : 1 ≤ k) (s : Nat) : k ^ (s + 1) / k = k ^ s := by
  rw [Int.pow_succ]; exact Int.mul_ediv_cancel _ (by omega)

/-- What is left behind At. -/
def AtPost (w : World) (k i : Int) (e : Ending) (w' : World) : Prop :=
  ∃ v m g, e = .returned (.tuple #[v, .int .i64 (atE k i)]) ∧ Own w' w.heap.size v m g ∧ Below w.heap.size w w' ∧ AtIs k i m g
theorem AtPost.none {w w' : World} {k i x : Int} (h : atE k i = x) (hx : x ≠ 0) (hb : Below w.heap.size w w') : AtPost w k i (.returned (.tuple #[.slice none 0 0, .int .i64 x])) w' :=
  ⟨_, 0, fun _ => 0, by rw [h], Own.nil _ _ _, hb, fun _ => rfl, fun h2 => absurd (h.symm.trans h2) hx⟩
theorem AtPost.some {w w' : World} {k i : Int} {v : Value} {m : Nat} {g : Nat → Int} (h : atE k i = 0) (ho : Own w' w.heap.size v m g) (hb : Below w.heap.size w w') (h1 : m ≤ 4096) (h2 : Dig m g k) (h3 : rk g k m = i) :
    AtPost w k i (.returned (.tuple #[v, .int .i64 0])) w' := ⟨_, m, g, by rw [h], ho, hb, fun h2 => absurd h h2, fun _ => ⟨h1, h2, h3⟩⟩

set_option maxRecDepth 100000 in
theorem rat_post (k i : Int) (w : World) : Calls Try.prog 38 #[.int .i64 k, .int .i64 i] w fun e w' => AtPost w k i e w' := by
  by_cases hk0 : k < 1
  · have H := hide (atE_arg (k := k) (i := i) (by omega))
    go_enter Try.func38, Try.ntmps38
    go_wp2
    go_ret2
    exact AtPost.none (unhide H) (by omega) (Below.refl _ _)
  by_cases hk1 : 64 < k
  · have H := hide (atE_arg (k := k) (i := i) (by omega))
    go_enter Try.func38, Try.ntmps38
    go_wp2
    go_ret2
    exact AtPost.none (unhide H) (by omega) (Below.refl _ _)
  by_cases hi0 : i < 0
  · have H := hide (atE_arg (k := k) (i := i) (by omega))
    go_enter Try.func38, Try.ntmps38
    go_wp2
    go_ret2
    exact AtPost.none (unhide H) (by omega) (Below.refl _ _)
  have k0 : 1 ≤ k := by omega
  have k1 : k ≤ 64 := by omega
  have hi2 : 0 ≤ i := by omega
  clear hk0 hk1 hi0
  by_cases hi1 : 1099511627776 < i
  · have H := hide (atE_over (k := k) (i := i) k0 k1 hi1)
    go_enter Try.func38, Try.ntmps38
    go_wp2
    go_ret2
    exact AtPost.none (unhide H) (by omega) (Below.refl _ _)
  have hi3 : i ≤ 1099511627776 := by omega
  clear hi1
  by_cases h1 : k = 1
  · subst h1
    by_cases h4 : 4096 < i
    · have H := hide (atE_long hi3 h4)
      go_enter Try.func38, Try.ntmps38
      go_wp2
      go_ret2
      exact AtPost.none (unhide H) (by omega) (Below.refl _ _)
    · obtain ⟨n, rfl⟩ := Int.eq_ofNat_of_zero_le hi2
      have h5 : (n : Int) ≤ 4096 := by omega
      have H := hide (atE_ok (k := 1) (i := n) (by omega) (by omega) hi2 hi3 (.inr h5))
      clear h4
      go_enter Try.func38, Try.ntmps38
      go_wp2_with (at_make; refine wpl_make rfl (.tmp 26) (.tmp 26) rfl w.heap.size _ _ n rfl rfl rfl rfl (by omega) (Nat.le_refl _) ?_; intro w2 hown2 hb2 _)
      go_ret2
      refine AtPost.some (unhide H) hown2 hb2 (by omega) (fun j _ => ⟨Int.le_refl _, by simp⟩) ?_
      rw [rk_zero, geo0_one]
  · have hk1 : (k == 1) = false := by simpa using h1
    have k2 : 2 ≤ k := by omega
    have H := hide (atE_ok k0 k1 hi2 hi3 (.inl k2))
    clear h1
    go_enter Try.func38, Try.ntmps38
    go_wp2
    go_loop [1, 6, 7] (fun x n r => ∃ t : Nat, x = .int .i64 (i - geo0 k t) ∧ n = .int .i64 t ∧ r = .int .i64 (k ^ t) ∧ geo0 k t ≤ i) (fun x _ _ => (intOf x).toNat)
    case atStart => exact ⟨0, by simp [geo0], rfl, by simp, hi2⟩
    case round =>
      obtain ⟨t, rfl, rfl, rfl, hle⟩ := hrel
      have hp := pow_pos' k0 t
      have hq := pow_bound k0 k1 (show geo0 k t ≤ 1099511627776 by omega)
      have hg := geo0_nn k0 t
      have hjb := geo0_ge k0 t
      have HST := hide (geo0_step k0 t)
      have HP := hide (Int.pow_succ k t)
      by_cases hlt : k ^ t ≤ i - geo0 k t
      · have hr : k ^ t * k ≤ 64 * 1099511627776 * 64 := by
          have h1 : k ^ t * k ≤ k ^ t * 64 := Int.mul_le_mul_of_nonneg_left k1 (by omega)
          omega
        have hr0 : 0 ≤ k ^ t * k := Int.mul_nonneg (by omega) (by omega)
        go_wp2
        go_round
        case rel => exact ⟨t + 1, by rw [unhide HST]; go_num, by go_num, by rw [unhide HP], by have := unhide HST; omega⟩
        case measure => simp [intOf]; omega
      · have hI0 : RAtInv k (i - geo0 k t) t 0 t (fun _ => 0) (i - geo0 k t) := ⟨by omega, by omega, by omega, fun j hj => by omega, by simp [rk, geo0]⟩
        have HI0 := hide hI0
        clear hI0 HST HP
        go_wp2
        go_loopw [1, 7, 8, 9] (fun x r v jv wr => ∃ (j s : Nat) (g : Nat → Int) (y : Int), x = .int .i64 y ∧ r = .int .i64 (k ^ s) ∧ jv = .int .i64 j ∧ RAtInv k (i - geo0 k t) t j s g y ∧ Own wr w.heap.size v j g ∧ Below w.heap.size w wr) (fun _ _ _ jv _ => t - (intOf jv).toNat)
        case atStart => exact ⟨0, t, _, _, rfl, rfl, rfl, unhide HI0, Own.nil _ _ _, Below.refl _ _⟩
        case round =>
          obtain ⟨j, s, g, y, rfl, rfl, rfl, hinv, hown, hbr⟩ := hrel
          have hsum := hinv.sum
          have hy0 := hinv.nn
          have hszr := hbr.size
          have HI := hide hinv
          have HSUM := hide hsum
          obtain ⟨ar, cr, rfl, hnilr, hcr, hrdr, hblk⟩ := hown.shape
          clear hinv hnilr hblk
          by_cases hjt : j < t
          · match s, HI, hsum, HSUM with
            | 0, HI, hsum, HSUM => omega
            | s + 1, HI, hsum, HSUM =>
              have hdiv := pow_div k0 s
              have HS : Hid (RAtInv k (i - geo0 k t) t (j + 1) s (joinF j g (constF (y / (k ^ (s + 1) / k)))) (y % (k ^ (s + 1) / k))) := by rw [hdiv]; exact (unhide HI).step k0
              have hps : 1 ≤ k ^ (s + 1) / k := by rw [hdiv]; exact pow_pos' k0 s
              have hps1 := pow_pos' k0 (s + 1)
              have hq0 : 0 ≤ y % (k ^ (s + 1) / k) := (unhide HS).nn
              have hps2 : k ^ (s + 1) / k ≤ 64 * 1099511627776 := by rw [hdiv]; have := pow_mono k0 (show s ≤ t by omega); omega
              have hps3 : k ^ (s + 1) ≤ 64 * 1099511627776 := by have := pow_mono k0 (show s + 1 ≤ t by omega); omega
              have hdg := (unhide HS).dig j (by omega)
              rw [joinF_ge (Nat.le_refl _)] at hdg
              have hd0 : 0 ≤ y / (k ^ (s + 1) / k) := hdg.1
              have hd1 : y / (k ^ (s + 1) / k) < k := hdg.2
              have hylt : y < k ^ (s + 1) := (unhide HI).lt
              have HP := hide hdiv
              clear hsum hdiv hdg
              generalize k ^ (s + 1) = R at *
              go_wp2_with (at_builtin; refine wpl_append rfl (.tmp 47) (.tmp 51) rfl w.heap.size _ j g rfl (hown.alloc _) (some ⟨wr.heap.size, 0, none⟩) 1 1 (constF (y / (R / k))) rfl (Rd.lit wr 1 (constF (y / (R / k))) _ (by unfold maxLen; omega) rfl) (by intro h; cases h) (by omega) (by simp; omega) ?_; intro v3 w3 hown3 hb3 _)
              go_roundw
              case rel => exact ⟨j + 1, s, _, _, rfl, by rw [unhide HP], by go_num, unhide HS, hown3, (hbr.alloc hszr _).trans hb3⟩
              case measure => simp [intOf]; omega
          · have he : s = 0 := by omega
            subst he
            have hjt2 : j = t := by omega
            obtain ⟨H1, H2⟩ := (unhide HI).fin
            have H1' := hide H1
            have H2' := hide H2
            clear H1 H2 hsum
            subst hjt2
            go_wp2
            go_ret2
            exact AtPost.some (unhide H) hown hbr (len_of k2 (unhide H1') (unhide H2') hi3) (unhide H1') (unhide H2')

theorem rat_any (k i : Int) (w : World) : Calls Try.prog 38 #[.int .i64 k, .int .i64 i] w fun e w' =>
    ∃ v m g, e = .returned (.tuple #[v, .int .i64 (atE k i)]) ∧ Own w' w.heap.size v m g ∧ Below w.heap.size w w' ∧ AtIs k i m g :=
  (rat_post k i w).mono fun _ _ h => h

end Go.Proofs.Ytpbceijlpkggpaa
