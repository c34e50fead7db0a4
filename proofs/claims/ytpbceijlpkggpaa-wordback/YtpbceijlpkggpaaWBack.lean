/-
  The law WordBack returns true in every world, for all arguments, and turns nothing that was there.
-/
import Derived.Test.YtpbceijlpkggpaaWPlaces
import Derived.Test.YtpbceijlpkggpaaWBetween
namespace Go.Proofs.Ytpbceijlpkggpaa
open Go.RowKit

theorem rank_ok {n : Nat} {f : Nat → Int} {k : Int} (h : (rankV n f k).2 = 0) : IsWord n f k ∧ rankV n f k = (rk f k n, 0) ∧ rk f k n ≤ 1099511627776 := by
  rcases chkV_cases n f k with hw | ⟨hw, _⟩
  · by_cases ho : 1099511627776 < rk f k n
    · rw [rankV_over hw (Nat.le_refl _) ho] at h; simp at h
    · exact ⟨hw, rankV_ok hw (by omega), by omega⟩
  · rw [rankV_err hw] at h; exact absurd h hw
theorem rank_at {n : Nat} {f : Nat → Int} {k : Int} (h : IsWord n f k) (hle : rk f k n ≤ 1099511627776) : atE k (rk f k n) = 0 := by
  obtain ⟨k0, k1, hn, hd⟩ := id h
  refine atE_ok k0 k1 (rk_nn k0 fun i hi => (hd i hi).1) hle ?_
  by_cases e : k = 1
  · subst e
    have h1 := rk_hi k0 hd
    rw [geo0_one] at h1
    omega
  · omega
theorem at_word {k i : Int} {m : Nat} {g : Nat → Int} (h : AtIs k i m g) (e : atE k i = 0) : IsWord m g k ∧ rk g k m = i ∧ i ≤ 1099511627776 := by
  obtain ⟨h1, h2, h3⟩ := h.2 e
  by_cases c : k < 1 ∨ 64 < k ∨ i < 0
  · rw [atE_arg c] at e; omega
  · by_cases c2 : 1099511627776 < i
    · rw [atE_over (by omega) (by omega) c2] at e; omega
    · exact ⟨⟨by omega, by omega, h1, h2⟩, h3, by omega⟩

set_option maxRecDepth 100000 in
theorem wordBack_walk (k i : Int) (a0 : Option Addr) (n0 c0 : Nat) (f0 : Nat → Int) (w : World) (_hk : Fits k) (_hi : Fits i) (h0 : Arg w a0 n0 c0 f0) :
    Calls Try.prog 11 #[.int .i64 k, .int .i64 i, .slice a0 n0 c0] w fun e w' => e = .returned (.bool true) ∧ Below w.heap.size w w' := by
  go_enter Try.func11, Try.ntmps11
  go_wp2_with fail
  refine (at_any k i w).mono ?_
  rintro e w1 ⟨v, m, g, rfl, hown1, hb1, hat⟩
  by_cases e1 : atE k i = 0
  · obtain ⟨W1, hrk, hile⟩ := at_word hat e1
    have hRV := rankV_ok W1 (by omega)
    rw [hrk] at hRV
    have hm := hat.len
    obtain ⟨a1, c1, rfl, hnil1, hle1, R1, _⟩ := hown1.shape
    rw [e1]
    have HRV := hide hRV
    have HW := hide W1
    have HRK := hide hrk
    have hi0 : 0 ≤ i := by rw [← hrk]; exact rk_nn W1.1 fun i hi => (W1.2.2.2 i hi).1
    clear e1 hat hown1 hRV W1 hrk
    go_wp2_with (first | (go_at_call 15; refine (num_any _ _).mono ?_; rintro e w' ⟨rfl, rfl⟩) | fail)
    refine (rank_any a1 m c1 g k _ R1 hm).mono ?_
    rw [unhide HRV]
    rintro e w2 ⟨rfl, rfl⟩
    go_wp2_with fail
    refine (next_any a1 m c1 g k _ R1 hnil1 hle1 hm).mono ?_
    rintro e w3 ⟨v3, rfl, hown3, hb3⟩
    have BX := bstep hb1 hb3
    by_cases e3 : (nextV m g k).2.2 = 0
    · by_cases e4 : i < 1099511627776
      · obtain ⟨W3, hr3⟩ := next_word (unhide HW) e3
        rw [unhide HRK] at hr3
        have hRV3 := rankV_ok W3 (by omega)
        rw [hr3] at hRV3
        have HRV3 := hide hRV3
        have hm3 : (nextV m g k).1 ≤ maxLen := by
          have := nextV_len m g k
          unfold maxLen; omega
        obtain ⟨a3, c3, rfl, _, _, R3, _⟩ := hown3.shape
        rw [e3]
        clear W3 hr3 hRV3 hown3 e3 HRK HW HRV
        generalize (nextV m g k).1 = m3 at *
        generalize (nextV m g k).2.1 = g3 at *
        go_wp2_with (first | (go_at_call 15; refine (num_any _ _).mono ?_; rintro e w' ⟨rfl, rfl⟩) | fail)
        refine (rank_any a3 m3 c3 g3 k _ R3 hm3).mono ?_
        rw [unhide HRV3]
        rintro e w4 ⟨rfl, rfl⟩
        go_wp2_with (first | (go_at_call 15; refine (num_any _ _).mono ?_; rintro e w' ⟨rfl, rfl⟩) | fail)
        refine (rank_any a0 n0 c0 f0 k _ (h0.rd.below BX) h0.max).mono ?_
        rintro e wr ⟨rfl, rfl⟩
        by_cases e2 : (rankV n0 f0 k).2 = 0
        · obtain ⟨W0, hrv, hrle⟩ := rank_ok e2
          rw [hrv]
          have hrn := rk_nn W0.1 fun i hi => (W0.2.2.2 i hi).1
          have HR := hide (show atE k (rk f0 k n0) = 0 from rank_at W0 hrle)
          have HU := hide (show ∀ m g, AtIs k (rk f0 k n0) m g → samB m g n0 f0 = true from fun m g h => samB_iff.2 (rk_one W0.1 (h.2 (unhide HR)).2.1 W0.2.2.2 (h.2 (unhide HR)).2.2))
          clear e2 hrv W0 hrle hrn
          generalize rk f0 k n0 = r at *
          go_wp2_with (first | (go_at_call 15; refine (num_any _ _).mono ?_; rintro e w' ⟨rfl, rfl⟩) | fail)
          refine (at_any k r _).mono ?_
          rw [unhide HR]
          rintro e wt ⟨vt, mt, gt, rfl, hownt, hbt, hatt⟩
          have BT := bstep BX hbt
          obtain ⟨at', ct, rfl, _, _, RT, _⟩ := hownt.shape
          have S := hide (unhide HU mt gt hatt)
          have hmt := hatt.len
          clear hownt hatt HU HR hbt
          go_wp2_with (first | (go_at_call 15; refine (num_any _ _).mono ?_; rintro e w' ⟨rfl, rfl⟩) | fail)
          refine (same_any at' a0 mt ct n0 c0 gt f0 _ RT (h0.rd.below BT) hmt h0.max).mono ?_
          rw [unhide S]
          rintro e wu ⟨rfl, hbu⟩
          have BU := bstep BT hbu
          go_wp2_with fail
          refine (live_any _).mono ?_
          rintro e wl ⟨rfl, hbl⟩
          have Bl := bstep BU hbl
          go_wp2
          go_ret
          exact ⟨rfl, Bl⟩
        · have hb := bneq e2
          clear e2
          generalize (rankV n0 f0 k).2 = y at *
          generalize (rankV n0 f0 k).1 = z at *
          go_wp2_with (first | (go_at_call 15; refine (num_any _ _).mono ?_; rintro e w' ⟨rfl, rfl⟩) | fail)
          refine (live_any _).mono ?_
          rintro e wl ⟨rfl, hbl⟩
          have Bl := bstep BX hbl
          go_wp2
          go_ret
          exact ⟨rfl, Bl⟩
      · rw [e3]
        clear e3 HRK HW HRV hown3
        go_wp2_with (first | (go_at_call 15; refine (num_any _ _).mono ?_; rintro e w' ⟨rfl, rfl⟩) | fail)
        refine (rank_any a0 n0 c0 f0 k _ (h0.rd.below BX) h0.max).mono ?_
        rintro e wr ⟨rfl, rfl⟩
        by_cases e2 : (rankV n0 f0 k).2 = 0
        · obtain ⟨W0, hrv, hrle⟩ := rank_ok e2
          rw [hrv]
          have hrn := rk_nn W0.1 fun i hi => (W0.2.2.2 i hi).1
          have HR := hide (show atE k (rk f0 k n0) = 0 from rank_at W0 hrle)
          have HU := hide (show ∀ m g, AtIs k (rk f0 k n0) m g → samB m g n0 f0 = true from fun m g h => samB_iff.2 (rk_one W0.1 (h.2 (unhide HR)).2.1 W0.2.2.2 (h.2 (unhide HR)).2.2))
          clear e2 hrv W0 hrle hrn
          generalize rk f0 k n0 = r at *
          go_wp2_with (first | (go_at_call 15; refine (num_any _ _).mono ?_; rintro e w' ⟨rfl, rfl⟩) | fail)
          refine (at_any k r _).mono ?_
          rw [unhide HR]
          rintro e wt ⟨vt, mt, gt, rfl, hownt, hbt, hatt⟩
          have BT := bstep BX hbt
          obtain ⟨at', ct, rfl, _, _, RT, _⟩ := hownt.shape
          have S := hide (unhide HU mt gt hatt)
          have hmt := hatt.len
          clear hownt hatt HU HR hbt
          go_wp2_with (first | (go_at_call 15; refine (num_any _ _).mono ?_; rintro e w' ⟨rfl, rfl⟩) | fail)
          refine (same_any at' a0 mt ct n0 c0 gt f0 _ RT (h0.rd.below BT) hmt h0.max).mono ?_
          rw [unhide S]
          rintro e wu ⟨rfl, hbu⟩
          have BU := bstep BT hbu
          go_wp2_with fail
          refine (live_any _).mono ?_
          rintro e wl ⟨rfl, hbl⟩
          have Bl := bstep BU hbl
          go_wp2
          go_ret
          exact ⟨rfl, Bl⟩
        · have hb := bneq e2
          clear e2
          generalize (rankV n0 f0 k).2 = y at *
          generalize (rankV n0 f0 k).1 = z at *
          go_wp2_with (first | (go_at_call 15; refine (num_any _ _).mono ?_; rintro e w' ⟨rfl, rfl⟩) | fail)
          refine (live_any _).mono ?_
          rintro e wl ⟨rfl, hbl⟩
          have Bl := bstep BX hbl
          go_wp2
          go_ret
          exact ⟨rfl, Bl⟩
    · have hb' := bneq e3
      clear e3 HRK HW HRV hown3
      generalize (nextV m g k).2.2 = y3 at *
      have hb'' : (y3 == 0) = false := by simpa using hb'
      clear hb'
      go_wp2_with (first | (go_at_call 15; refine (num_any _ _).mono ?_; rintro e w' ⟨rfl, rfl⟩) | fail)
      refine (rank_any a0 n0 c0 f0 k _ (h0.rd.below BX) h0.max).mono ?_
      rintro e wr ⟨rfl, rfl⟩
      by_cases e2 : (rankV n0 f0 k).2 = 0
      · obtain ⟨W0, hrv, hrle⟩ := rank_ok e2
        rw [hrv]
        have hrn := rk_nn W0.1 fun i hi => (W0.2.2.2 i hi).1
        have HR := hide (show atE k (rk f0 k n0) = 0 from rank_at W0 hrle)
        have HU := hide (show ∀ m g, AtIs k (rk f0 k n0) m g → samB m g n0 f0 = true from fun m g h => samB_iff.2 (rk_one W0.1 (h.2 (unhide HR)).2.1 W0.2.2.2 (h.2 (unhide HR)).2.2))
        clear e2 hrv W0 hrle hrn
        generalize rk f0 k n0 = r at *
        go_wp2_with (first | (go_at_call 15; refine (num_any _ _).mono ?_; rintro e w' ⟨rfl, rfl⟩) | fail)
        refine (at_any k r _).mono ?_
        rw [unhide HR]
        rintro e wt ⟨vt, mt, gt, rfl, hownt, hbt, hatt⟩
        have BT := bstep BX hbt
        obtain ⟨at', ct, rfl, _, _, RT, _⟩ := hownt.shape
        have S := hide (unhide HU mt gt hatt)
        have hmt := hatt.len
        clear hownt hatt HU HR hbt
        go_wp2_with (first | (go_at_call 15; refine (num_any _ _).mono ?_; rintro e w' ⟨rfl, rfl⟩) | fail)
        refine (same_any at' a0 mt ct n0 c0 gt f0 _ RT (h0.rd.below BT) hmt h0.max).mono ?_
        rw [unhide S]
        rintro e wu ⟨rfl, hbu⟩
        have BU := bstep BT hbu
        go_wp2_with fail
        refine (live_any _).mono ?_
        rintro e wl ⟨rfl, hbl⟩
        have Bl := bstep BU hbl
        go_wp2
        go_ret
        exact ⟨rfl, Bl⟩
      · have hb := bneq e2
        clear e2
        generalize (rankV n0 f0 k).2 = y at *
        generalize (rankV n0 f0 k).1 = z at *
        go_wp2_with (first | (go_at_call 15; refine (num_any _ _).mono ?_; rintro e w' ⟨rfl, rfl⟩) | fail)
        refine (live_any _).mono ?_
        rintro e wl ⟨rfl, hbl⟩
        have Bl := bstep BX hbl
        go_wp2
        go_ret
        exact ⟨rfl, Bl⟩
  · have hb' : (atE k i == 0) = false := by simpa using e1
    have BX := hb1
    clear e1 hat hown1
    generalize atE k i = y1 at *
    go_wp2_with (first | (go_at_call 15; refine (num_any _ _).mono ?_; rintro e w' ⟨rfl, rfl⟩) | fail)
    refine (rank_any a0 n0 c0 f0 k _ (h0.rd.below BX) h0.max).mono ?_
    rintro e wr ⟨rfl, rfl⟩
    by_cases e2 : (rankV n0 f0 k).2 = 0
    · obtain ⟨W0, hrv, hrle⟩ := rank_ok e2
      rw [hrv]
      have hrn := rk_nn W0.1 fun i hi => (W0.2.2.2 i hi).1
      have HR := hide (show atE k (rk f0 k n0) = 0 from rank_at W0 hrle)
      have HU := hide (show ∀ m g, AtIs k (rk f0 k n0) m g → samB m g n0 f0 = true from fun m g h => samB_iff.2 (rk_one W0.1 (h.2 (unhide HR)).2.1 W0.2.2.2 (h.2 (unhide HR)).2.2))
      clear e2 hrv W0 hrle hrn
      generalize rk f0 k n0 = r at *
      go_wp2_with (first | (go_at_call 15; refine (num_any _ _).mono ?_; rintro e w' ⟨rfl, rfl⟩) | fail)
      refine (at_any k r _).mono ?_
      rw [unhide HR]
      rintro e wt ⟨vt, mt, gt, rfl, hownt, hbt, hatt⟩
      have BT := bstep BX hbt
      obtain ⟨at', ct, rfl, _, _, RT, _⟩ := hownt.shape
      have S := hide (unhide HU mt gt hatt)
      have hmt := hatt.len
      clear hownt hatt HU HR hbt
      go_wp2_with (first | (go_at_call 15; refine (num_any _ _).mono ?_; rintro e w' ⟨rfl, rfl⟩) | fail)
      refine (same_any at' a0 mt ct n0 c0 gt f0 _ RT (h0.rd.below BT) hmt h0.max).mono ?_
      rw [unhide S]
      rintro e wu ⟨rfl, hbu⟩
      have BU := bstep BT hbu
      go_wp2_with fail
      refine (live_any _).mono ?_
      rintro e wl ⟨rfl, hbl⟩
      have Bl := bstep BU hbl
      go_wp2
      go_ret
      exact ⟨rfl, Bl⟩
    · have hb := bneq e2
      clear e2
      generalize (rankV n0 f0 k).2 = y at *
      generalize (rankV n0 f0 k).1 = z at *
      go_wp2_with (first | (go_at_call 15; refine (num_any _ _).mono ?_; rintro e w' ⟨rfl, rfl⟩) | fail)
      refine (live_any _).mono ?_
      rintro e wl ⟨rfl, hbl⟩
      have Bl := bstep BX hbl
      go_wp2
      go_ret
      exact ⟨rfl, Bl⟩

end Go.Proofs.Ytpbceijlpkggpaa
