/-
  The law WordTotal returns true in every world, for all arguments, and turns nothing that was there.
-/
import Derived.Test.YtpbceijlpkggpaaLive
import Derived.Test.YtpbceijlpkggpaaArg
import Derived.Test.YtpbceijlpkggpaaRJoin
namespace Go.Proofs.Ytpbceijlpkggpaa
open Go.RowKit

theorem cmpV_zero {n m : Nat} {f g : Nat → Int} (h : cmpV n f m g = 0) : n = m ∧ ∀ i, i < n → f i = g i := samB_iff.1 (by simp [samB, h])
/-- What is ahead of what is ahead is ahead. -/
theorem cmpV_trans {n m p : Nat} {f g h : Nat → Int} (h1 : cmpV n f m g ≤ 0) (h2 : cmpV m g p h ≤ 0) : cmpV n f p h ≤ 0 := by
  rcases cmpV_cases n f m g with ⟨rfl, e⟩ | e | ⟨rfl, i, hi, hne, hl⟩
  · rw [cmpV_congr (f' := g) (g' := h) e fun _ _ => rfl]; exact h2
  · rw [cmpV_len e] at h1
    have hnm : n < m := by
      by_cases c : n < m
      · exact c
      · rw [cmp_gt (by omega)] at h1; omega
    have hmp : m ≤ p := by
      by_cases c : m ≤ p
      · exact c
      · rw [cmpV_len (by omega), cmp_gt (by omega)] at h2; omega
    rw [cmpV_len (by omega), cmp_lt (by omega)]; omega
  · rw [cmpV_at hi hne hl] at h1
    have hlt : f i < g i := by
      by_cases c : f i < g i
      · exact c
      · rw [cmp_gt (by omega)] at h1; omega
    rcases cmpV_cases n g p h with ⟨rfl, e⟩ | e | ⟨rfl, j, hj, hne', hl'⟩
    · rw [cmpV_at hi (by rw [← e i hi]; exact hne) (fun l hlt => by rw [hl l hlt, e l (by omega)]), cmp_lt (by rw [← e i hi]; exact hlt)]; omega
    · rw [cmpV_len e] at h2 ⊢; exact h2
    · rw [cmpV_at hj hne' hl'] at h2
      have hlt' : g j < h j := by
        by_cases c : g j < h j
        · exact c
        · rw [cmp_gt (by omega)] at h2; omega
      rcases Nat.lt_trichotomy i j with c | c | c
      · rw [cmpV_at hi (by rw [← hl' i c]; exact hne) (fun l hl2 => by rw [hl l hl2, hl' l (by omega)]), cmp_lt (by rw [← hl' i c]; exact hlt)]; omega
      · subst c
        rw [cmpV_at hi (by omega) (fun l hl2 => by rw [hl l hl2, hl' l hl2]), cmp_lt (by omega)]; omega
      · rw [cmpV_at hj (by rw [hl j c]; exact hne') (fun l hl2 => by rw [hl l (by omega), hl' l hl2]), cmp_lt (by rw [hl j c]; exact hlt')]; omega
/-- One more behind both turns nothing. -/
theorem cmpV_snoc {n m : Nat} {f g : Nat → Int} {x : Int} : cmpV (n + 1) (joinF n f (constF x)) (m + 1) (joinF m g (constF x)) = cmpV n f m g := by
  rcases cmpV_cases n f m g with ⟨rfl, e⟩ | e | ⟨rfl, i, hi, hne, hl⟩
  · rw [cmpV_same e, cmpV_same]
    intro j hj
    by_cases c : j < n
    · rw [joinF_lt c, joinF_lt c, e j c]
    · rw [joinF_ge (by omega), joinF_ge (by omega)]
  · rw [cmpV_len e, cmpV_len (by omega)]
    rcases Nat.lt_or_gt_of_ne e with c | c
    · rw [cmp_lt (by omega), cmp_lt (by omega)]
    · rw [cmp_gt (by omega), cmp_gt (by omega)]
  · rw [cmpV_at hi hne hl, cmpV_at (i := i) (by omega) (by rw [joinF_lt hi, joinF_lt hi]; exact hne) (fun j hj => by rw [joinF_lt (by omega), joinF_lt (by omega), hl j hj]), joinF_lt hi, joinF_lt hi]
/-- The same ahead of both turns nothing. -/
theorem cmpV_pre {n m p : Nat} {f g c : Nat → Int} : cmpV (p + n) (joinF p c f) (p + m) (joinF p c g) = cmpV n f m g := by
  rcases cmpV_cases n f m g with ⟨rfl, e⟩ | e | ⟨rfl, i, hi, hne, hl⟩
  · rw [cmpV_same e, cmpV_same]
    intro j hj
    by_cases c : j < p
    · rw [joinF_lt c, joinF_lt c]
    · rw [joinF_ge (by omega), joinF_ge (by omega), e _ (by omega)]
  · rw [cmpV_len e, cmpV_len (by omega)]
    rcases Nat.lt_or_gt_of_ne e with c | c
    · rw [cmp_lt (by omega), cmp_lt (by omega)]
    · rw [cmp_gt (by omega), cmp_gt (by omega)]
  · have e1 : ∀ q : Nat → Int, joinF p c q (p + i) = q i := fun q => by rw [joinF_ge (by omega), show p + i - p = i by omega]
    rw [cmpV_at hi hne hl, cmpV_at (i := p + i) (by omega) (by rw [e1, e1]; exact hne) (fun j hj => by
      by_cases d : j < p
      · rw [joinF_lt d, joinF_lt d]
      · rw [joinF_ge (by omega), joinF_ge (by omega), hl _ (by omega)]), e1, e1]

set_option maxHeartbeats 1000000 in
set_option maxRecDepth 100000 in
theorem wordTotal_walk (a0 : Option Addr) (n0 c0 : Nat) (f0 : Nat → Int) (a1 : Option Addr) (n1 c1 : Nat) (f1 : Nat → Int) (a2 : Option Addr) (n2 c2 : Nat) (f2 : Nat → Int) (x : Int) (w : World) (h0 : Arg w a0 n0 c0 f0) (h1 : Arg w a1 n1 c1 f1) (h2 : Arg w a2 n2 c2 f2) (_hx : Fits x) :
    Calls Try.prog 10 #[.slice a0 n0 c0, .slice a1 n1 c1, .slice a2 n2 c2, .int .i64 x] w fun e w' => e = .returned (.bool true) ∧ Below w.heap.size w w' := by
  have hm0 := h0.max
  have hm1 := h1.max
  have hm2 := h2.max
  unfold maxLen at hm0 hm1 hm2
  by_cases l0 : 1000 < n0
  · go_enter Try.func10, Try.ntmps10
    go_wp2_with (go_at_call 17; refine (live_any _).mono ?_; rintro e wl ⟨rfl, hbl⟩)
    go_ret
    exact ⟨rfl, hbl⟩
  by_cases l1 : 1000 < n1
  · go_enter Try.func10, Try.ntmps10
    go_wp2_with (go_at_call 17; refine (live_any _).mono ?_; rintro e wl ⟨rfl, hbl⟩)
    go_ret
    exact ⟨rfl, hbl⟩
  by_cases l2' : 1000 < n2
  · go_enter Try.func10, Try.ntmps10
    go_wp2_with (go_at_call 17; refine (live_any _).mono ?_; rintro e wl ⟨rfl, hbl⟩)
    go_ret
    exact ⟨rfl, hbl⟩
  have s0 : n0 ≤ 1000 := by omega
  have s1 : n1 ≤ 1000 := by omega
  have s2 : n2 ≤ 1000 := by omega
  clear l0 l1 l2' hm0 hm1 hm2
  have htr := cmpV_trans (n := n0) (f := f0) (m := n1) (g := f1) (p := n2) (h := f2)
  have HTR := hide htr
  have HRG := hide (cmpV_range n0 f0 n1 f1)
  clear htr
  go_enter Try.func10, Try.ntmps10
  go_wp2_with fail
  refine (compare_any a0 a1 n0 c0 n1 c1 f0 f1 w h0.rd h1.rd h0.max h1.max).mono ?_
  rintro e w2 ⟨rfl, B2⟩
  go_wp2_with fail
  refine (compare_any a1 a2 n1 c1 n2 c2 f1 f2 w2 (h1.rd.below B2) (h2.rd.below B2) h1.max h2.max).mono ?_
  rintro e w3 ⟨rfl, hb3⟩
  have B3 := bstep B2 hb3
  go_wp2_with fail
  refine (compare_any a0 a2 n0 c0 n2 c2 f0 f2 w3 (h0.rd.below B3) (h2.rd.below B3) h0.max h2.max).mono ?_
  rintro e w4 ⟨rfl, hb4⟩
  have B4 := bstep B3 hb4
  clear hb3 hb4 B2 B3
  rcases unhide HRG with hab | hab | hab
  · have HX := hide hab
    rw [hab]
    by_cases hbc : cmpV n1 f1 n2 f2 ≤ 0
    · have hac := unhide HTR (by omega) hbc
      clear hab HTR HRG
      generalize cmpV n1 f1 n2 f2 = y at *
      generalize cmpV n0 f0 n2 f2 = z at *
      go_wp2_with fail
      refine (compare_any a1 a0 n1 c1 n0 c0 f1 f0 w4 (h1.rd.below B4) (h0.rd.below B4) h1.max h0.max).mono ?_
      rw [cmpV_neg n0 f0 n1 f1, unhide HX]
      rintro e wm ⟨rfl, hbm⟩
      have BM := bstep B4 hbm
      go_wp2_with fail
      refine (same_any a0 a1 n0 c0 n1 c1 f0 f1 wm (h0.rd.below BM) (h1.rd.below BM) h0.max h1.max).mono ?_
      rw [show samB n0 f0 n1 f1 = false by unfold samB; rw [unhide HX]; rfl]
      rintro e WX ⟨rfl, hbx⟩
      have BX := bstep BM hbx
      clear hbm hbx BM B4
      go_wp2_with fail
      refine (rjoin_any a0 n0 c0 f0 (some ⟨WX.heap.size, 0, none⟩) 1 1 (constF x) (WX.alloc (.cells #[.int .i64 x] 3)) (h0.rd.below (balloc BX _)) h0.nil (Rd.lit WX 1 (constF x) _ (by unfold maxLen; omega) rfl) (by intro h; cases h) (by omega)).mono ?_
      rintro e w5 ⟨v5, rfl, hown5, hb5⟩
      have B5 := bstep (balloc BX _) hb5
      obtain ⟨a5, c5, rfl, hnil5, _, R5, _⟩ := hown5.shape
      clear hown5 hb5 hnil5
      go_wp2_with fail
      refine (rjoin_any a1 n1 c1 f1 (some ⟨w5.heap.size, 0, none⟩) 1 1 (constF x) (w5.alloc (.cells #[.int .i64 x] 3)) (h1.rd.below (balloc B5 _)) h1.nil (Rd.lit w5 1 (constF x) _ (by unfold maxLen; omega) rfl) (by intro h; cases h) (by omega)).mono ?_
      rintro e w6 ⟨v6, rfl, hown6, hb6⟩
      have B6 := bstep (balloc B5 _) hb6
      have R5' := (R5.below ((Below.refl _ _).alloc (Nat.le_refl _) (.cells #[.int .i64 x] 3))).below hb6
      obtain ⟨a6, c6, rfl, hnil6, _, R6, _⟩ := hown6.shape
      clear hown6 hb6 hnil6 R5 B5
      go_wp2_with fail
      refine (compare_any a5 a6 (n0 + 1) c5 (n1 + 1) c6 _ _ w6 R5' R6 (by unfold maxLen; omega) (by unfold maxLen; omega)).mono ?_
      rw [cmpV_snoc, unhide HX]
      rintro e w7 ⟨rfl, hb7⟩
      have B7 := bstep B6 hb7
      clear hb7 B6 R5' R6
      go_wp2_with fail
      refine (rjoin_any a2 n2 c2 f2 a0 n0 c0 f0 w7 (h2.rd.below B7) h2.nil (h0.rd.below B7) h0.nil (by omega)).mono ?_
      rintro e w8 ⟨v8, rfl, hown8, hb8⟩
      have B8 := bstep B7 hb8
      obtain ⟨a8, c8, rfl, hnil8, _, R8, _⟩ := hown8.shape
      clear hown8 hb8 hnil8 B7
      go_wp2_with fail
      refine (rjoin_any a2 n2 c2 f2 a1 n1 c1 f1 w8 (h2.rd.below B8) h2.nil (h1.rd.below B8) h1.nil (by omega)).mono ?_
      rintro e w9 ⟨v9, rfl, hown9, hb9⟩
      have B9 := bstep B8 hb9
      have R8' := R8.below hb9
      obtain ⟨a9, c9, rfl, hnil9, _, R9, _⟩ := hown9.shape
      clear hown9 hb9 hnil9 B8 R8
      go_wp2_with fail
      refine (compare_any a8 a9 (n2 + n0) c8 (n2 + n1) c9 _ _ w9 R8' R9 (by unfold maxLen; omega) (by unfold maxLen; omega)).mono ?_
      rw [cmpV_pre, unhide HX]
      rintro e w10 ⟨rfl, hb10⟩
      have B10 := bstep B9 hb10
      clear hb10 B9 R8' R9
      go_wp2_with fail
      refine (live_any _).mono ?_
      rintro e wl ⟨rfl, hbl⟩
      have Bl := bstep B10 hbl
      go_wp2
      go_ret
      exact ⟨rfl, Bl⟩
    · clear hab HTR HRG
      generalize cmpV n1 f1 n2 f2 = y at *
      generalize cmpV n0 f0 n2 f2 = z at *
      go_wp2_with fail
      refine (compare_any a1 a0 n1 c1 n0 c0 f1 f0 w4 (h1.rd.below B4) (h0.rd.below B4) h1.max h0.max).mono ?_
      rw [cmpV_neg n0 f0 n1 f1, unhide HX]
      rintro e wm ⟨rfl, hbm⟩
      have BM := bstep B4 hbm
      go_wp2_with fail
      refine (same_any a0 a1 n0 c0 n1 c1 f0 f1 wm (h0.rd.below BM) (h1.rd.below BM) h0.max h1.max).mono ?_
      rw [show samB n0 f0 n1 f1 = false by unfold samB; rw [unhide HX]; rfl]
      rintro e WX ⟨rfl, hbx⟩
      have BX := bstep BM hbx
      clear hbm hbx BM B4
      go_wp2_with fail
      refine (rjoin_any a0 n0 c0 f0 (some ⟨WX.heap.size, 0, none⟩) 1 1 (constF x) (WX.alloc (.cells #[.int .i64 x] 3)) (h0.rd.below (balloc BX _)) h0.nil (Rd.lit WX 1 (constF x) _ (by unfold maxLen; omega) rfl) (by intro h; cases h) (by omega)).mono ?_
      rintro e w5 ⟨v5, rfl, hown5, hb5⟩
      have B5 := bstep (balloc BX _) hb5
      obtain ⟨a5, c5, rfl, hnil5, _, R5, _⟩ := hown5.shape
      clear hown5 hb5 hnil5
      go_wp2_with fail
      refine (rjoin_any a1 n1 c1 f1 (some ⟨w5.heap.size, 0, none⟩) 1 1 (constF x) (w5.alloc (.cells #[.int .i64 x] 3)) (h1.rd.below (balloc B5 _)) h1.nil (Rd.lit w5 1 (constF x) _ (by unfold maxLen; omega) rfl) (by intro h; cases h) (by omega)).mono ?_
      rintro e w6 ⟨v6, rfl, hown6, hb6⟩
      have B6 := bstep (balloc B5 _) hb6
      have R5' := (R5.below ((Below.refl _ _).alloc (Nat.le_refl _) (.cells #[.int .i64 x] 3))).below hb6
      obtain ⟨a6, c6, rfl, hnil6, _, R6, _⟩ := hown6.shape
      clear hown6 hb6 hnil6 R5 B5
      go_wp2_with fail
      refine (compare_any a5 a6 (n0 + 1) c5 (n1 + 1) c6 _ _ w6 R5' R6 (by unfold maxLen; omega) (by unfold maxLen; omega)).mono ?_
      rw [cmpV_snoc, unhide HX]
      rintro e w7 ⟨rfl, hb7⟩
      have B7 := bstep B6 hb7
      clear hb7 B6 R5' R6
      go_wp2_with fail
      refine (rjoin_any a2 n2 c2 f2 a0 n0 c0 f0 w7 (h2.rd.below B7) h2.nil (h0.rd.below B7) h0.nil (by omega)).mono ?_
      rintro e w8 ⟨v8, rfl, hown8, hb8⟩
      have B8 := bstep B7 hb8
      obtain ⟨a8, c8, rfl, hnil8, _, R8, _⟩ := hown8.shape
      clear hown8 hb8 hnil8 B7
      go_wp2_with fail
      refine (rjoin_any a2 n2 c2 f2 a1 n1 c1 f1 w8 (h2.rd.below B8) h2.nil (h1.rd.below B8) h1.nil (by omega)).mono ?_
      rintro e w9 ⟨v9, rfl, hown9, hb9⟩
      have B9 := bstep B8 hb9
      have R8' := R8.below hb9
      obtain ⟨a9, c9, rfl, hnil9, _, R9, _⟩ := hown9.shape
      clear hown9 hb9 hnil9 B8 R8
      go_wp2_with fail
      refine (compare_any a8 a9 (n2 + n0) c8 (n2 + n1) c9 _ _ w9 R8' R9 (by unfold maxLen; omega) (by unfold maxLen; omega)).mono ?_
      rw [cmpV_pre, unhide HX]
      rintro e w10 ⟨rfl, hb10⟩
      have B10 := bstep B9 hb10
      clear hb10 B9 R8' R9
      go_wp2_with fail
      refine (live_any _).mono ?_
      rintro e wl ⟨rfl, hbl⟩
      have Bl := bstep B10 hbl
      go_wp2
      go_ret
      exact ⟨rfl, Bl⟩
  · have HX := hide hab
    rw [hab]
    by_cases hbc : cmpV n1 f1 n2 f2 ≤ 0
    · have hac := unhide HTR (by omega) hbc
      clear hab HTR HRG
      generalize cmpV n1 f1 n2 f2 = y at *
      generalize cmpV n0 f0 n2 f2 = z at *
      go_wp2_with fail
      refine (compare_any a1 a0 n1 c1 n0 c0 f1 f0 w4 (h1.rd.below B4) (h0.rd.below B4) h1.max h0.max).mono ?_
      rw [cmpV_neg n0 f0 n1 f1, unhide HX]
      rintro e wm ⟨rfl, hbm⟩
      have BM := bstep B4 hbm
      go_wp2_with fail
      refine (same_any a0 a1 n0 c0 n1 c1 f0 f1 wm (h0.rd.below BM) (h1.rd.below BM) h0.max h1.max).mono ?_
      rw [show samB n0 f0 n1 f1 = true by unfold samB; rw [unhide HX]; rfl]
      rintro e WX ⟨rfl, hbx⟩
      have BX := bstep BM hbx
      clear hbm hbx BM B4
      go_wp2_with fail
      refine (rjoin_any a0 n0 c0 f0 (some ⟨WX.heap.size, 0, none⟩) 1 1 (constF x) (WX.alloc (.cells #[.int .i64 x] 3)) (h0.rd.below (balloc BX _)) h0.nil (Rd.lit WX 1 (constF x) _ (by unfold maxLen; omega) rfl) (by intro h; cases h) (by omega)).mono ?_
      rintro e w5 ⟨v5, rfl, hown5, hb5⟩
      have B5 := bstep (balloc BX _) hb5
      obtain ⟨a5, c5, rfl, hnil5, _, R5, _⟩ := hown5.shape
      clear hown5 hb5 hnil5
      go_wp2_with fail
      refine (rjoin_any a1 n1 c1 f1 (some ⟨w5.heap.size, 0, none⟩) 1 1 (constF x) (w5.alloc (.cells #[.int .i64 x] 3)) (h1.rd.below (balloc B5 _)) h1.nil (Rd.lit w5 1 (constF x) _ (by unfold maxLen; omega) rfl) (by intro h; cases h) (by omega)).mono ?_
      rintro e w6 ⟨v6, rfl, hown6, hb6⟩
      have B6 := bstep (balloc B5 _) hb6
      have R5' := (R5.below ((Below.refl _ _).alloc (Nat.le_refl _) (.cells #[.int .i64 x] 3))).below hb6
      obtain ⟨a6, c6, rfl, hnil6, _, R6, _⟩ := hown6.shape
      clear hown6 hb6 hnil6 R5 B5
      go_wp2_with fail
      refine (compare_any a5 a6 (n0 + 1) c5 (n1 + 1) c6 _ _ w6 R5' R6 (by unfold maxLen; omega) (by unfold maxLen; omega)).mono ?_
      rw [cmpV_snoc, unhide HX]
      rintro e w7 ⟨rfl, hb7⟩
      have B7 := bstep B6 hb7
      clear hb7 B6 R5' R6
      go_wp2_with fail
      refine (rjoin_any a2 n2 c2 f2 a0 n0 c0 f0 w7 (h2.rd.below B7) h2.nil (h0.rd.below B7) h0.nil (by omega)).mono ?_
      rintro e w8 ⟨v8, rfl, hown8, hb8⟩
      have B8 := bstep B7 hb8
      obtain ⟨a8, c8, rfl, hnil8, _, R8, _⟩ := hown8.shape
      clear hown8 hb8 hnil8 B7
      go_wp2_with fail
      refine (rjoin_any a2 n2 c2 f2 a1 n1 c1 f1 w8 (h2.rd.below B8) h2.nil (h1.rd.below B8) h1.nil (by omega)).mono ?_
      rintro e w9 ⟨v9, rfl, hown9, hb9⟩
      have B9 := bstep B8 hb9
      have R8' := R8.below hb9
      obtain ⟨a9, c9, rfl, hnil9, _, R9, _⟩ := hown9.shape
      clear hown9 hb9 hnil9 B8 R8
      go_wp2_with fail
      refine (compare_any a8 a9 (n2 + n0) c8 (n2 + n1) c9 _ _ w9 R8' R9 (by unfold maxLen; omega) (by unfold maxLen; omega)).mono ?_
      rw [cmpV_pre, unhide HX]
      rintro e w10 ⟨rfl, hb10⟩
      have B10 := bstep B9 hb10
      clear hb10 B9 R8' R9
      go_wp2_with fail
      refine (live_any _).mono ?_
      rintro e wl ⟨rfl, hbl⟩
      have Bl := bstep B10 hbl
      go_wp2
      go_ret
      exact ⟨rfl, Bl⟩
    · clear hab HTR HRG
      generalize cmpV n1 f1 n2 f2 = y at *
      generalize cmpV n0 f0 n2 f2 = z at *
      go_wp2_with fail
      refine (compare_any a1 a0 n1 c1 n0 c0 f1 f0 w4 (h1.rd.below B4) (h0.rd.below B4) h1.max h0.max).mono ?_
      rw [cmpV_neg n0 f0 n1 f1, unhide HX]
      rintro e wm ⟨rfl, hbm⟩
      have BM := bstep B4 hbm
      go_wp2_with fail
      refine (same_any a0 a1 n0 c0 n1 c1 f0 f1 wm (h0.rd.below BM) (h1.rd.below BM) h0.max h1.max).mono ?_
      rw [show samB n0 f0 n1 f1 = true by unfold samB; rw [unhide HX]; rfl]
      rintro e WX ⟨rfl, hbx⟩
      have BX := bstep BM hbx
      clear hbm hbx BM B4
      go_wp2_with fail
      refine (rjoin_any a0 n0 c0 f0 (some ⟨WX.heap.size, 0, none⟩) 1 1 (constF x) (WX.alloc (.cells #[.int .i64 x] 3)) (h0.rd.below (balloc BX _)) h0.nil (Rd.lit WX 1 (constF x) _ (by unfold maxLen; omega) rfl) (by intro h; cases h) (by omega)).mono ?_
      rintro e w5 ⟨v5, rfl, hown5, hb5⟩
      have B5 := bstep (balloc BX _) hb5
      obtain ⟨a5, c5, rfl, hnil5, _, R5, _⟩ := hown5.shape
      clear hown5 hb5 hnil5
      go_wp2_with fail
      refine (rjoin_any a1 n1 c1 f1 (some ⟨w5.heap.size, 0, none⟩) 1 1 (constF x) (w5.alloc (.cells #[.int .i64 x] 3)) (h1.rd.below (balloc B5 _)) h1.nil (Rd.lit w5 1 (constF x) _ (by unfold maxLen; omega) rfl) (by intro h; cases h) (by omega)).mono ?_
      rintro e w6 ⟨v6, rfl, hown6, hb6⟩
      have B6 := bstep (balloc B5 _) hb6
      have R5' := (R5.below ((Below.refl _ _).alloc (Nat.le_refl _) (.cells #[.int .i64 x] 3))).below hb6
      obtain ⟨a6, c6, rfl, hnil6, _, R6, _⟩ := hown6.shape
      clear hown6 hb6 hnil6 R5 B5
      go_wp2_with fail
      refine (compare_any a5 a6 (n0 + 1) c5 (n1 + 1) c6 _ _ w6 R5' R6 (by unfold maxLen; omega) (by unfold maxLen; omega)).mono ?_
      rw [cmpV_snoc, unhide HX]
      rintro e w7 ⟨rfl, hb7⟩
      have B7 := bstep B6 hb7
      clear hb7 B6 R5' R6
      go_wp2_with fail
      refine (rjoin_any a2 n2 c2 f2 a0 n0 c0 f0 w7 (h2.rd.below B7) h2.nil (h0.rd.below B7) h0.nil (by omega)).mono ?_
      rintro e w8 ⟨v8, rfl, hown8, hb8⟩
      have B8 := bstep B7 hb8
      obtain ⟨a8, c8, rfl, hnil8, _, R8, _⟩ := hown8.shape
      clear hown8 hb8 hnil8 B7
      go_wp2_with fail
      refine (rjoin_any a2 n2 c2 f2 a1 n1 c1 f1 w8 (h2.rd.below B8) h2.nil (h1.rd.below B8) h1.nil (by omega)).mono ?_
      rintro e w9 ⟨v9, rfl, hown9, hb9⟩
      have B9 := bstep B8 hb9
      have R8' := R8.below hb9
      obtain ⟨a9, c9, rfl, hnil9, _, R9, _⟩ := hown9.shape
      clear hown9 hb9 hnil9 B8 R8
      go_wp2_with fail
      refine (compare_any a8 a9 (n2 + n0) c8 (n2 + n1) c9 _ _ w9 R8' R9 (by unfold maxLen; omega) (by unfold maxLen; omega)).mono ?_
      rw [cmpV_pre, unhide HX]
      rintro e w10 ⟨rfl, hb10⟩
      have B10 := bstep B9 hb10
      clear hb10 B9 R8' R9
      go_wp2_with fail
      refine (live_any _).mono ?_
      rintro e wl ⟨rfl, hbl⟩
      have Bl := bstep B10 hbl
      go_wp2
      go_ret
      exact ⟨rfl, Bl⟩
  · have HX := hide hab
    rw [hab]
    clear hab HTR HRG
    generalize cmpV n1 f1 n2 f2 = y at *
    generalize cmpV n0 f0 n2 f2 = z at *
    go_wp2_with fail
    refine (compare_any a1 a0 n1 c1 n0 c0 f1 f0 w4 (h1.rd.below B4) (h0.rd.below B4) h1.max h0.max).mono ?_
    rw [cmpV_neg n0 f0 n1 f1, unhide HX]
    rintro e wm ⟨rfl, hbm⟩
    have BM := bstep B4 hbm
    go_wp2_with fail
    refine (same_any a0 a1 n0 c0 n1 c1 f0 f1 wm (h0.rd.below BM) (h1.rd.below BM) h0.max h1.max).mono ?_
    rw [show samB n0 f0 n1 f1 = false by unfold samB; rw [unhide HX]; rfl]
    rintro e WX ⟨rfl, hbx⟩
    have BX := bstep BM hbx
    clear hbm hbx BM B4
    go_wp2_with fail
    refine (rjoin_any a0 n0 c0 f0 (some ⟨WX.heap.size, 0, none⟩) 1 1 (constF x) (WX.alloc (.cells #[.int .i64 x] 3)) (h0.rd.below (balloc BX _)) h0.nil (Rd.lit WX 1 (constF x) _ (by unfold maxLen; omega) rfl) (by intro h; cases h) (by omega)).mono ?_
    rintro e w5 ⟨v5, rfl, hown5, hb5⟩
    have B5 := bstep (balloc BX _) hb5
    obtain ⟨a5, c5, rfl, hnil5, _, R5, _⟩ := hown5.shape
    clear hown5 hb5 hnil5
    go_wp2_with fail
    refine (rjoin_any a1 n1 c1 f1 (some ⟨w5.heap.size, 0, none⟩) 1 1 (constF x) (w5.alloc (.cells #[.int .i64 x] 3)) (h1.rd.below (balloc B5 _)) h1.nil (Rd.lit w5 1 (constF x) _ (by unfold maxLen; omega) rfl) (by intro h; cases h) (by omega)).mono ?_
    rintro e w6 ⟨v6, rfl, hown6, hb6⟩
    have B6 := bstep (balloc B5 _) hb6
    have R5' := (R5.below ((Below.refl _ _).alloc (Nat.le_refl _) (.cells #[.int .i64 x] 3))).below hb6
    obtain ⟨a6, c6, rfl, hnil6, _, R6, _⟩ := hown6.shape
    clear hown6 hb6 hnil6 R5 B5
    go_wp2_with fail
    refine (compare_any a5 a6 (n0 + 1) c5 (n1 + 1) c6 _ _ w6 R5' R6 (by unfold maxLen; omega) (by unfold maxLen; omega)).mono ?_
    rw [cmpV_snoc, unhide HX]
    rintro e w7 ⟨rfl, hb7⟩
    have B7 := bstep B6 hb7
    clear hb7 B6 R5' R6
    go_wp2_with fail
    refine (rjoin_any a2 n2 c2 f2 a0 n0 c0 f0 w7 (h2.rd.below B7) h2.nil (h0.rd.below B7) h0.nil (by omega)).mono ?_
    rintro e w8 ⟨v8, rfl, hown8, hb8⟩
    have B8 := bstep B7 hb8
    obtain ⟨a8, c8, rfl, hnil8, _, R8, _⟩ := hown8.shape
    clear hown8 hb8 hnil8 B7
    go_wp2_with fail
    refine (rjoin_any a2 n2 c2 f2 a1 n1 c1 f1 w8 (h2.rd.below B8) h2.nil (h1.rd.below B8) h1.nil (by omega)).mono ?_
    rintro e w9 ⟨v9, rfl, hown9, hb9⟩
    have B9 := bstep B8 hb9
    have R8' := R8.below hb9
    obtain ⟨a9, c9, rfl, hnil9, _, R9, _⟩ := hown9.shape
    clear hown9 hb9 hnil9 B8 R8
    go_wp2_with fail
    refine (compare_any a8 a9 (n2 + n0) c8 (n2 + n1) c9 _ _ w9 R8' R9 (by unfold maxLen; omega) (by unfold maxLen; omega)).mono ?_
    rw [cmpV_pre, unhide HX]
    rintro e w10 ⟨rfl, hb10⟩
    have B10 := bstep B9 hb10
    clear hb10 B9 R8' R9
    go_wp2_with fail
    refine (live_any _).mono ?_
    rintro e wl ⟨rfl, hbl⟩
    have Bl := bstep B10 hbl
    go_wp2
    go_ret
    exact ⟨rfl, Bl⟩

end Go.Proofs.Ytpbceijlpkggpaa
