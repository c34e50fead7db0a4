/-
  What the reference's Next returns, for every list and every k.
-/
import Derived.Test.YtpbceijlpkggpaaNext
namespace Go.Proofs.Ytpbceijlpkggpaa
open Go.RowKit

/-- The length in a slot that holds a slice. -/
def lenOf : Value → Nat | .slice _ n _ => n | _ => 0

theorem rnext_any (a : Option Addr) (n c : Nat) (f : Nat → Int) (k : Int) (w : World) (hr : Rd w a n f) (hnil : a = none → n = 0 ∧ c = 0) (hc : n ≤ c) (hn : n ≤ maxLen) :
    Calls Try.prog 30 #[.slice a n c, .int .i64 k] w fun e w' =>
      ∃ v, e = .returned (.tuple #[v, .int .i64 (nextV n f k).2.2]) ∧ Own w' w.heap.size v (nextV n f k).1 (nextV n f k).2.1 ∧ Below w.heap.size w w' := by
  rcases chkV_cases n f k with hw | ⟨hw, _, _⟩
  · have HC := chkV_word hw
    obtain ⟨k0, k1, hl2, hd⟩ := id hw
    have HW := hide hw
    have HD := hide hd
    clear hw hd
    go_enter Try.func30, Try.ntmps30
    go_wp2_with fail
    refine (rcheck_any a n c f k w hr hn).mono ?_
    rw [HC]
    rintro e w' ⟨rfl, rfl⟩
    clear HC
    go_wp2
    go_loop [8] (fun i => ∃ j : Nat, j ≤ n ∧ i = .int .i64 ((j : Int) - 1) ∧ ∀ l, j ≤ l → l < n → f l = k - 1) (fun i => (intOf i + 1).toNat)
    case atStart => exact ⟨n, Nat.le_refl _, rfl, fun l h1 h2 => by omega⟩
    case round =>
      obtain ⟨j, hj, rfl, hg⟩ := hrel
      have HG := hide hg
      clear hg
      match j, hj, HG with
      | 0, hj, HG =>
        by_cases h4 : n = 4096
        · have ht : ((n : Int) == 4096) = true := by simp; omega
          have H := hide (nextV_full (unhide HW) (fun i hi => unhide HG i (by omega) hi) h4)
          clear h4
          go_wp2
          go_ret2
          exact ⟨_, by rw [unhide H]; rfl, by rw [unhide H]; exact Own.nil _ _ _, Below.refl _ _⟩
        · have ht : ((n : Int) == 4096) = false := by simp; omega
          have H := hide (nextV_long (unhide HW) (fun i hi => unhide HG i (by omega) hi) (by omega))
          go_wp2_with (at_make; refine wpl_make rfl (.tmp 60) (.tmp 60) rfl w'.heap.size _ _ (n + 1) rfl rfl rfl rfl (by omega) (Nat.le_refl _) ?_; intro w2 hown2 hb2 _)
          go_ret2
          exact ⟨_, by rw [unhide H]; rfl, by rw [unhide H]; exact hown2, hb2⟩
      | p + 1, hj, HG =>
        obtain ⟨b, off, rfl, hcell⟩ := hr.at (i := p) (by omega)
        have hcp := hcell p (by omega)
        have hd1 := (unhide HD p (by omega)).1
        have hd2 := (unhide HD p (by omega)).2
        clear hcell
        by_cases h1 : f p < k - 1
        · have H := hide (nextV_step (unhide HW) (p := p) (by omega) h1 fun i a b => unhide HG i (by omega) b)
          have h0 : Own (w'.alloc (.cells #[] 3)) w'.heap.size (.slice (some ⟨w'.heap.size, 0, none⟩) 0 0) 0 f := Own.lit w' _ 0 f #[] (Nat.le_refl _) (by unfold maxLen; omega) rfl
          have hb0 : Below w'.heap.size w' (w'.alloc (.cells #[] 3)) := (Below.refl _ _).alloc (Nat.le_refl _) _
          go_wp2_with (first | (at_builtin; refine wpl_append rfl (.tmp 33) (.tmp 36) rfl w'.heap.size _ 0 f rfl h0 (some ⟨b, off, none⟩) p c f rfl ((hr.below hb0).take (by omega)) (by intro h; cases h) (by omega) (by simp) ?_; intro v1 w1 hown1 hb1 _; have hcp1 := (hb0.trans hb1).cell (p := ⟨b, off + p, none⟩) (World.block_lt_of_cell? _ _ hcp); rw [hcp] at hcp1) | (at_builtin; refine wpl_append rfl (.tmp 38) (.tmp 44) rfl w'.heap.size v1 (0 + p) (joinF 0 f f) rfl (hown1.alloc _) (some ⟨w1.heap.size, 0, none⟩) 1 1 (constF (f p + 1)) rfl (Rd.lit w1 1 (constF (f p + 1)) _ (by unfold maxLen; omega) rfl) (by intro h; cases h) (by omega) (by have := hb1.size; simp at this ⊢; omega) ?_; intro v2 w2 hown2 hb2 _))
          have hsz1 : w'.heap.size ≤ w1.heap.size := by have := hb1.size; simp at this; omega
          have hbA : Below w'.heap.size w' w2 := ((hb0.trans hb1).alloc hsz1 _).trans hb2
          have hownA : Own w2 w'.heap.size v2 (p + 1) (stepF p f) := by
            have h := hown2.congr (g := stepF p f) fun i hi => by
              unfold stepF
              by_cases h1 : i < p
              · rw [joinF_lt (by omega), joinF_ge (by omega), if_pos h1]; rfl
              · rw [joinF_ge (by omega), if_neg h1, if_pos (by omega)]; rfl
            rwa [Nat.zero_add] at h
          clear hown2 hown1 hb1 hb2 h0 hb0 hcp1 hcp
          go_loopw [9] (fun v wr => ∃ m : Nat, p + 1 ≤ m ∧ m ≤ n ∧ Own wr w'.heap.size v m (stepF p f) ∧ Below w'.heap.size w' wr) (fun v _ => n - lenOf v)
          case atStart => exact ⟨p + 1, Nat.le_refl _, hj, hownA, hbA⟩
          case round =>
            obtain ⟨m, hm1, hm2, hownr, hbr⟩ := hrel
            obtain ⟨ar, cr, rfl, hnilr, hcr, hrdr, hblk⟩ := hownr.shape
            have hszr := hbr.size
            have HB := hide hblk
            have HN := hide hnilr
            clear hblk hnilr
            by_cases hlt : m < n
            · go_wp2_with (at_builtin; refine wpl_append rfl (.tmp 51) (.tmp 52) rfl w'.heap.size _ m (stepF p f) rfl (hownr.alloc _) (some ⟨wr.heap.size, 0, none⟩) 1 1 (constF 0) rfl (Rd.lit wr 1 (constF 0) _ (by unfold maxLen; omega) rfl) (by intro h; cases h) (by omega) (by simp; omega) ?_; intro v3 w3 hown3 hb3 _)
              go_roundw
              case rel =>
                refine ⟨m + 1, by omega, by omega, hown3.congr fun i hi => ?_, (hbr.alloc hszr _).trans hb3⟩
                by_cases h1 : i < m
                · rw [joinF_lt h1]
                · rw [joinF_ge (by omega)]; unfold stepF constF; rw [if_neg (by omega), if_neg (by omega)]
              case measure =>
                obtain ⟨ar3, cr3, rfl, _⟩ := hown3.shape
                simp [lenOf]; omega
            · have he : m = n := by omega
              subst he
              go_wp2
              go_ret2
              exact ⟨_, by rw [unhide H]; rfl, by rw [unhide H]; exact hownr, hbr⟩
        · have HE := hide (show f p = k - 1 by omega)
          go_wp2
          go_round
          case rel => exact ⟨p, by omega, rfl, fun l h1 h2 => by by_cases e : l = p; { subst e; exact unhide HE }; exact unhide HG l (by omega) h2⟩
          case measure => simp [intOf]
  · have H := hide (nextV_err hw)
    have hb : ((chkV n f k).2 != 0) = true := by simpa using hw
    clear hw
    go_enter Try.func30, Try.ntmps30
    go_wp2_with fail
    refine (rcheck_any a n c f k w hr hn).mono ?_
    rintro e w' ⟨rfl, rfl⟩
    go_wp2
    go_ret2
    exact ⟨_, by rw [unhide H]; rfl, by rw [unhide H]; exact Own.nil _ _ _, Below.refl _ _⟩

end Go.Proofs.Ytpbceijlpkggpaa
