/-
  What sameLength, Next and the reference's Next return.
-/
import Derived.Test.YtpbceijlpkggpaaCheck
import Derived.Test.YtpbceijlpkggpaaOwn
namespace Go.Proofs.Ytpbceijlpkggpaa
open Go.RowKit

theorem samelen_any (a : Option Addr) (n c : Nat) (f : Nat → Int) (k : Int) (w : World) (hr : Rd w a n f) (hnil : a = none → n = 0 ∧ c = 0) (hc : n ≤ c) (hn : n * 8 ≤ 140737488351232) (hk0 : 1 ≤ k) (hk1 : k ≤ 64)
    (hd : ∀ i, i < n → 0 ≤ f i ∧ f i < k) :
    Calls Try.prog 45 #[.slice a n c, .int .i64 k] w fun e w' =>
      (e = .returned (.tuple #[.slice none 0 0, .bool false]) ∧ w' = w ∧ ∀ i, i < n → f i = k - 1) ∨
      ∃ p v, p < n ∧ f p < k - 1 ∧ (∀ i, p < i → i < n → f i = k - 1) ∧ e = .returned (.tuple #[v, .bool true]) ∧ Own w' w.heap.size v n (stepF p f) ∧ Below w.heap.size w w' := by
  have HD := hide hd
  clear hd
  go_enter Try.func45, Try.ntmps45
  go_wp2
  go_loop [6] (fun i => ∃ j : Nat, j ≤ n ∧ i = .int .i64 ((j : Int) - 1) ∧ ∀ l, j ≤ l → l < n → f l = k - 1) (fun i => (intOf i + 1).toNat)
  case atStart => exact ⟨n, Nat.le_refl _, rfl, fun l h1 h2 => by omega⟩
  case round =>
    obtain ⟨j, hj, rfl, hg⟩ := hrel
    have HG := hide hg
    clear hg
    match j, hj, HG with
    | 0, hj, HG =>
      go_wp2
      go_ret2
      exact .inl ⟨rfl, rfl, fun i hi => unhide HG i (by omega) hi⟩
    | p + 1, hj, HG =>
      obtain ⟨b, off, rfl, hcell⟩ := hr.at (i := p) (by omega)
      have hcp := hcell p (by omega)
      have hd1 := (unhide HD p (by omega)).1
      have hd2 := (unhide HD p (by omega)).2
      clear hcell
      by_cases h1 : f p = k - 1
      · have HE := hide h1
        have ht : (f p == k - 1) = true := by simpa using h1
        clear h1
        go_wp2
        go_round
        case rel => exact ⟨p, by omega, rfl, fun l h1 h2 => by by_cases e : l = p; { subst e; exact unhide HE }; exact unhide HG l (by omega) h2⟩
        case measure => simp [intOf]
      · have ht : (f p == k - 1) = false := by simpa using h1
        have hlt : f p < k - 1 := by omega
        clear h1
        go_wp2_with (at_make; refine wpl_make rfl (.tmp 27) (.tmp 27) rfl w.heap.size _ _ n rfl rfl rfl rfl (by omega) (Nat.le_refl _) ?_; intro w1 hown1 hb1 _; obtain ⟨w2, hrun, hown2, hb2⟩ := copy_run hown1 c ((hr.below hb1).take (m := p + 1) (by omega)) (by omega); obtain ⟨g, cap, e, hle, hmx, hBg, hgs, hcell, hfr⟩ := hown2.pos (by omega); cases e; have hcg := hcell p (by omega); have hfg := hfr p; rw [copyF, if_pos (by omega)] at hcg; clear hcell hfr)
        go_ret2
        refine .inr ⟨p, by omega, hlt, fun i h1 h2 => unhide HG i (by omega) h2, _, rfl, (hown2.store p (f p + 1)).congr fun i hi => ?_, (hb1.trans hb2).setCell (Nat.le_refl _) _⟩
        unfold setF stepF copyF
        by_cases h1 : i < p
        · rw [if_neg (by omega), if_pos (by omega), if_pos h1]
        · by_cases h2 : i = p
          · rw [if_pos h2, if_neg h1, if_pos h2]
          · rw [if_neg h2, if_neg (by omega), if_neg h1, if_neg h2]

theorem next_any (a : Option Addr) (n c : Nat) (f : Nat → Int) (k : Int) (w : World) (hr : Rd w a n f) (hnil : a = none → n = 0 ∧ c = 0) (hc : n ≤ c) (hn : n ≤ maxLen) :
    Calls Try.prog 29 #[.slice a n c, .int .i64 k] w fun e w' =>
      ∃ v, e = .returned (.tuple #[v, .int .i64 (nextV n f k).2.2]) ∧ Own w' w.heap.size v (nextV n f k).1 (nextV n f k).2.1 ∧ Below w.heap.size w w' := by
  rcases chkV_cases n f k with hw | ⟨hw, _, _⟩
  · have HC := chkV_word hw
    obtain ⟨k0, k1, hl2, hd⟩ := id hw
    have HW := hide hw
    have HD := hide hd
    clear hw hd
    go_enter Try.func29, Try.ntmps29
    go_wp2_with fail
    refine (check_any a n c f k w hr hn).mono ?_
    rw [HC]
    rintro e w' ⟨rfl, rfl⟩
    clear HC
    go_wp2_with fail
    refine (samelen_any a n c f k w' hr hnil hc (by omega) k0 k1 (unhide HD)).mono ?_
    rintro e w1 (⟨rfl, rfl, hall⟩ | ⟨p, v, hp, hp1, hp2, rfl, hown, hb⟩)
    · have HA := hide hall
      clear hall
      by_cases h4 : n = 4096
      · have ht : ((n : Int) == 4096) = true := by simp; omega
        have H := hide (nextV_full (unhide HW) (unhide HA) h4)
        clear h4
        go_wp2
        go_ret2
        exact ⟨_, by rw [unhide H]; rfl, by rw [unhide H]; exact Own.nil _ _ _, Below.refl _ _⟩
      · have ht : ((n : Int) == 4096) = false := by simp; omega
        have H := hide (nextV_long (unhide HW) (unhide HA) (by omega))
        go_wp2_with (at_make; refine wpl_make rfl (.tmp 32) (.tmp 32) rfl w1.heap.size _ _ (n + 1) rfl rfl rfl rfl (by omega) (Nat.le_refl _) ?_; intro w2 hown2 hb2 _)
        go_ret2
        exact ⟨_, by rw [unhide H]; rfl, by rw [unhide H]; exact hown2, hb2⟩
    · have H := hide (nextV_step (unhide HW) hp hp1 hp2)
      clear hp2
      go_wp2
      go_ret2
      exact ⟨_, by rw [unhide H]; rfl, by rw [unhide H]; exact hown, hb⟩
  · have H := hide (nextV_err hw)
    have hb : ((chkV n f k).2 != 0) = true := by simpa using hw
    clear hw
    go_enter Try.func29, Try.ntmps29
    go_wp2_with fail
    refine (check_any a n c f k w hr hn).mono ?_
    rintro e w' ⟨rfl, rfl⟩
    go_wp2
    go_ret2
    exact ⟨_, by rw [unhide H]; rfl, by rw [unhide H]; exact Own.nil _ _ _, Below.refl _ _⟩

end Go.Proofs.Ytpbceijlpkggpaa
