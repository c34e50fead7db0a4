/-
  What the reference's Prefixes and Suffixes return.
-/
import Derived.Test.YtaldjpjlggnhhaaParts
import Derived.Test.YtaldjpjlggnhhaaK1
namespace Go.Proofs.Ytaldjpjlggnhhaa
open Go.RowKit

theorem rprefixes_any (a : Option Addr) (n c : Nat) (f : Nat → Int) (w : World) (hr : Rd w a n f) (hnil : a = none → n = 0 ∧ c = 0) (hc : n ≤ c) (hn : n ≤ 100000) :
    Calls Try.prog 24 #[.slice a n c] w fun e w' => RPost w (n + 1) (fun i => i) (fun _ => f) e w' := by
  go_enter Try.func24, Try.ntmps24
  go_wp2
  go_loopw [3, 4] (fun v i wr => ∃ (t : Nat) (vs : Nat → Value), t ≤ n + 1 ∧ i = .int .i64 t ∧ RPInv w t (fun i => i) (fun _ => f) wr v vs) (fun _ i _ => n + 1 - (intOf i).toNat)
  case atStart => exact ⟨0, fun _ => .slice none 0 0, by omega, rfl, OwnV.nil _ _ _, Fam.zero _ _ _ _ _, (fun b e => by cases e), Below.refl _ _⟩
  case round =>
    obtain ⟨t, vs, ht, rfl, hinv⟩ := hrel
    have HI := hide hinv
    have hbr := hinv.below
    have hszr := hbr.size
    have hout := hinv.out
    obtain ⟨av, cv, rfl, _, _, _⟩ := hout.shape
    clear hinv
    by_cases hlt : t < n + 1
    · have hlt' : (t : Int) ≤ (n : Int) := by omega
      have h0 : Own (wr.alloc (.cells #[] 3)) wr.heap.size (.slice (some ⟨wr.heap.size, 0, none⟩) 0 0) 0 f := Own.lit wr _ 0 f #[] (Nat.le_refl _) (by unfold maxLen; omega) rfl
      have hb0 : Below wr.heap.size wr (wr.alloc (.cells #[] 3)) := (Below.refl _ _).alloc (Nat.le_refl _) _
      go_wp2_with (first | (at_builtin; refine wpl_append rfl (.tmp 12) (.tmp 15) rfl wr.heap.size _ 0 f rfl h0 a t c f rfl (((hr.below hbr).below hb0).take (by omega)) (by intro h; have := hnil h; omega) (by omega) (by simp) ?_; intro v1 w1 hown1 hb1 _; have hb2 := hb0.trans hb1; have hout1 := hout.below hb2; rw [Nat.zero_add] at hown1; have hu : Own w1 wr.heap.size v1 t f := hown1.congr (fun i _ => by rw [joinF_ge (Nat.zero_le _)]; rfl); clear hown1; obtain ⟨a1, c1, rfl, _, _, _, _⟩ := hu.shape) | (at_builtin; refine wplV_append3 rfl (.tmp 11) (.tmp 17) rfl w.heap.size _ t vs rfl (hout1.alloc _) ⟨w1.heap.size, 0, none⟩ 1 1 (fun _ => .slice a1 t c1) rfl (RdV.lit w1 1 (fun _ => .slice a1 t c1) _ (by unfold maxLen; omega) (by simp [cellsV])) (by intro i _; exact ⟨_, _, _, rfl⟩) (by omega) (by omega) (by have := hb2.size; simp; omega) ?_; intro v3 w3 hown3 hg3 hv3))
      go_roundw
      case rel => exact ⟨t + 1, _, by omega, by go_num, (unhide HI).step hu hb2 _ hown3 hg3 hv3⟩
      case measure => simp [intOf]; omega
    · have he : t = n + 1 := by omega
      subst he
      go_wp2
      go_ret
      exact (unhide HI).fin

theorem rsuffixes_any (a : Option Addr) (n c : Nat) (f : Nat → Int) (w : World) (hr : Rd w a n f) (hnil : a = none → n = 0 ∧ c = 0) (hc : n ≤ c) (hn : n ≤ 100000) :
    Calls Try.prog 25 #[.slice a n c] w fun e w' => RPost w (n + 1) (fun i => i) (fun i j => f (n - i + j)) e w' := by
  go_enter Try.func25, Try.ntmps25
  go_wp2
  go_loopw [3, 4] (fun v i wr => ∃ (t : Nat) (vs : Nat → Value), t ≤ n + 1 ∧ i = .int .i64 ((n : Int) - t) ∧ RPInv w t (fun i => i) (fun i j => f (n - i + j)) wr v vs) (fun _ i _ => (intOf i + 1).toNat)
  case atStart => exact ⟨0, fun _ => .slice none 0 0, by omega, by go_num, OwnV.nil _ _ _, Fam.zero _ _ _ _ _, (fun b e => by cases e), Below.refl _ _⟩
  case round =>
    obtain ⟨t, vs, ht, rfl, hinv⟩ := hrel
    have HI := hide hinv
    have hbr := hinv.below
    have hszr := hbr.size
    have hout := hinv.out
    obtain ⟨av, cv, rfl, _, _, _⟩ := hout.shape
    clear hinv
    by_cases hlt : t < n + 1
    · have hlt' : (t : Int) ≤ (n : Int) := by omega
      have h0 : Own (wr.alloc (.cells #[] 3)) wr.heap.size (.slice (some ⟨wr.heap.size, 0, none⟩) 0 0) 0 f := Own.lit wr _ 0 f #[] (Nat.le_refl _) (by unfold maxLen; omega) rfl
      have hb0 : Below wr.heap.size wr (wr.alloc (.cells #[] 3)) := (Below.refl _ _).alloc (Nat.le_refl _) _
      by_cases hcl : c = n - t
      · obtain rfl : t = 0 := by omega
        obtain rfl : c = n := by omega
        clear hcl
        go_wp2_with (first | (at_builtin; refine wpl_append rfl (.tmp 12) (.tmp 15) rfl wr.heap.size _ 0 f rfl h0 a 0 0 (fun j => f (c - 0 + j)) rfl (Rd.nil _ _ _) (fun _ => ⟨rfl, rfl⟩) (by omega) (by simp) ?_; intro v1 w1 hown1 hb1 _; have hb2 := hb0.trans hb1; have hout1 := hout.below hb2; rw [show 0 + (0) = 0 by omega] at hown1; have hu : Own w1 wr.heap.size v1 0 (fun j => f (c - 0 + j)) := hown1.congr (fun i _ => by rw [joinF_ge (Nat.zero_le _)]; rfl); clear hown1; obtain ⟨a1, c1, rfl, _, _, _, _⟩ := hu.shape) | (at_builtin; refine wplV_append3 rfl (.tmp 11) (.tmp 17) rfl w.heap.size _ 0 vs rfl (hout1.alloc _) ⟨w1.heap.size, 0, none⟩ 1 1 (fun _ => .slice a1 0 c1) rfl (RdV.lit w1 1 (fun _ => .slice a1 0 c1) _ (by unfold maxLen; omega) (by simp [cellsV])) (by intro i _; exact ⟨_, _, _, rfl⟩) (by omega) (by omega) (by have := hb2.size; simp; omega) ?_; intro v3 w3 hown3 hg3 hv3))
        go_roundw
        case rel => exact ⟨0 + 1, _, by omega, by simp, (unhide HI).step hu hb2 _ hown3 hg3 hv3⟩
        case measure => simp [intOf]
      · go_wp2_with (first | (at_builtin; refine wpl_append rfl (.tmp 12) (.tmp 15) rfl wr.heap.size _ 0 f rfl h0 (a.map fun x => x.add (n - t)) (n - (n - t)) (c - (n - t)) (fun j => f (n - t + j)) rfl (((hr.below hbr).below hb0).drop (n - t)) (by intro h; have := hnil (Option.map_eq_none_iff.1 h); omega) (by omega) (by simp) ?_; intro v1 w1 hown1 hb1 _; have hb2 := hb0.trans hb1; have hout1 := hout.below hb2; rw [show 0 + (n - (n - t)) = t by omega] at hown1; have hu : Own w1 wr.heap.size v1 t (fun j => f (n - t + j)) := hown1.congr (fun i _ => by rw [joinF_ge (Nat.zero_le _)]; rfl); clear hown1; obtain ⟨a1, c1, rfl, _, _, _, _⟩ := hu.shape) | (at_builtin; refine wplV_append3 rfl (.tmp 11) (.tmp 17) rfl w.heap.size _ t vs rfl (hout1.alloc _) ⟨w1.heap.size, 0, none⟩ 1 1 (fun _ => .slice a1 t c1) rfl (RdV.lit w1 1 (fun _ => .slice a1 t c1) _ (by unfold maxLen; omega) (by simp [cellsV])) (by intro i _; exact ⟨_, _, _, rfl⟩) (by omega) (by omega) (by have := hb2.size; simp; omega) ?_; intro v3 w3 hown3 hg3 hv3))
        go_roundw
        case rel => exact ⟨t + 1, _, by omega, by go_num, (unhide HI).step hu hb2 _ hown3 hg3 hv3⟩
        case measure => simp [intOf]; omega
    · have he : t = n + 1 := by omega
      subst he
      go_wp2
      go_ret
      exact (unhide HI).fin

end Go.Proofs.Ytaldjpjlggnhhaa
