/-
  What the reference's Prefixes and Suffixes return.
-/
import Derived.Test.YtpbceijlpkggpaaParts
namespace Go.Proofs.Ytpbceijlpkggpaa
open Go.RowKit

/-- What the reference's Prefixes and Suffixes leave: N lists that read as they should. -/
def RPost (w : World) (N : Nat) (ns : Nat → Nat) (fs : Nat → Nat → Int) (e : Ending) (w' : World) : Prop :=
  ∃ v vs, e = .returned v ∧ OwnV w' w.heap.size v N vs ∧ Fam w' w.heap.size N vs ns fs ∧ Below w.heap.size w w'
structure RPInv (w : World) (t : Nat) (ns : Nat → Nat) (fs : Nat → Nat → Int) (wr : World) (v : Value) (vs : Nat → Value) : Prop where
  out : OwnV wr w.heap.size v t vs
  fam : Fam wr w.heap.size t vs ns fs
  apart : ∀ b, v.ownBlock = some b → ∀ i, i < t → (vs i).ownBlock ≠ some b
  below : Below w.heap.size w wr
theorem RPInv.fin {w wr : World} {N : Nat} {ns : Nat → Nat} {fs : Nat → Nat → Int} {v : Value} {vs : Nat → Value} (h : RPInv w N ns fs wr v vs) : RPost w N ns fs (.returned v) wr := ⟨v, vs, rfl, h.out, h.fam, h.below⟩
theorem RPInv.step {w wr w2 w4 : World} {t : Nat} {ns : Nat → Nat} {fs : Nat → Nat → Int} {v v' u : Value} {vs : Nat → Value} (h : RPInv w t ns fs wr v vs) (hu : Own w2 wr.heap.size u (ns t) (fs t)) (hb : Below wr.heap.size wr w2) (o : Obj)
    (ho : OwnV w4 w.heap.size v' (t + 1) (joinV t vs fun _ => u)) (hg : (w2.alloc o).grownBy w4 v.ownBlock) (hv : ∀ b, v'.ownBlock = some b → v.ownBlock = some b ∨ (w2.alloc o).heap.size ≤ b) :
    RPInv w (t + 1) ns fs w4 v' (joinV t vs fun _ => u) := by
  have hsz := h.below.size
  have hsz2 := hb.size
  have hA : ∀ b, b < w2.heap.size → some b ≠ v.ownBlock → w4.heap[b]? = w2.heap[b]? := fun b h1 h2 => by
    rw [hg.block b (by simp; omega) h2, Below.heap_alloc _ _ _ h1]
  have hvb : ∀ b, v.ownBlock = some b → w.heap.size ≤ b ∧ b < wr.heap.size := fun b e => h.out.lt e
  have hub : ∀ b, u.ownBlock = some b → wr.heap.size ≤ b ∧ b < w2.heap.size := fun b e => hu.lt e
  have hib : ∀ i, i < t → ∀ b, (vs i).ownBlock = some b → w.heap.size ≤ b ∧ b < wr.heap.size := fun i hi b e => (h.fam.own i hi).lt e
  have F1 : Fam w4 w.heap.size t vs ns fs := (h.fam.below hb).keep fun i hi b e => hA b (by have := hib i hi b e; omega) fun e2 => h.apart b e2.symm i hi e
  have F2 := F1.snoc (u := u) ((hu.base hsz).keep fun b e => hA b (hub b e).2 fun e2 => by have := hub b e; have := hvb b e2.symm; omega) fun i hi b e e2 => by have := hib i hi b e; have := hub b e2; omega
  have hsv : ∀ i, i < t + 1 → setV t u vs i = joinV t vs (fun _ => u) i := fun i hi => by
    by_cases e : i = t
    · subst e; rw [setV_same, joinV_ge (Nat.le_refl _)]
    · rw [setV_ne e, joinV_lt (by omega)]
  refine ⟨ho, ⟨fun i hi => by rw [← hsv i hi]; exact F2.own i hi, fun i j hi hj => by rw [← hsv i hi, ← hsv j hj]; exact F2.apart i j hi hj⟩, fun b e i hi e2 => ?_, ?_⟩
  · rw [← hsv i hi] at e2
    by_cases c : i = t
    · subst c
      rw [setV_same] at e2
      have := hub b e2
      rcases hv b e with h1 | h1
      · have := hvb b h1; omega
      · simp at h1; omega
    · rw [setV_ne c] at e2
      have := hib i (by omega) b e2
      rcases hv b e with h1 | h1
      · exact h.apart b h1 i (by omega) e2
      · simp at h1; omega
  · exact (((h.below.trans (hb.mono hsz)).alloc (by omega) o).grown hg (by simp; omega) fun k e => (hvb k e).1)

theorem rprefixes_any (a : Option Addr) (n c : Nat) (f : Nat → Int) (w : World) (hr : Rd w a n f) (hnil : a = none → n = 0 ∧ c = 0) (hc : n ≤ c) (hn : n ≤ 100000) :
    Calls Try.prog 26 #[.slice a n c] w fun e w' => RPost w (n + 1) (fun i => i) (fun _ => f) e w' := by
  go_enter Try.func26, Try.ntmps26
  go_wp2
  go_loopw [3, 4] (fun v i wr => ∃ (t : Nat) (vs : Nat → Value), t ≤ n + 1 ∧ i = .int .i64 t ∧ RPInv w t (fun i => i) (fun _ => f) wr v vs) (fun _ i _ => n + 1 - (intOf i).toNat)
  case atStart => exact ⟨0, fun _ => .slice none 0 0, by omega, rfl, OwnV.nil _ _ _, Fam.zero _ _ _ _ _, (fun b e => by cases e), Below.refl _ _⟩
  case round =>
    obtain ⟨t, vs, ht, rfl, hinv⟩ := hrel
    have HI := hide hinv
    have hbr := hinv.below
    have hszr := hbr.size
    have hout := hinv.out
    obtain ⟨av, cv, rfl, _, _, _⟩ := hout.shape
    clear hinv
    by_cases hlt : t < n + 1
    · have hlt' : (t : Int) ≤ (n : Int) := by omega
      have h0 : Own (wr.alloc (.cells #[] 3)) wr.heap.size (.slice (some ⟨wr.heap.size, 0, none⟩) 0 0) 0 f := Own.lit wr _ 0 f #[] (Nat.le_refl _) (by unfold maxLen; omega) rfl
      have hb0 : Below wr.heap.size wr (wr.alloc (.cells #[] 3)) := (Below.refl _ _).alloc (Nat.le_refl _) _
      go_wp2_with (first | (at_builtin; refine wpl_append rfl (.tmp 12) (.tmp 15) rfl wr.heap.size _ 0 f rfl h0 a t c f rfl (((hr.below hbr).below hb0).take (by omega)) (by intro h; have := hnil h; omega) (by omega) (by simp) ?_; intro v1 w1 hown1 hb1 _; have hb2 := hb0.trans hb1; have hout1 := hout.below hb2; rw [Nat.zero_add] at hown1; have hu : Own w1 wr.heap.size v1 t f := hown1.congr (fun i _ => by rw [joinF_ge (Nat.zero_le _)]; rfl); clear hown1; obtain ⟨a1, c1, rfl, _, _, _, _⟩ := hu.shape) | (at_builtin; refine wplV_append3 rfl (.tmp 11) (.tmp 17) rfl w.heap.size _ t vs rfl (hout1.alloc _) ⟨w1.heap.size, 0, none⟩ 1 1 (fun _ => .slice a1 t c1) rfl (RdV.lit w1 1 (fun _ => .slice a1 t c1) _ (by unfold maxLen; omega) (by simp [cellsV])) (by intro i _; exact ⟨_, _, _, rfl⟩) (by omega) (by omega) (by have := hb2.size; simp; omega) ?_; intro v3 w3 hown3 hg3 hv3))
      go_roundw
      case rel => exact ⟨t + 1, _, by omega, by go_num, (unhide HI).step hu hb2 _ hown3 hg3 hv3⟩
      case measure => simp [intOf]; omega
    · have he : t = n + 1 := by omega
      subst he
      go_wp2
      go_ret
      exact (unhide HI).fin

theorem rsuffixes_any (a : Option Addr) (n c : Nat) (f : Nat → Int) (w : World) (hr : Rd w a n f) (hnil : a = none → n = 0 ∧ c = 0) (hc : n ≤ c) (hn : n ≤ 100000) :
    Calls Try.prog 27 #[.slice a n c] w fun e w' => RPost w (n + 1) (fun i => i) (fun i j => f (n - i + j)) e w' := by
  go_enter Try.func27, Try.ntmps27
  go_wp2
  go_loopw [3, 4] (fun v i wr => ∃ (t : Nat) (vs : Nat → Value), t ≤ n + 1 ∧ i = .int .i64 ((n : Int) - t) ∧ RPInv w t (fun i => i) (fun i j => f (n - i + j)) wr v vs) (fun _ i _ => (intOf i + 1).toNat)
  case atStart => exact ⟨0, fun _ => .slice none 0 0, by omega, by go_num, OwnV.nil _ _ _, Fam.zero _ _ _ _ _, (fun b e => by cases e), Below.refl _ _⟩
  case round =>
    obtain ⟨t, vs, ht, rfl, hinv⟩ := hrel
    have HI := hide hinv
    have hbr := hinv.below
    have hszr := hbr.size
    have hout := hinv.out
    obtain ⟨av, cv, rfl, _, _, _⟩ := hout.shape
    clear hinv
    by_cases hlt : t < n + 1
    · have hlt' : (t : Int) ≤ (n : Int) := by omega
      have h0 : Own (wr.alloc (.cells #[] 3)) wr.heap.size (.slice (some ⟨wr.heap.size, 0, none⟩) 0 0) 0 f := Own.lit wr _ 0 f #[] (Nat.le_refl _) (by unfold maxLen; omega) rfl
      have hb0 : Below wr.heap.size wr (wr.alloc (.cells #[] 3)) := (Below.refl _ _).alloc (Nat.le_refl _) _
      by_cases hcl : c = n - t
      · obtain rfl : t = 0 := by omega
        obtain rfl : c = n := by omega
        clear hcl
        go_wp2_with (first | (at_builtin; refine wpl_append rfl (.tmp 12) (.tmp 15) rfl wr.heap.size _ 0 f rfl h0 a 0 0 (fun j => f (c - 0 + j)) rfl (Rd.nil _ _ _) (fun _ => ⟨rfl, rfl⟩) (by omega) (by simp) ?_; intro v1 w1 hown1 hb1 _; have hb2 := hb0.trans hb1; have hout1 := hout.below hb2; rw [show 0 + (0) = 0 by omega] at hown1; have hu : Own w1 wr.heap.size v1 0 (fun j => f (c - 0 + j)) := hown1.congr (fun i _ => by rw [joinF_ge (Nat.zero_le _)]; rfl); clear hown1; obtain ⟨a1, c1, rfl, _, _, _, _⟩ := hu.shape) | (at_builtin; refine wplV_append3 rfl (.tmp 11) (.tmp 17) rfl w.heap.size _ 0 vs rfl (hout1.alloc _) ⟨w1.heap.size, 0, none⟩ 1 1 (fun _ => .slice a1 0 c1) rfl (RdV.lit w1 1 (fun _ => .slice a1 0 c1) _ (by unfold maxLen; omega) (by simp [cellsV])) (by intro i _; exact ⟨_, _, _, rfl⟩) (by omega) (by omega) (by have := hb2.size; simp; omega) ?_; intro v3 w3 hown3 hg3 hv3))
        go_roundw
        case rel => exact ⟨0 + 1, _, by omega, by simp, (unhide HI).step hu hb2 _ hown3 hg3 hv3⟩
        case measure => simp [intOf]
      · go_wp2_with (first | (at_builtin; refine wpl_append rfl (.tmp 12) (.tmp 15) rfl wr.heap.size _ 0 f rfl h0 (a.map fun x => x.add (n - t)) (n - (n - t)) (c - (n - t)) (fun j => f (n - t + j)) rfl (((hr.below hbr).below hb0).drop (n - t)) (by intro h; have := hnil (Option.map_eq_none_iff.1 h); omega) (by omega) (by simp) ?_; intro v1 w1 hown1 hb1 _; have hb2 := hb0.trans hb1; have hout1 := hout.below hb2; rw [show 0 + (n - (n - t)) = t by omega] at hown1; have hu : Own w1 wr.heap.size v1 t (fun j => f (n - t + j)) := hown1.congr (fun i _ => by rw [joinF_ge (Nat.zero_le _)]; rfl); clear hown1; obtain ⟨a1, c1, rfl, _, _, _, _⟩ := hu.shape) | (at_builtin; refine wplV_append3 rfl (.tmp 11) (.tmp 17) rfl w.heap.size _ t vs rfl (hout1.alloc _) ⟨w1.heap.size, 0, none⟩ 1 1 (fun _ => .slice a1 t c1) rfl (RdV.lit w1 1 (fun _ => .slice a1 t c1) _ (by unfold maxLen; omega) (by simp [cellsV])) (by intro i _; exact ⟨_, _, _, rfl⟩) (by omega) (by omega) (by have := hb2.size; simp; omega) ?_; intro v3 w3 hown3 hg3 hv3))
        go_roundw
        case rel => exact ⟨t + 1, _, by omega, by go_num, (unhide HI).step hu hb2 _ hown3 hg3 hv3⟩
        case measure => simp [intOf]; omega
    · have he : t = n + 1 := by omega
      subst he
      go_wp2
      go_ret
      exact (unhide HI).fin

end Go.Proofs.Ytpbceijlpkggpaa
