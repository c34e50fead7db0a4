/-
  What fresh, Prefixes, Suffixes and Join return: lists in memory of their own.
-/
import Derived.Test.YtaldjpjlggnhhaaK1
namespace Go.Proofs.Ytaldjpjlggnhhaa
open Go.RowKit

theorem fresh_any (a : Option Addr) (n c : Nat) (f : Nat → Int) (w : World) (hr : Rd w a n f) (hn : n * 8 ≤ 140737488351232) :
    Calls Try.prog 36 #[.slice a n c] w fun e w' => ∃ v, e = .returned v ∧ Own w' w.heap.size v n f ∧ Below w.heap.size w w' := by
  go_enter Try.func36, Try.ntmps36
  go_wp2_with (at_make; refine wpl_make rfl (.tmp 5) (.tmp 5) rfl w.heap.size _ _ n rfl rfl rfl rfl (by omega) (Nat.le_refl _) ?_; intro w1 hown1 hb1 _; obtain ⟨w2, hrun, hown2, hb2⟩ := copy_run hown1 c (hr.below hb1) (Nat.le_refl _))
  go_ret
  exact ⟨_, rfl, hown2.congr fun i hi => by simp [copyF, hi], hb1.trans hb2⟩

/-- What Prefixes and Suffixes leave: the outer slice v, the lists vs. -/
def PartsPost (w : World) (n : Nat) (fs : Nat → Nat → Int) (e : Ending) (w' : World) : Prop :=
  ∃ v vs, e = .returned v ∧ OwnV w' w.heap.size v (n + 1) vs ∧ Fam w' w.heap.size (n + 1) vs (fun i => i) fs ∧ (∀ b, v.ownBlock = some b → ∀ i, i < n + 1 → (vs i).ownBlock ≠ some b) ∧ Below w.heap.size w w'
theorem PartsPost.mk {w w' : World} {n : Nat} {fs : Nat → Nat → Int} {v : Value} {vs : Nat → Value} (h1 : OwnV w' w.heap.size v (n + 1) vs) (h2 : Fam w' w.heap.size (n + 1) vs (fun i => i) fs)
    (h3 : ∀ b, v.ownBlock = some b → ∀ i, i < n + 1 → (vs i).ownBlock ≠ some b) (h4 : Below w.heap.size w w') : PartsPost w n fs (.returned v) w' := ⟨v, vs, rfl, h1, h2, h3, h4⟩

/-- What holds behind t rounds. -/
structure PartsInv (w : World) (n g : Nat) (fs : Nat → Nat → Int) (t : Nat) (wr : World) (vs : Nat → Value) : Prop where
  out : OwnV wr w.heap.size (.slice (some ⟨g, 0, none⟩) (n + 1) (n + 1)) (n + 1) vs
  fam : Fam wr w.heap.size t vs (fun i => i) fs
  apart : ∀ i, i < t → (vs i).ownBlock ≠ some g
  below : Below w.heap.size w wr
theorem PartsInv.step {w wr w1 : World} {n g t : Nat} {fs : Nat → Nat → Int} {vs : Nat → Value} {u : Value} (h : PartsInv w n g fs t wr vs) (hu : Own w1 wr.heap.size u t (fs t)) (hb : Below wr.heap.size wr w1) :
    PartsInv w n g fs (t + 1) (w1.setCell ⟨g, t, none⟩ u) (setV t u vs) := by
  have hsz := h.below.size
  have hg := (h.out.lt (b := g) rfl)
  have hug : ∀ b, u.ownBlock = some b → wr.heap.size ≤ b := fun b e => (hu.lt e).1
  have hset : ∀ b, b ≠ g → (w1.setCell ⟨g, t, none⟩ u).heap[b]? = w1.heap[b]? := fun b e => Below.heap_setCell w1 ⟨g, t, none⟩ u b e
  refine ⟨(h.out.below hb).store t u, ?_, ?_, ?_⟩
  · refine Fam.snoc (((h.fam.below hb).keep fun i hi b e => hset b fun e2 => h.apart i hi (by rw [e, e2]))) ((hu.base hsz).keep fun b e => hset b fun e2 => by have := hug b e; omega) fun i hi b e e2 => ?_
    have h1 := ((h.fam.own i hi).lt e).2
    have h2 := hug b e2
    omega
  · intro i hi
    by_cases e : i = t
    · subst e; rw [setV_same]; intro e2; have := hug g e2; omega
    · rw [setV_ne e]; exact h.apart i (by omega)
  · exact (h.below.trans (hb.mono hsz)).setCell hg.1 u
/-- The same with its room told. -/
def PartsPostC (w : World) (n : Nat) (fs : Nat → Nat → Int) (e : Ending) (w' : World) : Prop :=
  ∃ g vs, e = .returned (.slice (some ⟨g, 0, none⟩) (n + 1) (n + 1)) ∧ OwnV w' w.heap.size (.slice (some ⟨g, 0, none⟩) (n + 1) (n + 1)) (n + 1) vs ∧ Fam w' w.heap.size (n + 1) vs (fun i => i) fs ∧ (∀ i, i < n + 1 → (vs i).ownBlock ≠ some g) ∧ Below w.heap.size w w'
theorem PartsPostC.post {w w' : World} {n : Nat} {fs : Nat → Nat → Int} {e : Ending} (h : PartsPostC w n fs e w') : PartsPost w n fs e w' := by
  obtain ⟨g, vs, rfl, h1, h2, h3, h4⟩ := h
  exact PartsPost.mk h1 h2 (fun b e i hi => by cases e; exact h3 i hi) h4
theorem PartsInv.finC {w wr : World} {n g : Nat} {fs : Nat → Nat → Int} {vs : Nat → Value} (h : PartsInv w n g fs (n + 1) wr vs) : PartsPostC w n fs (.returned (.slice (some ⟨g, 0, none⟩) (n + 1) (n + 1))) wr :=
  ⟨g, vs, rfl, h.out, h.fam, h.apart, h.below⟩
theorem PartsInv.fin {w wr : World} {n g : Nat} {fs : Nat → Nat → Int} {vs : Nat → Value} (h : PartsInv w n g fs (n + 1) wr vs) : PartsPost w n fs (.returned (.slice (some ⟨g, 0, none⟩) (n + 1) (n + 1))) wr :=
  PartsPost.mk h.out h.fam (fun b e i hi => by cases e; exact h.apart i hi) h.below

theorem prefixes_cap (a : Option Addr) (n c : Nat) (f : Nat → Int) (w : World) (hr : Rd w a n f) (hc : n ≤ c) (hn : n ≤ 100000) :
    Calls Try.prog 32 #[.slice a n c] w fun e w' => PartsPostC w n (fun _ => f) e w' := by
  go_enter Try.func32, Try.ntmps32
  go_wp2_with (at_make; refine wplV_make rfl (.tmp 7) (.tmp 7) rfl w.heap.size _ _ (n + 1) rfl rfl rfl rfl (by omega) (Nat.le_refl _) ?_; intro w1 hown1 hb1 _)
  have I0 : PartsInv w n w.heap.size (fun _ => f) 0 w1 (fun _ => .slice none 0 0) := ⟨hown1, Fam.zero _ _ _ _ _, fun i hi => by omega, hb1⟩
  have HI0 := hide I0
  clear I0 hown1 hb1
  go_loopw [12] (fun i wr => ∃ (t : Nat) (vs : Nat → Value), t ≤ n + 1 ∧ i = .int .i64 t ∧ PartsInv w n w.heap.size (fun _ => f) t wr vs) (fun i _ => n + 1 - (intOf i).toNat)
  case atStart => exact ⟨0, _, by omega, rfl, unhide HI0⟩
  case round =>
    obtain ⟨t, vs, ht, rfl, hinv⟩ := hrel
    clear HI0
    have HI := hide hinv
    have hbr := hinv.below
    obtain ⟨g, cap, e, _, _, _, _, hcell, hfr⟩ := hinv.out.pos (by omega)
    cases e
    clear hinv
    by_cases hlt : t < n + 1
    · have hft := hfr t
      have hct := hcell t hlt
      have hlt' : (t : Int) < (n : Int) + 1 := by omega
      clear hcell hfr
      go_wp2_with fail
      refine (fresh_any a t c f wr ((hr.below hbr).take (by omega)) (by omega)).mono ?_
      rintro e w2 ⟨u, rfl, hu, hb2⟩
      have hf2 : w2.frozen? ⟨w.heap.size, t, none⟩ = false := by rw [hb2.frozen (by exact ((unhide HI).out.lt (b := w.heap.size) rfl).2)]; exact hft
      have hc2 : w2.cell? ⟨w.heap.size, t, none⟩ = some (vs t) := by rw [hb2.cell (by exact ((unhide HI).out.lt (b := w.heap.size) rfl).2)]; exact hct
      have HS := hide ((unhide HI).step hu hb2)
      obtain ⟨ua, uc, rfl, _⟩ := hu.shape
      clear hu hb2 hft hct
      go_wp2
      go_roundw
      case rel => exact ⟨t + 1, _, by omega, by go_num, unhide HS⟩
      case measure => simp [intOf]; omega
    · have he : t = n + 1 := by omega
      subst he
      go_wp2
      go_ret
      exact (unhide HI).finC
theorem prefixes_any (a : Option Addr) (n c : Nat) (f : Nat → Int) (w : World) (hr : Rd w a n f) (hc : n ≤ c) (hn : n ≤ 100000) :
    Calls Try.prog 32 #[.slice a n c] w fun e w' => PartsPost w n (fun _ => f) e w' :=
  (prefixes_cap a n c f w hr hc hn).mono fun _ _ h => h.post


theorem Rd.drop {w : World} {a : Option Addr} {n : Nat} {f : Nat → Int} (h : Rd w a n f) (s : Nat) : Rd w (a.map fun x => x.add s) (n - s) (fun j => f (s + j)) := by
  rcases h with h | ⟨b, off, rfl, hc⟩
  · exact .inl (by omega)
  · refine .inr ⟨b, off + s, by rw [Option.map_some, add_at], fun i hi => ?_⟩
    rw [Nat.add_assoc]; exact hc (s + i) (by omega)

theorem suffixes_cap (a : Option Addr) (n c : Nat) (f : Nat → Int) (w : World) (hr : Rd w a n f) (hc : n ≤ c) (hn : n ≤ 100000) :
    Calls Try.prog 33 #[.slice a n c] w fun e w' => PartsPostC w n (fun i j => f (n - i + j)) e w' := by
  go_enter Try.func33, Try.ntmps33
  go_wp2_with (at_make; refine wplV_make rfl (.tmp 7) (.tmp 7) rfl w.heap.size _ _ (n + 1) rfl rfl rfl rfl (by omega) (Nat.le_refl _) ?_; intro w1 hown1 hb1 _)
  have I0 : PartsInv w n w.heap.size (fun i j => f (n - i + j)) 0 w1 (fun _ => .slice none 0 0) := ⟨hown1, Fam.zero _ _ _ _ _, fun i hi => by omega, hb1⟩
  have HI0 := hide I0
  clear I0 hown1 hb1
  go_loopw [12] (fun i wr => ∃ (t : Nat) (vs : Nat → Value), t ≤ n + 1 ∧ i = .int .i64 t ∧ PartsInv w n w.heap.size (fun i j => f (n - i + j)) t wr vs) (fun i _ => n + 1 - (intOf i).toNat)
  case atStart => exact ⟨0, _, by omega, rfl, unhide HI0⟩
  case round =>
    obtain ⟨t, vs, ht, rfl, hinv⟩ := hrel
    clear HI0
    have HI := hide hinv
    have hbr := hinv.below
    obtain ⟨g, cap, e, _, _, _, _, hcell, hfr⟩ := hinv.out.pos (by omega)
    cases e
    clear hinv
    by_cases hlt : t < n + 1
    · have hft := hfr t
      have hct := hcell t hlt
      have hlt' : (t : Int) < (n : Int) + 1 := by omega
      clear hcell hfr
      by_cases hcl : c = n - t
      · obtain rfl : t = 0 := by omega
        obtain rfl : c = n := by omega
        clear hcl
        go_wp2_with fail
        refine (fresh_any a 0 0 (fun j => f (c - 0 + j)) wr (Rd.nil _ _ _) (by omega)).mono ?_
        rintro e w2 ⟨u, rfl, hu, hb2⟩
        have hf2 : w2.frozen? ⟨w.heap.size, 0, none⟩ = false := by rw [hb2.frozen (by exact ((unhide HI).out.lt (b := w.heap.size) rfl).2)]; exact hft
        have hc2 : w2.cell? ⟨w.heap.size, 0, none⟩ = some (vs 0) := by rw [hb2.cell (by exact ((unhide HI).out.lt (b := w.heap.size) rfl).2)]; exact hct
        have HS := hide ((unhide HI).step hu hb2)
        obtain ⟨ua, uc, rfl, _⟩ := hu.shape
        clear hu hb2 hft hct
        go_wp2
        go_roundw
        case rel => exact ⟨0 + 1, _, by omega, by go_num, unhide HS⟩
        case measure => simp [intOf]
      · go_wp2_with fail
        refine (fresh_any _ (n - (n - t)) (c - (n - t)) (fun j => f (n - t + j)) wr ((hr.below hbr).drop (n - t)) (by omega)).mono ?_
        rintro e w2 ⟨u, rfl, hu, hb2⟩
        have hu' : Own w2 wr.heap.size u t (fun j => f (n - t + j)) := by rwa [show n - (n - t) = t by omega] at hu
        have hf2 : w2.frozen? ⟨w.heap.size, t, none⟩ = false := by rw [hb2.frozen (by exact ((unhide HI).out.lt (b := w.heap.size) rfl).2)]; exact hft
        have hc2 : w2.cell? ⟨w.heap.size, t, none⟩ = some (vs t) := by rw [hb2.cell (by exact ((unhide HI).out.lt (b := w.heap.size) rfl).2)]; exact hct
        have HS := hide ((unhide HI).step hu' hb2)
        obtain ⟨ua, uc, rfl, _⟩ := hu'.shape
        clear hu hu' hb2 hft hct
        go_wp2
        go_roundw
        case rel => exact ⟨t + 1, _, by omega, by go_num, unhide HS⟩
        case measure => simp [intOf]; omega
    · have he : t = n + 1 := by omega
      subst he
      go_wp2
      go_ret
      exact (unhide HI).finC
theorem suffixes_any (a : Option Addr) (n c : Nat) (f : Nat → Int) (w : World) (hr : Rd w a n f) (hc : n ≤ c) (hn : n ≤ 100000) :
    Calls Try.prog 33 #[.slice a n c] w fun e w' => PartsPost w n (fun i j => f (n - i + j)) e w' :=
  (suffixes_cap a n c f w hr hc hn).mono fun _ _ h => h.post


/-- Lists one behind the other. -/
def catN (ns : Nat → Nat) : Nat → Nat
  | 0 => 0
  | t + 1 => catN ns t + ns t
def catF (ns : Nat → Nat) (fs : Nat → Nat → Int) : Nat → Nat → Int
  | 0 => fun _ => 0
  | t + 1 => joinF (catN ns t) (catF ns fs t) (fs t)
theorem catN_le {ns : Nat → Nat} {L : Nat} : ∀ {t}, (∀ i, i < t → ns i ≤ L) → catN ns t ≤ t * L
  | 0, _ => by simp [catN]
  | t + 1, h => by
    have h1 := catN_le (t := t) (L := L) fun i hi => h i (by omega)
    have h2 := h t (by omega)
    rw [catN, Nat.succ_mul]; omega

end Go.Proofs.Ytaldjpjlggnhhaa
