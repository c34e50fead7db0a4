/-
  What Lent makes of a list, and that Kept says yes while nothing has turned.
-/
import Derived.Test.YtaldjpjlggnhhaaOrder
import Derived.Test.YtaldjpjlggnhhaaK1
namespace Go.Proofs.Ytaldjpjlggnhhaa
open Go.RowKit

/-- A lent list: f 0, .., f (n - 1) at the head of block g, the two marks behind it. -/
structure Lent (w : World) (g n cap : Nat) (f : Nat → Int) : Prop where
  room : n + 2 ≤ cap
  le : cap ≤ maxLen
  cell : ∀ i, i < n → w.cell? ⟨g, i, none⟩ = some (.int .i64 (f i))
  m1 : w.cell? ⟨g, n, none⟩ = some (.int .i64 (-771))
  m2 : w.cell? ⟨g, n + 1, none⟩ = some (.int .i64 (-772))

def marks (i : Nat) : Int := if i = 0 then -771 else -772

theorem lent_any (a : Option Addr) (n c : Nat) (f : Nat → Int) (w : World) (hr : Rd w a n f) (hnil : a = none → n = 0 ∧ c = 0) (hn : n * 8 ≤ 140737488351232) :
    Calls Try.prog 20 #[.slice a n c] w fun e w' => ∃ g cap, e = .returned (.slice (some ⟨g, 0, none⟩) n cap) ∧ Lent w' g n cap f ∧ w.heap.size ≤ g ∧ Below w.heap.size w w' := by
  have h0 : Own (w.alloc (.cells #[] 3)) w.heap.size (.slice (some ⟨w.heap.size, 0, none⟩) 0 0) 0 f := Own.lit w _ 0 f #[] (Nat.le_refl _) (by unfold maxLen; omega) rfl
  have hr0 : Rd (w.alloc (.cells #[] 3)) a n f := hr.below ((Below.refl _ _).alloc (Nat.le_refl _) _)
  go_enter Try.func20, Try.ntmps20
  go_wp2_with (first | (at_builtin; refine wpl_append rfl (.tmp 4) (.tmp 5) rfl w.heap.size _ 0 f rfl h0 a n c f rfl hr0 hnil (by omega) (by simp) ?_; intro v1 w1 hown1 hb1 _) | (at_builtin; refine wpl_append rfl (.tmp 6) (.tmp 7) rfl w.heap.size v1 (0 + n) (joinF 0 f f) rfl (hown1.alloc _) (some ⟨w1.heap.size, 0, none⟩) 2 2 marks rfl (Rd.lit w1 2 marks _ (by unfold maxLen; omega) rfl) (by intro h; cases h) (by omega) (by have := hb1.size; simp at this ⊢; omega) ?_; intro v2 w2 hown2 hb2 _; obtain ⟨g, cap, rfl, hle, hmx, hBg, hgs, hcell, hfr⟩ := hown2.pos (by omega)))
  go_ret
  refine ⟨g, cap, rfl, ⟨by omega, hmx, fun i hi => ?_, ?_, ?_⟩, hBg, ?_⟩
  · rw [hcell i (by omega), joinF_lt (by omega), joinF_ge (by omega)]; rfl
  · rw [hcell n (by omega), joinF_ge (by omega), Nat.zero_add, Nat.sub_self]; rfl
  · rw [hcell (n + 1) (by omega), joinF_ge (by omega), Nat.zero_add, Nat.add_sub_cancel_left]; rfl
  · exact ((((Below.refl _ _).alloc (Nat.le_refl _) _).trans hb1).alloc (by have := hb1.size; simp at this; omega) _).trans hb2

theorem Lent.rd {w : World} {g n cap : Nat} {f : Nat → Int} (h : Lent w g n cap f) : Rd w (some ⟨g, 0, none⟩) n f :=
  .inr ⟨g, 0, rfl, fun i hi => by rw [Nat.zero_add]; exact h.cell i hi⟩
theorem Lent.lt {w : World} {g n cap : Nat} {f : Nat → Int} (h : Lent w g n cap f) : g < w.heap.size := World.block_lt_of_cell? w _ h.m1
theorem Lent.below {w w' : World} {g n cap : Nat} {f : Nat → Int} (h : Lent w g n cap f) (hb : Below w.heap.size w w') : Lent w' g n cap f :=
  ⟨h.room, h.le, fun i hi => by rw [hb.cell (by exact h.lt)]; exact h.cell i hi, by rw [hb.cell (by exact h.lt)]; exact h.m1, by rw [hb.cell (by exact h.lt)]; exact h.m2⟩

theorem kept_any (g n cap c' : Nat) (f f' : Nat → Int) (a' : Option Addr) (w : World) (L : Lent w g n cap f) (hr' : Rd w a' n f') (hs : ∀ i, i < n → f i = f' i) :
    Calls Try.prog 27 #[.slice (some ⟨g, 0, none⟩) n cap, .slice a' n c'] w fun e w' => e = .returned (.bool true) ∧ Below w.heap.size w w' := by
  have S := samB_yes hs
  have hroom := L.room
  have hle := L.le
  unfold maxLen at hle
  go_enter Try.func27, Try.ntmps27
  go_wp2_with fail
  refine (same_any _ a' n cap n c' f f' w L.rd hr' (by unfold maxLen; omega) (by unfold maxLen; omega)).mono ?_
  rw [S]
  rintro e w1 ⟨rfl, hb⟩
  have L1 := L.below hb
  have m1 := L1.m1
  have m2 := L1.m2
  clear S
  go_wp2
  go_ret
  exact ⟨rfl, hb⟩

end Go.Proofs.Ytaldjpjlggnhhaa
