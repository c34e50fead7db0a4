/-
  The program's New.
-/
import Derived.Test.YtemalidanjfmkaaNObj
namespace Go.Proofs.Ytemalidanjfmkaa
open Go.RowKit

theorem newRow_any (k : Bool) (w : World) : Calls Try.prog 33 #[.bool k] w fun e w' => e = .returned (.slice (some ⟨w.heap.size, 0, none⟩) 1 1) ∧ w' = w.alloc (.cells #[.int .i64 0, .int .i64 0, .int .i64 0, .int .i64 0, .bool k, .int .i64 0] 87) := by
  go_enter Try.func33, Try.ntmps33
  go_wp2
  go_ret
  exact ⟨rfl, rfl⟩
def houV (kind o : Int) : Bool := if kind = 1 then decide (o = 2) else decide (1 ≤ o ∧ o ≤ 64)
theorem haveOutputs_any (kind o : Int) (w : World) : Calls Try.prog 32 #[.int .i64 kind, .int .i64 o] w fun e w' => e = .returned (.bool (houV kind o)) ∧ w' = w := by
  by_cases k : kind = 1
  · have t : (kind == 1) = true := by simp [k]
    by_cases h : o = 2
    · have t2 : (o == 2) = true := by simp [h]
      have HV := hide (show houV kind o = true by unfold houV; rw [if_pos k]; simp [h])
      clear k h
      go_enter Try.func32, Try.ntmps32
      go_wp2
      go_ret
      exact ⟨by rw [unhide HV]; rfl, rfl⟩
    · have t2 : (o == 2) = false := by simp [h]
      have HV := hide (show houV kind o = false by unfold houV; rw [if_pos k]; simp [h])
      clear k h
      go_enter Try.func32, Try.ntmps32
      go_wp2
      go_ret
      exact ⟨by rw [unhide HV]; rfl, rfl⟩
  · have t : (kind == 1) = false := by simp [k]
    by_cases h1 : 1 ≤ o
    · by_cases h2 : o ≤ 64
      · have HV := hide (show houV kind o = true by unfold houV; rw [if_neg k]; simp [h1, h2])
        clear k
        go_enter Try.func32, Try.ntmps32
        go_wp2
        go_ret
        exact ⟨by rw [unhide HV]; rfl, rfl⟩
      · have HV := hide (show houV kind o = false by unfold houV; rw [if_neg k]; simp [h2])
        clear k
        go_enter Try.func32, Try.ntmps32
        go_wp2
        go_ret
        exact ⟨by rw [unhide HV]; rfl, rfl⟩
    · have HV := hide (show houV kind o = false by unfold houV; rw [if_neg k]; simp [h1])
      clear k
      go_enter Try.func32, Try.ntmps32
      go_wp2
      go_ret
      exact ⟨by rw [unhide HV]; rfl, rfl⟩

def NePost (kind k o most : Int) (w : World) (e : Ending) (w' : World) : Prop :=
  Below w.heap.size w w' ∧ ((newE kind k o most ≠ 0 ∧ e = .returned (.tuple #[.pointer none, .int .i64 (newE kind k o most)])) ∨
    (newE kind k o most = 0 ∧ ∃ b g cap R, e = .returned (.tuple #[.pointer (some ⟨b, 0, none⟩), .int .i64 0]) ∧ Co w.heap.size w' b g cap (newV kind k o most) R ∧ w.heap.size ≤ b ∧ w.heap.size ≤ g))

set_option maxRecDepth 100000 in
set_option maxHeartbeats 2000000 in
theorem new_any (kind k o most : Int) (w : World) : Calls Try.prog 11 #[.int .i64 kind, .int .i64 k, .int .i64 o, .int .i64 most] w fun e w' => NePost kind k o most w e w' := by
  by_cases h1 : kind ≠ 1 ∧ kind ≠ 2
  · have t1 : (kind != 1) = true := by simp [h1.1]
    have t2 : (kind != 2) = true := by simp [h1.2]
    have HE : Hid (newE kind k o most = 30) := by show _ = _; unfold newE; rw [if_pos h1]
    go_enter Try.func11, Try.ntmps11
    go_wp2
    go_ret2
    exact ⟨Below.refl _ _, .inl ⟨by rw [unhide HE]; decide, by rw [unhide HE]; rfl⟩⟩
  by_cases h2 : k < 1 ∨ 64 < k
  · have HE : Hid (newE kind k o most = 1) := by show _ = _; unfold newE; rw [if_neg h1, if_pos h2]
    rcases (show kind = 1 ∨ kind = 2 by omega) with rfl | rfl
    all_goals
      by_cases h3 : k < 1
      · go_enter Try.func11, Try.ntmps11
        go_wp2
        go_ret2
        exact ⟨Below.refl _ _, .inl ⟨by rw [unhide HE]; decide, by rw [unhide HE]; rfl⟩⟩
      · have h4 : 64 < k := by omega
        go_enter Try.func11, Try.ntmps11
        go_wp2
        go_ret2
        exact ⟨Below.refl _ _, .inl ⟨by rw [unhide HE]; decide, by rw [unhide HE]; rfl⟩⟩
  have k1 : ¬ k < 1 := by omega
  have k2 : ¬ 64 < k := by omega
  have hho := haveOutputs_any kind o w
  by_cases h3 : (kind = 1 ∧ o ≠ 2) ∨ o < 1 ∨ 64 < o
  · have HE : Hid (newE kind k o most = 33) := by show _ = _; unfold newE; rw [if_neg h1, if_neg h2, if_pos h3]
    rw [show houV kind o = false by
      unfold houV
      by_cases c : kind = 1
      · rw [if_pos c]; simp; omega
      · rw [if_neg c]; simp; omega] at hho
    have t1 : (kind != 1) = true ∧ (kind != 2) = false ∨ (kind != 1) = false := by
      rcases (show kind = 1 ∨ kind = 2 by omega) with rfl | rfl
      · exact .inr rfl
      · exact .inl ⟨rfl, rfl⟩
    clear h1 h2 h3
    rcases t1 with ⟨t1, t2⟩ | t1
    all_goals
      go_enter Try.func11, Try.ntmps11
      go_wp2_with fail
      refine hho.mono ?_
      rintro e w1 ⟨rfl, rfl⟩
      go_wp2
      go_ret2
      exact ⟨Below.refl _ _, .inl ⟨by rw [unhide HE]; decide, by rw [unhide HE]; rfl⟩⟩
  rw [show houV kind o = true by
      unfold houV
      by_cases c : kind = 1
      · rw [if_pos c]; simp; omega
      · rw [if_neg c]; simp; omega] at hho
  have t1 : (kind != 1) = true ∧ (kind != 2) = false ∨ (kind != 1) = false := by
      rcases (show kind = 1 ∨ kind = 2 by omega) with rfl | rfl
      · exact .inr rfl
      · exact .inl ⟨rfl, rfl⟩
  by_cases h4 : most < 1 ∨ 1048576 < most
  · have HE : Hid (newE kind k o most = 3) := by show _ = _; unfold newE; rw [if_neg h1, if_neg h2, if_neg h3, if_pos h4]
    clear h1 h2 h3
    by_cases h5 : most < 1
    all_goals
      try have h6 : 1048576 < most := by omega
      rcases t1 with ⟨t1, t2⟩ | t1
      all_goals
        go_enter Try.func11, Try.ntmps11
        go_wp2_with fail
        refine hho.mono ?_
        rintro e w1 ⟨rfl, rfl⟩
        go_wp2
        go_ret2
        exact ⟨Below.refl _ _, .inl ⟨by rw [unhide HE]; decide, by rw [unhide HE]; rfl⟩⟩
  have m1 : ¬ most < 1 := by omega
  have m2 : ¬ 1048576 < most := by omega
  have HE : Hid (newE kind k o most = 0) := by show _ = _; unfold newE; rw [if_neg h1, if_neg h2, if_neg h3, if_neg h4]
  clear h1 h2 h3 h4
  -- the object, and the row behind it
  obtain ⟨w1, hw1⟩ : ∃ w1, w1 = w.alloc (.cells #[.int .i64 kind, .int .i64 k, .int .i64 o, .int .i64 most, .slice none 0 0, .int .i64 0, .int .i64 0] 65) := ⟨_, rfl⟩
  have q0 : Bk w1 w.heap.size [.int .i64 kind, .int .i64 k, .int .i64 o, .int .i64 most, .slice none 0 0, .int .i64 0, .int .i64 0] 65 := by rw [hw1]; exact Bk.new w _ _
  have hb1 : Below w.heap.size w w1 := by rw [hw1]; exact ballo _ _
  have z1 : w1.heap.size = w.heap.size + 1 := by rw [hw1]; simp
  have c0 : w1.cell? ⟨w.heap.size, 0, none⟩ = some (.int .i64 kind) := q0.cell 0
  have him : Calls Try.prog 34 #[.pointer (some ⟨w.heap.size, 0, none⟩)] w1 fun e w' => e = .returned (.bool (kind == 2)) ∧ w' = w1 := by
    go_enter Try.func34, Try.ntmps34
    go_wp2
    go_ret
    exact ⟨rfl, rfl⟩
  have hnr := newRow_any (kind == 2) w1
  obtain ⟨w2, hw2⟩ : ∃ w2, w2 = w1.alloc (.cells #[.int .i64 0, .int .i64 0, .int .i64 0, .int .i64 0, .bool (kind == 2), .int .i64 0] 87) := ⟨_, rfl⟩
  rw [← hw2] at hnr
  have q2 : Bk w2 w.heap.size [.int .i64 kind, .int .i64 k, .int .i64 o, .int .i64 most, .slice none 0 0, .int .i64 0, .int .i64 0] 65 := q0.below (by rw [hw2]; exact ballo _ _)
  have c4 : w2.cell? ⟨w.heap.size, 4, none⟩ = some (.slice none 0 0) := q2.cell 4
  have f4 := q2.frz 4
  have z2 : w1.heap.size < w2.heap.size := by rw [hw2]; simp
  have hown : OwnG 87 6 enL w2 w.heap.size (.slice (some ⟨w1.heap.size, 0, none⟩) 1 1) [⟨0, 0, 0, 0, (kind == 2), 0⟩] := by
    rw [hw2]
    exact OwnG.lit1 enL_len w1 w.heap.size _ _ (by omega) rfl
  have HF : Hid (NePost kind k o most w (.returned (.tuple #[.pointer (some ⟨w.heap.size, 0, none⟩), .int .i64 0])) (w2.setCell ⟨w.heap.size, 4, none⟩ (.slice (some ⟨w1.heap.size, 0, none⟩) 1 1))) := by
    refine ⟨?_, .inr ⟨unhide HE, w.heap.size, w1.heap.size, 1, [⟨0, 0, 0, 0, (kind == 2), 0⟩], rfl, ⟨q2.set 4 _, ?_, ?_, by omega, Nat.le_refl _⟩, Nat.le_refl _, by omega⟩⟩
    · have : Below w.heap.size w w2 := by rw [hw2]; exact balloc hb1 _
      exact this.setCell (p := ⟨w.heap.size, 4, none⟩) (Nat.le_refl _) _
    · exact hown.keep fun j ej => by cases ej; exact Below.heap_setCell _ _ _ _ (by show w1.heap.size ≠ w.heap.size; omega)
    · have := Ri.new (unhide HE)
      rwa [show decide (kind = 2) = (kind == 2) by rw [Bool.eq_iff_iff]; simp] at this
  rw [hw1] at him
  clear q0 q2 hown hb1 hw2
  rcases t1 with ⟨t1, t2⟩ | t1
  all_goals
    go_enter Try.func11, Try.ntmps11
    go_wp2_with fail
    refine hho.mono ?_
    rintro e w3 ⟨rfl, rfl⟩
    go_wp2_with fail
    refine him.mono ?_
    rintro e w4 ⟨rfl, rfl⟩
    rw [← hw1]
    clear hw1
    go_wp2_with fail
    refine hnr.mono ?_
    rintro e w5 ⟨rfl, rfl⟩
    go_wp2
    go_ret2
    have HF' := unhide HF
    rw [z1] at HF'
    exact HF'

end Go.Proofs.Ytemalidanjfmkaa
