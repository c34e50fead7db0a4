/-
  The program's test whether otherwise is kept.
-/
import Derived.Test.YtemalidanjfmkaaNNote
namespace Go.Proofs.Ytemalidanjfmkaa
open Go.RowKit

set_option maxRecDepth 100000 in
set_option maxHeartbeats 2000000 in
theorem clashesWith_any (e : En) (t : Bool × Int) (w : World) : Calls Try.prog 57 #[.agg #[.bool e.kn, .int .i64 e.la], .agg #[.bool t.1, .int .i64 t.2]] w fun x w' => x = .returned (.bool (clE e t)) ∧ Below w.heap.size w w' := by
  obtain ⟨p, s, c, n, kn, la⟩ := e
  obtain ⟨t1, t2⟩ := t
  have HB := hide (bstep (ballo w (.cells #[.bool kn, .int .i64 la] 85)) (ballo _ (.cells #[.bool t1, .int .i64 t2] 85)))
  show Calls Try.prog 57 #[.agg #[.bool kn, .int .i64 la], .agg #[.bool t1, .int .i64 t2]] w fun x w' => x = .returned (.bool (clE ⟨p, s, c, n, kn, la⟩ (t1, t2))) ∧ Below w.heap.size w w'
  cases kn with
  | false =>
    go_enter Try.func57, Try.ntmps57
    go_wp2
    go_ret
    exact ⟨rfl, unhide HB⟩
  | true =>
    cases t1 with
    | false =>
      go_enter Try.func57, Try.ntmps57
      go_wp2
      go_ret
      exact ⟨rfl, unhide HB⟩
    | true =>
      by_cases hx : la = t2
      · subst hx
        have HC := hide (show clE ⟨p, s, c, n, true, la⟩ (true, la) = false by simp [clE])
        go_enter Try.func57, Try.ntmps57
        go_wp2
        go_ret
        exact ⟨by rw [unhide HC]; rfl, unhide HB⟩
      · have HC := hide (show clE ⟨p, s, c, n, true, la⟩ (true, t2) = true by simp [clE, hx])
        go_enter Try.func57, Try.ntmps57
        go_wp2
        go_ret
        exact ⟨by rw [unhide HC]; rfl, unhide HB⟩

/-- Is otherwise noted of one of the first j? -/
def clJ (R : List En) (N : List (Bool × Int)) (P : List Nat) (j : Nat) : Bool := (List.range j).any fun i => clE (ea R (P.getD i 0)) (N.getD i (false, 0))
theorem clJ_hit {R : List En} {N : List (Bool × Int)} {P : List Nat} {j : Nat} (hj : j < P.length) (h : clE (ea R (P.getD j 0)) (N.getD j (false, 0)) = true) : clJ R N P P.length = true := by
  unfold clJ
  rw [List.any_eq_true]
  exact ⟨j, List.mem_range.2 hj, h⟩
theorem clJ_step {R : List En} {N : List (Bool × Int)} {P : List Nat} {j : Nat} (h0 : clJ R N P j = false) (h : clE (ea R (P.getD j 0)) (N.getD j (false, 0)) = false) : clJ R N P (j + 1) = false := by
  unfold clJ at h0 ⊢
  rw [List.any_eq_false] at h0 ⊢
  intro i hi
  have := List.mem_range.1 hi
  by_cases e : i = j
  · subst e; simpa using h
  · exact h0 i (List.mem_range.2 (by omega))

set_option maxRecDepth 100000 in
set_option maxHeartbeats 2000000 in
theorem clashes_any (R : List En) (g cap : Nat) (av : Option Addr) (cv : Nat) (P : List Nat) (gn cn : Nat) (N : List (Bool × Int)) (Bn : Nat) (w : World) (hr : RdR w g R) (hp : RdL .i64 w av (ni P)) (hP : ∀ j, j < P.length → P.getD j 0 < R.length) (hn : OwnG 85 2 ntC w Bn (.slice (some ⟨gn, 0, none⟩) N.length cn) N) (hl : P.length ≤ N.length) (hN : N.length ≤ 1000000001) :
    Calls Try.prog 40 #[.slice (some ⟨g, 0, none⟩) R.length cap, .slice av P.length cv, .slice (some ⟨gn, 0, none⟩) N.length cn] w fun e w' => e = .returned (.bool (clJ R N P P.length)) ∧ Below w.heap.size w w' := by
  have HR := hide hr
  have HP := hide hp
  have HPL := hide hP
  have HN := hide hn
  clear hr hp hP hn
  go_enter Try.func40, Try.ntmps40
  go_wp2
  go_loopw [11] (fun i wr => ∃ j : Nat, i = .int .i64 j ∧ j ≤ P.length ∧ Hid (clJ R N P j = false) ∧ Below w.heap.size w wr) (fun i _ => P.length - (intOf i).toNat)
  case atStart => exact ⟨0, rfl, Nat.zero_le _, hide rfl, Below.refl _ _⟩
  case round =>
    obtain ⟨j, rfl, hj, HC, hB⟩ := hrel
    by_cases hlt : j < P.length
    · have hlt' : (j : Int) < (P.length : Int) := by omega
      have hltN : (j : Int) < (N.length : Int) := by omega
      obtain ⟨b, off, rfl, hc⟩ := ((unhide HP).below hB).at (i := j) (by rw [ni_len]; exact hlt)
      have c0 := hc j (by rw [ni_len]; exact hlt)
      rw [ni_at] at c0
      have hA := unhide HPL j hlt
      have hA' : ((P.getD j 0 : Nat) : Int) < (R.length : Int) := by omega
      have r := (unhide HR).below hB
      have r4 := r.kn hA
      have r5 := r.la hA
      obtain ⟨y0, y1, -, -, -⟩ := note_cells2 ((unhide HN).below hB) rfl (show j < N.length by omega)
      obtain ⟨cl, hcl⟩ : ∃ cl, cl = clE (ea R (P.getD j 0)) (N.getD j (false, 0)) := ⟨_, rfl⟩
      have hcall : ∀ wx, Calls Try.prog 57 #[.agg #[.bool (ea R (P.getD j 0)).kn, .int .i64 (ea R (P.getD j 0)).la], .agg #[.bool (N.getD j (false, 0)).1, .int .i64 (N.getD j (false, 0)).2]] wx fun x w' => x = .returned (.bool cl) ∧ Below wx.heap.size wx w' := fun wx => by
        rw [hcl]; exact clashesWith_any _ _ wx
      have H1 : Hid (cl = true → clJ R N P P.length = true) := fun e => clJ_hit hlt (by rw [← hcl]; exact e)
      have H2 : Hid (cl = false → clJ R N P (j + 1) = false) := fun e => clJ_step (unhide HC) (by rw [← hcl]; exact e)
      generalize (ea R (P.getD j 0)).kn = K1 at *
      generalize (ea R (P.getD j 0)).la = K2 at *
      generalize (N.getD j (false, 0)).1 = K3 at *
      generalize (N.getD j (false, 0)).2 = K4 at *
      generalize P.getD j 0 = A at *
      clear hc hcl r hA
      go_wp2
      go_region_with (go_at_call 57; refine (hcall _).mono ?_; rintro e w1 ⟨rfl, hb1⟩)
      all_goals
        have hB1 : Below w.heap.size w w1 := bstep hB.drew hb1
        cases cl with
        | true =>
          go_wp2
          go_ret
          exact ⟨by rw [unhide H1 (by first | rfl | trivial)]; rfl, hB1⟩
        | false =>
          go_wp2
          go_roundw
          case rel => exact ⟨j + 1, by go_num, by omega, hide (unhide H2 (by first | rfl | trivial)), hB1⟩
          case measure => simp [intOf]; omega
    · obtain rfl : j = P.length := by omega
      go_wp2
      go_ret
      exact ⟨by rw [unhide HC]; rfl, hB⟩

end Go.Proofs.Ytemalidanjfmkaa
