/-
  The law PointSteps, walked: it returns true, whatever comes in.
-/
import Derived.Test.YtaldjpjlggnhhaaJLive
import Derived.Test.YtaldjpjlggnhhaaArg
namespace Go.Proofs.Ytaldjpjlggnhhaa
set_option linter.unusedVariables false
open Go.RowKit

/-- A byte, its remainder by three. -/
theorem byte3 {x : Int} (h : (Lit.int .u8 x).wf = true) : ∃ r : Nat, x.tmod 3 = (r : Int) ∧ r ≤ 2 ∧ 0 ≤ x ∧ x ≤ 255 := by
  have a : IntKind.u8.min = 0 := rfl
  have b : IntKind.u8.max = 255 := rfl
  simp only [Lit.wf, a, b, Bool.and_eq_true, decide_eq_true_eq] at h
  refine ⟨(x % 3).toNat, ?_, by omega, h.1, h.2⟩
  rw [Int.tmod_eq_emod_of_nonneg h.1]
  omega
/-- Of the place at it is no, of the next one yes. -/
structure Jt (n at' : Nat) (w0 w : World) (b : Nat) (s : Sc) : Prop where
  sx : Sx n w b s
  lo : s.low ≤ at'
  hi : at' < s.high
  bl : Below w0.heap.size w0 w
  hb : w0.heap.size ≤ b
theorem Jt.below {n at' : Nat} {w0 w w' : World} {b : Nat} {s : Sc} (h : Jt n at' w0 w b s) (hb : Below w.heap.size w w') : Jt n at' w0 w' b s := ⟨h.sx.below hb, h.lo, h.hi, bstep h.bl hb, h.hb⟩

set_option maxRecDepth 100000 in
set_option maxHeartbeats 8000000 in
theorem pointSteps_walk (how n at' : Int) (w : World) (hh : (Lit.int .u8 how).wf = true) (_ : Fits n) (_ : Fits at') :
    Calls Try.prog 6 #[.int .u8 how, .int .i64 n, .int .i64 at'] w fun e w' => e = .returned (.bool true) ∧ Below w.heap.size w w' := by
  obtain ⟨r, hr, hr2, h0, h255⟩ := byte3 hh
  by_cases g : n < 1 ∨ n > 4096 ∨ at' < 0 ∨ at' ≥ n
  · have gg : decide (n < 1) = true ∨ decide (n < 1) = false ∧ (decide (n > 4096) = true ∨ decide (n > 4096) = false ∧ (decide (at' < 0) = true ∨ decide (at' < 0) = false ∧ decide (at' ≥ n) = true)) := by
      simp only [decide_eq_true_eq, decide_eq_false_iff_not]; omega
    clear g hh
    rcases gg with t0 | ⟨t0, t1 | ⟨t1, t2 | ⟨t2, t3⟩⟩⟩
    all_goals
      go_enter Try.func6, Try.ntmps6
      go_wp2_with (go_at_call 11; refine (jlive_any _).mono ?_; rintro e w9 ⟨rfl, hb9⟩)
      go_ret
      exact ⟨rfl, hb9⟩
  have t0 : decide (n < 1) = false := decide_eq_false (by omega)
  have t1 : decide (n > 4096) = false := decide_eq_false (by omega)
  have t2 : decide (at' < 0) = false := decide_eq_false (by omega)
  have t3 : decide (at' ≥ n) = false := decide_eq_false (by omega)
  obtain ⟨N, rfl⟩ := Int.eq_ofNat_of_zero_le (show 0 ≤ n by omega)
  obtain ⟨A, rfl⟩ := Int.eq_ofNat_of_zero_le (show 0 ≤ at' by omega)
  have hN : N ≤ 4096 := by omega
  have hA : A < N := by omega
  have hnw := snew_any (1 + (r : Int)) (N : Int) w
  have hz : nwE (1 + (r : Int)) (N : Int) = 0 := by unfold nwE; rw [if_neg (by omega), if_neg (by omega)]
  clear g hh
  go_enter Try.func6, Try.ntmps6
  go_wp2_with fail
  refine hnw.mono ?_
  rintro e w1 (⟨hne, -⟩ | ⟨-, H, N', hH, hN', rfl, sx, b1⟩)
  · exact absurd hz hne
  obtain rfl : N' = N := by omega
  have HJ : Hid (Jt N' A w w1 w.heap.size (Sc.new H N')) := ⟨sx, Nat.zero_le _, hA, b1, Nat.le_refl _⟩
  have HA0 : Hid ((Sc.new H N').asked = 0) := rfl
  generalize (Sc.new H N') = s0 at *
  generalize w.heap.size = b at HJ ⊢
  clear sx b1 hnw hz hH hN' hr h0 h255
  go_wp2_with (first | (go_at_call 10; refine (jnum_any _ _).mono ?_; rintro e w' ⟨rfl, hw'⟩; subst w') | fail)
  go_loopw [9] (fun v wr => ∃ (t : Nat) (s : Sc), v = .int .i64 (t : Int) ∧ t + 1 ≤ N' ∧ Hid (t = s.asked) ∧ Hid (Jt N' A w wr b s)) (fun v _ => N' - (intOf v).toNat)
  case atStart => exact ⟨0, s0, rfl, by omega, (unhide HA0).symm, HJ⟩
  case round =>
    obtain ⟨t, s, rfl, htN, HTS, HZ⟩ := hrel
    clear HJ HA0
    have hlt : (t : Int) ≤ (N' : Int) := by omega
    have hask := ask_any (unhide HZ).sx
    cases hi : s.ask with
    | none =>
      rw [hi] at hask
      unfold oaV at hask
      have HI := hide hi
      clear hi
      go_wp2_with fail
      refine hask.mono ?_
      rintro e w3 ⟨rfl, hb3⟩
      have Z3 := (unhide HZ).below hb3
      have hfd := found_any Z3.sx
      have hend := Sc.ended Z3.sx.ok (unhide HI)
      have hlo : s.low = A := by have := Z3.lo; have := Z3.hi; omega
      unfold fndV at hfd
      rw [if_pos hend, hlo] at hfd
      have HB3 := hide Z3.bl
      clear Z3 hend hlo hask HI HZ HTS hb3
      go_wp2_with (first | (go_at_call 14; refine hfd.mono ?_; rintro e w4 ⟨rfl, q, hw4⟩; subst w4) | (go_at_call 11; refine (jlive_any _).mono ?_; rintro e w9 ⟨rfl, hb9⟩))
      go_ret
      exact ⟨rfl, bstep (below_drewN (unhide HB3) q) hb9⟩
    | some i =>
      rw [hi] at hask
      unfold oaV at hask
      have HI := hide hi
      clear hi
      go_wp2_with fail
      refine hask.mono ?_
      rintro e w3 ⟨rfl, hb3⟩
      have Z3 := (unhide HZ).below hb3
      have htl := tell_put Z3.sx (decide (A < i)) (unhide HI)
      have HM := hide (Z3.sx.ok.mid (unhide HI))
      have HZ3 := hide Z3
      clear Z3 hask HZ hb3
      go_wp2_with fail
      refine htl.mono ?_
      rintro e w4 ⟨rfl, sx4, x4⟩
      have HZ4 : Hid (Jt N' A w w4 b (s.put i (decide (A < i)))) := by
        refine ⟨sx4, ?_, ?_, (unhide HZ3).bl.trans (x4.below (fun k hk => by cases hk; exact (unhide HZ3).hb) (unhide HZ3).bl.size), (unhide HZ3).hb⟩
        · show (if decide (A < i) = true then s.low else i) ≤ A
          have := (unhide HZ3).lo
          split
          · assumption
          · rename_i c; simp at c; omega
        · show A < (if decide (A < i) = true then i else s.high)
          have := (unhide HZ3).hi
          split
          · rename_i c; simp at c; omega
          · assumption
      have HAS : Hid ((s.put i (decide (A < i))).asked = s.asked + 1) := rfl
      have hle : (s.put i (decide (A < i))).asked + 1 ≤ N' := by have := sx4.ok.sum; have := sx4.ok.lt; omega
      have HLE := hide hle
      generalize s.put i (decide (A < i)) = sp at *
      clear sx4 x4 htl HM HZ3 hle HI
      go_wp2
      go_roundw
      case rel => exact ⟨t + 1, sp, by go_num, by have := unhide HAS; have := unhide HTS; have := unhide HLE; omega, by have := unhide HAS; have := unhide HTS; show t + 1 = sp.asked; omega, HZ4⟩
      case measure => simp [intOf]; omega

end Go.Proofs.Ytaldjpjlggnhhaa
