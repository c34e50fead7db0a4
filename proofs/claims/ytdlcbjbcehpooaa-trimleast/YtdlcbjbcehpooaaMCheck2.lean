/-
  What the program's Check of machines returns, for every table.
-/
import Derived.Test.YtdlcbjbcehpooaaMCheck
namespace Go.Proofs.Ytdlcbjbcehpooaa
open Go.RowKit

theorem bdrew (w : World) (n : Nat) : Below w.heap.size w (w.drewN n) := below_drewN (Below.refl _ _) n
theorem ne_bne {x : Int} (h : x ≠ 0) : (x != 0) = true := by simpa using h
theorem mchV_d0 {m : Mc} (h : m.kind = 1) (hz : szV m 2 2 1 = 0) : mchV m = enV m := by unfold mchV; rw [if_pos h, if_pos hz]
theorem mchV_d1 {m : Mc} (h : m.kind = 1) (hz : szV m 2 2 1 ≠ 0) : mchV m = (0, szV m 2 2 1) := by unfold mchV; rw [if_pos h, if_neg hz]
theorem mchV_m0 {m : Mc} (h : m.kind = 2) (hz : szV m 1 64 m.k = 0) : mchV m = enV m := by unfold mchV; rw [if_neg (by omega), if_pos h, if_pos hz]
theorem mchV_m1 {m : Mc} (h : m.kind = 2) (hz : szV m 1 64 m.k ≠ 0) : mchV m = (0, szV m 1 64 m.k) := by unfold mchV; rw [if_neg (by omega), if_pos h, if_neg hz]
theorem mchV_no {m : Mc} (h : m.kind ≠ 1) (h2 : m.kind ≠ 2) : mchV m = (0, 30) := by unfold mchV; rw [if_neg h, if_neg h2]
/-- What sizeFault returns where more is said of k than need be. -/
theorem sizeFault_mealy (m : Mc) (a1 : Option Addr) (c1 : Nat) (a2 : Option Addr) (c2 : Nat) (w : World) :
    Calls Try.prog 39 #[mval m a1 c1 a2 c2, .int .i64 1, .int .i64 64, .int .i64 m.k] w fun e w' => e = .returned (.int .i64 (szV m 1 64 m.k)) ∧ Below w.heap.size w w' := by
  by_cases h : 1 ≤ m.k
  · exact sizeFault_any m a1 c1 a2 c2 1 64 m.k w h id
  · unfold mval
    have W1 := wit_no (x := m.k) (lo := 1) (hi := 64) (by omega)
    have H := hide (szV_arg (m := m) (p := m.k) (lo := 1) (hi := 64) (by omega))
    clear h
    go_enter Try.func39, Try.ntmps39
    go_wp2_with (go_at_call 43; refine (within_any _ _ _ _).mono ?_; rintro e w' ⟨rfl, rfl⟩)
    go_ret
    exact ⟨ret_int (unhide H).symm, ballo _ _⟩

theorem mcheck_any (m : Mc) (a1 : Option Addr) (c1 : Nat) (a2 : Option Addr) (c2 : Nat) (w : World) (h1 : RdL .i64 w a1 m.nx) (h2 : RdL .i64 w a2 m.out) (hn : m.nx.length ≤ maxLen) (ho : m.out.length ≤ maxLen) :
    Calls Try.prog 30 #[mval m a1 c1 a2 c2] w fun e w' => e = .returned (.tuple #[.int .i64 (mchV m).1, .int .i64 (mchV m).2]) ∧ Below w.heap.size w w' := by
  unfold mval
  have B0 := Box.alloc w m a1 c1 a2 c2 24
  have b0 := ballo w (.cells #[.int .i64 m.kind, .int .i64 m.k, .int .i64 m.o, .int .i64 m.n, .slice a1 m.nx.length c1, .slice a2 m.out.length c2] 24)
  by_cases hk : m.kind = 1
  · have t1 : (m.kind == 1) = true := by simpa using hk
    rcases szV_cases m 2 2 1 with ⟨hz, hs⟩ | ⟨hz, _, _⟩
    · have H := hide (mchV_d0 hk hz)
      have n0 := hs.n0
      have n1 := hs.n1
      have o0 : 1 ≤ m.o := Int.le_trans (by decide) hs.o0
      have o1 : m.o ≤ 1024 := Int.le_trans hs.o1 (by decide)
      clear hs hk
      have HZ := hide hz
      clear hz
      go_enter Try.func30, Try.ntmps30
      go_wp2
      go_quiet (fail)
      go_wp2_with fail
      refine (sizeFault_any m a1 c1 a2 c2 2 2 1 _ (by decide) (fun _ => by decide)).mono ?_
      rw [unhide HZ]
      rintro e w1 ⟨rfl, hb1⟩
      have b1 := bstep (bstep b0 (bdrew _ _)) hb1
      obtain ⟨q0, q1, q2, q3, q4, q5⟩ := (B0.below (bdrew _ _)).below hb1
      have r1 := h1.below b1
      have r2 := h2.below b1
      clear hb1 h1 h2 B0 b0 HZ
      go_wp2_with fail
      refine (entryFault_any m a1 c1 a2 c2 w1 r1 r2 hn ho n0 n1 o0 o1).mono ?_
      rw [← unhide H]
      rintro e w2 ⟨rfl, hb2⟩
      go_wp2
      go_ret2
      exact ⟨rfl, bstep b1 hb2⟩
    · have H := hide (mchV_d1 hk hz)
      have hz' := ne_bne hz
      clear hz hk
      go_enter Try.func30, Try.ntmps30
      go_wp2
      go_quiet (fail)
      go_wp2_with fail
      refine (sizeFault_any m a1 c1 a2 c2 2 2 1 _ (by decide) (fun _ => by decide)).mono ?_
      rintro e w1 ⟨rfl, hb1⟩
      have b1 := bstep (bstep b0 (bdrew _ _)) hb1
      clear hb1 h1 h2 B0 b0
      go_wp2
      go_ret2
      exact ⟨by rw [unhide H]; rfl, b1⟩
  have t1 : (m.kind == 1) = false := by simpa using hk
  have HK := hide hk
  clear hk
  by_cases hk : m.kind = 2
  · have t2 : (m.kind == 2) = true := by simpa using hk
    clear HK
    rcases szV_cases m 1 64 m.k with ⟨hz, hs⟩ | ⟨hz, _, _⟩
    · have H := hide (mchV_m0 hk hz)
      have n0 := hs.n0
      have n1 := hs.n1
      have o0 : 1 ≤ m.o := Int.le_trans (by decide) hs.o0
      have o1 : m.o ≤ 1024 := Int.le_trans hs.o1 (by decide)
      clear hs hk
      have HZ := hide hz
      clear hz
      go_enter Try.func30, Try.ntmps30
      go_wp2
      go_quiet (fail)
      go_wp2_with fail
      refine (sizeFault_mealy m a1 c1 a2 c2 _).mono ?_
      rw [unhide HZ]
      rintro e w1 ⟨rfl, hb1⟩
      have b1 := bstep (bstep b0 (bdrew _ _)) hb1
      obtain ⟨q0, q1, q2, q3, q4, q5⟩ := (B0.below (bdrew _ _)).below hb1
      have r1 := h1.below b1
      have r2 := h2.below b1
      clear hb1 h1 h2 B0 b0 HZ
      go_wp2_with fail
      refine (entryFault_any m a1 c1 a2 c2 w1 r1 r2 hn ho n0 n1 o0 o1).mono ?_
      rw [← unhide H]
      rintro e w2 ⟨rfl, hb2⟩
      go_wp2
      go_ret2
      exact ⟨rfl, bstep b1 hb2⟩
    · have H := hide (mchV_m1 hk hz)
      have hz' := ne_bne hz
      clear hz hk
      go_enter Try.func30, Try.ntmps30
      go_wp2
      go_quiet (fail)
      go_wp2_with fail
      refine (sizeFault_mealy m a1 c1 a2 c2 _).mono ?_
      rintro e w1 ⟨rfl, hb1⟩
      have b1 := bstep (bstep b0 (bdrew _ _)) hb1
      clear hb1 h1 h2 B0 b0
      go_wp2
      go_ret2
      exact ⟨by rw [unhide H]; rfl, b1⟩
  · have t2 : (m.kind == 2) = false := by simpa using hk
    have H := hide (mchV_no (unhide HK) hk)
    clear hk
    go_enter Try.func30, Try.ntmps30
    go_wp2
    go_quiet (fail)
    go_wp2
    go_ret2
    exact ⟨by rw [unhide H]; rfl, bstep b0 (bdrew _ _)⟩

end Go.Proofs.Ytdlcbjbcehpooaa
