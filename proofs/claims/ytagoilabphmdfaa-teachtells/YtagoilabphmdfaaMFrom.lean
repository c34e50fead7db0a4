/-
  What the program's From, State and Run return, for every table, state and list.
-/
import Derived.Test.YtagoilabphmdfaaMWalk
import Derived.Test.YtagoilabphmdfaaK6
import Derived.Test.YtagoilabphmdfaaCheck
namespace Go.Proofs.Ytagoilabphmdfaa
open Go.RowKit

set_option maxHeartbeats 1000000 in
theorem from_any (m : Mc) (a1 : Option Addr) (c1 : Nat) (a2 : Option Addr) (c2 : Nat) (s : Int) (a3 : Option Addr) (c3 : Nat) (wd : List Int) (w : World) (h1 : RdL .i64 w a1 m.nx) (h2 : RdL .i64 w a2 m.out) (h3 : RdL .i64 w a3 wd) (hn : m.nx.length ≤ maxLen) (ho : m.out.length ≤ maxLen) (hl : wd.length ≤ maxLen) :
    Calls Try.prog 54 #[mval m a1 c1 a2 c2, .int .i64 s, .slice a3 wd.length c3] w fun e w' => ∃ v, e = .returned (.tuple #[.int .i64 (fromV m s wd).1, v, .int .i64 (fromV m s wd).2.2]) ∧ OwnL .i64 3 w' w.heap.size v (fromV m s wd).2.1 ∧ Below w.heap.size w w' := by
  unfold mval
  have B0 := Box.alloc w m a1 c1 a2 c2 24
  have b0 := ballo w (.cells #[.int .i64 m.kind, .int .i64 m.k, .int .i64 m.o, .int .i64 m.n, .slice a1 m.nx.length c1, .slice a2 m.out.length c2] 24)
  by_cases hz : (mchV m).2 = 0
  rotate_left
  · have H := hide (fromV_mach (s := s) (wd := wd) hz)
    have tz := ne_bne hz
    clear hz
    go_enter Try.func54, Try.ntmps54
    go_wp2_with fail
    refine (mcheck_any m a1 c1 a2 c2 _ (h1.below b0) (h2.below b0) hn ho).mono ?_
    rintro e w1 ⟨rfl, hb1⟩
    have b1 := bstep b0 hb1
    clear hb1 h1 h2 h3 B0 b0
    go_wp2
    go_ret3
    exact ⟨_, ret_ivi (by rw [unhide H]) (by rw [unhide H]), by rw [unhide H]; exact OwnL.nil _ _ _ _, b1⟩
  have R := right_of hz
  have HZ := hide hz
  have HR := hide R
  have n0 := R.n0
  have n1 := R.n1
  clear R hz
  by_cases hs : 0 ≤ s ∧ s ≤ m.n - 1
  rotate_left
  · have H := hide (fromV_state (s := s) (wd := wd) (unhide HZ) (by omega))
    have W := wit_no (x := s) (lo := 0) (hi := m.n - 1) (by omega)
    clear hs
    go_enter Try.func54, Try.ntmps54
    go_wp2_with fail
    refine (mcheck_any m a1 c1 a2 c2 _ (h1.below b0) (h2.below b0) hn ho).mono ?_
    rw [unhide HZ]
    rintro e w1 ⟨rfl, hb1⟩
    have b1 := bstep b0 hb1
    obtain ⟨q0, q1, q2, q3, q4, q5⟩ := B0.below hb1
    go_wp2_with (go_at_call 52; refine (within_any _ _ _ _).mono ?_; rintro e w' ⟨rfl, rfl⟩)
    go_ret3
    exact ⟨_, ret_ivi (by rw [unhide H]) (by rw [unhide H]), by rw [unhide H]; exact OwnL.nil _ _ _ _, b1⟩
  have W := wit_yes hs.1 hs.2
  have s0 : 0 ≤ s := hs.1
  have s1 : s < m.n := by omega
  clear hs
  by_cases hw : (wchV wd m.k).2 = 0
  rotate_left
  · have H := hide (fromV_word (unhide HZ) s0 s1 hw)
    have tz := ne_bne hw
    clear hw
    go_enter Try.func54, Try.ntmps54
    go_wp2_with fail
    refine (mcheck_any m a1 c1 a2 c2 _ (h1.below b0) (h2.below b0) hn ho).mono ?_
    rw [unhide HZ]
    rintro e w1 ⟨rfl, hb1⟩
    have b1 := bstep b0 hb1
    obtain ⟨q0, q1, q2, q3, q4, q5⟩ := B0.below hb1
    go_wp2_with fail
    refine (within_any _ _ _ _).mono ?_
    rintro e w' ⟨rfl, rfl⟩
    go_wp2_with fail
    refine (check_any a3 wd.length c3 (fun i => wd.getD i 0) m.k w' (h3.below b1) hl).mono ?_
    rw [show chkV wd.length (fun i => wd.getD i 0) m.k = wchV wd m.k from rfl]
    rintro e w2 ⟨rfl, rfl⟩
    go_wp2
    go_ret3
    exact ⟨_, ret_ivi (by rw [unhide H]) (by rw [unhide H]), by rw [unhide H]; exact OwnL.nil _ _ _ _, b1⟩
  · have H := hide (fromV_ok (unhide HZ) s0 s1 hw)
    obtain ⟨_, _, hl4, hwd⟩ := word_of_chk hw
    have HW := hide hwd
    have HC : Hid ((chkV wd.length (fun i => wd.getD i 0) m.k).2 = 0) := hw
    clear hwd hw
    go_enter Try.func54, Try.ntmps54
    go_wp2_with fail
    refine (mcheck_any m a1 c1 a2 c2 _ (h1.below b0) (h2.below b0) hn ho).mono ?_
    rw [unhide HZ]
    rintro e w1 ⟨rfl, hb1⟩
    have b1 := bstep b0 hb1
    obtain ⟨q0, q1, q2, q3, q4, q5⟩ := B0.below hb1
    go_wp2_with fail
    refine (within_any _ _ _ _).mono ?_
    rintro e w' ⟨rfl, rfl⟩
    go_wp2_with fail
    refine (check_any a3 wd.length c3 (fun i => wd.getD i 0) m.k w' (h3.below b1) hl).mono ?_
    rw [unhide HC]
    rintro e w2 ⟨rfl, rfl⟩
    go_wp2_with fail
    refine (walk_any m a1 c1 a2 c2 s a3 c3 wd _ (unhide HR) s0 s1 (unhide HW) hl4 (h1.below b1) (h2.below b1) (h3.below b1)).mono ?_
    rintro e w3 ⟨v, rfl, hI, hb3⟩
    have b3 := bstep b1 hb3
    obtain ⟨av, cv, rfl, -, -, -, -, -⟩ := hI.shape
    go_wp2
    go_ret3
    exact ⟨_, ret_ivi (by rw [unhide H]) (by rw [unhide H]), by rw [unhide H]; exact hI.mono b1.size, b3⟩

theorem run_any (m : Mc) (a1 : Option Addr) (c1 : Nat) (a2 : Option Addr) (c2 : Nat) (a3 : Option Addr) (c3 : Nat) (wd : List Int) (w : World) (h1 : RdL .i64 w a1 m.nx) (h2 : RdL .i64 w a2 m.out) (h3 : RdL .i64 w a3 wd) (hn : m.nx.length ≤ maxLen) (ho : m.out.length ≤ maxLen) (hl : wd.length ≤ maxLen) :
    Calls Try.prog 40 #[mval m a1 c1 a2 c2, .slice a3 wd.length c3] w fun e w' => ∃ v, e = .returned (.tuple #[v, .int .i64 (fromV m 0 wd).2.2]) ∧ OwnL .i64 3 w' w.heap.size v (fromV m 0 wd).2.1 ∧ Below w.heap.size w w' := by
  unfold mval
  have b0 := ballo w (.cells #[.int .i64 m.kind, .int .i64 m.k, .int .i64 m.o, .int .i64 m.n, .slice a1 m.nx.length c1, .slice a2 m.out.length c2] 24)
  go_enter Try.func40, Try.ntmps40
  go_wp2_with fail
  refine (from_any m a1 c1 a2 c2 0 a3 c3 wd _ (h1.below b0) (h2.below b0) (h3.below b0) hn ho hl).mono ?_
  rintro e w1 ⟨v, rfl, hI, hb1⟩
  have b1 := bstep b0 hb1
  obtain ⟨av, cv, rfl, -, -, -, -, -⟩ := hI.shape
  go_wp2
  go_ret2
  exact ⟨_, rfl, hI.mono b0.size, b1⟩

end Go.Proofs.Ytagoilabphmdfaa
