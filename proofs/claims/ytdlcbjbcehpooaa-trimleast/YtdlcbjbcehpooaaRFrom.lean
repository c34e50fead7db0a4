/-
  What the reference's From and Run return, for every table, state and list.
-/
import Derived.Test.YtdlcbjbcehpooaaRGo
import Derived.Test.YtdlcbjbcehpooaaRCheckW
namespace Go.Proofs.Ytdlcbjbcehpooaa
open Go.RowKit

/-- Which lists are words: the place and the error. -/
def wchV (wd : List Int) (k : Int) : Int × Int := chkV wd.length (fun i => wd.getD i 0) k
/-- From, as the document has it: the state, what is said, the error. -/
def fromV (m : Mc) (s : Int) (wd : List Int) : Int × List Int × Int :=
  if (mchV m).2 ≠ 0 then (0, [], (mchV m).2) else if s < 0 ∨ m.n ≤ s then (0, [], 32) else if (wchV wd m.k).2 ≠ 0 then (0, [], (wchV wd m.k).2) else ((goV m s wd []).1, (goV m s wd []).2, 0)
theorem fromV_mach {m : Mc} {s : Int} {wd : List Int} (h : (mchV m).2 ≠ 0) : fromV m s wd = (0, [], (mchV m).2) := by unfold fromV; rw [if_pos h]
theorem fromV_state {m : Mc} {s : Int} {wd : List Int} (h : (mchV m).2 = 0) (h2 : s < 0 ∨ m.n ≤ s) : fromV m s wd = (0, [], 32) := by unfold fromV; rw [if_neg (by simp [h]), if_pos h2]
theorem fromV_word {m : Mc} {s : Int} {wd : List Int} (h : (mchV m).2 = 0) (h1 : 0 ≤ s) (h2 : s < m.n) (h3 : (wchV wd m.k).2 ≠ 0) : fromV m s wd = (0, [], (wchV wd m.k).2) := by unfold fromV; rw [if_neg (by simp [h]), if_neg (by omega), if_pos h3]
theorem fromV_ok {m : Mc} {s : Int} {wd : List Int} (h : (mchV m).2 = 0) (h1 : 0 ≤ s) (h2 : s < m.n) (h3 : (wchV wd m.k).2 = 0) : fromV m s wd = ((goV m s wd []).1, (goV m s wd []).2, 0) := by unfold fromV; rw [if_neg (by simp [h]), if_neg (by omega), if_neg (by simp [h3])]
theorem ret_ivi {k j : IntKind} {a b c d : Int} {v : Value} (h : a = b) (g : c = d) : Ending.returned (.tuple #[.int k a, v, .int j c]) = .returned (.tuple #[.int k b, v, .int j d]) := by rw [h, g]
theorem ret_vi {j : IntKind} {c d : Int} {v : Value} (g : c = d) : Ending.returned (.tuple #[v, .int j c]) = .returned (.tuple #[v, .int j d]) := by rw [g]

set_option maxHeartbeats 1000000 in
theorem rfrom_any (m : Mc) (a1 : Option Addr) (c1 : Nat) (a2 : Option Addr) (c2 : Nat) (s : Int) (a3 : Option Addr) (c3 : Nat) (wd : List Int) (w : World) (h1 : RdL .i64 w a1 m.nx) (h2 : RdL .i64 w a2 m.out) (h3 : RdL .i64 w a3 wd) (hn : m.nx.length ≤ maxLen) (ho : m.out.length ≤ maxLen) (hl : wd.length ≤ maxLen) :
    Calls Try.prog 38 #[mval m a1 c1 a2 c2, .int .i64 s, .slice a3 wd.length c3] w fun e w' => ∃ v, e = .returned (.tuple #[.int .i64 (fromV m s wd).1, v, .int .i64 (fromV m s wd).2.2]) ∧ OwnL .i64 3 w' w.heap.size v (fromV m s wd).2.1 ∧ Below w.heap.size w w' := by
  unfold mval
  have B0 := Box.alloc w m a1 c1 a2 c2 24
  have b0 := ballo w (.cells #[.int .i64 m.kind, .int .i64 m.k, .int .i64 m.o, .int .i64 m.n, .slice a1 m.nx.length c1, .slice a2 m.out.length c2] 24)
  by_cases hz : (mchV m).2 = 0
  rotate_left
  · have H := hide (fromV_mach (s := s) (wd := wd) hz)
    have tz := ne_bne hz
    clear hz
    go_enter Try.func38, Try.ntmps38
    go_wp2_with fail
    refine (rmcheck_any m a1 c1 a2 c2 _ (h1.below b0) (h2.below b0) hn ho).mono ?_
    rintro e w1 ⟨rfl, hb1⟩
    have b1 := bstep b0 hb1
    clear hb1 h1 h2 h3 B0 b0
    go_wp2
    go_ret3
    exact ⟨_, ret_ivi (by rw [unhide H]) (by rw [unhide H]), by rw [unhide H]; exact OwnL.nil _ _ _ _, b1⟩
  have R := right_of hz
  have HZ := hide hz
  have HR := hide R
  have n0 := R.n0
  have n1 := R.n1
  clear R hz
  by_cases hs : s < 0
  · have H := hide (fromV_state (s := s) (wd := wd) (unhide HZ) (.inl hs))
    go_enter Try.func38, Try.ntmps38
    go_wp2_with fail
    refine (rmcheck_any m a1 c1 a2 c2 _ (h1.below b0) (h2.below b0) hn ho).mono ?_
    rw [unhide HZ]
    rintro e w1 ⟨rfl, hb1⟩
    have b1 := bstep b0 hb1
    obtain ⟨q0, q1, q2, q3, q4, q5⟩ := B0.below hb1
    go_wp2
    go_ret3
    exact ⟨_, ret_ivi (by rw [unhide H]) (by rw [unhide H]), by rw [unhide H]; exact OwnL.nil _ _ _ _, b1⟩
  by_cases hs2 : m.n ≤ s
  · have H := hide (fromV_state (s := s) (wd := wd) (unhide HZ) (.inr hs2))
    go_enter Try.func38, Try.ntmps38
    go_wp2_with fail
    refine (rmcheck_any m a1 c1 a2 c2 _ (h1.below b0) (h2.below b0) hn ho).mono ?_
    rw [unhide HZ]
    rintro e w1 ⟨rfl, hb1⟩
    have b1 := bstep b0 hb1
    obtain ⟨q0, q1, q2, q3, q4, q5⟩ := B0.below hb1
    go_wp2
    go_ret3
    exact ⟨_, ret_ivi (by rw [unhide H]) (by rw [unhide H]), by rw [unhide H]; exact OwnL.nil _ _ _ _, b1⟩
  have s0 : 0 ≤ s := by omega
  have s1 : s < m.n := by omega
  clear hs hs2
  by_cases hw : (wchV wd m.k).2 = 0
  rotate_left
  · have H := hide (fromV_word (unhide HZ) s0 s1 hw)
    have tz := ne_bne hw
    clear hw
    go_enter Try.func38, Try.ntmps38
    go_wp2_with fail
    refine (rmcheck_any m a1 c1 a2 c2 _ (h1.below b0) (h2.below b0) hn ho).mono ?_
    rw [unhide HZ]
    rintro e w1 ⟨rfl, hb1⟩
    have b1 := bstep b0 hb1
    obtain ⟨q0, q1, q2, q3, q4, q5⟩ := B0.below hb1
    go_wp2_with fail
    refine (rcheck_any a3 wd.length c3 (fun i => wd.getD i 0) m.k w1 (h3.below b1) hl).mono ?_
    rw [show chkV wd.length (fun i => wd.getD i 0) m.k = wchV wd m.k from rfl]
    rintro e w2 ⟨rfl, rfl⟩
    go_wp2
    go_ret3
    exact ⟨_, ret_ivi (by rw [unhide H]) (by rw [unhide H]), by rw [unhide H]; exact OwnL.nil _ _ _ _, b1⟩
  · have H := hide (fromV_ok (unhide HZ) s0 s1 hw)
    obtain ⟨_, _, hl4, hwd⟩ := word_of_chk hw
    have HW := hide hwd
    have HC : Hid ((chkV wd.length (fun i => wd.getD i 0) m.k).2 = 0) := hw
    clear hwd hw
    go_enter Try.func38, Try.ntmps38
    go_wp2_with fail
    refine (rmcheck_any m a1 c1 a2 c2 _ (h1.below b0) (h2.below b0) hn ho).mono ?_
    rw [unhide HZ]
    rintro e w1 ⟨rfl, hb1⟩
    have b1 := bstep b0 hb1
    obtain ⟨q0, q1, q2, q3, q4, q5⟩ := B0.below hb1
    go_wp2_with fail
    refine (rcheck_any a3 wd.length c3 (fun i => wd.getD i 0) m.k w1 (h3.below b1) hl).mono ?_
    rw [unhide HC]
    rintro e w2 ⟨rfl, rfl⟩
    go_wp2_with fail
    refine (rgo_any m a1 c1 a2 c2 s a3 c3 wd _ (unhide HR) s0 s1 (unhide HW) hl4 (h1.below b1) (h2.below b1) (h3.below b1)).mono ?_
    rintro e w3 ⟨v, rfl, hI, hb3⟩
    have b3 := bstep b1 hb3
    obtain ⟨av, cv, rfl, -, -, -, -, -⟩ := hI.shape
    go_wp2
    go_ret3
    exact ⟨_, ret_ivi (by rw [unhide H]) (by rw [unhide H]), by rw [unhide H]; exact hI.mono b1.size, b3⟩

theorem rrun_any (m : Mc) (a1 : Option Addr) (c1 : Nat) (a2 : Option Addr) (c2 : Nat) (a3 : Option Addr) (c3 : Nat) (wd : List Int) (w : World) (h1 : RdL .i64 w a1 m.nx) (h2 : RdL .i64 w a2 m.out) (h3 : RdL .i64 w a3 wd) (hn : m.nx.length ≤ maxLen) (ho : m.out.length ≤ maxLen) (hl : wd.length ≤ maxLen) :
    Calls Try.prog 25 #[mval m a1 c1 a2 c2, .slice a3 wd.length c3] w fun e w' => ∃ v, e = .returned (.tuple #[v, .int .i64 (fromV m 0 wd).2.2]) ∧ OwnL .i64 3 w' w.heap.size v (fromV m 0 wd).2.1 ∧ Below w.heap.size w w' := by
  unfold mval
  have b0 := ballo w (.cells #[.int .i64 m.kind, .int .i64 m.k, .int .i64 m.o, .int .i64 m.n, .slice a1 m.nx.length c1, .slice a2 m.out.length c2] 24)
  go_enter Try.func25, Try.ntmps25
  go_wp2_with fail
  refine (rfrom_any m a1 c1 a2 c2 0 a3 c3 wd _ (h1.below b0) (h2.below b0) (h3.below b0) hn ho hl).mono ?_
  rintro e w1 ⟨v, rfl, hI, hb1⟩
  have b1 := bstep b0 hb1
  obtain ⟨av, cv, rfl, -, -, -, -, -⟩ := hI.shape
  go_wp2
  go_ret2
  exact ⟨_, rfl, hI.mono b0.size, b1⟩

end Go.Proofs.Ytdlcbjbcehpooaa
