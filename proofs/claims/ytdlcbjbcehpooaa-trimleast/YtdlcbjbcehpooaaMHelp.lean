/-
  What the references' Big, Copy, Same and Right return, for every table.
-/
import Derived.Test.YtdlcbjbcehpooaaRFrom
import Derived.Test.YtdlcbjbcehpooaaLentL
namespace Go.Proofs.Ytdlcbjbcehpooaa
open Go.RowKit

def bigB (N : Int) (m : Mc) : Bool := decide (N < m.n ∨ 70000 < m.nx.length ∨ 70000 < m.out.length)
theorem big_yes {N : Int} {m : Mc} (h : N < m.n ∨ 70000 < m.nx.length ∨ 70000 < m.out.length) : bigB N m = true := by unfold bigB; exact decide_eq_true h
theorem big_no {N : Int} {m : Mc} (h : ¬ (N < m.n ∨ 70000 < m.nx.length ∨ 70000 < m.out.length)) : bigB N m = false := by unfold bigB; exact decide_eq_false h

theorem big_any (N : Int) (m : Mc) (a1 : Option Addr) (c1 : Nat) (a2 : Option Addr) (c2 : Nat) (w : World) :
    Calls Try.prog 9 #[mval m a1 c1 a2 c2, .int .i64 N] w fun e w' => e = .returned (.bool (bigB N m)) ∧ Below w.heap.size w w' := by
  unfold mval
  by_cases h : N < m.n
  · have H := hide (big_yes (N := N) (m := m) (.inl h))
    go_enter Try.func9, Try.ntmps9
    go_wp2
    go_ret
    exact ⟨ret_bool (unhide H).symm, ballo _ _⟩
  by_cases h2 : 70000 < m.nx.length
  · have H := hide (big_yes (N := N) (m := m) (.inr (.inl h2)))
    go_enter Try.func9, Try.ntmps9
    go_wp2
    go_ret
    exact ⟨ret_bool (unhide H).symm, ballo _ _⟩
  by_cases h3 : 70000 < m.out.length
  · have H := hide (big_yes (N := N) (m := m) (.inr (.inr h3)))
    go_enter Try.func9, Try.ntmps9
    go_wp2
    go_ret
    exact ⟨ret_bool (by rw [unhide H]; simp; omega), ballo _ _⟩
  · have H := hide (big_no (N := N) (m := m) (by omega))
    go_enter Try.func9, Try.ntmps9
    go_wp2
    go_ret
    exact ⟨ret_bool (by rw [unhide H]; simp; omega), ballo _ _⟩

theorem right_any (m : Mc) (a1 : Option Addr) (c1 : Nat) (a2 : Option Addr) (c2 : Nat) (w : World) (h1 : RdL .i64 w a1 m.nx) (h2 : RdL .i64 w a2 m.out) (hn : m.nx.length ≤ maxLen) (ho : m.out.length ≤ maxLen) :
    Calls Try.prog 26 #[mval m a1 c1 a2 c2] w fun e w' => e = .returned (.bool ((mchV m).2 == 0)) ∧ Below w.heap.size w w' := by
  unfold mval
  have b0 := ballo w (.cells #[.int .i64 m.kind, .int .i64 m.k, .int .i64 m.o, .int .i64 m.n, .slice a1 m.nx.length c1, .slice a2 m.out.length c2] 24)
  by_cases hz : (mchV m).2 = 0
  · have H := hide hz
    clear hz
    go_enter Try.func26, Try.ntmps26
    go_wp2_with fail
    refine (rmcheck_any m a1 c1 a2 c2 _ (h1.below b0) (h2.below b0) hn ho).mono ?_
    rw [unhide H]
    rintro e w1 ⟨rfl, hb1⟩
    have b1 := bstep b0 hb1
    go_wp2
    go_ret
    exact ⟨ret_bool (eq_t (unhide H)).symm, b1⟩
  · have H := eq_f hz
    clear hz
    go_enter Try.func26, Try.ntmps26
    go_wp2_with fail
    refine (rmcheck_any m a1 c1 a2 c2 _ (h1.below b0) (h2.below b0) hn ho).mono ?_
    rintro e w1 ⟨rfl, hb1⟩
    have b1 := bstep b0 hb1
    go_wp2
    go_ret
    exact ⟨ret_bool H.symm, b1⟩

theorem msame_any (m : Mc) (a1 : Option Addr) (c1 : Nat) (a2 : Option Addr) (c2 : Nat) (d1 : Option Addr) (e1 : Nat) (d2 : Option Addr) (e2 : Nat) (w : World) (h1 : RdL .i64 w a1 m.nx) (h2 : RdL .i64 w a2 m.out) (g1 : RdL .i64 w d1 m.nx) (g2 : RdL .i64 w d2 m.out) (hn : m.nx.length ≤ maxLen) (ho : m.out.length ≤ maxLen) :
    Calls Try.prog 17 #[mval m a1 c1 a2 c2, mval m d1 e1 d2 e2] w fun e w' => e = .returned (.bool true) ∧ Below w.heap.size w w' := by
  unfold mval
  have B0 := (Box.alloc w m a1 c1 a2 c2 24).below (ballo _ (.cells #[.int .i64 m.kind, .int .i64 m.k, .int .i64 m.o, .int .i64 m.n, .slice d1 m.nx.length e1, .slice d2 m.out.length e2] 24))
  have C0 := Box.alloc (w.alloc (.cells #[.int .i64 m.kind, .int .i64 m.k, .int .i64 m.o, .int .i64 m.n, .slice a1 m.nx.length c1, .slice a2 m.out.length c2] 24)) m d1 e1 d2 e2 24
  have b0 := bstep (ballo w (.cells #[.int .i64 m.kind, .int .i64 m.k, .int .i64 m.o, .int .i64 m.n, .slice a1 m.nx.length c1, .slice a2 m.out.length c2] 24)) (ballo _ (.cells #[.int .i64 m.kind, .int .i64 m.k, .int .i64 m.o, .int .i64 m.n, .slice d1 m.nx.length e1, .slice d2 m.out.length e2] 24))
  have k0 : (m.kind == m.kind) = true := by simp
  have k1 : (m.k == m.k) = true := by simp
  have k2 : (m.o == m.o) = true := by simp
  have k3 : (m.n == m.n) = true := by simp
  go_enter Try.func17, Try.ntmps17
  go_wp2_with fail
  refine (same_list a1 d1 c1 e1 m.nx m.nx _ (h1.below b0) (g1.below b0) hn).mono ?_
  rw [show decide (m.nx = m.nx) = true from decide_eq_true rfl]
  rintro e w1 ⟨rfl, hb1⟩
  have b1 := bstep b0 hb1
  obtain ⟨p0, p1, p2, p3, p4, p5⟩ := B0.below hb1
  obtain ⟨q0, q1, q2, q3, q4, q5⟩ := C0.below hb1
  clear hb1 B0 C0
  simp only [World.size_alloc] at q0 q1 q2 q3 q4 q5
  go_wp2_with fail
  refine (same_list a2 d2 c2 e2 m.out m.out w1 (h2.below b1) (g2.below b1) ho).mono ?_
  rw [show decide (m.out = m.out) = true from decide_eq_true rfl]
  rintro e w2 ⟨rfl, hb2⟩
  have b2 := bstep b1 hb2
  clear hb2
  go_wp2
  go_ret
  exact ⟨rfl, b2⟩

end Go.Proofs.Ytdlcbjbcehpooaa
