/-
  What misfit of differ returns: Separate's error.
-/
import Derived.Test.YtagoilabphmdfaaK17
import Derived.Test.YtagoilabphmdfaaK3
namespace Go.Proofs.Ytagoilabphmdfaa
open Go.RowKit

set_option maxRecDepth 100000 in
set_option maxHeartbeats 2000000 in
theorem misfit_any (a b : Mc) (a1 : Option Addr) (c1 : Nat) (a2 : Option Addr) (c2 : Nat) (d1 : Option Addr) (e1 : Nat) (d2 : Option Addr) (e2 : Nat) (w : World) (h1 : RdL .i64 w a1 a.nx) (h2 : RdL .i64 w a2 a.out) (g1 : RdL .i64 w d1 b.nx) (g2 : RdL .i64 w d2 b.out) (ln : a.nx.length ≤ maxLen) (lo : a.out.length ≤ maxLen) (kn : b.nx.length ≤ maxLen) (ko : b.out.length ≤ maxLen) :
    Calls Try.prog 55 #[mval a a1 c1 a2 c2, mval b d1 e1 d2 e2] w fun e w' => e = .returned (.int .i64 (seE a b)) ∧ Below w.heap.size w w' := by
  obtain ⟨w0, hw0⟩ : ∃ w0, w0 = (w.alloc (.cells #[.int .i64 a.kind, .int .i64 a.k, .int .i64 a.o, .int .i64 a.n, .slice a1 a.nx.length c1, .slice a2 a.out.length c2] 24)).alloc (.cells #[.int .i64 b.kind, .int .i64 b.k, .int .i64 b.o, .int .i64 b.n, .slice d1 b.nx.length e1, .slice d2 b.out.length e2] 24) := ⟨_, rfl⟩
  have b0 : Below w.heap.size w w0 := by rw [hw0]; exact bstep (ballo _ _) (ballo _ _)
  have A0 : Box w0 w.heap.size a a1 c1 a2 c2 := by rw [hw0]; exact (Box.alloc w a a1 c1 a2 c2 24).below (ballo _ _)
  have B0 : Box w0 (w.heap.size + 1) b d1 e1 d2 e2 := by
    have := Box.alloc (w.alloc (.cells #[.int .i64 a.kind, .int .i64 a.k, .int .i64 a.o, .int .i64 a.n, .slice a1 a.nx.length c1, .slice a2 a.out.length c2] 24)) b d1 e1 d2 e2 24
    rw [hw0]
    simp only [World.size_alloc] at this
    exact this
  have HC := hide (mcheck_any a a1 c1 a2 c2 w0 (h1.below b0) (h2.below b0) ln lo)
  unfold mval at HC ⊢
  have HA := hide A0
  have HB := hide B0
  have HW : Hid (Below w.heap.size w w0) := b0
  clear A0 B0 b0
  go_enter Try.func55, Try.ntmps55
  go_wp2_with fail
  rw [← hw0]
  refine (unhide HC).mono ?_
  rintro e w1 ⟨rfl, hb1⟩
  have HW1 := hide (bstep (unhide HW) hb1)
  have HA1 := hide ((unhide HA).below hb1)
  have HB1 := hide ((unhide HB).below hb1)
  clear HC HA HB HW hw0 hb1
  by_cases hz : (mchV a).2 = 0
  rotate_left
  · have tz := ne_bne' hz
    have HS := hide (seE_a (b := b) hz)
    clear hz
    generalize (mchV a).2 = E at *
    go_wp2
    go_ret
    rw [unhide HS]
    exact ⟨rfl, unhide HW1⟩
  have HZ := hide hz
  obtain ⟨q0, q1, q2, q3, q4, q5⟩ := unhide HB1
  have HC := hide (mcheck_any b d1 e1 d2 e2 w1 (g1.below (unhide HW1)) (g2.below (unhide HW1)) kn ko)
  unfold mval at HC
  rw [hz]
  clear hz
  go_wp2_with fail
  refine (unhide HC).mono ?_
  rintro e w2 ⟨rfl, hb2⟩
  have HW2 := hide (bstep (unhide HW1) hb2)
  have HA2 := hide ((unhide HA1).below hb2)
  have HB2 := hide ((unhide HB1).below hb2)
  clear q0 q1 q2 q3 q4 q5 HC HA1 HB1 HW1 hb2
  by_cases hz : (mchV b).2 = 0
  rotate_left
  · have tz := ne_bne' hz
    have HS := hide (seE_b (unhide HZ) hz)
    clear hz
    generalize (mchV b).2 = E at *
    go_wp2
    go_ret
    rw [unhide HS]
    exact ⟨rfl, unhide HW2⟩
  have HY := hide hz
  rw [hz]
  clear hz
  obtain ⟨p0, p1, p2, p3, p4, p5⟩ := unhide HA2
  obtain ⟨q0, q1, q2, q3, q4, q5⟩ := unhide HB2
  by_cases hd : a.kind = b.kind
  rotate_left
  · have td := ne_bne' hd
    have HS := hide (seE_kd (unhide HZ) (unhide HY) hd)
    clear hd
    go_wp2
    go_ret
    rw [unhide HS]
    exact ⟨rfl, unhide HW2⟩
  have td := eq_bne' hd
  have HD := hide hd
  clear hd
  by_cases hk : a.k = b.k
  rotate_left
  · have tk := ne_bne' hk
    have HS := hide (seE_k (unhide HZ) (unhide HY) (unhide HD) hk)
    clear hk
    go_wp2
    go_ret
    rw [unhide HS]
    exact ⟨rfl, unhide HW2⟩
  have tk := eq_bne' hk
  have HK := hide hk
  clear hk
  by_cases hoo : a.o = b.o
  rotate_left
  · have to := ne_bne' hoo
    have HS := hide (seE_o (unhide HZ) (unhide HY) (unhide HD) (unhide HK) hoo)
    clear hoo
    go_wp2
    go_ret
    rw [unhide HS]
    exact ⟨rfl, unhide HW2⟩
  have to := eq_bne' hoo
  have HS := hide (seE_ok (unhide HZ) (unhide HY) (unhide HD) (unhide HK) hoo)
  clear hoo
  go_wp2
  go_ret
  rw [unhide HS]
  exact ⟨rfl, unhide HW2⟩
end Go.Proofs.Ytagoilabphmdfaa
