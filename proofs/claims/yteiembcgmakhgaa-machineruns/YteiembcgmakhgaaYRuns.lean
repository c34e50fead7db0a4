/-
  The law MachineRuns, walked: it returns true, whatever the table and the list.
-/
import Derived.Test.YteiembcgmakhgaaYChecks
namespace Go.Proofs.Yteiembcgmakhgaa
open Go.RowKit

set_option maxRecDepth 100000 in
theorem machineRuns_walk (m : Mc) (a1 : Option Addr) (c1 : Nat) (a2 : Option Addr) (c2 : Nat) (a0 : Option Addr) (c0 : Nat) (wd : List Int) (w : World) (h0 : ArgM w m a1 c1 a2 c2) (g0 : ArgL .i64 8 w a0 c0 wd) :
    Calls Try.prog 4 #[mval m a1 c1 a2 c2, .slice a0 wd.length c0] w fun e w' => e = .returned (.bool true) ∧ Below w.heap.size w w' := by
  unfold mval
  have B0 := Box.alloc w m a1 c1 a2 c2 24
  have b0 := ballo w (.cells #[.int .i64 m.kind, .int .i64 m.k, .int .i64 m.o, .int .i64 m.n, .slice a1 m.nx.length c1, .slice a2 m.out.length c2] 24)
  cases hbig : bigB m
  rotate_left
  · go_enter Try.func4, Try.ntmps4
    go_wp2_with fail
    refine (big_any m a1 c1 a2 c2 _).mono ?_
    rw [hbig]
    rintro e w1 ⟨rfl, hb1⟩
    have b1 := bstep b0 hb1
    go_wp2_with (go_at_call 10; refine (live_any _).mono ?_; rintro e wl ⟨rfl, hbl⟩)
    go_ret
    exact ⟨rfl, bstep b1 hbl⟩
  obtain ⟨_, ln, lo⟩ := big_bounds hbig
  have mn : m.nx.length ≤ maxLen := by unfold maxLen; omega
  have mo : m.out.length ≤ maxLen := by unfold maxLen; omega
  by_cases hlong : 5000 < wd.length
  · go_enter Try.func4, Try.ntmps4
    go_wp2_with fail
    refine (big_any m a1 c1 a2 c2 _).mono ?_
    rw [hbig]
    rintro e w1 ⟨rfl, hb1⟩
    have b1 := bstep b0 hb1
    have B1 := B0.below hb1
    obtain ⟨p0, p1, p2, p3, p4, p5⟩ := id B1
    clear hb1
    go_wp2_with (go_at_call 10; refine (live_any _).mono ?_; rintro e wl ⟨rfl, hbl⟩)
    go_ret
    exact ⟨rfl, bstep b1 hbl⟩
  have ml : wd.length ≤ maxLen := by unfold maxLen; omega
  go_enter Try.func4, Try.ntmps4
  go_wp2_with fail
  refine (big_any m a1 c1 a2 c2 _).mono ?_
  rw [hbig]
  rintro e w1 ⟨rfl, hb1⟩
  have b1 := bstep b0 hb1
  have B1 := B0.below hb1
  obtain ⟨p0, p1, p2, p3, p4, p5⟩ := id B1
  clear hb1
  clear B0 b0 hbig
  go_wp2_with fail
  refine (copy_any m a1 c1 a2 c2 w1 (h0.nx.rd.below b1) (h0.out.rd.below b1) h0.nx.nil h0.out.nil ln lo).mono ?_
  rintro e w2 ⟨d1, e1, d2, e2, rfl, r1, r2, hb2⟩
  unfold mval
  have b2 := bstep b1 hb2
  have B2 := B1.below hb2
  clear p0 p1 p2 p3 p4 p5 hb2 b1 B1
  go_wp2_with fail
  refine (lent_list a0 c0 wd w2 (g0.rd.below b2) g0.nil (by omega)).mono ?_
  rintro e w3 ⟨g, cap, rfl, L, hb3⟩
  have b3 := bstep b2 hb3
  have B3 := B2.below hb3
  have C0 := Box.alloc w3 m d1 e1 d2 e2 24
  have x3 := ballo w3 (.cells #[.int .i64 m.kind, .int .i64 m.k, .int .i64 m.o, .int .i64 m.n, .slice d1 m.nx.length e1, .slice d2 m.out.length e2] 24)
  have b4 := bstep b3 x3
  have B4 := B3.below x3
  have r1 := (r1.below hb3).below x3
  have r2 := (r2.below hb3).below x3
  have L := L.below x3
  clear B2 b2 hb3 b3 B3 x3
  go_wp2_with fail
  refine (state_any m d1 e1 d2 e2 (some ⟨g, 0, none⟩) cap wd _ r1 r2 L.rd mn mo ml).mono ?_
  rintro e w4 ⟨rfl, hb4⟩
  have b5 := bstep b4 hb4
  have B5 := B4.below hb4
  have C5 := C0.below hb4
  have r1 := r1.below hb4
  have r2 := r2.below hb4
  have L := L.below hb4
  obtain ⟨q0, q1, q2, q3, q4, q5⟩ := id C5
  clear B4 C0 b4 hb4
  go_wp2_with fail
  refine (run_any m d1 e1 d2 e2 (some ⟨g, 0, none⟩) cap wd w4 r1 r2 L.rd mn mo ml).mono ?_
  rintro e w5 ⟨v5, rfl, I5, hb5⟩
  obtain ⟨av, cv, rfl, -, hl5, hm5, S5, -⟩ := I5.shape
  have b6 := bstep b5 hb5
  have B6 := B5.below hb5
  have C6 := C5.below hb5
  have r1 := r1.below hb5
  have r2 := r2.below hb5
  have L := L.below hb5
  clear q0 q1 q2 q3 q4 q5 B5 C5 b5 hb5 I5
  obtain ⟨p0, p1, p2, p3, p4, p5⟩ := id B6
  go_wp2_with fail
  refine (rfrom_any m a1 c1 a2 c2 0 a0 c0 wd w5 (h0.nx.rd.below b6) (h0.out.rd.below b6) (g0.rd.below b6) mn mo ml).mono ?_
  rintro e w6 ⟨v6, rfl, I6, hb6⟩
  obtain ⟨au, cu, rfl, -, -, -, S6, -⟩ := I6.shape
  have S5 := S5.below hb6
  have b7 := bstep b6 hb6
  have B7 := B6.below hb6
  have C7 := C6.below hb6
  have r1 := r1.below hb6
  have r2 := r2.below hb6
  have L := L.below hb6
  clear p0 p1 p2 p3 p4 p5 B6 C6 b6 hb6 I6
  generalize fromV m 0 wd = P at *
  obtain ⟨P1, P2, P3⟩ := P
  have s1 := self_eq P1
  have s3 := self_eq P3
  go_wp2_with (go_at_call 14; refine (num_any _ _).mono ?_; rintro e w' ⟨rfl, rfl⟩)
  refine (same_list av au cv cu P2 P2 _ S5 S6 (Nat.le_trans hl5 hm5)).mono ?_
  rw [show decide (P2 = P2) = true from decide_eq_true rfl]
  rintro e w7 ⟨rfl, hb7⟩
  have b8 := bstep b7 hb7
  have B8 := B7.below hb7
  have C8 := C7.below hb7
  have r1 := r1.below hb7
  have r2 := r2.below hb7
  have L := L.below hb7
  clear B7 C7 b7 hb7 S5 S6
  obtain ⟨p0, p1, p2, p3, p4, p5⟩ := id B8
  obtain ⟨q0, q1, q2, q3, q4, q5⟩ := id C8
  go_wp2_with (go_at_call 14; refine (num_any _ _).mono ?_; rintro e w' ⟨rfl, rfl⟩)
  refine (msame_any m d1 e1 d2 e2 a1 c1 a2 c2 _ r1 r2 (h0.nx.rd.below b8) (h0.out.rd.below b8) mn mo).mono ?_
  rintro e w8 ⟨rfl, hb8⟩
  have b9 := bstep b8 hb8
  have L := L.below hb8
  clear b8 B8 C8 p0 p1 p2 p3 p4 p5 q0 q1 q2 q3 q4 q5 r1 r2 hb8
  go_wp2_with fail
  refine (kept_list g cap c0 wd a0 w8 L (g0.rd.below b9)).mono ?_
  rintro e w9 ⟨rfl, hb9⟩
  have bA := bstep b9 hb9
  go_wp2_with (go_at_call 10; refine (live_any _).mono ?_; rintro e wl ⟨rfl, hbl⟩)
  go_ret
  exact ⟨rfl, bstep bA hbl⟩

end Go.Proofs.Yteiembcgmakhgaa
