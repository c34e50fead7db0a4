/-
  TextExports, walked: for every input the call returns true.
-/
import Derived.Test.YtdnmabemollbeaaDoorTLive
import Derived.Test.YtdnmabemollbeaaDoorTRexA
import Derived.Test.YtdnmabemollbeaaDoorK5
import Derived.Test.YtdnmabemollbeaaDoorK6
namespace Go.Proofs.YtdnmabemollbeaaDoor
open Go.RowKit

theorem bigF {N : Int} {m : Mc} (h : bigB N m = false) : m.n ≤ N ∧ m.nx.length ≤ 70000 ∧ m.out.length ≤ 70000 := by
  unfold bigB at h
  have := of_decide_eq_false h
  omega

set_option maxRecDepth 100000 in
set_option maxHeartbeats 4000000 in
theorem textExports_walk (m : Mc) (a1 : Option Addr) (c1 : Nat) (a2 : Option Addr) (c2 : Nat) (w : World) (h0 : ArgM w m a1 c1 a2 c2) (g : Gl w) :
    Calls Tryd.prog 3 #[mval m a1 c1 a2 c2] w fun e w' => e = .returned (.bool true) ∧ Below w.heap.size w w' := by
  unfold mval
  have B0 := Box.alloc w m a1 c1 a2 c2 24
  have b0 := ballo w (.cells #[.int .i64 m.kind, .int .i64 m.k, .int .i64 m.o, .int .i64 m.n, .slice a1 m.nx.length c1, .slice a2 m.out.length c2] 24)
  cases hbig : bigB 300 m
  rotate_left
  · go_enter Tryd.func3, Tryd.ntmps3
    go_wp2_with fail
    refine (big_any 300 m a1 c1 a2 c2 _).mono ?_
    rw [hbig]
    rintro e w1 ⟨rfl, hb1⟩
    have b1 := bstep b0 hb1
    go_wp2_with (go_at_call 12; refine (live_any _ (g.below b1)).mono ?_; rintro e wl ⟨rfl, hbl⟩)
    go_ret
    exact ⟨rfl, bstep b1 hbl⟩
  obtain ⟨-, ln, lo⟩ := bigF hbig
  have mn : m.nx.length ≤ maxLen := by unfold maxLen; omega
  have mo : m.out.length ≤ maxLen := by unfold maxLen; omega
  go_enter Tryd.func3, Tryd.ntmps3
  go_wp2_with fail
  refine (big_any 300 m a1 c1 a2 c2 _).mono ?_
  rw [hbig]
  rintro e w1 ⟨rfl, hb1⟩
  have b1 := bstep b0 hb1
  have B1 := B0.below hb1
  obtain ⟨p0, p1, p2, p3, p4, p5⟩ := id B1
  clear B0 b0 hbig
  go_wp2_with fail
  refine (copy_any m a1 c1 a2 c2 w1 (h0.nx.rd.below b1) (h0.out.rd.below b1) h0.nx.nil h0.out.nil ln lo).mono ?_
  rintro e w2 ⟨d1, e1, d2, e2, rfl, k1, k2, hb2⟩
  unfold mval
  have C2 := Box.alloc w2 m d1 e1 d2 e2 24
  have ba : Below w2.heap.size w2 (w2.alloc (.cells #[.int .i64 m.kind, .int .i64 m.k, .int .i64 m.o, .int .i64 m.n, .slice d1 m.nx.length e1, .slice d2 m.out.length e2] 24)) := ballo _ _
  have hb3 := bstep hb2 ba
  have b3 := bstep b1 hb3
  have B3 := B1.below hb3
  have k31 := k1.below ba
  have k32 := k2.below ba
  have hex := export_any m d1 e1 d2 e2 _ k31 k32 mn mo (g.below b3)
  unfold mval at hex
  clear p0 p1 p2 p3 p4 p5
  go_wp2_with fail
  generalize w2.alloc (.cells #[.int .i64 m.kind, .int .i64 m.k, .int .i64 m.o, .int .i64 m.n, .slice d1 m.nx.length e1, .slice d2 m.out.length e2] 24) = w3 at *
  refine hex.mono ?_
  rintro e w4 ⟨v4, rfl, ho4, hb4⟩
  have b4 := bstep b3 hb4
  have B4 := B3.below hb4
  obtain ⟨p0, p1, p2, p3, p4, p5⟩ := id B4
  have hrx := rexport_any m a1 c1 a2 c2 w4 (h0.nx.rd.below b4) (h0.out.rd.below b4) mn mo
  unfold mval at hrx
  clear hex
  go_wp2_with fail
  refine hrx.mono ?_
  rintro e w5 ⟨v5, rfl, ho5, hb5⟩
  have b5 := bstep b4 hb5
  have B5 := B4.below hb5
  have C5 := C2.below (bstep hb4 hb5)
  have k51 := k31.below (bstep hb4 hb5)
  have k52 := k32.below (bstep hb4 hb5)
  obtain ⟨x1, y1, rfl, hn1, -, -, rd1, -⟩ := (ho4.grown hb5).shape
  obtain ⟨x2, y2, rfl, hn2, -, -, rd2, -⟩ := ho5.shape
  rw [zs_len] at hn1 hn2
  have hs := bsame_any x1 x2 y1 y2 (expV m).1 (expV m).1 w5 rd1 rd2 hn1 hn2
  rw [decide_eq_true rfl] at hs
  have hsm := msame_any m d1 e1 d2 e2 a1 c1 a2 c2 w5 k51 k52 (h0.nx.rd.below b5) (h0.out.rd.below b5) mn mo
  unfold mval at hsm
  rw [zs_len]
  clear hrx p0 p1 p2 p3 p4 p5
  obtain ⟨p0, p1, p2, p3, p4, p5⟩ := id B5
  obtain ⟨q0, q1, q2, q3, q4, q5⟩ := id C5
  generalize (expV m).1.length = L at *
  generalize (expV m).2 = er at *
  go_wp2_with (first | (go_at_call 16; refine hs.mono ?_; rintro e wz ⟨rfl, hwz⟩; subst wz) | (go_at_call 17; refine (num_any _ _).mono ?_; rintro e wz ⟨rfl, hwz⟩; subst wz) | (go_at_call 18; refine hsm.mono ?_; rintro e w7 ⟨rfl, hb7⟩) | (go_at_call 12; refine (live_any _ (g.below (bstep b5 hb7))).mono ?_; rintro e wl ⟨rfl, hbl⟩))
  go_ret
  exact ⟨rfl, bstep (bstep b5 hb7) hbl⟩

end Go.Proofs.YtdnmabemollbeaaDoor
