/-
  TextBack, walked: for every input the call returns true.
-/
import Derived.Test.YtdnmabemollbeaaDoorTWExp
import Derived.Test.YtdnmabemollbeaaDoorUMt
import Derived.Test.YtdnmabemollbeaaDoorK6
namespace Go.Proofs.YtdnmabemollbeaaDoor
open Go.RowKit

set_option maxRecDepth 100000 in
set_option maxHeartbeats 4000000 in
theorem textBack_walk (m : Mc) (a1 : Option Addr) (c1 : Nat) (a2 : Option Addr) (c2 : Nat) (w : World) (h0 : ArgM w m a1 c1 a2 c2) (g : Gl w) :
    Calls Tryd.prog 6 #[mval m a1 c1 a2 c2] w fun e w' => e = .returned (.bool true) ∧ Below w.heap.size w w' := by
  unfold mval
  have B0 := Box.alloc w m a1 c1 a2 c2 24
  have b0 := ballo w (.cells #[.int .i64 m.kind, .int .i64 m.k, .int .i64 m.o, .int .i64 m.n, .slice a1 m.nx.length c1, .slice a2 m.out.length c2] 24)
  cases hbig : bigB 300 m
  rotate_left
  · go_enter Tryd.func6, Tryd.ntmps6
    go_wp2_with fail
    refine (big_any 300 m a1 c1 a2 c2 _).mono ?_
    rw [hbig]
    rintro e w1 ⟨rfl, hb1⟩
    have b1 := bstep b0 hb1
    go_wp2_with (go_at_call 12; refine (live_any _ (g.below b1)).mono ?_; rintro e wl ⟨rfl, hbl⟩)
    go_ret
    exact ⟨rfl, bstep b1 hbl⟩
  obtain ⟨-, ln, lo⟩ := bigF hbig
  have mn : m.nx.length ≤ maxLen := by unfold maxLen; omega
  have mo : m.out.length ≤ maxLen := by unfold maxLen; omega
  go_enter Tryd.func6, Tryd.ntmps6
  go_wp2_with fail
  refine (big_any 300 m a1 c1 a2 c2 _).mono ?_
  rw [hbig]
  rintro e w1 ⟨rfl, hb1⟩
  have b1 := bstep b0 hb1
  have B1 := B0.below hb1
  obtain ⟨p0, p1, p2, p3, p4, p5⟩ := id B1
  clear B0 b0 hbig
  have hex := export_any m a1 c1 a2 c2 w1 (h0.nx.rd.below b1) (h0.out.rd.below b1) mn mo (g.below b1)
  unfold mval at hex
  by_cases hm : (mchV m).2 = 0
  · rw [expV_ok hm] at hex
    have F := full_of hm
    have hbk := im_back F
    have hlen := expT_len F
    clear hm F
    go_wp2_with fail
    refine hex.mono ?_
    rintro e w2 ⟨v2, rfl, ho2, hb2⟩
    have b2 := bstep b1 hb2
    have B2 := B1.below hb2
    obtain ⟨x1, y1, rfl, hn1, -, -, rd1, -⟩ := ho2.shape
    rw [zs_len]
    clear p0 p1 p2 p3 p4 p5 hex
    have him := import_any x1 y1 (expT m) w2 rd1 (g.below b2)
    unfold ImPost at him
    rw [hbk, show imV (expT m) (.ok m) = (m, 0, ((expT m).length : Int)) from rfl] at him
    unfold mval at him
    obtain ⟨p0, p1, p2, p3, p4, p5⟩ := id B2
    dsimp only at him
    go_wp2_with (go_at_call 17; refine (num_any _ _).mono ?_; rintro e wz ⟨rfl, hwz⟩; subst wz)
    refine him.mono ?_
    rintro e w3 ⟨d1, e1, d2, e2, rfl, ⟨o1, o2, -⟩, hb3⟩
    have C3 := Box.alloc w3 m d1 e1 d2 e2 24
    have ba : Below w3.heap.size w3 (w3.alloc (.cells #[.int .i64 m.kind, .int .i64 m.k, .int .i64 m.o, .int .i64 m.n, .slice d1 m.nx.length e1, .slice d2 m.out.length e2] 24)) := ballo _ _
    have hb4 := bstep hb3 ba
    have b4 := bstep b2 hb4
    have B4 := B2.below hb4
    obtain ⟨s1, t1, g1, -, -, -, k1, -⟩ := (o1.grown ba).shape
    obtain ⟨s2, t2, g2, -, -, -, k2, -⟩ := (o2.grown ba).shape
    cases g1
    cases g2
    have hsm := msame_any m d1 e1 d2 e2 a1 c1 a2 c2 _ k1 k2 (h0.nx.rd.below b4) (h0.out.rd.below b4) mn mo
    unfold mval at hsm
    clear p0 p1 p2 p3 p4 p5 him
    obtain ⟨p0, p1, p2, p3, p4, p5⟩ := id B4
    obtain ⟨q0, q1, q2, q3, q4, q5⟩ := id C3
    go_wp2_with (first | (go_at_call 17; refine (num_any _ _).mono ?_; rintro e wz ⟨rfl, hwz⟩; subst wz) | (go_at_call 18; refine hsm.mono ?_; rintro e w7 ⟨rfl, hb7⟩) | (go_at_call 12; refine (live_any _ (g.below (bstep b4 hb7))).mono ?_; rintro e wl ⟨rfl, hbl⟩))
    go_ret
    exact ⟨rfl, bstep (bstep b4 hb7) hbl⟩
  · have hne := mch_ne hm
    have hri := fun wz (h : Below w1.heap.size w1 wz) => right_any m a1 c1 a2 c2 wz (h0.nx.rd.below (bstep b1 h)) (h0.out.rd.below (bstep b1 h)) mn mo
    have hfa : ((mchV m).2 == 0) = false := by simpa using hm
    rw [expV_bad hm] at hex
    rw [hfa] at hri
    unfold mval at hri
    clear hm hfa
    go_wp2_with fail
    refine hex.mono ?_
    rintro e w2 ⟨v2, rfl, ho2, hb2⟩
    have b2 := bstep b1 hb2
    have B2 := B1.below hb2
    obtain ⟨x1, y1, rfl, hn1, -, -, rd1, -⟩ := ho2.shape
    clear p0 p1 p2 p3 p4 p5 hex
    obtain ⟨p0, p1, p2, p3, p4, p5⟩ := id B2
    dsimp only [zs_nil, List.length_nil]
    generalize (mchV m).2 = er at *
    go_wp2_with (first | (go_at_call 17; refine (num_any _ _).mono ?_; rintro e wz ⟨rfl, hwz⟩; subst wz) | (go_at_call 25; refine (hri w2 hb2).mono ?_; rintro e w7 ⟨rfl, hb7⟩) | (go_at_call 12; refine (live_any _ (g.below (bstep b2 hb7))).mono ?_; rintro e wl ⟨rfl, hbl⟩))
    go_ret
    exact ⟨rfl, bstep (bstep b2 hb7) hbl⟩

end Go.Proofs.YtdnmabemollbeaaDoor
