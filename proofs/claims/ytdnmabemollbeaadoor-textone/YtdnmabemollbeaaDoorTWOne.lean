/-
  TextOne, walked: for every input the call returns true.
-/
import Derived.Test.YtdnmabemollbeaaDoorTWExp
import Derived.Test.YtdnmabemollbeaaDoorUThr
import Derived.Test.YtdnmabemollbeaaDoorK16
import Derived.Test.YtdnmabemollbeaaDoorSMin
import Derived.Test.YtdnmabemollbeaaDoorK17
namespace Go.Proofs.YtdnmabemollbeaaDoor
set_option linter.unusedVariables false
open Go.RowKit

/-- One text just where no word tells the machines apart. -/
theorem one_text {a b : Mc} (h : seE a b = 0) {o : Option (List Int)} (ho : SepR a b 0 0 o) : decide (expT (minM a) = expT (minM b)) = !o.isSome := by
  obtain ⟨h1, h2, h3, h4, h5⟩ := seE_zero h
  have hi := sep_min (full_of h1) (full_of h2) h3.symm h4.symm h5.symm ho
  cases e : o.isSome
  · rw [e] at hi
    have : minM b = minM a := Classical.byContradiction fun c => by have := hi.2 c; cases this
    rw [this]; simp
  · have h9 := hi.1 e
    exact decide_eq_false fun c => h9 (exp_inj (full_min (full_of h1)) (full_min (full_of h2)) c).symm

set_option maxRecDepth 100000 in
set_option maxHeartbeats 8000000 in
theorem textOne_walk (a : Mc) (a1 : Option Addr) (c1 : Nat) (a2 : Option Addr) (c2 : Nat) (b : Mc) (d1 : Option Addr) (e1 : Nat) (d2 : Option Addr) (e2 : Nat) (w : World) (h0 : ArgM w a a1 c1 a2 c2) (g0 : ArgM w b d1 e1 d2 e2) (g : Gl w) :
    Calls Tryd.prog 8 #[mval a a1 c1 a2 c2, mval b d1 e1 d2 e2] w fun e w' => e = .returned (.bool true) ∧ Below w.heap.size w w' := by
  obtain ⟨w0, hw0⟩ : ∃ w0, w0 = (w.alloc (.cells #[.int .i64 a.kind, .int .i64 a.k, .int .i64 a.o, .int .i64 a.n, .slice a1 a.nx.length c1, .slice a2 a.out.length c2] 24)).alloc (.cells #[.int .i64 b.kind, .int .i64 b.k, .int .i64 b.o, .int .i64 b.n, .slice d1 b.nx.length e1, .slice d2 b.out.length e2] 24) := ⟨_, rfl⟩
  have b0 : Below w.heap.size w w0 := by rw [hw0]; exact bstep (ballo _ _) (ballo _ _)
  have A0 : Box w0 w.heap.size a a1 c1 a2 c2 := by rw [hw0]; exact (Box.alloc w a a1 c1 a2 c2 24).below (ballo _ _)
  have B0 : Box w0 (w.heap.size + 1) b d1 e1 d2 e2 := by
    have := Box.alloc (w.alloc (.cells #[.int .i64 a.kind, .int .i64 a.k, .int .i64 a.o, .int .i64 a.n, .slice a1 a.nx.length c1, .slice a2 a.out.length c2] 24)) b d1 e1 d2 e2 24
    rw [hw0]
    simp only [World.size_alloc] at this
    exact this
  have HC := hide (big_any 30 a a1 c1 a2 c2 w0)
  unfold mval at HC ⊢
  have HA := hide A0
  have HB := hide B0
  have HW : Hid (Below w.heap.size w w0) := b0
  clear A0 B0 b0
  go_enter Tryd.func8, Tryd.ntmps8
  go_wp2_with fail
  rw [← hw0]
  refine (unhide HC).mono ?_
  rintro e w1 ⟨rfl, hb1⟩
  have HW1 := hide (bstep (unhide HW) hb1)
  have HA1 := hide ((unhide HA).below hb1)
  have HB1 := hide ((unhide HB).below hb1)
  clear HC HA HB HW hw0 hb1
  cases hbig : bigB 30 a
  rotate_left
  · clear hbig
    go_wp2_with (go_at_call 12; refine (live_any _ (g.below (unhide HW1))).mono ?_; rintro e wl ⟨rfl, hbl⟩)
    go_ret
    exact ⟨rfl, bstep (unhide HW1) hbl⟩
  obtain ⟨-, ln, lo⟩ := bigF hbig
  have mn : a.nx.length ≤ maxLen := by unfold maxLen; omega
  have mo : a.out.length ≤ maxLen := by unfold maxLen; omega
  clear hbig
  obtain ⟨q0, q1, q2, q3, q4, q5⟩ := unhide HB1
  have HC := hide (big_any 30 b d1 e1 d2 e2 w1)
  unfold mval at HC
  go_wp2_with fail
  refine (unhide HC).mono ?_
  rintro e w2 ⟨rfl, hb2⟩
  have HW2 := hide (bstep (unhide HW1) hb2)
  have HA2 := hide ((unhide HA1).below hb2)
  have HB2 := hide ((unhide HB1).below hb2)
  clear q0 q1 q2 q3 q4 q5 HC HA1 HB1 HW1 hb2
  cases hbig : bigB 30 b
  rotate_left
  · clear hbig
    go_wp2_with (go_at_call 12; refine (live_any _ (g.below (unhide HW2))).mono ?_; rintro e wl ⟨rfl, hbl⟩)
    go_ret
    exact ⟨rfl, bstep (unhide HW2) hbl⟩
  obtain ⟨-, kn, ko⟩ := bigF hbig
  have pn : b.nx.length ≤ maxLen := by unfold maxLen; omega
  have po : b.out.length ≤ maxLen := by unfold maxLen; omega
  clear hbig
  obtain ⟨p0, p1, p2, p3, p4, p5⟩ := unhide HA2
  obtain ⟨q0, q1, q2, q3, q4, q5⟩ := unhide HB2
  obtain ⟨o, ho⟩ := se_ex a b
  have HO := hide ho
  have HC := hide (rseparate_any a b a1 c1 a2 c2 d1 e1 d2 e2 w2 o (h0.nx.rd.below (unhide HW2)) (h0.out.rd.below (unhide HW2)) (g0.nx.rd.below (unhide HW2)) (g0.out.rd.below (unhide HW2)) mn mo pn po ho)
  unfold mval at HC
  clear ho
  go_wp2_with fail
  refine (unhide HC).mono ?_
  rintro e w3 ⟨v, rfl, hv, hb⟩
  have HW3 := hide (bstep (unhide HW2) hb)
  have HA3 := hide ((unhide HA2).below hb)
  have HB3 := hide ((unhide HB2).below hb)
  clear hv hb HC p0 p1 p2 p3 p4 p5 q0 q1 q2 q3 q4 q5 HW2 HA2 HB2
  by_cases hE : seE a b = 0
  rotate_left
  · generalize seE a b = E at *
    go_wp2_with (go_at_call 12; refine (live_any _ (g.below (unhide HW3))).mono ?_; rintro e wl ⟨rfl, hbl⟩)
    go_ret
    exact ⟨rfl, bstep (unhide HW3) hbl⟩
  have hse := one_text hE ((unhide HO).1 hE)
  obtain ⟨z1, z2, z3, z4, z5⟩ := seE_zero hE
  have FA := full_min (full_of z1)
  have FB := full_min (full_of z2)
  have XA := hide (expV_ok (mch_full FA))
  have XB := hide (expV_ok (mch_full FB))
  have HSE := hide hse
  rw [hE]
  have HC := hide (rminimise_any a a1 c1 a2 c2 w3 (h0.nx.rd.below (unhide HW3)) (h0.out.rd.below (unhide HW3)) mn mo)
  have HD := hide (fun wz (h : Below w.heap.size w wz) => rminimise_any b d1 e1 d2 e2 wz (g0.nx.rd.below h) (g0.out.rd.below h) pn po)
  rw [mnV_ok z1] at HC
  rw [mnV_ok z2] at HD
  unfold mval at HC HD
  clear hse hE z1 z2 z3 z4 z5 HO FA FB
  generalize minM a = AA at *
  generalize minM b = BB at *
  obtain ⟨p0, p1, p2, p3, p4, p5⟩ := unhide HA3
  obtain ⟨q0, q1, q2, q3, q4, q5⟩ := unhide HB3
  go_wp2_with fail
  refine (unhide HC).mono ?_
  rintro e w5 ⟨f1, k1, f2, k2, rfl, i1, i2, -, hb⟩
  dsimp only at i1 i2 ⊢
  obtain ⟨_, _, E1, -, l1, m1, s1, -⟩ := i1.shape
  cases E1
  obtain ⟨_, _, E2, -, l2, m2, s2, -⟩ := i2.shape
  cases E2
  have An : AA.nx.length ≤ maxLen := by omega
  have Ao : AA.out.length ≤ maxLen := by omega
  unfold mval
  have x5 := ballo w5 (.cells #[.int .i64 AA.kind, .int .i64 AA.k, .int .i64 AA.o, .int .i64 AA.n, .slice f1 AA.nx.length k1, .slice f2 AA.out.length k2] 24)
  have D5 := Box.alloc w5 AA f1 k1 f2 k2 24
  obtain ⟨w6, w6e⟩ : ∃ w6, w6 = w5.alloc (.cells #[.int .i64 AA.kind, .int .i64 AA.k, .int .i64 AA.o, .int .i64 AA.n, .slice f1 AA.nx.length k1, .slice f2 AA.out.length k2] 24) := ⟨_, rfl⟩
  rw [← w6e] at x5 D5
  have HW6 := hide (bstep (bstep (unhide HW3) hb) x5)
  have HB6 := hide (((unhide HB3).below hb).below x5)
  have HD6 := hide D5
  have HR1 := hide (s1.below x5)
  have HR2 := hide (s2.below x5)
  clear i1 i2 l1 m1 l2 m2 s1 s2 hb x5 D5 HC HW3 HA3 HB3 p0 p1 p2 p3 p4 p5 q0 q1 q2 q3 q4 q5
  have qB := unhide HB6
  rw [w6e] at qB
  obtain ⟨q0, q1, q2, q3, q4, q5⟩ := qB
  go_wp2_with fail
  rw [← w6e]
  refine ((unhide HD) w6 (unhide HW6)).mono ?_
  rintro e w7 ⟨g1, j1, g2, j2, rfl, i1, i2, -, hb⟩
  dsimp only at i1 i2 ⊢
  obtain ⟨_, _, E1, -, l1, m1, s1, -⟩ := i1.shape
  cases E1
  obtain ⟨_, _, E2, -, l2, m2, s2, -⟩ := i2.shape
  cases E2
  have Bn : BB.nx.length ≤ maxLen := by omega
  have Bo : BB.out.length ≤ maxLen := by omega
  unfold mval
  have x7 := ballo w7 (.cells #[.int .i64 BB.kind, .int .i64 BB.k, .int .i64 BB.o, .int .i64 BB.n, .slice g1 BB.nx.length j1, .slice g2 BB.out.length j2] 24)
  have D7 := Box.alloc w7 BB g1 j1 g2 j2 24
  obtain ⟨w8, w8e⟩ : ∃ w8, w8 = w7.alloc (.cells #[.int .i64 BB.kind, .int .i64 BB.k, .int .i64 BB.o, .int .i64 BB.n, .slice g1 BB.nx.length j1, .slice g2 BB.out.length j2] 24) := ⟨_, rfl⟩
  rw [← w8e] at x7 D7
  have x68 := bstep hb x7
  have HW8 := hide (bstep (unhide HW6) x68)
  have HD8 := hide ((unhide HD6).below x68)
  have HE8 := hide D7
  have r1 := (unhide HR1).below x68
  have r2 := (unhide HR2).below x68
  have t1 := s1.below x7
  have t2 := s2.below x7
  have hexA := export_any AA f1 k1 f2 k2 w8 r1 r2 An Ao (g.below (unhide HW8))
  have hexB := fun wz (h : Below w8.heap.size w8 wz) => export_any BB g1 j1 g2 j2 wz (t1.below h) (t2.below h) Bn Bo (g.below (bstep (unhide HW8) h))
  rw [unhide XA] at hexA
  rw [unhide XB] at hexB
  unfold mval at hexA hexB
  clear i1 i2 l1 m1 l2 m2 s1 s2 hb x7 D7 HD HW6 HB6 HD6 q0 q1 q2 q3 q4 q5 w6e x68 HR1 HR2
  have qD := unhide HD8
  have qE := unhide HE8
  rw [w8e] at qD qE
  obtain ⟨p0, p1, p2, p3, p4, p5⟩ := qD
  obtain ⟨q0, q1, q2, q3, q4, q5⟩ := qE
  go_wp2_with fail
  rw [← w8e]
  refine hexA.mono ?_
  rintro e w9 ⟨v9, rfl, ho9, hb9⟩
  obtain ⟨x9, y9, rfl, hn9, -, -, rd9, -⟩ := ho9.shape
  rw [zs_len] at hn9 ⊢
  have HE9 := (unhide HE8).below hb9
  clear p0 p1 p2 p3 p4 p5 q0 q1 q2 q3 q4 q5 hexA
  obtain ⟨q0, q1, q2, q3, q4, q5⟩ := HE9
  go_wp2_with fail
  refine (hexB w9 hb9).mono ?_
  rintro e w10 ⟨v10, rfl, ho10, hb10⟩
  obtain ⟨x10, y10, rfl, hn10, -, -, rd10, -⟩ := ho10.shape
  rw [zs_len] at hn10 ⊢
  have HW10 := hide (bstep (bstep (unhide HW8) hb9) hb10)
  have hs := bsame_any x9 x10 y9 y10 (expT AA) (expT BB) w10 (rd9.below hb10) rd10 hn9 hn10
  rw [unhide HSE] at hs
  clear hexB q0 q1 q2 q3 q4 q5 XA XB HSE
  dsimp only
  generalize o.isSome = bb at *
  cases bb <;> (simp only [Bool.not_false, Bool.not_true] at hs) <;>
    (go_wp2_with (first | (go_at_call 17; refine (num_any _ _).mono ?_; rintro e wz ⟨rfl, hwz⟩; subst wz) | (go_at_call 16; refine hs.mono ?_; rintro e wz ⟨rfl, hwz⟩; subst wz) | (go_at_call 12; refine (live_any _ (g.below (unhide HW10))).mono ?_; rintro e wl ⟨rfl, hbl⟩))
     go_ret
     exact ⟨rfl, bstep (unhide HW10) hbl⟩)

end Go.Proofs.YtdnmabemollbeaaDoor
