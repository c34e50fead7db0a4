/-
  Some texts of this seat, one behind the other.
-/
import Derived.Test.YtoiogggibfmncaaK1
import Derived.Test.YtoiogggibfmncaaK11
import Derived.Test.YtoiogggibfmncaaK5
import Derived.Test.YtoiogggibfmncaaK8
import Derived.Test.YtoiogggibfmncaaVMerge
/-
  What the program's Minimise returns, for every table.
-/
namespace Go.Proofs.Ytoiogggibfmncaa
open Go.RowKit Go.Maps

/-- Minimise, as the document has it: the machine and the error. -/
def mnV (m : Mc) : Mc × Int := if (mchV m).2 ≠ 0 then (mc0, (mchV m).2) else (minM m, 0)
theorem mnV_err {m : Mc} (h : (mchV m).2 ≠ 0) : mnV m = (mc0, (mchV m).2) := by unfold mnV; rw [if_pos h]
theorem mnV_ok {m : Mc} (h : (mchV m).2 = 0) : mnV m = (minM m, 0) := by unfold mnV; rw [if_neg (by simp [h])]
theorem cnV_quo {m : Mc} (F : Full m) : cnV (quoM m) = (minM m, 0) := cnV_ok (mch_full (full_quo F))

set_option maxHeartbeats 1000000 in
theorem minimise_any (m : Mc) (a1 : Option Addr) (c1 : Nat) (a2 : Option Addr) (c2 : Nat) (w : World) (h1 : RdL .i64 w a1 m.nx) (h2 : RdL .i64 w a2 m.out) (hc2 : m.out.length ≤ c2) (hn : m.nx.length ≤ maxLen) (ho : m.out.length ≤ maxLen) :
    Calls Try.prog 19 #[mval m a1 c1 a2 c2] w fun e w' => CPost (mnV m) w e w' := by
  unfold mval
  have B0 := (Box.alloc w m a1 c1 a2 c2 24).below (ballo _ (.cells #[.int .i64 0, .int .i64 0, .int .i64 0, .int .i64 0, .slice none 0 0, .slice none 0 0] 24))
  have Z0 := Box.alloc (w.alloc (.cells #[.int .i64 m.kind, .int .i64 m.k, .int .i64 m.o, .int .i64 m.n, .slice a1 m.nx.length c1, .slice a2 m.out.length c2] 24)) mc0 none 0 none 0 24
  have b0 := bstep (ballo w (.cells #[.int .i64 m.kind, .int .i64 m.k, .int .i64 m.o, .int .i64 m.n, .slice a1 m.nx.length c1, .slice a2 m.out.length c2] 24)) (ballo _ (.cells #[.int .i64 0, .int .i64 0, .int .i64 0, .int .i64 0, .slice none 0 0, .slice none 0 0] 24))
  have F0 : ∀ i, ((w.alloc (.cells #[.int .i64 m.kind, .int .i64 m.k, .int .i64 m.o, .int .i64 m.n, .slice a1 m.nx.length c1, .slice a2 m.out.length c2] 24)).alloc (.cells #[.int .i64 0, .int .i64 0, .int .i64 0, .int .i64 0, .slice none 0 0, .slice none 0 0] 24)).frozen? ⟨w.heap.size + 1, i, none⟩ = false := fun i => by rw [frozen?_alloc_cells, frozen?_alloc_cells]; exact frz_new w (by omega)
  simp only [World.size_alloc] at Z0
  by_cases hz : (mchV m).2 = 0
  rotate_left
  · have H := hide (mnV_err hz)
    have tz := ne_bne hz
    clear hz
    go_enter Try.func19, Try.ntmps19
    go_wp2_with fail
    refine (mcheck_any m a1 c1 a2 c2 _ (h1.below b0) (h2.below b0) hn ho).mono ?_
    rintro e w1 ⟨rfl, hb1⟩
    have b1 := bstep b0 hb1
    have Z1 := Z0.below hb1
    obtain ⟨z0, z1, z2, z3, z4, z5⟩ := id Z1
    have g0 := frz_on (F0 0) hb1 (by simp)
    have g1 := frz_on (F0 1) hb1 (by simp)
    have g2 := frz_on (F0 2) hb1 (by simp)
    have g3 := frz_on (F0 3) hb1 (by simp)
    have g4 := frz_on (F0 4) hb1 (by simp)
    have g5 := frz_on (F0 5) hb1 (by simp)
    clear hb1 h1 h2 B0 b0
    go_wp2
    change bodyPost _ _ _ _ _ (six w1 (w.heap.size + 1) mc0 none 0 none 0)
    have b2 := six_below b1 (b := w.heap.size + 1) (by omega) mc0 none 0 none 0
    have Z2 : Box (six w1 (w.heap.size + 1) mc0 none 0 none 0) _ _ _ _ _ _ := Z1.six mc0 none 0 none 0
    generalize six w1 (w.heap.size + 1) mc0 none 0 none 0 = w6 at *
    obtain ⟨q0, q1, q2, q3, q4, q5⟩ := Z2
    refine bodyPost_ret (v := .tuple #[mval mc0 none 0 none 0, .int .i64 (mchV m).2]) ?_ rfl (by rw [unhide H]; exact zero_post _ b2)
    unfold mval
    simp [results, Try.results19, go_sem, q0, q1, q2, q3, q4, q5]
  have F := full_of hz
  have HF := hide F
  have HZ := hide hz
  have H := hide (mnV_ok hz)
  have n0 := F.r.n0
  have n1 := F.r.n1
  clear F hz
  go_enter Try.func19, Try.ntmps19
  go_wp2_with fail
  refine (mcheck_any m a1 c1 a2 c2 _ (h1.below b0) (h2.below b0) hn ho).mono ?_
  rw [unhide HZ]
  rintro e w1 ⟨rfl, hb1⟩
  have b1 := bstep b0 hb1
  have B1 := B0.below hb1
  have Z1 := Z0.below hb1
  have F1 := fun i => frz_on (F0 i) hb1 (by simp)
  obtain ⟨q0, q1, q2, q3, q4, q5⟩ := id B1
  have hbw : w.heap.size + 1 < w1.heap.size := World.block_lt_of_cell? w1 _ Z1.p0
  clear hb1 B0 b0 Z0 F0
  go_wp2_with fail
  refine (wholly_any m a1 c1 a2 c2 w1 (unhide HF).r (unhide HF).o1 (h1.below b1) (h2.below b1) hc2).mono ?_
  rintro e w2 ⟨v, rfl, hv, hb2⟩
  have b2 := bstep b1 hb2
  have B2 := B1.below hb2
  have Z2 := Z1.below hb2
  have F2 := fun i => frz_on (F1 i) hb2 hbw
  have hbw2 := hb2.size
  obtain ⟨av, cv, ev, -, -, -, hvr, -⟩ := hv.shape
  rw [aft_len] at ev
  subst ev
  clear q0 q1 q2 q3 q4 q5 hv B1 Z1 F1
  obtain ⟨q0, q1, q2, q3, q4, q5⟩ := id B2
  go_wp2_with fail
  refine (merged_any m a1 c1 a2 c2 av cv m.n.toNat w2 (unhide HF).r (h1.below b2) (h2.below b2) hc2 hvr (by omega)).mono ?_
  rintro e w3 ⟨v3, rfl, d1, e1, d2, e2, rfl, o1, o2, -, hb3⟩
  have b3 := bstep b2 hb3
  have Z3 := Z2.below hb3
  have F3 := fun i => frz_on (F2 i) hb3 (by omega)
  have hbw3 := hb3.size
  have FQ := full_quo (unhide HF)
  obtain ⟨_, _, E1, -, -, lm1, r1, -⟩ := o1.shape
  cases E1
  obtain ⟨_, _, E2, -, lc2, lm2, r2, -⟩ := o2.shape
  cases E2
  obtain ⟨ql, qo⟩ : (quoM m).nx.length ≤ maxLen ∧ (quoM m).out.length ≤ maxLen := ⟨by have := o1.shape; obtain ⟨_, _, E, _, h, h', _, _⟩ := this; exact Nat.le_trans h h', Nat.le_trans lc2 lm2⟩
  clear q0 q1 q2 q3 q4 q5 B2 Z2 F2 hvr
  go_wp2_with fail
  refine (canon_any (quoM m) d1 e1 d2 e2 w3 r1 r2 lc2 ql qo).mono ?_
  rw [cnV_quo (unhide HF)]
  rintro e w4 ⟨f1, g1, f2, g2, rfl, i1, i2, hap, hb4⟩
  have b4 := bstep b3 hb4
  have Z4 := Z3.below hb4
  obtain ⟨z0, z1, z2, z3, z4, z5⟩ := id Z4
  have F4 := fun i => frz_on (F3 i) hb4 (by omega)
  have y0 := F4 0
  have y1 := F4 1
  have y2 := F4 2
  have y3 := F4 3
  have y4 := F4 4
  have y5 := F4 5
  unfold mval
  clear hb4 F4 F3 r1 r2 o1 o2
  dsimp only at i1 i2 hap
  dsimp only
  generalize minM m = c at *
  go_wp2
  change bodyPost _ _ _ _ _ (six w4 (w.heap.size + 1) c f1 g1 f2 g2)
  have b5 := six_below b4 (b := w.heap.size + 1) (by omega) c f1 g1 f2 g2
  have Z5 : Box (six w4 (w.heap.size + 1) c f1 g1 f2 g2) _ _ _ _ _ _ := Z4.six c f1 g1 f2 g2
  have j1 := (i1.keep fun j e => six_heap w4 c f1 g1 f2 g2 (b := w.heap.size + 1) (by have := (i1.lt e).1; omega)).mono (B' := w.heap.size) b3.size
  have j2 := (i2.keep fun j e => six_heap w4 c f1 g1 f2 g2 (b := w.heap.size + 1) (by have := (i2.lt e).1; omega)).mono (B' := w.heap.size) b3.size
  generalize six w4 (w.heap.size + 1) c f1 g1 f2 g2 = w6 at *
  obtain ⟨q0, q1, q2, q3, q4, q5⟩ := Z5
  refine bodyPost_ret (v := .tuple #[mval c f1 g1 f2 g2, .int .i64 0]) ?_ rfl (by rw [unhide H]; exact ⟨f1, g1, f2, g2, rfl, j1, j2, hap, b5⟩)
  unfold mval
  simp [results, Try.results19, go_sem, q0, q1, q2, q3, q4, q5]

end Go.Proofs.Ytoiogggibfmncaa

/-
  The page's example of layer 5: live returns true in every world, and turns nothing that was there. Small words that the laws' walks share.
-/
namespace Go.Proofs.Ytoiogggibfmncaa
open Go.RowKit Go.Maps

theorem big_bounds {N : Int} {m : Mc} (h : bigB N m = false) : m.n ≤ N ∧ m.nx.length ≤ 70000 ∧ m.out.length ≤ 70000 := by
  unfold bigB at h
  have := of_decide_eq_false h
  omega
theorem self_eq (x : Int) : (x == x) = true := by simp
theorem self_ne (x : Int) : (x != x) = false := by simp

theorem num_any (e : Int) (w : World) : Calls Try.prog 15 #[.int .i64 e] w fun x w' => x = .returned (.int .i64 e) ∧ w' = w := by
  go_enter Try.func15, Try.ntmps15
  go_wp2
  go_ret
  exact ⟨rfl, rfl⟩

theorem mc_ext {a b : Mc} (h1 : a.kind = b.kind) (h2 : a.k = b.k) (h3 : a.o = b.o) (h4 : a.n = b.n) (h5 : a.nx = b.nx) (h6 : a.out = b.out) : a = b := by
  cases a; cases b; simp_all
def mL : Mc := ⟨1, 1, 2, 4, [1, 2, 3, 0], [0, 1, 0, 1]⟩
def cL : Mc := ⟨1, 1, 2, 2, [1, 0], [0, 1]⟩
theorem csL : csV mL = ([0, 1, 0, 1], 0, 0) := by decide +kernel
theorem mnL : mnV mL = (cL, 0) := by
  have h : (mchV mL).2 = 0 := by decide
  rw [mnV_ok h]
  have h1 : minM mL = cL := mc_ext rfl rfl rfl (by decide +kernel) (by decide +kernel) (by decide +kernel)
  rw [h1]

set_option maxRecDepth 100000 in
set_option maxHeartbeats 1000000 in
theorem live_any (w : World) : Calls Try.prog 10 #[] w fun e w' => e = .returned (.bool true) ∧ Below w.heap.size w w' := by
  have w0e : ∃ w0, w0 = ((w.alloc (.cells #[.int .i64 1, .int .i64 2, .int .i64 3, .int .i64 0] 3)).alloc (.cells #[.int .i64 0, .int .i64 1, .int .i64 0, .int .i64 1] 3)).alloc (.cells #[.int .i64 1, .int .i64 1, .int .i64 2, .int .i64 4, .slice (some ⟨w.heap.size, 0, none⟩) 4 4, .slice (some ⟨w.heap.size + 1, 0, none⟩) 4 4] 24) := ⟨_, rfl⟩
  obtain ⟨w0, w0e⟩ := w0e
  have b0 : Below w.heap.size w w0 := by rw [w0e]; exact bstep (bstep (ballo _ _) (ballo _ _)) (ballo _ _)
  have r1 : RdL .i64 w0 (some ⟨w.heap.size, 0, none⟩) [1, 2, 3, 0] := by
    rw [w0e]; exact (RdL.lit (q := .i64) (t := 3) w [1, 2, 3, 0] #[.int .i64 1, .int .i64 2, .int .i64 3, .int .i64 0] (by decide) rfl).below (bstep (ballo _ _) (ballo _ _))
  have r2 : RdL .i64 w0 (some ⟨w.heap.size + 1, 0, none⟩) [0, 1, 0, 1] := by
    have := (RdL.lit (q := .i64) (t := 3) (w.alloc (.cells #[.int .i64 1, .int .i64 2, .int .i64 3, .int .i64 0] 3)) [0, 1, 0, 1] #[.int .i64 0, .int .i64 1, .int .i64 0, .int .i64 1] (by decide) rfl).below (ballo _ (.cells #[.int .i64 1, .int .i64 1, .int .i64 2, .int .i64 4, .slice (some ⟨w.heap.size, 0, none⟩) 4 4, .slice (some ⟨w.heap.size + 1, 0, none⟩) 4 4] 24))
    rw [World.size_alloc] at this
    rw [w0e]; exact this
  have B0 : Box w0 (w.heap.size + 1 + 1) mL (some ⟨w.heap.size, 0, none⟩) 4 (some ⟨w.heap.size + 1, 0, none⟩) 4 := by
    have := Box.alloc ((w.alloc (.cells #[.int .i64 1, .int .i64 2, .int .i64 3, .int .i64 0] 3)).alloc (.cells #[.int .i64 0, .int .i64 1, .int .i64 0, .int .i64 1] 3)) mL (some ⟨w.heap.size, 0, none⟩) 4 (some ⟨w.heap.size + 1, 0, none⟩) 4 24
    simp only [World.size_alloc] at this
    rw [w0e]; exact this
  go_enter Try.func10, Try.ntmps10
  go_wp2_with fail
  rw [← w0e]
  refine (classes_any mL (some ⟨w.heap.size, 0, none⟩) 4 (some ⟨w.heap.size + 1, 0, none⟩) 4 w0 r1 r2 (by decide) (by decide) (by decide)).mono ?_
  rintro e w1 ⟨v, rfl, hv, hb1⟩
  rw [csL] at hv ⊢
  obtain ⟨av, cv, ev, -, -, -, rv, -⟩ := hv.shape
  subst ev
  have b1 := bstep b0 hb1
  have r1 := r1.below hb1
  have r2 := r2.below hb1
  obtain ⟨p0, p1, p2, p3, p4, p5⟩ := B0.below hb1
  clear hv hb1 B0 b0 w0e
  go_wp2_with fail
  refine (minimise_any mL (some ⟨w.heap.size, 0, none⟩) 4 (some ⟨w.heap.size + 1, 0, none⟩) 4 w1 r1 r2 (by decide) (by decide) (by decide)).mono ?_
  rintro e w2 ⟨d1, e1, d2, e2, rfl, i1, i2, -, hb2⟩
  rw [mnL] at i1 i2 ⊢
  obtain ⟨_, _, E1, -, -, -, s1, -⟩ := i1.shape
  cases E1
  obtain ⟨_, _, E2, -, -, -, s2, -⟩ := i2.shape
  cases E2
  have b2 := bstep b1 hb2
  have b3 := ballo w2 (.cells #[.int .i64 cL.kind, .int .i64 cL.k, .int .i64 cL.o, .int .i64 cL.n, .slice d1 cL.nx.length e1, .slice d2 cL.out.length e2] 24)
  have rv := (rv.below hb2).below b3
  have s1 := s1.below b3
  have s2 := s2.below b3
  have C3 := Box.alloc w2 cL d1 e1 d2 e2 24
  have bb3 := bstep b2 b3
  have z3 : (w2.alloc (.cells #[.int .i64 cL.kind, .int .i64 cL.k, .int .i64 cL.o, .int .i64 cL.n, .slice d1 cL.nx.length e1, .slice d2 cL.out.length e2] 24)).heap.size = w2.heap.size + 1 := by simp
  have w3e : ∃ w3, w3 = w2.alloc (.cells #[.int .i64 cL.kind, .int .i64 cL.k, .int .i64 cL.o, .int .i64 cL.n, .slice d1 cL.nx.length e1, .slice d2 cL.out.length e2] 24) := ⟨_, rfl⟩
  obtain ⟨w3, w3e⟩ := w3e
  have C3 : Box w3 w2.heap.size cL d1 e1 d2 e2 := by rw [w3e]; exact C3
  rw [← w3e] at rv s1 s2 bb3 z3
  clear i1 i2 hb2 b1 b2 r1 r2 p0 p1 p2 p3 p4 p5 b3
  unfold mval
  go_wp2_with (go_at_call 15; refine (num_any _ _).mono ?_; rintro e w' ⟨rfl, rfl⟩)
  rw [← w3e]
  have l1 : RdL .i64 (w3.alloc (.cells #[.int .i64 0, .int .i64 1, .int .i64 0, .int .i64 1] 3)) (some ⟨w2.heap.size + 1, 0, none⟩) [0, 1, 0, 1] := by
    have := RdL.lit (q := .i64) (t := 3) w3 [0, 1, 0, 1] #[.int .i64 0, .int .i64 1, .int .i64 0, .int .i64 1] (by decide) rfl
    rw [z3] at this; exact this
  have c3 := ballo w3 (.cells #[.int .i64 0, .int .i64 1, .int .i64 0, .int .i64 1] 3)
  refine (same_list av (some ⟨w2.heap.size + 1, 0, none⟩) cv 4 [0, 1, 0, 1] [0, 1, 0, 1] _ (rv.below c3) l1 (by decide)).mono ?_
  rw [show decide (([0, 1, 0, 1] : List Int) = [0, 1, 0, 1]) = true from rfl]
  rintro e w4 ⟨rfl, hb4⟩
  have b4 := bstep bb3 (bstep c3 hb4)
  have x4 := bstep c3 hb4
  have s1 := s1.below x4
  have s2 := s2.below x4
  have C4 := C3.below x4
  obtain ⟨q0, q1, q2, q3, q4, q5⟩ := id C4
  clear hb4 l1 rv c3 C3 bb3 z3 w3e
  have c6 := ballo w4 (.cells #[.int .i64 1, .int .i64 0] 3)
  go_wp2_with fail
  refine (same_list d1 (some ⟨w4.heap.size, 0, none⟩) e1 2 [1, 0] [1, 0] (w4.alloc (.cells #[.int .i64 1, .int .i64 0] 3)) (s1.below c6) (RdL.lit w4 [1, 0] _ (by decide) rfl) (by decide)).mono ?_
  rw [show decide (([1, 0] : List Int) = [1, 0]) = true from rfl]
  rintro e w7 ⟨rfl, hb7⟩
  have x7 := bstep c6 hb7
  have b7 := bstep b4 x7
  have s2 := s2.below x7
  obtain ⟨t0, t1, t2, t3, t4, t5⟩ := C4.below x7
  have c7 := ballo w7 (.cells #[.int .i64 0, .int .i64 1] 3)
  clear hb7 x7 q0 q1 q2 q3 q4 q5 C4 b4
  go_wp2_with fail
  refine (same_list d2 (some ⟨w7.heap.size, 0, none⟩) e2 2 [0, 1] [0, 1] (w7.alloc (.cells #[.int .i64 0, .int .i64 1] 3)) (s2.below c7) (RdL.lit w7 [0, 1] _ (by decide) rfl) (by decide)).mono ?_
  rw [show decide (([0, 1] : List Int) = [0, 1]) = true from rfl]
  rintro e w8 ⟨rfl, hb8⟩
  have b8 := bstep b7 (bstep c7 hb8)
  go_wp2
  go_ret
  exact ⟨rfl, b8⟩

end Go.Proofs.Ytoiogggibfmncaa
