/-
  What the program's Canon and Turn return, for every table and list.
-/
import Derived.Test.YtoiogggibfmncaaTRen
import Derived.Test.YtoiogggibfmncaaK7
namespace Go.Proofs.Ytoiogggibfmncaa
open Go.RowKit Go.Maps

/-- Canon, as the document has it: the machine and the error. -/
def cnV (m : Mc) : Mc × Int := if (mchV m).2 ≠ 0 then (mc0, (mchV m).2) else (canM m, 0)
theorem cnV_err {m : Mc} (h : (mchV m).2 ≠ 0) : cnV m = (mc0, (mchV m).2) := by unfold cnV; rw [if_pos h]
theorem cnV_ok {m : Mc} (h : (mchV m).2 = 0) : cnV m = (canM m, 0) := by unfold cnV; rw [if_neg (by simp [h])]

/-- What Canon and Turn leave. -/
def CPost (r : Mc × Int) (w : World) (e : Ending) (w' : World) : Prop :=
  ∃ a1 c1 a2 c2, e = .returned (.tuple #[mval r.1 a1 c1 a2 c2, .int .i64 r.2]) ∧ OwnL .i64 3 w' w.heap.size (.slice a1 r.1.nx.length c1) r.1.nx ∧ OwnL .i64 3 w' w.heap.size (.slice a2 r.1.out.length c2) r.1.out ∧ (∀ j, (Value.slice a1 r.1.nx.length c1).ownBlock = some j → (Value.slice a2 r.1.out.length c2).ownBlock ≠ some j) ∧ Below w.heap.size w w'

theorem zero_post (x : Int) {w w' : World} (h : Below w.heap.size w w') : CPost (mc0, x) w (.returned (.tuple #[mval mc0 none 0 none 0, .int .i64 x])) w' :=
  ⟨none, 0, none, 0, rfl, OwnL.nil _ _ _ _, OwnL.nil _ _ _ _, (fun j e => by cases e), h⟩

/-- The world in which block b's six cells were written. -/
def six (w : World) (b : Nat) (m : Mc) (d1 : Option Addr) (e1 : Nat) (d2 : Option Addr) (e2 : Nat) : World :=
  ((((((w.setCell ⟨b, 0, none⟩ (.int .i64 m.kind)).setCell ⟨b, 1, none⟩ (.int .i64 m.k)).setCell ⟨b, 2, none⟩ (.int .i64 m.o)).setCell ⟨b, 3, none⟩ (.int .i64 m.n)).setCell ⟨b, 4, none⟩ (.slice d1 m.nx.length e1)).setCell ⟨b, 5, none⟩ (.slice d2 m.out.length e2))
theorem six_heap (w : World) {b : Nat} (m : Mc) (d1 : Option Addr) (e1 : Nat) (d2 : Option Addr) (e2 : Nat) {j : Nat} (hj : j ≠ b) : (six w b m d1 e1 d2 e2).heap[j]? = w.heap[j]? := by
  unfold six
  rw [Below.heap_setCell _ _ _ _ (by simpa using hj), Below.heap_setCell _ _ _ _ (by simpa using hj), Below.heap_setCell _ _ _ _ (by simpa using hj), Below.heap_setCell _ _ _ _ (by simpa using hj), Below.heap_setCell _ _ _ _ (by simpa using hj), Below.heap_setCell _ _ _ _ (by simpa using hj)]
theorem six_below {w w1 : World} {B b : Nat} (h : Below B w w1) (hb : B ≤ b) (m : Mc) (d1 : Option Addr) (e1 : Nat) (d2 : Option Addr) (e2 : Nat) : Below B w (six w1 b m d1 e1 d2 e2) :=
  (((((h.setCell (p := ⟨b, 0, none⟩) hb _).setCell (p := ⟨b, 1, none⟩) hb _).setCell (p := ⟨b, 2, none⟩) hb _).setCell (p := ⟨b, 3, none⟩) hb _).setCell (p := ⟨b, 4, none⟩) hb _).setCell (p := ⟨b, 5, none⟩) hb _

set_option maxHeartbeats 1000000 in
theorem canon_any (m : Mc) (a1 : Option Addr) (c1 : Nat) (a2 : Option Addr) (c2 : Nat) (w : World) (h1 : RdL .i64 w a1 m.nx) (h2 : RdL .i64 w a2 m.out) (hc2 : m.out.length ≤ c2) (hn : m.nx.length ≤ maxLen) (ho : m.out.length ≤ maxLen) :
    Calls Try.prog 33 #[mval m a1 c1 a2 c2] w fun e w' => CPost (cnV m) w e w' := by
  unfold mval
  have B0 := (Box.alloc w m a1 c1 a2 c2 24).below (ballo _ (.cells #[.int .i64 0, .int .i64 0, .int .i64 0, .int .i64 0, .slice none 0 0, .slice none 0 0] 24))
  have Z0 := Box.alloc (w.alloc (.cells #[.int .i64 m.kind, .int .i64 m.k, .int .i64 m.o, .int .i64 m.n, .slice a1 m.nx.length c1, .slice a2 m.out.length c2] 24)) mc0 none 0 none 0 24
  have b0 := bstep (ballo w (.cells #[.int .i64 m.kind, .int .i64 m.k, .int .i64 m.o, .int .i64 m.n, .slice a1 m.nx.length c1, .slice a2 m.out.length c2] 24)) (ballo _ (.cells #[.int .i64 0, .int .i64 0, .int .i64 0, .int .i64 0, .slice none 0 0, .slice none 0 0] 24))
  have F0 : ∀ i, ((w.alloc (.cells #[.int .i64 m.kind, .int .i64 m.k, .int .i64 m.o, .int .i64 m.n, .slice a1 m.nx.length c1, .slice a2 m.out.length c2] 24)).alloc (.cells #[.int .i64 0, .int .i64 0, .int .i64 0, .int .i64 0, .slice none 0 0, .slice none 0 0] 24)).frozen? ⟨w.heap.size + 1, i, none⟩ = false := fun i => by rw [frozen?_alloc_cells, frozen?_alloc_cells]; exact frz_new w (by omega)
  simp only [World.size_alloc] at Z0
  by_cases hz : (mchV m).2 = 0
  rotate_left
  · have H := hide (cnV_err hz)
    have tz := ne_bne hz
    clear hz
    go_enter Try.func33, Try.ntmps33
    go_wp2_with fail
    refine (mcheck_any m a1 c1 a2 c2 _ (h1.below b0) (h2.below b0) hn ho).mono ?_
    rintro e w1 ⟨rfl, hb1⟩
    have b1 := bstep b0 hb1
    have Z1 := Z0.below hb1
    obtain ⟨z0, z1, z2, z3, z4, z5⟩ := id Z1
    have g0 := frz_on (F0 0) hb1 (by simp)
    have g1 := frz_on (F0 1) hb1 (by simp)
    have g2 := frz_on (F0 2) hb1 (by simp)
    have g3 := frz_on (F0 3) hb1 (by simp)
    have g4 := frz_on (F0 4) hb1 (by simp)
    have g5 := frz_on (F0 5) hb1 (by simp)
    clear hb1 h1 h2 B0 b0
    go_wp2
    change bodyPost _ _ _ _ _ (six w1 (w.heap.size + 1) mc0 none 0 none 0)
    have b2 := six_below b1 (b := w.heap.size + 1) (by omega) mc0 none 0 none 0
    have Z2 : Box (six w1 (w.heap.size + 1) mc0 none 0 none 0) _ _ _ _ _ _ := Z1.six mc0 none 0 none 0
    generalize six w1 (w.heap.size + 1) mc0 none 0 none 0 = w6 at *
    obtain ⟨q0, q1, q2, q3, q4, q5⟩ := Z2
    refine bodyPost_ret (v := .tuple #[mval mc0 none 0 none 0, .int .i64 (mchV m).2]) ?_ rfl (by rw [unhide H]; exact zero_post _ b2)
    unfold mval
    simp [results, Try.results33, go_sem, q0, q1, q2, q3, q4, q5]
  have R := right_of hz
  have HZ := hide hz
  have HR := hide R
  have H := hide (cnV_ok hz)
  clear R hz
  go_enter Try.func33, Try.ntmps33
  go_wp2_with fail
  refine (mcheck_any m a1 c1 a2 c2 _ (h1.below b0) (h2.below b0) hn ho).mono ?_
  rw [unhide HZ]
  rintro e w1 ⟨rfl, hb1⟩
  have b1 := bstep b0 hb1
  have B1 := B0.below hb1
  have Z1 := Z0.below hb1
  have F1 := fun i => frz_on (F0 i) hb1 (by simp)
  obtain ⟨q0, q1, q2, q3, q4, q5⟩ := id B1
  have hbw : w.heap.size + 1 < w1.heap.size := World.block_lt_of_cell? w1 _ Z1.p0
  clear hb1 B0 b0 Z0 F0
  go_wp2_with fail
  refine (search_any m a1 c1 a2 c2 w1 (unhide HR) (h1.below b1)).mono ?_
  rintro e w2 ⟨v, vw, W, rfl, hv, hN, hw, hy, hb2⟩
  have b2 := bstep b1 hb2
  obtain ⟨av, cv, ev, -, -, -, hvr, -⟩ := hv.shape
  subst ev
  obtain ⟨aw, cw, ew, -, -, -, -, -⟩ := hw.shape
  subst ew
  have b3 := ballo w2 (.cells #[.slice av (rchV m).1.length cv, .map (some (w1.heap.size + 3))] 75)
  have B3 := (B1.below hb2).below b3
  have Z3 := (Z1.below hb2).below b3
  have F3 := fun i => frz_on (frz_on (F1 i) hb2 hbw) b3 (by have := hb2.size; omega)
  have bb3 := bstep b2 b3
  have hN3 := hN.below b3
  have hv3 := hvr.below b3
  obtain ⟨p0, p1, p2, p3, p4, p5⟩ := id B3
  clear q0 q1 q2 q3 q4 q5 hw hy hN hvr
  have I := rchV_inv (unhide HR)
  go_wp2_with fail
  refine (ren_any m a1 c1 a2 c2 av cv (w1.heap.size + 3) (rchV m).1 _ (unhide HR) (h1.below bb3) (h2.below bb3) hc2 hv3 hN3 I.rng (rch_len (unhide HR)).1 (fun p hp y hy => rch_closed (unhide HR) (gd_mem hp) hy)).mono ?_
  rintro e w4 ⟨v4, rfl, d1, e1, d2, e2, rfl, o1, o2, hap, hb4⟩
  have b4 := bstep bb3 hb4
  have Z4 := Z3.below hb4
  obtain ⟨z0, z1, z2, z3, z4, z5⟩ := id Z4
  have hbz := b3.size
  have hbz2 := hb2.size
  have F4 := fun i => frz_on (F3 i) hb4 (by omega)
  have g0 := F4 0
  have g1 := F4 1
  have g2 := F4 2
  have g3 := F4 3
  have g4 := F4 4
  have g5 := F4 5
  unfold mval
  clear hb4 F4 F3 F1 I
  go_wp2
  change bodyPost _ _ _ _ _ (six w4 (w.heap.size + 1) (canM m) d1 e1 d2 e2)
  have b5 := six_below b4 (b := w.heap.size + 1) (by omega) (canM m) d1 e1 d2 e2
  have Z5 : Box (six w4 (w.heap.size + 1) (canM m) d1 e1 d2 e2) _ _ _ _ _ _ := Z4.six (canM m) d1 e1 d2 e2
  have i1 := (o1.keep fun j e => six_heap w4 (canM m) d1 e1 d2 e2 (b := w.heap.size + 1) (by have := (o1.lt e).1; omega)).mono (B' := w.heap.size) bb3.size
  have i2 := (o2.keep fun j e => six_heap w4 (canM m) d1 e1 d2 e2 (b := w.heap.size + 1) (by have := (o2.lt e).1; omega)).mono (B' := w.heap.size) bb3.size
  generalize six w4 (w.heap.size + 1) (canM m) d1 e1 d2 e2 = w6 at *
  obtain ⟨q0, q1, q2, q3, q4, q5⟩ := Z5
  refine bodyPost_ret (v := .tuple #[mval (canM m) d1 e1 d2 e2, .int .i64 0]) ?_ rfl (by rw [unhide H]; exact ⟨d1, e1, d2, e2, rfl, i1, i2, hap, b5⟩)
  unfold mval
  simp [results, Try.results33, go_sem, q0, q1, q2, q3, q4, q5]

end Go.Proofs.Ytoiogggibfmncaa
