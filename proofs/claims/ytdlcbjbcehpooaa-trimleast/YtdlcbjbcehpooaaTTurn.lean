/-
  What the program's Turn returns, for every table and list.
-/
import Derived.Test.YtdlcbjbcehpooaaTCanon
namespace Go.Proofs.Ytdlcbjbcehpooaa
open Go.RowKit Go.Maps

def permB (p : List Int) (n : Int) : Bool := decide ((p.length : Int) = n) && decide (p.getD 0 0 = 0) && (List.range p.length).all fun i : Nat => decide ((i : Int) ∈ p)
theorem permB_yes {p : List Int} {n : Int} (h : IsP p n) : permB p n = true := by
  unfold permB
  simp only [Bool.and_eq_true, decide_eq_true_eq, List.all_eq_true, List.mem_range]
  exact ⟨⟨h.1, h.2.1⟩, fun i hi => h.2.2 i (by have := h.1; omega)⟩
theorem permB_no {p : List Int} {n : Int} (h : ¬ IsP p n) : permB p n = false := by
  cases e : permB p n
  · rfl
  · refine absurd ?_ h
    unfold permB at e
    simp only [Bool.and_eq_true, decide_eq_true_eq, List.all_eq_true, List.mem_range] at e
    exact ⟨e.1.1, e.1.2, fun i hi => e.2 i (by have := e.1.1; omega)⟩
/-- Turn, as the document has it: the machine and the error. -/
def tnV (m : Mc) (p : List Int) : Mc × Int := if (mchV m).2 ≠ 0 then (mc0, (mchV m).2) else if permB p m.n = true then (turM m p, 0) else (mc0, 1)
theorem tnV_err {m : Mc} {p : List Int} (h : (mchV m).2 ≠ 0) : tnV m p = (mc0, (mchV m).2) := by unfold tnV; rw [if_pos h]
theorem tnV_ok {m : Mc} {p : List Int} (h : (mchV m).2 = 0) (hp : IsP p m.n) : tnV m p = (turM m p, 0) := by unfold tnV; rw [if_neg (by simp [h]), if_pos (permB_yes hp)]
theorem tnV_no {m : Mc} {p : List Int} (h : (mchV m).2 = 0) (hp : ¬ IsP p m.n) : tnV m p = (mc0, 1) := by unfold tnV; rw [if_neg (by simp [h]), if_neg (by rw [permB_no hp]; decide)]

set_option maxHeartbeats 1000000 in
theorem turn_any (m : Mc) (a1 : Option Addr) (c1 : Nat) (a2 : Option Addr) (c2 : Nat) (a3 : Option Addr) (c3 : Nat) (p : List Int) (w : World) (h1 : RdL .i64 w a1 m.nx) (h2 : RdL .i64 w a2 m.out) (hc2 : m.out.length ≤ c2) (hn : m.nx.length ≤ maxLen) (ho : m.out.length ≤ maxLen) (hp : RdL .i64 w a3 p) (hl : p.length ≤ maxLen) (hf : ∀ i, i < p.length → (Lit.int .i64 (p.getD i 0)).wf = true) :
    Calls Try.prog 22 #[mval m a1 c1 a2 c2, .slice a3 p.length c3] w fun e w' => CPost (tnV m p) w e w' := by
  unfold mval
  have B0 := (Box.alloc w m a1 c1 a2 c2 24).below (ballo _ (.cells #[.int .i64 0, .int .i64 0, .int .i64 0, .int .i64 0, .slice none 0 0, .slice none 0 0] 24))
  have Z0 := Box.alloc (w.alloc (.cells #[.int .i64 m.kind, .int .i64 m.k, .int .i64 m.o, .int .i64 m.n, .slice a1 m.nx.length c1, .slice a2 m.out.length c2] 24)) mc0 none 0 none 0 24
  have b0 := bstep (ballo w (.cells #[.int .i64 m.kind, .int .i64 m.k, .int .i64 m.o, .int .i64 m.n, .slice a1 m.nx.length c1, .slice a2 m.out.length c2] 24)) (ballo _ (.cells #[.int .i64 0, .int .i64 0, .int .i64 0, .int .i64 0, .slice none 0 0, .slice none 0 0] 24))
  have F0 : ∀ i, ((w.alloc (.cells #[.int .i64 m.kind, .int .i64 m.k, .int .i64 m.o, .int .i64 m.n, .slice a1 m.nx.length c1, .slice a2 m.out.length c2] 24)).alloc (.cells #[.int .i64 0, .int .i64 0, .int .i64 0, .int .i64 0, .slice none 0 0, .slice none 0 0] 24)).frozen? ⟨w.heap.size + 1, i, none⟩ = false := fun i => by rw [frozen?_alloc_cells, frozen?_alloc_cells]; exact frz_new w (by omega)
  simp only [World.size_alloc] at Z0
  by_cases hz : (mchV m).2 = 0
  rotate_left
  · have H := hide (tnV_err (p := p) hz)
    have tz := ne_bne hz
    clear hz
    go_enter Try.func22, Try.ntmps22
    go_wp2_with fail
    refine (mcheck_any m a1 c1 a2 c2 _ (h1.below b0) (h2.below b0) hn ho).mono ?_
    rintro e w1 ⟨rfl, hb1⟩
    have b1 := bstep b0 hb1
    have Z1 := Z0.below hb1
    obtain ⟨z0, z1, z2, z3, z4, z5⟩ := id Z1
    have g0 := frz_on (F0 0) hb1 (by simp)
    have g1 := frz_on (F0 1) hb1 (by simp)
    have g2 := frz_on (F0 2) hb1 (by simp)
    have g3 := frz_on (F0 3) hb1 (by simp)
    have g4 := frz_on (F0 4) hb1 (by simp)
    have g5 := frz_on (F0 5) hb1 (by simp)
    clear hb1 h1 h2 B0 b0
    go_wp2
    change bodyPost _ _ _ _ _ (six w1 (w.heap.size + 1) mc0 none 0 none 0)
    have b2 := six_below b1 (b := w.heap.size + 1) (by omega) mc0 none 0 none 0
    have Z2 : Box (six w1 (w.heap.size + 1) mc0 none 0 none 0) _ _ _ _ _ _ := Z1.six mc0 none 0 none 0
    generalize six w1 (w.heap.size + 1) mc0 none 0 none 0 = w6 at *
    obtain ⟨q0, q1, q2, q3, q4, q5⟩ := Z2
    refine bodyPost_ret (v := .tuple #[mval mc0 none 0 none 0, .int .i64 (mchV m).2]) ?_ rfl (by rw [unhide H]; exact zero_post _ b2)
    unfold mval
    simp [results, Try.results22, go_sem, q0, q1, q2, q3, q4, q5]
  have R := right_of hz
  have HZ := hide hz
  have HR := hide R
  have n0 := R.n0
  have n1 := R.n1
  clear R hz
  go_enter Try.func22, Try.ntmps22
  go_wp2_with fail
  refine (mcheck_any m a1 c1 a2 c2 _ (h1.below b0) (h2.below b0) hn ho).mono ?_
  rw [unhide HZ]
  rintro e w1 ⟨rfl, hb1⟩
  have b1 := bstep b0 hb1
  have B1 := B0.below hb1
  have Z1 := Z0.below hb1
  have F1 := fun i => frz_on (F0 i) hb1 (by simp)
  obtain ⟨q0, q1, q2, q3, q4, q5⟩ := id B1
  have hbw : w.heap.size + 1 < w1.heap.size := World.block_lt_of_cell? w1 _ Z1.p0
  clear hb1 B0 b0 Z0 F0
  go_wp2_with fail
  refine (orderBy_any a3 c3 p m.n w1 (hp.below b1) n0 n1 hl hf).mono ?_
  rintro e w2 (⟨hnp, rfl, hb2⟩ | ⟨hip, v, g, rfl, hv, hN, hb2⟩)
  · have H := hide (tnV_no (unhide HZ) hnp)
    have b3 := bstep b1 (bstep hb2 (ballo w2 (.cells #[.slice none 0 0, .map none] 58)))
    have Z3 := (Z1.below hb2).below (ballo w2 (.cells #[.slice none 0 0, .map none] 58))
    have F3 := fun i => frz_on (frz_on (F1 i) hb2 hbw) (ballo w2 (.cells #[.slice none 0 0, .map none] 58)) (by have := hb2.size; omega)
    obtain ⟨z0, z1, z2, z3, z4, z5⟩ := id Z3
    have g0 := F3 0
    have g1 := F3 1
    have g2 := F3 2
    have g3 := F3 3
    have g4 := F3 4
    have g5 := F3 5
    clear F3 F1 hnp
    go_wp2
    change bodyPost _ _ _ _ _ (six _ (w.heap.size + 1) mc0 none 0 none 0)
    have b4 := six_below b3 (b := w.heap.size + 1) (by omega) mc0 none 0 none 0
    have Z4 : Box (six _ (w.heap.size + 1) mc0 none 0 none 0) _ _ _ _ _ _ := Z3.six mc0 none 0 none 0
    generalize six (w2.alloc (.cells #[.slice none 0 0, .map none] 58)) (w.heap.size + 1) mc0 none 0 none 0 = w6 at *
    obtain ⟨x0, x1, x2, x3, x4, x5⟩ := Z4
    refine bodyPost_ret (v := .tuple #[mval mc0 none 0 none 0, .int .i64 1]) ?_ rfl (by rw [unhide H]; exact zero_post _ b4)
    unfold mval
    simp [results, Try.results22, go_sem, x0, x1, x2, x3, x4, x5]
  have H := hide (tnV_ok (unhide HZ) hip)
  have b2 := bstep b1 hb2
  obtain ⟨av, cv, ev, -, -, -, hvr, -⟩ := hv.shape
  subst ev
  have b3 := ballo w2 (.cells #[.slice av (ordP p).length cv, .map (some g)] 58)
  have B3 := (B1.below hb2).below b3
  have Z3 := (Z1.below hb2).below b3
  have F3 := fun i => frz_on (frz_on (F1 i) hb2 hbw) b3 (by have := hb2.size; omega)
  have bb3 := bstep b2 b3
  have hN3 := hN.below b3
  have hv3 := hvr.below b3
  obtain ⟨p0, p1, p2, p3, p4, p5⟩ := id B3
  clear q0 q1 q2 q3 q4 q5 hN hvr
  have HIP := hide hip
  have eL : Hid ((ordP p).length = p.length) := ordP_len p
  have i0 := ordP_inv hip
  have c5 : ∀ q, q < (ordP p).length → 0 ≤ (ordP p).getD q 0 ∧ (ordP p).getD q 0 < m.n := fun q hq => by have := i0.rng q hq; have := hip.1; omega
  have c6 : (ordP p).length ≤ 1024 := by have := hip.1; have := unhide eL; omega
  have c7 : ∀ q, q < (ordP p).length → ∀ y : Nat, (y : Int) < m.k → nxt m ((ordP p).getD q 0) y ∈ ordP p := fun q hq y hy => by
    have h7 := nxt_range (unhide HR) (c5 q hq).1 (c5 q hq).2 hy
    exact (ordP_idx hip h7.1 h7.2).2
  clear hip i0
  go_wp2_with fail
  refine (ren_any m a1 c1 a2 c2 av cv g (ordP p) _ (unhide HR) (h1.below bb3) (h2.below bb3) hc2 hv3 hN3 c5 c6 c7).mono ?_
  rintro e w4 ⟨v4, rfl, d1, e1, d2, e2, rfl, o1, o2, hap, hb4⟩
  have b4 := bstep bb3 hb4
  have Z4 := Z3.below hb4
  obtain ⟨z0, z1, z2, z3, z4, z5⟩ := id Z4
  have hbz := b3.size
  have hbz2 := hb2.size
  have F4 := fun i => frz_on (F3 i) hb4 (by omega)
  have g0 := F4 0
  have g1 := F4 1
  have g2 := F4 2
  have g3 := F4 3
  have g4 := F4 4
  have g5 := F4 5
  unfold mval
  clear hb4 F4 F3 F1 c5 c7
  go_wp2
  change bodyPost _ _ _ _ _ (six w4 (w.heap.size + 1) (turM m p) d1 e1 d2 e2)
  have b5 := six_below b4 (b := w.heap.size + 1) (by omega) (turM m p) d1 e1 d2 e2
  have Z5 : Box (six w4 (w.heap.size + 1) (turM m p) d1 e1 d2 e2) _ _ _ _ _ _ := Z4.six (turM m p) d1 e1 d2 e2
  have i1 := (o1.keep fun j e => six_heap w4 (turM m p) d1 e1 d2 e2 (b := w.heap.size + 1) (by have := (o1.lt e).1; omega)).mono (B' := w.heap.size) bb3.size
  have i2 := (o2.keep fun j e => six_heap w4 (turM m p) d1 e1 d2 e2 (b := w.heap.size + 1) (by have := (o2.lt e).1; omega)).mono (B' := w.heap.size) bb3.size
  generalize six w4 (w.heap.size + 1) (turM m p) d1 e1 d2 e2 = w6 at *
  obtain ⟨q0, q1, q2, q3, q4, q5⟩ := Z5
  refine bodyPost_ret (v := .tuple #[mval (turM m p) d1 e1 d2 e2, .int .i64 0]) ?_ rfl (by rw [unhide H]; exact ⟨d1, e1, d2, e2, rfl, i1, i2, hap, b5⟩)
  unfold mval
  simp [results, Try.results22, go_sem, q0, q1, q2, q3, q4, q5]

end Go.Proofs.Ytdlcbjbcehpooaa
