/-
  What the reference's Turn returns, for every table and list: what the program's does.
-/
import Derived.Test.YtdlcbjbcehpooaaTTurn
import Derived.Test.YtdlcbjbcehpooaaRPick
namespace Go.Proofs.Ytdlcbjbcehpooaa
open Go.RowKit Go.Maps

/-- Where n stands among the first s of p. -/
def occ (p : List Int) (n : Int) : Nat → List Int
  | 0 => []
  | s + 1 => if p.getD s 0 = n then occ p n s ++ [(s : Int)] else occ p n s
theorem occ_mem {p : List Int} {n : Int} : ∀ {s : Nat} {t : Int}, t ∈ occ p n s → ∃ u : Nat, u < s ∧ t = (u : Int) ∧ p.getD u 0 = n
  | 0, t, h => by simp [occ] at h
  | s + 1, t, h => by
    unfold occ at h
    split at h
    · rename_i e
      rw [List.mem_append, List.mem_singleton] at h
      rcases h with h | h
      · obtain ⟨u, a, b, c⟩ := occ_mem h
        exact ⟨u, by omega, b, c⟩
      · exact ⟨s, by omega, h, e⟩
    · obtain ⟨u, a, b, c⟩ := occ_mem h
      exact ⟨u, by omega, b, c⟩
theorem occ_has {p : List Int} {n : Int} : ∀ {s u : Nat}, u < s → p.getD u 0 = n → (u : Int) ∈ occ p n s
  | 0, u, h, _ => by omega
  | s + 1, u, h, e => by
    unfold occ
    by_cases c : u = s
    · subst c; rw [if_pos e]; simp
    · have := occ_has (s := s) (u := u) (by omega) e
      split
      · simp [this]
      · exact this
theorem occ_nodup {p : List Int} {n : Int} : ∀ (s : Nat), (occ p n s).Nodup
  | 0 => by simp [occ]
  | s + 1 => by
    unfold occ
    split
    · rw [List.nodup_append]
      refine ⟨occ_nodup s, by simp, fun a ha b hb e => ?_⟩
      rw [List.mem_singleton] at hb
      obtain ⟨u, h1, h2, _⟩ := occ_mem ha
      omega
    · exact occ_nodup s
theorem occ_le (p : List Int) (n : Int) : ∀ s, (occ p n s).length ≤ s
  | 0 => by simp [occ]
  | s + 1 => by
    have := occ_le p n s
    unfold occ
    split
    · rw [List.length_append, List.length_singleton]; omega
    · omega
theorem occ_one {p : List Int} {N : Int} (h : IsP p N) {n : Nat} (hn : (n : Int) < N) : (occ p n p.length).length = 1 := by
  obtain ⟨u, hu, eu⟩ := mem_gd (h.2.2 n hn)
  have hm := occ_has (s := p.length) hu eu
  have h1 := List.length_pos_of_mem hm
  have h2 : ¬ 1 < (occ p n p.length).length := fun hl => by
    have m0 := gd_mem (l := occ p n p.length) (i := 0) (by omega)
    have m1 := gd_mem (l := occ p n p.length) (i := 1) hl
    obtain ⟨a, a1, a2, a3⟩ := occ_mem m0
    obtain ⟨b, b1, b2, b3⟩ := occ_mem m1
    have := h.inj a1 b1 (by rw [a3, b3])
    have := nd_inj (occ_nodup (p := p) (n := n) p.length) (p := 0) (q := 1) (by omega) hl (by rw [a2, b2, this])
    omega
  omega
theorem occ_single {p : List Int} {n : Int} {s : Nat} (h : (occ p n s).length = 1) : ∃ u : Nat, u < s ∧ p.getD u 0 = n ∧ occ p n s = [(u : Int)] := by
  have m0 := gd_mem (l := occ p n s) (i := 0) (by omega)
  obtain ⟨u, h1, h2, h3⟩ := occ_mem m0
  refine ⟨u, h1, h3, ?_⟩
  rcases e : occ p n s with _ | ⟨a, l⟩
  · rw [e] at h; cases h
  · rw [e] at h h2
    have : l = [] := List.length_eq_zero_iff.1 (by simpa using h)
    subst this
    have h4 : a = (u : Int) := h2
    rw [h4]
theorem pick_tur {m : Mc} (R : Right m) {p : List Int} (hp : IsP p m.n) : pickV m (ordP p) (fun t => p.getD t.toNat 0) = turM m p := by
  unfold turM
  have i := ordP_inv hp
  have hl := hp.1
  refine pickV_congr fun s hs y hy => ?_
  obtain ⟨q, hq, rfl⟩ := mem_gd hs
  have hr := i.rng q hq
  have h1 := nxt_range R (s := (ordP p).getD q 0) hr.1 (by omega) hy
  exact (ordP_idx hp h1.1 h1.2).1.symm

set_option maxHeartbeats 2000000 in
theorem rturn_any (m : Mc) (a1 : Option Addr) (c1 : Nat) (a2 : Option Addr) (c2 : Nat) (a3 : Option Addr) (c3 : Nat) (p : List Int) (w : World) (h1 : RdL .i64 w a1 m.nx) (h2 : RdL .i64 w a2 m.out) (hn : m.nx.length ≤ maxLen) (ho : m.out.length ≤ maxLen) (hp : RdL .i64 w a3 p) (hl : p.length ≤ maxLen) :
    Calls Try.prog 23 #[mval m a1 c1 a2 c2, .slice a3 p.length c3] w fun e w' => CPost (tnV m p) w e w' := by
  unfold mval
  have B0 := (Box.alloc w m a1 c1 a2 c2 24).below (ballo _ (.cells #[.int .i64 0, .int .i64 0, .int .i64 0, .int .i64 0, .slice none 0 0, .slice none 0 0] 24))
  have Z0 := Box.alloc (w.alloc (.cells #[.int .i64 m.kind, .int .i64 m.k, .int .i64 m.o, .int .i64 m.n, .slice a1 m.nx.length c1, .slice a2 m.out.length c2] 24)) mc0 none 0 none 0 24
  have b0 := bstep (ballo w (.cells #[.int .i64 m.kind, .int .i64 m.k, .int .i64 m.o, .int .i64 m.n, .slice a1 m.nx.length c1, .slice a2 m.out.length c2] 24)) (ballo _ (.cells #[.int .i64 0, .int .i64 0, .int .i64 0, .int .i64 0, .slice none 0 0, .slice none 0 0] 24))
  have F0 : ∀ i, ((w.alloc (.cells #[.int .i64 m.kind, .int .i64 m.k, .int .i64 m.o, .int .i64 m.n, .slice a1 m.nx.length c1, .slice a2 m.out.length c2] 24)).alloc (.cells #[.int .i64 0, .int .i64 0, .int .i64 0, .int .i64 0, .slice none 0 0, .slice none 0 0] 24)).frozen? ⟨w.heap.size + 1, i, none⟩ = false := fun i => by rw [frozen?_alloc_cells, frozen?_alloc_cells]; exact frz_new w (by omega)
  simp only [World.size_alloc] at Z0
  by_cases hz : (mchV m).2 = 0
  rotate_left
  · have H := hide (tnV_err (p := p) hz)
    have tz := ne_bne hz
    clear hz
    go_enter Try.func23, Try.ntmps23
    go_wp2_with fail
    refine (rmcheck_any m a1 c1 a2 c2 _ (h1.below b0) (h2.below b0) hn ho).mono ?_
    rintro e w1 ⟨rfl, hb1⟩
    have b1 := bstep b0 hb1
    have Z1 := Z0.below hb1
    obtain ⟨z0, z1, z2, z3, z4, z5⟩ := id Z1
    have g0 := frz_on (F0 0) hb1 (by simp)
    have g1 := frz_on (F0 1) hb1 (by simp)
    have g2 := frz_on (F0 2) hb1 (by simp)
    have g3 := frz_on (F0 3) hb1 (by simp)
    have g4 := frz_on (F0 4) hb1 (by simp)
    have g5 := frz_on (F0 5) hb1 (by simp)
    clear hb1 h1 h2 B0 b0
    go_wp2
    change bodyPost _ _ _ _ _ (six w1 (w.heap.size + 1) mc0 none 0 none 0)
    have b2 := six_below b1 (b := w.heap.size + 1) (by omega) mc0 none 0 none 0
    have Z2 : Box (six w1 (w.heap.size + 1) mc0 none 0 none 0) _ _ _ _ _ _ := Z1.six mc0 none 0 none 0
    generalize six w1 (w.heap.size + 1) mc0 none 0 none 0 = w6 at *
    obtain ⟨q0, q1, q2, q3, q4, q5⟩ := Z2
    refine bodyPost_ret (v := .tuple #[mval mc0 none 0 none 0, .int .i64 (mchV m).2]) ?_ rfl (by rw [unhide H]; exact zero_post _ b2)
    unfold mval
    simp [results, Try.results23, go_sem, q0, q1, q2, q3, q4, q5]
  have R := right_of hz
  have HZ := hide hz
  have HR := hide R
  have n0 := R.n0
  have n1 := R.n1
  clear R hz
  unfold maxLen at hl
  by_cases hc1 : (p.length : Int) = m.n
  rotate_left
  · have H := hide (tnV_no (unhide HZ) (fun h => hc1 h.1))
    have t1 : ((p.length : Int) != m.n) = true := ne_t hc1
    clear hc1
    go_enter Try.func23, Try.ntmps23
    go_wp2_with fail
    refine (rmcheck_any m a1 c1 a2 c2 _ (h1.below b0) (h2.below b0) hn ho).mono ?_
    rw [unhide HZ]
    rintro e w1 ⟨rfl, hb1⟩
    have b1 := bstep b0 hb1
    have B1 := B0.below hb1
    have Z1 := Z0.below hb1
    have F1 := fun i => frz_on (F0 i) hb1 (by simp)
    obtain ⟨q0, q1, q2, q3, q4, q5⟩ := id B1
    obtain ⟨z0, z1, z2, z3, z4, z5⟩ := id Z1
    have g0 := F1 0
    have g1 := F1 1
    have g2 := F1 2
    have g3 := F1 3
    have g4 := F1 4
    have g5 := F1 5
    have hbw : w.heap.size + 1 < w1.heap.size := World.block_lt_of_cell? w1 _ Z1.p0
    clear hb1 B0 b0 Z0 F0
    go_wp2
    change bodyPost _ _ _ _ _ (six w1 (w.heap.size + 1) mc0 none 0 none 0)
    have b4 := six_below b1 (b := w.heap.size + 1) (by omega) mc0 none 0 none 0
    have Z4 : Box (six w1 (w.heap.size + 1) mc0 none 0 none 0) _ _ _ _ _ _ := Z1.six mc0 none 0 none 0
    generalize six w1 (w.heap.size + 1) mc0 none 0 none 0 = w6 at *
    obtain ⟨x0, x1, x2, x3, x4, x5⟩ := Z4
    refine bodyPost_ret (v := .tuple #[mval mc0 none 0 none 0, .int .i64 1]) ?_ rfl (by rw [unhide H]; exact zero_post _ b4)
    unfold mval
    simp [results, Try.results23, go_sem, x0, x1, x2, x3, x4, x5]
  have t1 : ((p.length : Int) != m.n) = false := ne_f hc1
  have H1 := hide hc1
  have hp0 : 0 < p.length := by omega
  have hpn : p.length ≤ 1024 := by omega
  clear hc1
  by_cases hc2 : p.getD 0 0 = 0
  rotate_left
  · have H := hide (tnV_no (unhide HZ) (fun h => hc2 h.2.1))
    have t2 : (p.getD 0 0 != 0) = true := ne_t hc2
    go_enter Try.func23, Try.ntmps23
    go_wp2_with fail
    refine (rmcheck_any m a1 c1 a2 c2 _ (h1.below b0) (h2.below b0) hn ho).mono ?_
    rw [unhide HZ]
    rintro e w1 ⟨rfl, hb1⟩
    have b1 := bstep b0 hb1
    have B1 := B0.below hb1
    have Z1 := Z0.below hb1
    have F1 := fun i => frz_on (F0 i) hb1 (by simp)
    obtain ⟨q0, q1, q2, q3, q4, q5⟩ := id B1
    obtain ⟨z0, z1, z2, z3, z4, z5⟩ := id Z1
    have g0 := F1 0
    have g1 := F1 1
    have g2 := F1 2
    have g3 := F1 3
    have g4 := F1 4
    have g5 := F1 5
    have hbw : w.heap.size + 1 < w1.heap.size := World.block_lt_of_cell? w1 _ Z1.p0
    clear hb1 B0 b0 Z0 F0
    obtain ⟨b, off, rfl, hc⟩ := (hp.below b1).at hp0
    have hc0 := hc 0 hp0
    rw [Nat.add_zero] at hc0
    obtain ⟨x, hx⟩ : ∃ x, x = p.getD 0 0 := ⟨_, rfl⟩
    rw [← hx] at t2 hc0
    clear hc2 hc hx
    go_wp2
    change bodyPost _ _ _ _ _ (six w1 (w.heap.size + 1) mc0 none 0 none 0)
    have b4 := six_below b1 (b := w.heap.size + 1) (by omega) mc0 none 0 none 0
    have Z4 : Box (six w1 (w.heap.size + 1) mc0 none 0 none 0) _ _ _ _ _ _ := Z1.six mc0 none 0 none 0
    generalize six w1 (w.heap.size + 1) mc0 none 0 none 0 = w6 at *
    obtain ⟨x0, x1, x2, x3, x4, x5⟩ := Z4
    refine bodyPost_ret (v := .tuple #[mval mc0 none 0 none 0, .int .i64 1]) ?_ rfl (by rw [unhide H]; exact zero_post _ b4)
    unfold mval
    simp [results, Try.results23, go_sem, x0, x1, x2, x3, x4, x5]
  have H2 := hide hc2
  have t2 : (p.getD 0 0 != 0) = false := ne_f hc2
  go_enter Try.func23, Try.ntmps23
  go_wp2_with fail
  refine (rmcheck_any m a1 c1 a2 c2 _ (h1.below b0) (h2.below b0) hn ho).mono ?_
  rw [unhide HZ]
  rintro e w1 ⟨rfl, hb1⟩
  have b1 := bstep b0 hb1
  have B1 := B0.below hb1
  have Z1 := Z0.below hb1
  have F1 := fun i => frz_on (F0 i) hb1 (by simp)
  obtain ⟨q0, q1, q2, q3, q4, q5⟩ := id B1
  obtain ⟨z0, z1, z2, z3, z4, z5⟩ := id Z1
  have g0 := F1 0
  have g1 := F1 1
  have g2 := F1 2
  have g3 := F1 3
  have g4 := F1 4
  have g5 := F1 5
  have hbw : w.heap.size + 1 < w1.heap.size := World.block_lt_of_cell? w1 _ Z1.p0
  clear hb1 B0 b0 Z0 F0
  obtain ⟨b, off, rfl, hc⟩ := (hp.below b1).at hp0
  have hc0 := hc 0 hp0
  rw [Nat.add_zero, hc2] at hc0
  clear hc2 t2 hc
  go_wp2
  clear g0 g1 g2 g3 g4 g5 z0 z1 z2 z3 z4 z5 q0 q1 q2 q3 q4 q5 hc0
  go_loopw [8, 9] (fun vo a wx => ∃ (n : Nat) (O : List Int), a = .int .i64 n ∧ (n : Int) ≤ m.n ∧ Hid (O.length = n) ∧ Hid (Inv p O) ∧ OwnL .i64 3 wx w1.heap.size vo O ∧ Below w1.heap.size w1 wx) (fun _ a _ => m.n.toNat - (intOf a).toNat)
  case atStart => exact ⟨0, [], rfl, by omega, hide rfl, hide (Inv.nil p), OwnL.nil _ _ _ _, Below.refl _ _⟩
  case round =>
    obtain ⟨n, O, rfl, hnn, hOl, hOi, hO, hbr⟩ := hrel
    obtain ⟨ao, co, eo, -, -, -, hor, -⟩ := hO.shape
    subst eo
    obtain ⟨q0, q1, q2, q3, q4, q5⟩ := B1.below hbr
    have bb := bstep b1 hbr
    by_cases hlt : (n : Int) < m.n
    rotate_left
    · have hOn : Hid ((O.length : Int) = m.n) := by show _ = _; rw [unhide hOl]; omega
      have hip := (unhide hOi).isP (unhide H1) (unhide H2) (unhide hOn)
      have hE : O = ordP p := (unhide hOi).one hip (by have := unhide H1; have := unhide hOn; omega)
      subst hE
      have H := hide (tnV_ok (unhide HZ) hip)
      have i0 := ordP_inv hip
      have c5 : ∀ q, q < (ordP p).length → 0 ≤ (ordP p).getD q 0 ∧ (ordP p).getD q 0 < m.n := fun q hq => by have := i0.rng q hq; have := hip.1; omega
      have c6 : (ordP p).length ≤ 1024 := by have := unhide hOn; omega
      have HC := hide (pick_any m a1 c1 a2 c2 ao co (ordP p) (some ⟨b, off, none⟩) c3 p wr (unhide HR) (h1.below bb) (h2.below bb) hor (hp.below bb) c5 c6 (unhide H1))
      have HM := hide (pick_tur (unhide HR) hip)
      have Z3 := Z1.below hbr
      have F3 := fun i => frz_on (F1 i) hbr hbw
      have hbz := hbr.size
      clear hip i0 c5 hO hor
      go_wp2_with fail
      refine (unhide HC).mono ?_
      rw [unhide HM]
      rintro e w4 ⟨v4, rfl, d1, e1, d2, e2, rfl, o1, o2, hap, hb4⟩
      have b4 := bstep bb hb4
      have Z4 := Z3.below hb4
      obtain ⟨z0, z1, z2, z3, z4, z5⟩ := id Z4
      have F4 := fun i => frz_on (F3 i) hb4 (by omega)
      have g0 := F4 0
      have g1 := F4 1
      have g2 := F4 2
      have g3 := F4 3
      have g4 := F4 4
      have g5 := F4 5
      unfold mval
      clear hb4 F4 F3 F1 HC
      go_wp2
      change bodyPost _ _ _ _ _ (six w4 (w.heap.size + 1) (turM m p) d1 e1 d2 e2)
      have b5 := six_below b4 (b := w.heap.size + 1) (by omega) (turM m p) d1 e1 d2 e2
      have Z5 : Box (six w4 (w.heap.size + 1) (turM m p) d1 e1 d2 e2) _ _ _ _ _ _ := Z4.six (turM m p) d1 e1 d2 e2
      have i1 := (o1.keep fun j e => six_heap w4 (turM m p) d1 e1 d2 e2 (b := w.heap.size + 1) (by have := (o1.lt e).1; omega)).mono (B' := w.heap.size) bb.size
      have i2 := (o2.keep fun j e => six_heap w4 (turM m p) d1 e1 d2 e2 (b := w.heap.size + 1) (by have := (o2.lt e).1; omega)).mono (B' := w.heap.size) bb.size
      generalize six w4 (w.heap.size + 1) (turM m p) d1 e1 d2 e2 = w6 at *
      obtain ⟨x0, x1, x2, x3, x4, x5⟩ := Z5
      refine bodyPost_ret (v := .tuple #[mval (turM m p) d1 e1 d2 e2, .int .i64 0]) ?_ rfl (by rw [unhide H]; exact ⟨d1, e1, d2, e2, rfl, i1, i2, hap, b5⟩)
      unfold mval
      simp [results, Try.results23, go_sem, x0, x1, x2, x3, x4, x5]
    have hOs : O.length ≤ 1024 := by have := unhide hOl; omega
    clear hor q0 q1 q2 q3 q4 q5
    obtain ⟨q0, q1, q2, q3, q4, q5⟩ := B1.below hbr
    go_wp2
    go_loopw [8, 10] (fun vo a wx => ∃ (s : Nat) (M : List Int), a = .int .i64 s ∧ s ≤ p.length ∧ Hid (M = O ++ occ p n s) ∧ OwnL .i64 3 wx w1.heap.size vo M ∧ Below w1.heap.size w1 wx) (fun _ a _ => p.length - (intOf a).toNat)
    case atStart => exact ⟨0, O, rfl, Nat.zero_le _, (by show _ = _; simp [occ]), hO, hbr⟩
    case round =>
      obtain ⟨s, M, rfl, hs, hM, hOM, hbs⟩ := hrel
      obtain ⟨am, cm, em, -, -, -, -, -⟩ := hOM.shape
      subst em
      have bbs := bstep b1 hbs
      have hMl : M.length ≤ 3000 := by
        have := occ_le p n s
        rw [unhide hM, List.length_append]; omega
      have hzs := hbs.size
      clear q0 q1 q2 q3 q4 q5
      by_cases hsl : s < p.length
      · obtain ⟨b', off', e', hcc⟩ := (hp.below bbs).at hsl
        cases e'
        have hcs := hcc s hsl
        have hsl' : (s : Int) < (p.length : Int) := by omega
        by_cases hx : p.getD s 0 = (n : Int)
        · have tx : (p.getD s 0 == (n : Int)) = true := eq_t hx
          have EM : Hid (M ++ [(s : Int)] = O ++ occ p n (s + 1)) := by
            show _ = _; rw [unhide hM, occ, if_pos hx, List.append_assoc]
          generalize p.getD s 0 = x at *
          clear hcc hx
          go_wp2_with (at_builtin; refine wpl_pushL eInt rfl (.tmp 50) (.tmp 52) rfl w1.heap.size _ M rfl (hOM.alloc _) (some ⟨wr.heap.size, 0, none⟩) 1 [(s : Int)] rfl (RdL.one _ _) (by simp) (by simp only [List.length_cons, List.length_nil]; omega) (by simp; omega) ?_; intro v4 w4 hown4 hb4 _; obtain ⟨av4, cv4, ev4, -, -, -, -, -⟩ := hown4.shape; rw [show (M ++ [(s : Int)]).length = M.length + 1 by simp] at ev4; subst ev4)
          go_roundw
          case rel => exact ⟨s + 1, M ++ [(s : Int)], by go_num, by omega, EM, hown4, (hbs.alloc hzs _).trans hb4⟩
          case measure => simp [intOf]; omega
        · have tx : (p.getD s 0 == (n : Int)) = false := eq_f hx
          have EM : Hid (M = O ++ occ p n (s + 1)) := by
            show _ = _; rw [unhide hM, occ, if_neg hx]
          generalize p.getD s 0 = x at *
          clear hcc hx
          go_wp2
          go_roundw
          case rel => exact ⟨s + 1, M, by go_num, by omega, EM, hOM, hbs⟩
          case measure => simp [intOf]; omega
      · have he : s = p.length := by omega
        subst he
        by_cases ho1 : (occ p n p.length).length = 1
        · obtain ⟨u, hu, eu, eo⟩ := occ_single ho1
          have EM : Hid (M = O ++ [(u : Int)]) := by show _ = _; rw [unhide hM, eo]
          have HL : Hid ((M.length : Int) = (n : Int) + 1) := by
            show _ = _; rw [unhide EM, List.length_append, List.length_singleton, unhide hOl]; omega
          have tl : ((M.length : Int) != (n : Int) + 1) = false := ne_f (unhide HL)
          have HI : Hid (Inv p M) := by rw [unhide EM]; exact (unhide hOi).snoc hu (by rw [eu, unhide hOl])
          have HLn : Hid (M.length = n + 1) := by show _ = _; have := unhide HL; omega
          clear ho1 eo eu hM
          go_wp2
          go_roundw
          case rel => exact ⟨n + 1, M, by go_num, by omega, HLn, HI, hOM, hbs⟩
          case measure => simp [intOf]; omega
        · have H := hide (tnV_no (unhide HZ) (fun h => ho1 (occ_one h hlt)))
          have tl : ((M.length : Int) != (n : Int) + 1) = true := ne_t (by
            rw [unhide hM, List.length_append, unhide hOl]; omega)
          have Z3 := Z1.below hbs
          have F3 := fun i => frz_on (F1 i) hbs hbw
          obtain ⟨z0, z1, z2, z3, z4, z5⟩ := id Z3
          have g0 := F3 0
          have g1 := F3 1
          have g2 := F3 2
          have g3 := F3 3
          have g4 := F3 4
          have g5 := F3 5
          clear ho1 hM F3 F1
          go_wp2
          change bodyPost _ _ _ _ _ (six wr (w.heap.size + 1) mc0 none 0 none 0)
          have b4 := six_below bbs (b := w.heap.size + 1) (by omega) mc0 none 0 none 0
          have Z4 : Box (six wr (w.heap.size + 1) mc0 none 0 none 0) _ _ _ _ _ _ := Z3.six mc0 none 0 none 0
          generalize six wr (w.heap.size + 1) mc0 none 0 none 0 = w6 at *
          obtain ⟨x0, x1, x2, x3, x4, x5⟩ := Z4
          refine bodyPost_ret (v := .tuple #[mval mc0 none 0 none 0, .int .i64 1]) ?_ rfl (by rw [unhide H]; exact zero_post _ b4)
          unfold mval
          simp [results, Try.results23, go_sem, x0, x1, x2, x3, x4, x5]

end Go.Proofs.Ytdlcbjbcehpooaa
