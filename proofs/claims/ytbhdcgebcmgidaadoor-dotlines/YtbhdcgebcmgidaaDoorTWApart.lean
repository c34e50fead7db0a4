/-
  DotApart, walked: for every input the call returns true.
-/
import Derived.Test.YtbhdcgebcmgidaaDoorTWDraws
import Derived.Test.YtbhdcgebcmgidaaDoorMSame2
import Derived.Deep.RegionHeld
namespace Go.Proofs.YtbhdcgebcmgidaaDoor
set_option linter.unusedVariables false
open Go.RowKit

theorem dtV_zero {m : Mc} {names : List Int} (h : (dtV m names).2 = 0) : Full m ∧ (names.length : Int) = m.k ∧ (dtV m names).1 = dtT m (lbL names names.length) := by
  by_cases h1 : (mchV m).2 = 0
  rotate_left
  · rw [dtV_bad h1] at h; exact absurd h h1
  by_cases h2 : (names.length : Int) = m.k
  rotate_left
  · rw [dtV_arg h1 h2] at h; exact absurd h (by decide)
  by_cases h3 : lbE names m.k.toNat = 0
  rotate_left
  · rw [dtV_lab h1 h2 h3] at h; exact absurd h h3
  rw [dtV_ok h1 h2 h3]
  exact ⟨full_of h1, h2, by rw [show m.k.toNat = names.length by omega]⟩
theorem dt_same {m k : Mc} {names : List Int} (h1 : (dtV m names).2 = 0) (h2 : (dtV k names).2 = 0) (hk : m.kind = k.kind) : decide ((dtV m names).1 = (dtV k names).1) = sameM m { k with o := m.o } := by
  obtain ⟨F, hK, e1⟩ := dtV_zero h1
  obtain ⟨G, hK', e2⟩ := dtV_zero h2
  rw [e1, e2]
  have hi := sameM_iff (a := m) (b := { k with o := m.o }) hk (by show m.k = k.k; omega) rfl
  by_cases h : dtT m (lbL names names.length) = dtT k (lbL names names.length)
  · rw [decide_eq_true h, eq_comm, hi]
    obtain ⟨a1, a2, a3⟩ := dt_inj F G hk (by omega) (nob_lbL names _) h
    cases m
    cases k
    simp only [Mc.mk.injEq] at *
    exact ⟨hk, by omega, trivial, a1, a2, a3⟩
  · rw [decide_eq_false h]
    cases hs : sameM m { k with o := m.o }
    · rfl
    · exfalso
      apply h
      have := hi.1 hs
      rw [this]; rfl

theorem bx6 {w : World} {b : Nat} {m : Mc} {a1 : Option Addr} {c1 : Nat} {a2 : Option Addr} {c2 : Nat} (h : Box w b m a1 c1 a2 c2) : w.cell? ⟨b, 0, none⟩ = some (.int .i64 m.kind) ∧ w.cell? ⟨b, 1, none⟩ = some (.int .i64 m.k) ∧ w.cell? ⟨b, 2, none⟩ = some (.int .i64 m.o) ∧ w.cell? ⟨b, 3, none⟩ = some (.int .i64 m.n) ∧ w.cell? ⟨b, 4, none⟩ = some (.slice a1 m.nx.length c1) ∧ w.cell? ⟨b, 5, none⟩ = some (.slice a2 m.out.length c2) := ⟨h.p0, h.p1, h.p2, h.p3, h.p4, h.p5⟩

set_option maxRecDepth 100000 in
set_option maxHeartbeats 4000000 in
theorem dotApart_walk (m : Mc) (a1 : Option Addr) (c1 : Nat) (a2 : Option Addr) (c2 : Nat) (k : Mc) (d1 : Option Addr) (e1 : Nat) (d2 : Option Addr) (e2 : Nat) (a : Option Addr) (c : Nat) (names : List Int) (w : World) (h0 : ArgM w m a1 c1 a2 c2) (g0 : ArgM w k d1 e1 d2 e2) (hA : ArgL .i32 4 w a c names) (gp : Gp w) :
    Calls Tryd.prog 4 #[mval m a1 c1 a2 c2, mval k d1 e1 d2 e2, .slice a names.length c] w fun e w' => e = .returned (.bool true) ∧ Below w.heap.size w w' := by
  have GP := hide gp
  clear gp
  unfold mval
  have b0 := bstep (ballo w (.cells #[.int .i64 m.kind, .int .i64 m.k, .int .i64 m.o, .int .i64 m.n, .slice a1 m.nx.length c1, .slice a2 m.out.length c2] 24)) (ballo _ (.cells #[.int .i64 k.kind, .int .i64 k.k, .int .i64 k.o, .int .i64 k.n, .slice d1 k.nx.length e1, .slice d2 k.out.length e2] 24))
  have B0 : Box ((w.alloc (.cells #[.int .i64 m.kind, .int .i64 m.k, .int .i64 m.o, .int .i64 m.n, .slice a1 m.nx.length c1, .slice a2 m.out.length c2] 24)).alloc (.cells #[.int .i64 k.kind, .int .i64 k.k, .int .i64 k.o, .int .i64 k.n, .slice d1 k.nx.length e1, .slice d2 k.out.length e2] 24)) w.heap.size m a1 c1 a2 c2 := (Box.alloc w m a1 c1 a2 c2 24).below (ballo _ _)
  have C0 : Box ((w.alloc (.cells #[.int .i64 m.kind, .int .i64 m.k, .int .i64 m.o, .int .i64 m.n, .slice a1 m.nx.length c1, .slice a2 m.out.length c2] 24)).alloc (.cells #[.int .i64 k.kind, .int .i64 k.k, .int .i64 k.o, .int .i64 k.n, .slice d1 k.nx.length e1, .slice d2 k.out.length e2] 24)) (w.heap.size + 1) k d1 e1 d2 e2 := by
    have := Box.alloc (w.alloc (.cells #[.int .i64 m.kind, .int .i64 m.k, .int .i64 m.o, .int .i64 m.n, .slice a1 m.nx.length c1, .slice a2 m.out.length c2] 24)) k d1 e1 d2 e2 24
    rw [World.size_alloc] at this
    exact this
  have F0 : ((w.alloc (.cells #[.int .i64 m.kind, .int .i64 m.k, .int .i64 m.o, .int .i64 m.n, .slice a1 m.nx.length c1, .slice a2 m.out.length c2] 24)).alloc (.cells #[.int .i64 k.kind, .int .i64 k.k, .int .i64 k.o, .int .i64 k.n, .slice d1 k.nx.length e1, .slice d2 k.out.length e2] 24)).frozen? ⟨w.heap.size + 1, 2, none⟩ = false := by rw [frozen?_alloc_cells, frozen?_alloc_cells]; exact frz_new w (by omega)
  cases hbig : bigB 100 m
  rotate_left
  · go_enter Tryd.func4, Tryd.ntmps4
    go_wp2_with fail
    refine (big_any 100 m a1 c1 a2 c2 _).mono ?_
    rw [hbig]
    rintro e w1 ⟨rfl, hb1⟩
    have b1 := bstep b0 hb1
    go_wp2_with (go_at_call 7; refine (live_any _ ((unhide GP).below (by first | assumption | exact bstep b9 hb9 | exact bstep b5 hb57))).mono ?_; rintro e wl ⟨rfl, hbl⟩)
    go_ret
    exact ⟨rfl, bstep b1 hbl⟩
  cases hbig2 : bigB 100 k
  rotate_left
  · go_enter Tryd.func4, Tryd.ntmps4
    go_wp2_with fail
    refine (big_any 100 m a1 c1 a2 c2 _).mono ?_
    rw [hbig]
    rintro e w1 ⟨rfl, hb1⟩
    obtain ⟨q0, q1, q2, q3, q4, q5⟩ := C0.below hb1
    have b1 := bstep b0 hb1
    go_wp2_with fail
    refine (big_any 100 k d1 e1 d2 e2 _).mono ?_
    rw [hbig2]
    rintro e w2 ⟨rfl, hb2⟩
    have b2 := bstep b1 hb2
    go_wp2_with (go_at_call 7; refine (live_any _ ((unhide GP).below (by first | assumption | exact bstep b9 hb9 | exact bstep b5 hb57))).mono ?_; rintro e wl ⟨rfl, hbl⟩)
    go_ret
    exact ⟨rfl, bstep b2 hbl⟩
  obtain ⟨-, ln, lo⟩ := bigF hbig
  obtain ⟨-, kn, ko⟩ := bigF hbig2
  have mn : m.nx.length ≤ maxLen := by unfold maxLen; omega
  have mo : m.out.length ≤ maxLen := by unfold maxLen; omega
  have kn' : k.nx.length ≤ maxLen := by unfold maxLen; omega
  have ko' : k.out.length ≤ maxLen := by unfold maxLen; omega
  by_cases hl : 1000 < names.length
  · have hl' : (names.length : Int) > 1000 := by omega
    go_enter Tryd.func4, Tryd.ntmps4
    go_wp2_with fail
    refine (big_any 100 m a1 c1 a2 c2 _).mono ?_
    rw [hbig]
    rintro e w1 ⟨rfl, hb1⟩
    obtain ⟨q0, q1, q2, q3, q4, q5⟩ := C0.below hb1
    have b1 := bstep b0 hb1
    go_wp2_with fail
    refine (big_any 100 k d1 e1 d2 e2 _).mono ?_
    rw [hbig2]
    rintro e w2 ⟨rfl, hb2⟩
    have b2 := bstep b1 hb2
    go_wp2_with (go_at_call 7; refine (live_any _ ((unhide GP).below (by first | assumption | exact bstep b9 hb9 | exact bstep b5 hb57))).mono ?_; rintro e wl ⟨rfl, hbl⟩)
    go_ret
    exact ⟨rfl, bstep b2 hbl⟩
  have hl' : ¬ ((names.length : Int) > 1000) := by omega
  have hrd := hA.rd
  clear hA
  have hW : Hid (Calls Tryd.prog 4 #[.agg #[.int .i64 m.kind, .int .i64 m.k, .int .i64 m.o, .int .i64 m.n, .slice a1 m.nx.length c1, .slice a2 m.out.length c2], .agg #[.int .i64 k.kind, .int .i64 k.k, .int .i64 k.o, .int .i64 k.n, .slice d1 k.nx.length e1, .slice d2 k.out.length e2], .slice a names.length c] w fun e w' => e = .returned (.bool true) ∧ Below w.heap.size w w') := by
    go_enter Tryd.func4, Tryd.ntmps4
    go_wp2_with fail
    refine (big_any 100 m a1 c1 a2 c2 _).mono ?_
    rw [hbig]
    rintro e w1 ⟨rfl, hb1⟩
    obtain ⟨q0, q1, q2, q3, q4, q5⟩ := C0.below hb1
    have b1 := bstep b0 hb1
    go_wp2_with fail
    refine (big_any 100 k d1 e1 d2 e2 _).mono ?_
    rw [hbig2]
    rintro e w2 ⟨rfl, hb2⟩
    have b2 := bstep b1 hb2
    have B2 := (B0.below hb1).below hb2
    have C2 := (C0.below hb1).below hb2
    clear q0 q1 q2 q3 q4 q5 hbig hbig2 B0 C0 b0
    obtain ⟨p0, p1, p2, p3, p4, p5⟩ := id B2
    have hd := ddot_any m a1 c1 a2 c2 a c names w2 (h0.nx.rd.below b2) (h0.out.rd.below b2) (hrd.below b2) mn mo ((unhide GP).below b2)
    unfold mval DtPost at hd
    go_wp2_with fail
    refine hd.mono ?_
    rintro e w3 ⟨v3, rfl, ho3, hb3⟩
    have b3 := bstep b2 hb3
    clear p0 p1 p2 p3 p4 p5 hd
    obtain ⟨q0, q1, q2, q3, q4, q5⟩ := id (C2.below hb3)
    have hd := ddot_any k d1 e1 d2 e2 a c names w3 (g0.nx.rd.below b3) (g0.out.rd.below b3) (hrd.below b3) kn' ko' ((unhide GP).below b3)
    unfold mval DtPost at hd
    go_wp2_with fail
    refine hd.mono ?_
    rintro e w4 ⟨v4, rfl, ho4, hb4⟩
    have b4 := bstep b3 hb4
    have B4 := (B2.below hb3).below hb4
    have C4 := (C2.below hb3).below hb4
    have F4 := frz_on F0 (bstep (bstep (bstep hb1 hb2) hb3) hb4) (by simp)
    have z2 : w.heap.size + 1 < w2.heap.size := by
      have := World.block_lt_of_cell? _ _ C2.p0
      exact this
    have z3 := hb3.size
    have O3 := (ho3.grown hb4).keep (w' := w4.setCell ⟨w.heap.size + 1, 2, none⟩ (.int .i64 m.o)) fun b hb => Below.heap_setCell w4 _ _ b (by have := ((ho3.grown hb4).lt hb).1; show b ≠ w.heap.size + 1; omega)
    have O4 := ho4.keep (w' := w4.setCell ⟨w.heap.size + 1, 2, none⟩ (.int .i64 m.o)) fun b hb => Below.heap_setCell w4 _ _ b (by have := (ho4.lt hb).1; show b ≠ w.heap.size + 1; omega)
    have b5 : Below w.heap.size w (w4.setCell ⟨w.heap.size + 1, 2, none⟩ (.int .i64 m.o)) := b4.setCell (p := ⟨w.heap.size + 1, 2, none⟩) (Nat.le_succ _) _
    have B5 : Box (w4.setCell ⟨w.heap.size + 1, 2, none⟩ (.int .i64 m.o)) w.heap.size m a1 c1 a2 c2 := by
      have ot : ∀ i, (w4.setCell ⟨w.heap.size + 1, 2, none⟩ (.int .i64 m.o)).cell? ⟨w.heap.size, i, none⟩ = w4.cell? ⟨w.heap.size, i, none⟩ := fun i => World.cell?_setCell_other _ _ _ _ (by intro e; injection e with e; omega)
      exact ⟨by rw [ot]; exact B4.p0, by rw [ot]; exact B4.p1, by rw [ot]; exact B4.p2, by rw [ot]; exact B4.p3, by rw [ot]; exact B4.p4, by rw [ot]; exact B4.p5⟩
    have C5 : Box (w4.setCell ⟨w.heap.size + 1, 2, none⟩ (.int .i64 m.o)) (w.heap.size + 1) { k with o := m.o } d1 e1 d2 e2 := by
      have ot : ∀ i, i ≠ 2 → (w4.setCell ⟨w.heap.size + 1, 2, none⟩ (.int .i64 m.o)).cell? ⟨w.heap.size + 1, i, none⟩ = w4.cell? ⟨w.heap.size + 1, i, none⟩ := fun i hi => World.cell?_setCell_other _ _ _ _ (by intro e; injection e with _ e _; exact hi e.symm)
      exact ⟨by rw [ot 0 (by decide)]; exact C4.p0, by rw [ot 1 (by decide)]; exact C4.p1, World.cell?_setCell_same _ _ _ C4.p2, by rw [ot 3 (by decide)]; exact C4.p3, by rw [ot 4 (by decide)]; exact C4.p4, by rw [ot 5 (by decide)]; exact C4.p5⟩
    obtain ⟨x1, y1, rfl, hn1, -, -, rd1, -⟩ := O3.shape
    obtain ⟨x2, y2, rfl, hn2, -, -, rd2, -⟩ := O4.shape
    rw [zs_len] at hn1 hn2
    have hbs := bsame_any x1 x2 y1 y2 (dtV m names).1 (dtV k names).1
    clear q0 q1 q2 q3 q4 q5 hd ho3 ho4 B2 C2 O3 O4
    rw [zs_len, zs_len]
    obtain ⟨p0, p1, p2, p3, p4, p5⟩ := id B4
    obtain ⟨q0, q1, q2, q3, q4, q5⟩ := id C4
    have hsame := @dt_same m k names
    by_cases he : (dtV m names).2 = 0
    rotate_left
    · have tz : ((dtV m names).2 != 0) = true := by simpa using he
      clear hsame hbs rd1 rd2
      generalize (dtV m names).2 = ea at *
      generalize (dtV k names).2 = eb at *
      generalize (dtV m names).1.length = L1 at *
      generalize (dtV k names).1.length = L2 at *
      go_wp2_with (first | (go_at_call 14; refine (num_any _ _).mono ?_; rintro e wz ⟨rfl, hwz⟩; subst wz) | (go_at_call 7; refine (live_any _ ((unhide GP).below (by first | assumption | exact bstep b9 hb9 | exact bstep b5 hb57))).mono ?_; rintro e wl ⟨rfl, hbl⟩))
      go_ret
      exact ⟨rfl, bstep b4 hbl⟩
    by_cases hf : (dtV k names).2 = 0
    rotate_left
    · have tz : ((dtV k names).2 != 0) = true := by simpa using hf
      rw [he]
      clear hsame hbs rd1 rd2 he
      generalize (dtV k names).2 = eb at *
      generalize (dtV m names).1.length = L1 at *
      generalize (dtV k names).1.length = L2 at *
      go_wp2_with (first | (go_at_call 14; refine (num_any _ _).mono ?_; rintro e wz ⟨rfl, hwz⟩; subst wz) | (go_at_call 7; refine (live_any _ ((unhide GP).below (by first | assumption | exact bstep b9 hb9 | exact bstep b5 hb57))).mono ?_; rintro e wl ⟨rfl, hbl⟩))
      go_ret
      exact ⟨rfl, bstep b4 hbl⟩
    rw [he, hf]
    by_cases hk : m.kind = k.kind
    rotate_left
    · have tz : (m.kind != k.kind) = true := by simpa using hk
      clear hsame hbs rd1 rd2 he hf hk
      generalize (dtV m names).1.length = L1 at *
      generalize (dtV k names).1.length = L2 at *
      go_wp2_with (first | (go_at_call 14; refine (num_any _ _).mono ?_; rintro e wz ⟨rfl, hwz⟩; subst wz) | (go_at_call 7; refine (live_any _ ((unhide GP).below (by first | assumption | exact bstep b9 hb9 | exact bstep b5 hb57))).mono ?_; rintro e wl ⟨rfl, hbl⟩))
      go_ret
      exact ⟨rfl, bstep b4 hbl⟩
    have tk : (m.kind != k.kind) = false := by simpa using hk
    have HE := hide (hsame he hf hk)
    have hkk : m.k = k.k := by
      obtain ⟨-, e1', -⟩ := dtV_zero he
      obtain ⟨-, e2', -⟩ := dtV_zero hf
      omega
    have HKK := hide hkk
    have HKD := hide hk
    clear hsame he hf hk hkk
    go_wp2_with (go_at_call 14; refine (num_any _ _).mono ?_; rintro e wz ⟨rfl, hwz⟩; subst wz)
    generalize (w4.setCell ⟨w.heap.size + 1, 2, none⟩ (.int .i64 m.o)) = w5 at *
    have HBS := hide (hbs w5.drew (rd1.below (bdrew1 _)) (rd2.below (bdrew1 _)) hn1 hn2)
    rw [unhide HE] at HBS
    have HSM := hide (fun wz (h : Below w5.heap.size w5 wz) => msame2_any m { k with o := m.o } a1 c1 a2 c2 d1 e1 d2 e2 wz (h0.nx.rd.below (bstep b5 h)) (h0.out.rd.below (bstep b5 h)) (g0.nx.rd.below (bstep b5 h)) (g0.out.rd.below (bstep b5 h)) mn mo (unhide HKD) (unhide HKK) rfl)
    have HS : Hid (∀ wz, Below w5.heap.size w5 wz → (wz.cell? ⟨w.heap.size, 0, none⟩ = some (.int .i64 m.kind) ∧ wz.cell? ⟨w.heap.size, 1, none⟩ = some (.int .i64 m.k) ∧ wz.cell? ⟨w.heap.size, 2, none⟩ = some (.int .i64 m.o) ∧ wz.cell? ⟨w.heap.size, 3, none⟩ = some (.int .i64 m.n) ∧ wz.cell? ⟨w.heap.size, 4, none⟩ = some (.slice a1 m.nx.length c1) ∧ wz.cell? ⟨w.heap.size, 5, none⟩ = some (.slice a2 m.out.length c2)) ∧ wz.cell? ⟨w.heap.size + 1, 0, none⟩ = some (.int .i64 k.kind) ∧ wz.cell? ⟨w.heap.size + 1, 1, none⟩ = some (.int .i64 k.k) ∧ wz.cell? ⟨w.heap.size + 1, 2, none⟩ = some (.int .i64 m.o) ∧ wz.cell? ⟨w.heap.size + 1, 3, none⟩ = some (.int .i64 k.n) ∧ wz.cell? ⟨w.heap.size + 1, 4, none⟩ = some (.slice d1 k.nx.length e1) ∧ wz.cell? ⟨w.heap.size + 1, 5, none⟩ = some (.slice d2 k.out.length e2)) := fun wz h => ⟨bx6 (B5.below h), bx6 (C5.below h)⟩
    have hs0 := unhide HS w5 (Below.refl _ _)
    have hsd := unhide HS w5.drew (bdrew1 _)
    generalize sameM m { k with o := m.o } = z at *
    clear hbs rd1 rd2 hn1 hn2 HE HKK HKD p0 p1 p2 p3 p4 p5 q0 q1 q2 q3 q4 q5 B4 C4 B5 C5 F0 F4
    generalize (dtV m names).1.length = L1 at *
    generalize (dtV k names).1.length = L2 at *
    unfold mval at HSM
    have hzz : (z == z) = true := by simp
    go_region_held (fun wz => (wz.cell? ⟨w.heap.size, 0, none⟩ = some (.int .i64 m.kind) ∧ wz.cell? ⟨w.heap.size, 1, none⟩ = some (.int .i64 m.k) ∧ wz.cell? ⟨w.heap.size, 2, none⟩ = some (.int .i64 m.o) ∧ wz.cell? ⟨w.heap.size, 3, none⟩ = some (.int .i64 m.n) ∧ wz.cell? ⟨w.heap.size, 4, none⟩ = some (.slice a1 m.nx.length c1) ∧ wz.cell? ⟨w.heap.size, 5, none⟩ = some (.slice a2 m.out.length c2)) ∧ wz.cell? ⟨w.heap.size + 1, 0, none⟩ = some (.int .i64 k.kind) ∧ wz.cell? ⟨w.heap.size + 1, 1, none⟩ = some (.int .i64 k.k) ∧ wz.cell? ⟨w.heap.size + 1, 2, none⟩ = some (.int .i64 m.o) ∧ wz.cell? ⟨w.heap.size + 1, 3, none⟩ = some (.int .i64 k.n) ∧ wz.cell? ⟨w.heap.size + 1, 4, none⟩ = some (.slice d1 k.nx.length e1) ∧ wz.cell? ⟨w.heap.size + 1, 5, none⟩ = some (.slice d2 k.out.length e2)) (first | exact hs0 | exact hsd | exact hsS | exact hsM | exact hsL)
      (first
        | (go_at_call 13; refine (unhide HBS).mono ?_; rintro e wz ⟨rfl, hwz⟩; subst wz; have hsS := hsd)
        | (go_at_call 15; refine (unhide HSM w5.drew (bdrew1 _)).mono ?_; rintro e w7 ⟨rfl, hb7⟩; have hb57 := bstep (bdrew1 w5) hb7; have hsM := unhide HS w7 hb57)
        | (go_at_call 7; refine (live_any _ ((unhide GP).below (by first | assumption | exact bstep b9 hb9 | exact bstep b5 hb57))).mono ?_; rintro e wl ⟨rfl, hbl⟩; have hsL := unhide HS wl (bstep hb57 hbl)))
    all_goals
      go_wp2
      go_ret
      exact ⟨rfl, bstep (bstep b5 hb57) hbl⟩
  exact unhide hW

end Go.Proofs.YtbhdcgebcmgidaaDoor
