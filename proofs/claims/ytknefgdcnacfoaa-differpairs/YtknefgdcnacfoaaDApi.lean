/-
  What Separate, Equal and Apart of differ return.
-/
import Derived.Test.YtknefgdcnacfoaaDFst
import Derived.Test.YtknefgdcnacfoaaDBes
import Derived.Test.YtknefgdcnacfoaaDMis
import Derived.Test.YtknefgdcnacfoaaDCtr
namespace Go.Proofs.Ytknefgdcnacfoaa
open Go.RowKit

theorem uni_sep {a b : Mc} (R : Right a) (Q : Right b) (hkd : b.kind = a.kind) (hk : b.k = a.k) {s t : Int} (s0 : 0 ≤ s) (s1 : s < a.n) (t0 : 0 ≤ t) (t1 : t < b.n) {o : Option (List Int)} (h : SepR a b s t o) : SepR (uniM a b) (uniM a b) s (a.n + t) o := by
  have K : ∀ {w : List Int}, Wrd a.k w → (tls (uniM a b) (uniM a b) s (a.n + t) w ↔ tls a b s t w) := fun hw => uni_tls R Q hkd hk s0 s1 t0 t1 hw
  cases o with
  | none => exact fun v hv ht => h v hv ((K hv).1 ht)
  | some w => exact ⟨h.wd, (K h.wd).2 h.tl, fun v hv ht => h.fst v hv ((K hv).1 ht)⟩

set_option maxRecDepth 100000 in
set_option maxHeartbeats 2000000 in
theorem separate_any (a b : Mc) (a1 : Option Addr) (c1 : Nat) (a2 : Option Addr) (c2 : Nat) (d1 : Option Addr) (e1 : Nat) (d2 : Option Addr) (e2 : Nat) (w : World) (o : Option (List Int)) (ha : MA w a a1 c1 a2 c2) (hb : MA w b d1 e1 d2 e2) (ho : SeR a b o) :
    Calls Try.prog 11 #[mval a a1 c1 a2 c2, mval b d1 e1 d2 e2] w fun e w' => SePost o (seE a b) w e w' := by
  obtain ⟨w0, hw0⟩ : ∃ w0, w0 = (w.alloc (.cells #[.int .i64 a.kind, .int .i64 a.k, .int .i64 a.o, .int .i64 a.n, .slice a1 a.nx.length c1, .slice a2 a.out.length c2] 24)).alloc (.cells #[.int .i64 b.kind, .int .i64 b.k, .int .i64 b.o, .int .i64 b.n, .slice d1 b.nx.length e1, .slice d2 b.out.length e2] 24) := ⟨_, rfl⟩
  have b0 : Below w.heap.size w w0 := by rw [hw0]; exact bstep (ballo _ _) (ballo _ _)
  have A0 : Box w0 w.heap.size a a1 c1 a2 c2 := by rw [hw0]; exact (Box.alloc w a a1 c1 a2 c2 24).below (ballo _ _)
  have B0 : Box w0 (w.heap.size + 1) b d1 e1 d2 e2 := by
    have := Box.alloc (w.alloc (.cells #[.int .i64 a.kind, .int .i64 a.k, .int .i64 a.o, .int .i64 a.n, .slice a1 a.nx.length c1, .slice a2 a.out.length c2] 24)) b d1 e1 d2 e2 24
    rw [hw0]
    simp only [World.size_alloc] at this
    exact this
  have HC := hide (misfit_any a b a1 c1 a2 c2 d1 e1 d2 e2 w0 (ha.below b0).r1 (ha.below b0).r2 (hb.below b0).r1 (hb.below b0).r2 ha.m1 ha.m2 hb.m1 hb.m2)
  unfold mval at HC ⊢
  have HA := hide A0
  have HB := hide B0
  have HMA := hide ha
  have HMB := hide hb
  have HW : Hid (Below w.heap.size w w0) := b0
  have HO := hide ho
  clear A0 B0 b0 ha hb ho
  go_enter Try.func11, Try.ntmps11
  go_wp2_with fail
  rw [← hw0]
  refine (unhide HC).mono ?_
  rintro e w1 ⟨rfl, hb1⟩
  have HW1 := hide (bstep (unhide HW) hb1)
  have HA1 := hide ((unhide HA).below hb1)
  have HB1 := hide ((unhide HB).below hb1)
  clear HC HA HB HW hw0 hb1
  by_cases hz : seE a b = 0
  rotate_left
  · have tz := ne_bne' hz
    have HE : Hid (o = none) := (unhide HO).2 hz
    clear hz
    obtain ⟨E, hE⟩ : ∃ E, E = seE a b := ⟨_, rfl⟩
    rw [← hE] at tz ⊢
    have HS := hide hE
    clear hE
    go_wp2
    go_ret3
    rw [unhide HE, ← unhide HS]
    exact ⟨_, rfl, OwnL.nil _ _ _ _, unhide HW1⟩
  obtain ⟨q1, q2, hkd, hk, hoo⟩ := seE_zero hz
  have R := right_of q1
  have Q := right_of q2
  have HU := hide (uni_right R Q hkd.symm hk.symm hoo.symm (by have := (unhide HMA).b3; have := (unhide HMB).b3; omega))
  have n0 := R.n0
  have n1 := R.n1
  have m0 := Q.n0
  obtain ⟨N, hN⟩ := Int.eq_ofNat_of_zero_le (show 0 ≤ a.n by omega)
  have HSP : Hid (SepR (uniM a b) (uniM a b) ((0 : Nat) : Int) (N : Int) o) := by
    have := uni_sep R Q hkd.symm hk.symm (s := 0) (t := 0) (by omega) (by omega) (by omega) (by omega) ((unhide HO).1 hz)
    rw [Int.add_zero, hN] at this
    exact this
  have HUN : Hid ((N : Int) < (uniM a b).n ∧ (0 : Int) < (uniM a b).n) := ⟨by show (N : Int) < a.n + b.n; omega, by show 0 < a.n + b.n; omega⟩
  have BXd : Below w1.heap.size w1 w1.drew := (Below.refl _ _).drew
  have HC1 := hide (beside_any a b a1 c1 a2 c2 d1 e1 d2 e2 w1.drew R Q (by have := (unhide HMA).b3; have := (unhide HMB).b3; omega) ((unhide HMA).below (bstep (unhide HW1) BXd)).r1 ((unhide HMA).below (bstep (unhide HW1) BXd)).r2 ((unhide HMB).below (bstep (unhide HW1) BXd)).r1 ((unhide HMB).below (bstep (unhide HW1) BXd)).r2 (unhide HMA).b1 (unhide HMA).b2 (unhide HMB).b1 (unhide HMB).b2)
  unfold mval at HC1
  rw [hz]
  have HZ := hide hz
  have HKP : Hid (∀ wz, Below w1.heap.size w1 wz → (wz.cell? ⟨w.heap.size, 0, none⟩ = some (.int .i64 a.kind) ∧ wz.cell? ⟨w.heap.size, 1, none⟩ = some (.int .i64 a.k) ∧ wz.cell? ⟨w.heap.size, 2, none⟩ = some (.int .i64 a.o) ∧ wz.cell? ⟨w.heap.size, 3, none⟩ = some (.int .i64 a.n) ∧ wz.cell? ⟨w.heap.size, 4, none⟩ = some (.slice a1 a.nx.length c1) ∧ wz.cell? ⟨w.heap.size, 5, none⟩ = some (.slice a2 a.out.length c2)) ∧ wz.cell? ⟨w.heap.size + 1, 0, none⟩ = some (.int .i64 b.kind) ∧ wz.cell? ⟨w.heap.size + 1, 1, none⟩ = some (.int .i64 b.k) ∧ wz.cell? ⟨w.heap.size + 1, 2, none⟩ = some (.int .i64 b.o) ∧ wz.cell? ⟨w.heap.size + 1, 3, none⟩ = some (.int .i64 b.n) ∧ wz.cell? ⟨w.heap.size + 1, 4, none⟩ = some (.slice d1 b.nx.length e1) ∧ wz.cell? ⟨w.heap.size + 1, 5, none⟩ = some (.slice d2 b.out.length e2)) := fun wz hz => by
    obtain ⟨p0, p1, p2, p3, p4, p5⟩ := (unhide HA1).below hz
    obtain ⟨q0, q1, q2, q3, q4, q5⟩ := (unhide HB1).below hz
    exact ⟨⟨p0, p1, p2, p3, p4, p5⟩, q0, q1, q2, q3, q4, q5⟩
  have hs0 := unhide HKP w1.drew BXd
  have HFW : Hid (∀ (wz : World) (f1 : Option Addr) (g1 : Nat) (f2 : Option Addr) (g2 : Nat), RdL .i64 wz f1 (uniM a b).nx → RdL .i64 wz f2 (uniM a b).out → Calls Try.prog 28 #[mval (uniM a b) f1 g1 f2 g2, .agg #[.int .i64 0, .int .i64 a.n]] wz fun e w' => ScPost o wz e w') := fun wz f1 g1 f2 g2 h3 h4 => by
    have := firstWord_any (uniM a b) f1 g1 f2 g2 0 N wz o (unhide HU) h3 h4 (unhide HUN).2 (unhide HUN).1 (unhide HSP)
    unfold pvl at this
    rw [hN]
    exact this
  clear hz R Q hkd hk hoo q1 q2 n0 n1 m0 hN
  go_wp2_with fail
  go_region_held (fun wz => (wz.cell? ⟨w.heap.size, 0, none⟩ = some (.int .i64 a.kind) ∧ wz.cell? ⟨w.heap.size, 1, none⟩ = some (.int .i64 a.k) ∧ wz.cell? ⟨w.heap.size, 2, none⟩ = some (.int .i64 a.o) ∧ wz.cell? ⟨w.heap.size, 3, none⟩ = some (.int .i64 a.n) ∧ wz.cell? ⟨w.heap.size, 4, none⟩ = some (.slice a1 a.nx.length c1) ∧ wz.cell? ⟨w.heap.size, 5, none⟩ = some (.slice a2 a.out.length c2)) ∧ wz.cell? ⟨w.heap.size + 1, 0, none⟩ = some (.int .i64 b.kind) ∧ wz.cell? ⟨w.heap.size + 1, 1, none⟩ = some (.int .i64 b.k) ∧ wz.cell? ⟨w.heap.size + 1, 2, none⟩ = some (.int .i64 b.o) ∧ wz.cell? ⟨w.heap.size + 1, 3, none⟩ = some (.int .i64 b.n) ∧ wz.cell? ⟨w.heap.size + 1, 4, none⟩ = some (.slice d1 b.nx.length e1) ∧ wz.cell? ⟨w.heap.size + 1, 5, none⟩ = some (.slice d2 b.out.length e2)) (first | exact hsB | exact hsA | exact hs0) (first | (go_at_call 29; refine (unhide HC1).mono ?_; rintro e wA ⟨f1, g1, f2, g2, rfl, hf1, hf2, hbA⟩; have hbA2 := bstep BXd hbA; have hsA := unhide HKP wA hbA2) | (go_at_call 28; refine (unhide HFW wA f1 g1 f2 g2 hf1 hf2).mono ?_; rintro e wB ⟨vB, rfl, hvB, hbB⟩; have hbB2 := bstep hbA2 hbB; have hsB := unhide HKP wB hbB2))
  obtain ⟨av, cv, ev, -, -, -, -, -⟩ := hvB.shape
  subst ev
  have HV : Hid (OwnL .i64 3 wB w.heap.size (.slice av (o.getD []).length cv) (o.getD [])) := hvB.mono (by have := (unhide HW1).size; have := hbA2.size; omega)
  have HBB := hide (bstep (unhide HW1) hbB2)
  clear hvB hbB hbB2 hbA hbA2 hsA hsB hs0 HKP HFW HC1 hf1 hf2
  go_wp2
  go_ret3
  rw [unhide HZ]
  exact ⟨_, rfl, unhide HV, unhide HBB⟩

set_option maxRecDepth 100000 in
set_option maxHeartbeats 2000000 in
theorem equal_any' (a b : Mc) (a1 : Option Addr) (c1 : Nat) (a2 : Option Addr) (c2 : Nat) (d1 : Option Addr) (e1 : Nat) (d2 : Option Addr) (e2 : Nat) (w : World) (o : Option (List Int)) (ha : MA w a a1 c1 a2 c2) (hb : MA w b d1 e1 d2 e2) (ho : SeR a b o) :
    Calls Try.prog 13 #[mval a a1 c1 a2 c2, mval b d1 e1 d2 e2] w fun e w' => EqPost a b o w e w' := by
  obtain ⟨w0, hw0⟩ : ∃ w0, w0 = (w.alloc (.cells #[.int .i64 a.kind, .int .i64 a.k, .int .i64 a.o, .int .i64 a.n, .slice a1 a.nx.length c1, .slice a2 a.out.length c2] 24)).alloc (.cells #[.int .i64 b.kind, .int .i64 b.k, .int .i64 b.o, .int .i64 b.n, .slice d1 b.nx.length e1, .slice d2 b.out.length e2] 24) := ⟨_, rfl⟩
  have b0 : Below w.heap.size w w0 := by rw [hw0]; exact bstep (ballo _ _) (ballo _ _)
  have HC := hide (separate_any a b a1 c1 a2 c2 d1 e1 d2 e2 w0 o (ha.below b0) (hb.below b0) ho)
  unfold mval at HC ⊢
  have HW : Hid (Below w.heap.size w w0) := b0
  clear b0 ha hb ho
  go_enter Try.func13, Try.ntmps13
  go_wp2_with fail
  rw [← hw0]
  refine (unhide HC).mono ?_
  rintro e w1 ⟨v, rfl, -, hb1⟩
  have HW1 := hide (bstep (unhide HW) hb1)
  clear HC HW hw0 hb1
  obtain ⟨E, hE⟩ : ∃ E, E = seE a b := ⟨_, rfl⟩
  have HS := hide hE
  obtain ⟨os, hos⟩ : ∃ os, os = o.isSome := ⟨_, rfl⟩
  have HOS := hide hos
  rw [← hE, ← hos]
  clear hE hos
  by_cases hz : E = 0
  · have tz : (E == 0) = true := by simp [hz]
    have HZ : Hid (decide (E = 0) = true) := decide_eq_true hz
    clear hz
    go_wp2
    go_ret2
    refine ⟨?_, unhide HW1⟩
    rw [← unhide HS, ← unhide HOS, unhide HZ]
    rfl
  · have tz : (E == 0) = false := by simp [hz]
    have HZ : Hid (decide (E = 0) = false) := decide_eq_false hz
    clear hz
    go_wp2
    go_ret2
    refine ⟨?_, unhide HW1⟩
    rw [← unhide HS, ← unhide HOS, unhide HZ]
    rfl

set_option maxRecDepth 100000 in
set_option maxHeartbeats 2000000 in
theorem apart_any' (m : Mc) (a1 : Option Addr) (c1 : Nat) (a2 : Option Addr) (c2 : Nat) (s t : Int) (w : World) (o : Option (List Int)) (hm : MA w m a1 c1 a2 c2) (ho : ApR m s t o) :
    Calls Try.prog 17 #[mval m a1 c1 a2 c2, .int .i64 s, .int .i64 t] w fun e w' => SePost o (apE m s t) w e w' := by
  have b0 := ballo w (.cells #[.int .i64 m.kind, .int .i64 m.k, .int .i64 m.o, .int .i64 m.n, .slice a1 m.nx.length c1, .slice a2 m.out.length c2] 24)
  have A0 := Box.alloc w m a1 c1 a2 c2 24
  have HC := hide (mcheck_any m a1 c1 a2 c2 _ (hm.below b0).r1 (hm.below b0).r2 hm.m1 hm.m2)
  unfold mval at HC ⊢
  have HA := hide A0
  have HW := hide b0
  have HO := hide ho
  have HM := hide hm
  clear A0 b0 ho hm
  go_enter Try.func17, Try.ntmps17
  go_wp2_with fail
  refine (unhide HC).mono ?_
  rintro e w1 ⟨rfl, hb1⟩
  have HW1 := hide (bstep (unhide HW) hb1)
  have HA1 := hide ((unhide HA).below hb1)
  clear HC HA HW hb1
  by_cases hz : (mchV m).2 = 0
  rotate_left
  · have tz := ne_bne' hz
    have HS := hide (apE_m (s := s) (t := t) hz)
    have HE : Hid (o = none) := (unhide HO).2 (by rw [unhide HS]; exact hz)
    clear hz
    generalize (mchV m).2 = E at *
    go_wp2
    go_ret3
    rw [unhide HE, unhide HS]
    exact ⟨_, rfl, OwnL.nil _ _ _ _, unhide HW1⟩
  have HZ := hide hz
  rw [hz]
  clear hz
  obtain ⟨p0, p1, p2, p3, p4, p5⟩ := unhide HA1
  have HI1 := hide (isState_any m a1 c1 a2 c2 s w1)
  unfold mval at HI1
  by_cases hs : 0 ≤ s ∧ s < m.n
  rotate_left
  · have HS := hide (apE_s (s := s) (t := t) (unhide HZ) (by omega))
    have HE : Hid (o = none) := (unhide HO).2 (by rw [unhide HS]; decide)
    rw [decide_eq_false hs] at HI1
    clear hs
    go_wp2_with fail
    refine (unhide HI1).mono ?_
    rintro e w2 ⟨rfl, hb2⟩
    have HW2 := hide (bstep (unhide HW1) hb2)
    clear HI1 p0 p1 p2 p3 p4 p5 hb2
    go_wp2
    go_ret3
    rw [unhide HE, unhide HS]
    exact ⟨_, rfl, OwnL.nil _ _ _ _, unhide HW2⟩
  rw [decide_eq_true hs] at HI1
  obtain ⟨S, hS⟩ := Int.eq_ofNat_of_zero_le hs.1
  subst hS
  have HSS := hide hs.2
  clear hs
  go_wp2_with fail
  refine (unhide HI1).mono ?_
  rintro e w2 ⟨rfl, hb2⟩
  have HW2 := hide (bstep (unhide HW1) hb2)
  have HA2 := hide ((unhide HA1).below hb2)
  clear HI1 p0 p1 p2 p3 p4 p5 hb2 HA1 HW1
  obtain ⟨p0, p1, p2, p3, p4, p5⟩ := unhide HA2
  have HI1 := hide (isState_any m a1 c1 a2 c2 t w2)
  unfold mval at HI1
  by_cases hs : 0 ≤ t ∧ t < m.n
  rotate_left
  · have HS := hide (apE_s (s := (S : Int)) (t := t) (unhide HZ) (by omega))
    have HE : Hid (o = none) := (unhide HO).2 (by rw [unhide HS]; decide)
    rw [decide_eq_false hs] at HI1
    clear hs
    go_wp2_with fail
    refine (unhide HI1).mono ?_
    rintro e w3 ⟨rfl, hb3⟩
    have HW3 := hide (bstep (unhide HW2) hb3)
    clear HI1 p0 p1 p2 p3 p4 p5 hb3
    go_wp2
    go_ret3
    rw [unhide HE, unhide HS]
    exact ⟨_, rfl, OwnL.nil _ _ _ _, unhide HW3⟩
  rw [decide_eq_true hs] at HI1
  obtain ⟨T, hT⟩ := Int.eq_ofNat_of_zero_le hs.1
  subst hT
  have HTT := hide hs.2
  clear hs
  go_wp2_with fail
  refine (unhide HI1).mono ?_
  rintro e w3 ⟨rfl, hb3⟩
  have HW3 := hide (bstep (unhide HW2) hb3)
  have HA3 := hide ((unhide HA2).below hb3)
  clear HI1 p0 p1 p2 p3 p4 p5 hb3 HA2 HW2
  obtain ⟨p0, p1, p2, p3, p4, p5⟩ := unhide HA3
  have HS := hide (apE_ok (s := (S : Int)) (t := (T : Int)) (unhide HZ) (by omega) (unhide HSS) (by omega) (unhide HTT))
  have HC := hide (firstWord_any m a1 c1 a2 c2 S T w3 o (right_of (unhide HZ)) ((unhide HM).below (unhide HW3)).r1 ((unhide HM).below (unhide HW3)).r2 (unhide HSS) (unhide HTT) ((unhide HO).1 (unhide HS)))
  unfold mval pvl at HC
  dsimp only at HC
  go_wp2_with fail
  refine (unhide HC).mono ?_
  rintro e w4 ⟨v, rfl, hv, hb4⟩
  have HV := hide hv
  have HB4 := hide (bstep (unhide HW3) hb4)
  have HZ3 := hide (unhide HW3).size
  obtain ⟨av, cv, ev, -, -, -, -, -⟩ := hv.shape
  clear hv hb4 HC p0 p1 p2 p3 p4 p5
  subst ev
  go_wp2
  go_ret3
  rw [unhide HS]
  exact ⟨_, rfl, OwnL.mono (unhide HV) (unhide HZ3), unhide HB4⟩

theorem dctr : DCtr := ⟨separate_any, equal_any', apart_any'⟩
end Go.Proofs.Ytknefgdcnacfoaa
