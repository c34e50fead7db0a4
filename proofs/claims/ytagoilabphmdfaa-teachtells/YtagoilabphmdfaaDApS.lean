/-
  What Separate of differ returns.
-/
import Derived.Test.YtagoilabphmdfaaDFst
import Derived.Test.YtagoilabphmdfaaDBes
import Derived.Test.YtagoilabphmdfaaDMis
import Derived.Test.YtagoilabphmdfaaDMa
namespace Go.Proofs.Ytagoilabphmdfaa
open Go.RowKit

theorem uni_sep {a b : Mc} (R : Right a) (Q : Right b) (hkd : b.kind = a.kind) (hk : b.k = a.k) {s t : Int} (s0 : 0 ≤ s) (s1 : s < a.n) (t0 : 0 ≤ t) (t1 : t < b.n) {o : Option (List Int)} (h : SepR a b s t o) : SepR (uniM a b) (uniM a b) s (a.n + t) o := by
  have K : ∀ {w : List Int}, Wrd a.k w → (tls (uniM a b) (uniM a b) s (a.n + t) w ↔ tls a b s t w) := fun hw => uni_tls R Q hkd hk s0 s1 t0 t1 hw
  cases o with
  | none => exact fun v hv ht => h v hv ((K hv).1 ht)
  | some w => exact ⟨h.wd, (K h.wd).2 h.tl, fun v hv ht => h.fst v hv ((K hv).1 ht)⟩

set_option maxRecDepth 100000 in
set_option maxHeartbeats 2000000 in
theorem separate_any (a b : Mc) (a1 : Option Addr) (c1 : Nat) (a2 : Option Addr) (c2 : Nat) (d1 : Option Addr) (e1 : Nat) (d2 : Option Addr) (e2 : Nat) (w : World) (o : Option (List Int)) (ha : MA w a a1 c1 a2 c2) (hb : MA w b d1 e1 d2 e2) (ho : SeR a b o) :
    Calls Try.prog 42 #[mval a a1 c1 a2 c2, mval b d1 e1 d2 e2] w fun e w' => SePost o (seE a b) w e w' := by
  obtain ⟨w0, hw0⟩ : ∃ w0, w0 = (w.alloc (.cells #[.int .i64 a.kind, .int .i64 a.k, .int .i64 a.o, .int .i64 a.n, .slice a1 a.nx.length c1, .slice a2 a.out.length c2] 24)).alloc (.cells #[.int .i64 b.kind, .int .i64 b.k, .int .i64 b.o, .int .i64 b.n, .slice d1 b.nx.length e1, .slice d2 b.out.length e2] 24) := ⟨_, rfl⟩
  have b0 : Below w.heap.size w w0 := by rw [hw0]; exact bstep (ballo _ _) (ballo _ _)
  have A0 : Box w0 w.heap.size a a1 c1 a2 c2 := by rw [hw0]; exact (Box.alloc w a a1 c1 a2 c2 24).below (ballo _ _)
  have B0 : Box w0 (w.heap.size + 1) b d1 e1 d2 e2 := by
    have := Box.alloc (w.alloc (.cells #[.int .i64 a.kind, .int .i64 a.k, .int .i64 a.o, .int .i64 a.n, .slice a1 a.nx.length c1, .slice a2 a.out.length c2] 24)) b d1 e1 d2 e2 24
    rw [hw0]
    simp only [World.size_alloc] at this
    exact this
  have HC := hide (misfit_any a b a1 c1 a2 c2 d1 e1 d2 e2 w0 (ha.below b0).r1 (ha.below b0).r2 (hb.below b0).r1 (hb.below b0).r2 ha.m1 ha.m2 hb.m1 hb.m2)
  unfold mval at HC ⊢
  have HA := hide A0
  have HB := hide B0
  have HMA := hide ha
  have HMB := hide hb
  have HW : Hid (Below w.heap.size w w0) := b0
  have HO := hide ho
  clear A0 B0 b0 ha hb ho
  go_enter Try.func42, Try.ntmps42
  go_wp2_with fail
  rw [← hw0]
  refine (unhide HC).mono ?_
  rintro e w1 ⟨rfl, hb1⟩
  have HW1 := hide (bstep (unhide HW) hb1)
  have HA1 := hide ((unhide HA).below hb1)
  have HB1 := hide ((unhide HB).below hb1)
  clear HC HA HB HW hw0 hb1
  by_cases hz : seE a b = 0
  rotate_left
  · have tz := ne_bne' hz
    have HE : Hid (o = none) := (unhide HO).2 hz
    clear hz
    obtain ⟨E, hE⟩ : ∃ E, E = seE a b := ⟨_, rfl⟩
    rw [← hE] at tz ⊢
    have HS := hide hE
    clear hE
    go_wp2
    go_ret3
    rw [unhide HE, ← unhide HS]
    exact ⟨_, rfl, OwnL.nil _ _ _ _, unhide HW1⟩
  obtain ⟨q1, q2, hkd, hk, hoo⟩ := seE_zero hz
  have R := right_of q1
  have Q := right_of q2
  have HU := hide (uni_right R Q hkd.symm hk.symm hoo.symm (by have := (unhide HMA).b3; have := (unhide HMB).b3; omega))
  have n0 := R.n0
  have n1 := R.n1
  have m0 := Q.n0
  obtain ⟨N, hN⟩ := Int.eq_ofNat_of_zero_le (show 0 ≤ a.n by omega)
  have HSP : Hid (SepR (uniM a b) (uniM a b) ((0 : Nat) : Int) (N : Int) o) := by
    have := uni_sep R Q hkd.symm hk.symm (s := 0) (t := 0) (by omega) (by omega) (by omega) (by omega) ((unhide HO).1 hz)
    rw [Int.add_zero, hN] at this
    exact this
  have HUN : Hid ((N : Int) < (uniM a b).n ∧ (0 : Int) < (uniM a b).n) := ⟨by show (N : Int) < a.n + b.n; omega, by show 0 < a.n + b.n; omega⟩
  have BXd : Below w1.heap.size w1 w1.drew := (Below.refl _ _).drew
  have HC1 := hide (beside_any a b a1 c1 a2 c2 d1 e1 d2 e2 w1.drew R Q (by have := (unhide HMA).b3; have := (unhide HMB).b3; omega) ((unhide HMA).below (bstep (unhide HW1) BXd)).r1 ((unhide HMA).below (bstep (unhide HW1) BXd)).r2 ((unhide HMB).below (bstep (unhide HW1) BXd)).r1 ((unhide HMB).below (bstep (unhide HW1) BXd)).r2 (unhide HMA).b1 (unhide HMA).b2 (unhide HMB).b1 (unhide HMB).b2)
  unfold mval at HC1
  rw [hz]
  have HZ := hide hz
  have HKP : Hid (∀ wz, Below w1.heap.size w1 wz → (wz.cell? ⟨w.heap.size, 0, none⟩ = some (.int .i64 a.kind) ∧ wz.cell? ⟨w.heap.size, 1, none⟩ = some (.int .i64 a.k) ∧ wz.cell? ⟨w.heap.size, 2, none⟩ = some (.int .i64 a.o) ∧ wz.cell? ⟨w.heap.size, 3, none⟩ = some (.int .i64 a.n) ∧ wz.cell? ⟨w.heap.size, 4, none⟩ = some (.slice a1 a.nx.length c1) ∧ wz.cell? ⟨w.heap.size, 5, none⟩ = some (.slice a2 a.out.length c2)) ∧ wz.cell? ⟨w.heap.size + 1, 0, none⟩ = some (.int .i64 b.kind) ∧ wz.cell? ⟨w.heap.size + 1, 1, none⟩ = some (.int .i64 b.k) ∧ wz.cell? ⟨w.heap.size + 1, 2, none⟩ = some (.int .i64 b.o) ∧ wz.cell? ⟨w.heap.size + 1, 3, none⟩ = some (.int .i64 b.n) ∧ wz.cell? ⟨w.heap.size + 1, 4, none⟩ = some (.slice d1 b.nx.length e1) ∧ wz.cell? ⟨w.heap.size + 1, 5, none⟩ = some (.slice d2 b.out.length e2)) := fun wz hz => by
    obtain ⟨p0, p1, p2, p3, p4, p5⟩ := (unhide HA1).below hz
    obtain ⟨q0, q1, q2, q3, q4, q5⟩ := (unhide HB1).below hz
    exact ⟨⟨p0, p1, p2, p3, p4, p5⟩, q0, q1, q2, q3, q4, q5⟩
  have hs0 := unhide HKP w1.drew BXd
  have HFW : Hid (∀ (wz : World) (f1 : Option Addr) (g1 : Nat) (f2 : Option Addr) (g2 : Nat), RdL .i64 wz f1 (uniM a b).nx → RdL .i64 wz f2 (uniM a b).out → Calls Try.prog 56 #[mval (uniM a b) f1 g1 f2 g2, .agg #[.int .i64 0, .int .i64 a.n]] wz fun e w' => ScPost o wz e w') := fun wz f1 g1 f2 g2 h3 h4 => by
    have := firstWord_any (uniM a b) f1 g1 f2 g2 0 N wz o (unhide HU) h3 h4 (unhide HUN).2 (unhide HUN).1 (unhide HSP)
    unfold pvl at this
    rw [hN]
    exact this
  clear hz R Q hkd hk hoo q1 q2 n0 n1 m0 hN
  go_wp2_with fail
  go_region_held (fun wz => (wz.cell? ⟨w.heap.size, 0, none⟩ = some (.int .i64 a.kind) ∧ wz.cell? ⟨w.heap.size, 1, none⟩ = some (.int .i64 a.k) ∧ wz.cell? ⟨w.heap.size, 2, none⟩ = some (.int .i64 a.o) ∧ wz.cell? ⟨w.heap.size, 3, none⟩ = some (.int .i64 a.n) ∧ wz.cell? ⟨w.heap.size, 4, none⟩ = some (.slice a1 a.nx.length c1) ∧ wz.cell? ⟨w.heap.size, 5, none⟩ = some (.slice a2 a.out.length c2)) ∧ wz.cell? ⟨w.heap.size + 1, 0, none⟩ = some (.int .i64 b.kind) ∧ wz.cell? ⟨w.heap.size + 1, 1, none⟩ = some (.int .i64 b.k) ∧ wz.cell? ⟨w.heap.size + 1, 2, none⟩ = some (.int .i64 b.o) ∧ wz.cell? ⟨w.heap.size + 1, 3, none⟩ = some (.int .i64 b.n) ∧ wz.cell? ⟨w.heap.size + 1, 4, none⟩ = some (.slice d1 b.nx.length e1) ∧ wz.cell? ⟨w.heap.size + 1, 5, none⟩ = some (.slice d2 b.out.length e2)) (first | exact hsB | exact hsA | exact hs0) (first | (go_at_call 57; refine (unhide HC1).mono ?_; rintro e wA ⟨f1, g1, f2, g2, rfl, hf1, hf2, hbA⟩; have hbA2 := bstep BXd hbA; have hsA := unhide HKP wA hbA2) | (go_at_call 56; refine (unhide HFW wA f1 g1 f2 g2 hf1 hf2).mono ?_; rintro e wB ⟨vB, rfl, hvB, hbB⟩; have hbB2 := bstep hbA2 hbB; have hsB := unhide HKP wB hbB2))
  obtain ⟨av, cv, ev, -, -, -, -, -⟩ := hvB.shape
  subst ev
  have HV : Hid (OwnL .i64 3 wB w.heap.size (.slice av (o.getD []).length cv) (o.getD [])) := hvB.mono (by have := (unhide HW1).size; have := hbA2.size; omega)
  have HBB := hide (bstep (unhide HW1) hbB2)
  clear hvB hbB hbB2 hbA hbA2 hsA hsB hs0 HKP HFW HC1 hf1 hf2
  go_wp2
  go_ret3
  rw [unhide HZ]
  exact ⟨_, rfl, unhide HV, unhide HBB⟩

end Go.Proofs.Ytagoilabphmdfaa
