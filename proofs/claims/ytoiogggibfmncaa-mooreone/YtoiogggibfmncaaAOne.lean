/-
  The law MooreOne, walked: it returns true, whatever the two tables.
-/
import Derived.Test.YtoiogggibfmncaaK12
import Derived.Test.YtoiogggibfmncaaAApart
import Derived.Test.YtoiogggibfmncaaMSame2
import Derived.Deep.CutRange
import Derived.Deep.RegionHeld
namespace Go.Proofs.Ytoiogggibfmncaa
open Go.RowKit

theorem bx6 {w : World} {b : Nat} {m : Mc} {a1 : Option Addr} {c1 : Nat} {a2 : Option Addr} {c2 : Nat} (h : Box w b m a1 c1 a2 c2) :
    w.cell? ⟨b, 0, none⟩ = some (.int .i64 m.kind) ∧ w.cell? ⟨b, 1, none⟩ = some (.int .i64 m.k) ∧ w.cell? ⟨b, 2, none⟩ = some (.int .i64 m.o) ∧ w.cell? ⟨b, 3, none⟩ = some (.int .i64 m.n) ∧ w.cell? ⟨b, 4, none⟩ = some (.slice a1 m.nx.length c1) ∧ w.cell? ⟨b, 5, none⟩ = some (.slice a2 m.out.length c2) :=
  ⟨h.p0, h.p1, h.p2, h.p3, h.p4, h.p5⟩
theorem mnV_zero {m A : Mc} (h : mnV m = (A, 0)) : Full m ∧ A = minM m := by
  by_cases hz : (mchV m).2 = 0
  · rw [mnV_ok hz] at h
    exact ⟨full_of hz, (congrArg Prod.fst h).symm⟩
  · rw [mnV_err hz] at h
    exact absurd (congrArg Prod.snd h) hz
theorem one_iff {m o A B : Mc} (hA : mnV m = (A, 0)) (hB : mnV o = (B, 0)) (hkd : A.kind = B.kind) (hk : A.k = B.k) (ho : A.o = B.o) :
    (Full m ∧ Full o ∧ o.kind = m.kind ∧ o.k = m.k) ∧ (sameM A B = true ↔ Same2 m 0 o 0) := by
  obtain ⟨F, rfl⟩ := mnV_zero hA
  obtain ⟨G, rfl⟩ := mnV_zero hB
  have k1 : o.kind = m.kind := hkd.symm
  have k2 : o.k = m.k := hk.symm
  have k3 : o.o = m.o := ho.symm
  refine ⟨⟨F, G, k1, k2⟩, ?_⟩
  rw [sameM_iff hkd hk ho]
  exact ⟨fun e => same_of_min F G k2 e.symm, fun h => (min_unique F G k1 k2 k3 h).symm⟩
theorem lapart_same (m o : Mc) (a1 : Option Addr) (c1 : Nat) (a2 : Option Addr) (c2 : Nat) (d1 : Option Addr) (e1 : Nat) (d2 : Option Addr) (e2 : Nat) (w : World) (R : Right m) (Q : Right o) (hkd : o.kind = m.kind) (hk : o.k = m.k) (h1 : RdL .i64 w a1 m.nx) (h2 : RdL .i64 w a2 m.out) (g1 : RdL .i64 w d1 o.nx) (g2 : RdL .i64 w d2 o.out) (z : Bool) (h : z = true ↔ Same2 m 0 o 0) :
    Calls Try.prog 24 #[mval m a1 c1 a2 c2, mval o d1 e1 d2 e2] w fun e w' => e = .returned (.bool (!z)) ∧ Below w.heap.size w w' := by
  refine (lapart_any m o a1 c1 a2 c2 d1 e1 d2 e2 w R Q hkd hk h1 h2 g1 g2).mono ?_
  rintro e w' ⟨b, rfl, hb, hB⟩
  have e : b = !z := by
    cases z
    · exact hb.2 fun hs => by have := h.2 hs; cases this
    · cases b
      · rfl
      · exact absurd (h.1 rfl) (hb.1 rfl)
  rw [e]
  exact ⟨rfl, hB⟩

set_option maxRecDepth 100000 in
set_option maxHeartbeats 4000000 in
theorem mooreOne_walk (m : Mc) (a1 : Option Addr) (c1 : Nat) (a2 : Option Addr) (c2 : Nat) (o : Mc) (d1 : Option Addr) (e1 : Nat) (d2 : Option Addr) (e2 : Nat) (w : World) (h0 : ArgM w m a1 c1 a2 c2) (g0 : ArgM w o d1 e1 d2 e2) :
    Calls Try.prog 7 #[mval m a1 c1 a2 c2, mval o d1 e1 d2 e2] w fun e w' => e = .returned (.bool true) ∧ Below w.heap.size w w' := by
  unfold mval
  obtain ⟨w2, hw2⟩ : ∃ w2, w2 = (w.alloc (.cells #[.int .i64 m.kind, .int .i64 m.k, .int .i64 m.o, .int .i64 m.n, .slice a1 m.nx.length c1, .slice a2 m.out.length c2] 24)).alloc (.cells #[.int .i64 o.kind, .int .i64 o.k, .int .i64 o.o, .int .i64 o.n, .slice d1 o.nx.length e1, .slice d2 o.out.length e2] 24) := ⟨_, rfl⟩
  have b2 : Below w.heap.size w w2 := by rw [hw2]; exact bstep (ballo _ _) (ballo _ _)
  have B2 : Box w2 w.heap.size m a1 c1 a2 c2 := by rw [hw2]; exact (Box.alloc w m a1 c1 a2 c2 24).below (ballo _ _)
  have C2 : Box w2 (w.heap.size + 1) o d1 e1 d2 e2 := by
    have := Box.alloc (w.alloc (.cells #[.int .i64 m.kind, .int .i64 m.k, .int .i64 m.o, .int .i64 m.n, .slice a1 m.nx.length c1, .slice a2 m.out.length c2] 24)) o d1 e1 d2 e2 24
    rw [hw2]
    simp only [World.size_alloc] at this
    exact this
  obtain ⟨A, ea, hA⟩ : ∃ A ea, mnV m = (A, ea) := ⟨_, _, rfl⟩
  obtain ⟨B, eb, hB⟩ : ∃ B eb, mnV o = (B, eb) := ⟨_, _, rfl⟩
  have HA := hide hA
  have HB := hide hB
  have HW2 := hide hw2
  clear hA hB hw2
  go_enter Try.func7, Try.ntmps7
  go_wp2_with fail
  rw [← unhide HW2]
  clear HW2
  refine (big_any 12 m a1 c1 a2 c2 _).mono ?_
  rintro e w3 ⟨rfl, hb3⟩
  have b3 := bstep b2 hb3
  have B3 := B2.below hb3
  have C3 := C2.below hb3
  clear hb3 B2 C2 b2
  obtain ⟨p0, p1, p2, p3, p4, p5⟩ := id B3
  obtain ⟨q0, q1, q2, q3, q4, q5⟩ := id C3
  cases hbm : bigB 12 m
  rotate_left
  · go_wp2_with (go_at_call 10; refine (live_any _).mono ?_; rintro e wl ⟨rfl, hbl⟩)
    go_ret
    exact ⟨rfl, bstep b3 hbl⟩
  obtain ⟨-, mn, mo⟩ := big_bounds hbm
  have mn : m.nx.length ≤ maxLen := by unfold maxLen; omega
  have mo : m.out.length ≤ maxLen := by unfold maxLen; omega
  clear hbm
  go_wp2_with fail
  refine (big_any 12 o d1 e1 d2 e2 _).mono ?_
  rintro e w4 ⟨rfl, hb4⟩
  have b4 := bstep b3 hb4
  have B4 := B3.below hb4
  have C4 := C3.below hb4
  clear hb4 B3 C3 b3 p0 p1 p2 p3 p4 p5 q0 q1 q2 q3 q4 q5
  obtain ⟨p0, p1, p2, p3, p4, p5⟩ := id B4
  obtain ⟨q0, q1, q2, q3, q4, q5⟩ := id C4
  cases hbo : bigB 12 o
  rotate_left
  · go_wp2_with (go_at_call 10; refine (live_any _).mono ?_; rintro e wl ⟨rfl, hbl⟩)
    go_ret
    exact ⟨rfl, bstep b4 hbl⟩
  obtain ⟨-, on, oo⟩ := big_bounds hbo
  have on : o.nx.length ≤ maxLen := by unfold maxLen; omega
  have oo : o.out.length ≤ maxLen := by unfold maxLen; omega
  clear hbo
  go_wp2_with fail
  refine (minimise_any m a1 c1 a2 c2 w4 (h0.nx.rd.below b4) (h0.out.rd.below b4) h0.out.le mn mo).mono ?_
  rw [unhide HA]
  rintro e w5 ⟨s1, t1, s2, t2, rfl, i1, i2, -, hb5⟩
  dsimp only at i1 i2 ⊢
  obtain ⟨_, _, E1, -, l1, l1', r1, -⟩ := i1.shape
  cases E1
  obtain ⟨_, _, E2, -, l2, l2', r2, -⟩ := i2.shape
  cases E2
  have An : A.nx.length ≤ maxLen := by omega
  have Ao : A.out.length ≤ maxLen := by omega
  have y5 := ballo w5 (.cells #[.int .i64 A.kind, .int .i64 A.k, .int .i64 A.o, .int .i64 A.n, .slice s1 A.nx.length t1, .slice s2 A.out.length t2] 24)
  have x5 := bstep hb5 y5
  have b5 := bstep b4 x5
  have B5 := B4.below x5
  have C5 := C4.below x5
  have D5 := Box.alloc w5 A s1 t1 s2 t2 24
  have r1 := r1.below y5
  have r2 := r2.below y5
  clear i1 i2 hb5 p0 p1 p2 p3 p4 p5 q0 q1 q2 q3 q4 q5 B4 C4 b4 x5 y5
  obtain ⟨p0, p1, p2, p3, p4, p5⟩ := id B5
  obtain ⟨q0, q1, q2, q3, q4, q5⟩ := id C5
  unfold mval
  go_wp2_with fail
  refine (minimise_any o d1 e1 d2 e2 _ (g0.nx.rd.below b5) (g0.out.rd.below b5) g0.out.le on oo).mono ?_
  rw [unhide HB]
  rintro e w6 ⟨u1, v1, u2, v2, rfl, i1, i2, -, hb6⟩
  dsimp only at i1 i2 ⊢
  obtain ⟨_, _, E1, -, -, -, k1, -⟩ := i1.shape
  cases E1
  obtain ⟨_, _, E2, -, -, -, k2, -⟩ := i2.shape
  cases E2
  have y6 := ballo w6 (.cells #[.int .i64 B.kind, .int .i64 B.k, .int .i64 B.o, .int .i64 B.n, .slice u1 B.nx.length v1, .slice u2 B.out.length v2] 24)
  have x6 := bstep hb6 y6
  have b6 := bstep b5 x6
  have B6 := B5.below x6
  have C6 := C5.below x6
  have D6 := D5.below x6
  have E6 := Box.alloc w6 B u1 v1 u2 v2 24
  have r1 := r1.below x6
  have r2 := r2.below x6
  have k1 := k1.below y6
  have k2 := k2.below y6
  clear i1 i2 hb6 p0 p1 p2 p3 p4 p5 q0 q1 q2 q3 q4 q5 B5 C5 D5 b5 x6 y6
  obtain ⟨w7, hw7⟩ : ∃ w7, w7 = w6.alloc (.cells #[.int .i64 B.kind, .int .i64 B.k, .int .i64 B.o, .int .i64 B.n, .slice u1 B.nx.length v1, .slice u2 B.out.length v2] 24) := ⟨_, rfl⟩
  rw [← hw7] at b6 B6 C6 D6 E6 r1 r2 k1 k2
  have HW7 := hide hw7
  clear hw7
  obtain ⟨p0, p1, p2, p3, p4, p5⟩ := id D6
  obtain ⟨q0, q1, q2, q3, q4, q5⟩ := id E6
  unfold mval
  go_upto_region 5 with fail
  rw [← unhide HW7]
  go_cut [54] from 9 to 53 (fun v wx => w7 = wx ∧ (v = .bool true ∨ v = .bool false ∧ ea = 0 ∧ eb = 0 ∧ A.kind = B.kind ∧ A.k = B.k ∧ A.o = B.o))
  case first =>
    by_cases hea : ea = 0
    rotate_left
    · have tz := ne_bne hea
      clear hea
      go_wp2_with (go_at_call 15; refine (num_any _ _).mono ?_; rintro e w' ⟨rfl, rfl⟩)
      go_meet
      exact ⟨rfl, .inl rfl⟩
    by_cases heb : eb = 0
    rotate_left
    · have tz := ne_bne heb
      subst hea
      clear heb
      go_wp2_with (go_at_call 15; refine (num_any _ _).mono ?_; rintro e w' ⟨rfl, rfl⟩)
      go_meet
      exact ⟨rfl, .inl rfl⟩
    subst hea heb
    by_cases hkd : A.kind = B.kind
    rotate_left
    · have tz : (A.kind != B.kind) = true := bne_iff_ne.2 hkd
      clear hkd
      go_wp2_with (go_at_call 15; refine (num_any _ _).mono ?_; rintro e w' ⟨rfl, rfl⟩)
      go_meet
      exact ⟨rfl, .inl rfl⟩
    have tkd : (A.kind != B.kind) = false := by simp [hkd]
    by_cases hk : A.k = B.k
    rotate_left
    · have tz : (A.k != B.k) = true := bne_iff_ne.2 hk
      clear hk hkd
      go_wp2_with (go_at_call 15; refine (num_any _ _).mono ?_; rintro e w' ⟨rfl, rfl⟩)
      go_meet
      exact ⟨rfl, .inl rfl⟩
    have tk : (A.k != B.k) = false := by simp [hk]
    by_cases ho : A.o = B.o
    rotate_left
    · have tz : (A.o != B.o) = true := bne_iff_ne.2 ho
      clear hk hkd ho
      go_wp2_with (go_at_call 15; refine (num_any _ _).mono ?_; rintro e w' ⟨rfl, rfl⟩)
      go_meet
      exact ⟨rfl, .inl rfl⟩
    have tob : (A.o != B.o) = false := by simp [ho]
    go_wp2_with (go_at_call 15; refine (num_any _ _).mono ?_; rintro e w' ⟨rfl, rfl⟩)
    go_meet
    exact ⟨rfl, .inr ⟨rfl, by trivial, by trivial, hkd, hk, ho⟩⟩
  case rest =>
    obtain ⟨rfl, hv⟩ := hcut
    rcases hv with rfl | ⟨rfl, rfl, rfl, hkd, hk, ho⟩
    · go_wp2_with (go_at_call 10; refine (live_any _).mono ?_; rintro e wl ⟨rfl, hbl⟩)
      go_ret
      exact ⟨rfl, bstep b6 hbl⟩
    clear p0 p1 p2 p3 p4 p5 q0 q1 q2 q3 q4 q5
    go_wp2_with fail
    obtain ⟨p0, p1, p2, p3, p4, p5⟩ := id D6
    obtain ⟨q0, q1, q2, q3, q4, q5⟩ := id E6
    have HI := hide (one_iff (unhide HA) (unhide HB) hkd hk ho)
    have HKD := hide hkd
    have HK := hide hk
    have HO := hide ho
    clear HA HB hkd hk ho
    obtain ⟨⟨F, G, kd', kk'⟩, hiff⟩ := unhide HI
    have HF := hide F
    have HG := hide G
    have HKD' := hide kd'
    have HKK' := hide kk'
    have x8 := bdrew1 w7
    have b8 := bstep b6 x8
    have HSM := hide (msame2_any A B s1 t1 s2 t2 u1 v1 u2 v2 w7.drew (r1.below x8) (r2.below x8) (k1.below x8) (k2.below x8) An Ao (unhide HKD) (unhide HK) (unhide HO))
    obtain ⟨z, hz⟩ : ∃ z, z = sameM A B := ⟨_, rfl⟩
    rw [← hz] at HSM hiff
    have HIF := hide hiff
    have DD := hide (D6.below x8)
    have EE := hide (E6.below x8)
    have BB := hide (B6.below x8)
    have CC := hide (C6.below x8)
    have hs0 := And.intro (bx6 (unhide DD)) (And.intro (bx6 (unhide EE)) (And.intro (bx6 (unhide BB)) (bx6 (unhide CC))))
    clear HI hiff F G kd' kk' hz B6 C6 D6 E6 r1 r2 k1 k2 HKD HK HO HW7 An Ao mn mo on oo l1 l1' l2 l2' x8 p0 p1 p2 p3 p4 p5 q0 q1 q2 q3 q4 q5
    go_region_held (fun wz => (wz.cell? ⟨w5.heap.size, 0, none⟩ = some (.int .i64 A.kind) ∧ wz.cell? ⟨w5.heap.size, 1, none⟩ = some (.int .i64 A.k) ∧ wz.cell? ⟨w5.heap.size, 2, none⟩ = some (.int .i64 A.o) ∧ wz.cell? ⟨w5.heap.size, 3, none⟩ = some (.int .i64 A.n) ∧ wz.cell? ⟨w5.heap.size, 4, none⟩ = some (.slice s1 A.nx.length t1) ∧ wz.cell? ⟨w5.heap.size, 5, none⟩ = some (.slice s2 A.out.length t2)) ∧ (wz.cell? ⟨w6.heap.size, 0, none⟩ = some (.int .i64 B.kind) ∧ wz.cell? ⟨w6.heap.size, 1, none⟩ = some (.int .i64 B.k) ∧ wz.cell? ⟨w6.heap.size, 2, none⟩ = some (.int .i64 B.o) ∧ wz.cell? ⟨w6.heap.size, 3, none⟩ = some (.int .i64 B.n) ∧ wz.cell? ⟨w6.heap.size, 4, none⟩ = some (.slice u1 B.nx.length v1) ∧ wz.cell? ⟨w6.heap.size, 5, none⟩ = some (.slice u2 B.out.length v2)) ∧ (wz.cell? ⟨w.heap.size, 0, none⟩ = some (.int .i64 m.kind) ∧ wz.cell? ⟨w.heap.size, 1, none⟩ = some (.int .i64 m.k) ∧ wz.cell? ⟨w.heap.size, 2, none⟩ = some (.int .i64 m.o) ∧ wz.cell? ⟨w.heap.size, 3, none⟩ = some (.int .i64 m.n) ∧ wz.cell? ⟨w.heap.size, 4, none⟩ = some (.slice a1 m.nx.length c1) ∧ wz.cell? ⟨w.heap.size, 5, none⟩ = some (.slice a2 m.out.length c2)) ∧ (wz.cell? ⟨w.heap.size + 1, 0, none⟩ = some (.int .i64 o.kind) ∧ wz.cell? ⟨w.heap.size + 1, 1, none⟩ = some (.int .i64 o.k) ∧ wz.cell? ⟨w.heap.size + 1, 2, none⟩ = some (.int .i64 o.o) ∧ wz.cell? ⟨w.heap.size + 1, 3, none⟩ = some (.int .i64 o.n) ∧ wz.cell? ⟨w.heap.size + 1, 4, none⟩ = some (.slice d1 o.nx.length e1) ∧ wz.cell? ⟨w.heap.size + 1, 5, none⟩ = some (.slice d2 o.out.length e2))) (first | exact hs0 | exact hsS | exact hsA | exact hsL)
      (first
        | (go_at_call 16; refine (unhide HSM).mono ?_; rintro e wS ⟨rfl, hbS⟩; have bS := bstep b8 hbS; have DS := (unhide DD).below hbS; have ES := (unhide EE).below hbS; have BS := (unhide BB).below hbS; have CS := (unhide CC).below hbS; have hsS := And.intro (bx6 DS) (And.intro (bx6 ES) (And.intro (bx6 BS) (bx6 CS))))
        | (go_at_call 24; refine (lapart_same m o a1 c1 a2 c2 d1 e1 d2 e2 wS (unhide HF).r (unhide HG).r (unhide HKD') (unhide HKK') (h0.nx.rd.below bS) (h0.out.rd.below bS) (g0.nx.rd.below bS) (g0.out.rd.below bS) _ (unhide HIF)).mono ?_; rintro e wA ⟨rfl, hbA⟩; have bA := bstep bS hbA; have hsA := And.intro (bx6 (DS.below hbA)) (And.intro (bx6 (ES.below hbA)) (And.intro (bx6 (BS.below hbA)) (bx6 (CS.below hbA)))))
        | (go_at_call 10; refine (live_any _).mono ?_; rintro e wl ⟨rfl, hbl⟩; have hsL := And.intro (bx6 ((DS.below hbA).below hbl)) (And.intro (bx6 ((ES.below hbA).below hbl)) (And.intro (bx6 ((BS.below hbA).below hbl)) (bx6 ((CS.below hbA).below hbl))))))
    all_goals
      go_wp2
      go_ret
      exact ⟨rfl, bstep bA hbl⟩

end Go.Proofs.Ytoiogggibfmncaa
