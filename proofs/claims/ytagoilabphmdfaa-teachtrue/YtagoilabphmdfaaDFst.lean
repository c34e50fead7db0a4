/-
  What firstWord of differ returns: the first word that tells two states apart.
-/
import Derived.Test.YtagoilabphmdfaaK20
import Derived.Deep.RegionHeld
import Derived.Deep.CutRange
import Derived.WalkMore
namespace Go.Proofs.Ytagoilabphmdfaa
open Go.RowKit Go.Maps

set_option maxRecDepth 100000 in
set_option maxHeartbeats 4000000 in
theorem firstWord_any (m : Mc) (a1 : Option Addr) (c1 : Nat) (a2 : Option Addr) (c2 : Nat) (s t : Nat) (w : World) (o : Option (List Int)) (R : Right m) (h1 : RdL .i64 w a1 m.nx) (h2 : RdL .i64 w a2 m.out) (hs : (s : Int) < m.n) (ht : (t : Int) < m.n) (ho : SepR m m s t o) :
    Calls Try.prog 56 #[mval m a1 c1 a2 c2, pvl ((s : Int), (t : Int))] w fun e w' => ScPost o w e w' := by
  obtain ⟨w0, hw0⟩ : ∃ w0, w0 = (w.alloc (.cells #[.int .i64 m.kind, .int .i64 m.k, .int .i64 m.o, .int .i64 m.n, .slice a1 m.nx.length c1, .slice a2 m.out.length c2] 24)).alloc (.cells #[.int .i64 (s : Int), .int .i64 (t : Int)] 114) := ⟨_, rfl⟩
  have b0 : Below w.heap.size w w0 := by rw [hw0]; exact bstep (ballo _ _) (ballo _ _)
  have A0 : Box w0 w.heap.size m a1 c1 a2 c2 := by rw [hw0]; exact (Box.alloc w m a1 c1 a2 c2 24).below (ballo _ _)
  have B0 : Bxp w0 (w.heap.size + 1) ((s : Int), (t : Int)) := by
    refine Bxp.of (t := 114) ?_
    rw [hw0]
    have := heap_alloc_new (w.alloc (.cells #[.int .i64 m.kind, .int .i64 m.k, .int .i64 m.o, .int .i64 m.n, .slice a1 m.nx.length c1, .slice a2 m.out.length c2] 24)) (.cells #[.int .i64 (s : Int), .int .i64 (t : Int)] 114)
    rw [World.size_alloc] at this
    exact this
  have z0 : w0.heap.size = w.heap.size + 2 := by rw [hw0]; simp
  have n0 := R.n0
  have n1 := R.n1
  have k0 := R.k0
  have k1 := R.k1
  obtain ⟨k, hk⟩ := Int.eq_ofNat_of_zero_le (show 0 ≤ m.k by omega)
  obtain ⟨n, hn⟩ := Int.eq_ofNat_of_zero_le (show 0 ≤ m.n by omega)
  have HR := hide R
  have HK := hide hk
  have HN := hide hn
  have HO := hide ho
  have HIP : Hid (InP m m ((s : Int), (t : Int))) := ⟨⟨by show (0 : Int) ≤ s; omega, hs⟩, by show (0 : Int) ≤ t; omega, ht⟩
  have HA := hide A0
  have HB := hide B0
  have HZ := hide z0
  have HW : Hid (Below w.heap.size w w0) := b0
  obtain ⟨p0, p1, p2, p3, p4, p5⟩ := A0
  obtain ⟨q0, q1, -, -⟩ := B0
  have q0 : w0.cell? ⟨w.heap.size + 1, 0, none⟩ = some (.int .i64 (s : Int)) := q0
  have q1 : w0.cell? ⟨w.heap.size + 1, 1, none⟩ = some (.int .i64 (t : Int)) := q1
  unfold mval pvl
  clear R hk hn ho z0
  go_enter Try.func56, Try.ntmps56
  go_wp2
  go_step3
  go_wp2
  rw [← hw0]
  clear hw0
  go_cut [30] from 13 to 29 (fun v wx => v = .bool (tl0B m m s t) ∧ Below w0.heap.size w0 wx)
  case first =>
    by_cases hkd : m.kind = 1
    · have ol := (unhide HR).outD hkd
      have hsl : s < m.out.length := by omega
      have htl : t < m.out.length := by omega
      obtain ⟨b8, off8, e8, hm8⟩ := (h2.below b0).at hsl
      subst e8
      have cs := hm8 s hsl
      have ct := hm8 t htl
      have tk : (m.kind == 1) = true := by simp [hkd]
      have HT : Hid (tl0B m m s t = (m.out.getD s 0 != m.out.getD t 0)) := by
        show _ = _
        unfold tl0B
        simp [hkd]
      have hsl' : (s : Int) < (m.out.length : Int) := by omega
      have htl' : (t : Int) < (m.out.length : Int) := by omega
      clear hm8 hkd ol b0
      generalize m.out.getD s 0 = x at *
      generalize m.out.getD t 0 = y at *
      go_quiet (fail)
      go_wp2
      go_meet
      exact ⟨by rw [unhide HT], below_drewN (Below.refl _ _) _⟩
    · have tk : (m.kind == 1) = false := by simp [hkd]
      have HT : Hid (tl0B m m s t = false) := by
        show _ = _
        unfold tl0B
        simp [hkd]
      clear hkd b0
      go_quiet (fail)
      go_wp2
      go_meet
      exact ⟨by rw [unhide HT], below_drewN (Below.refl _ _) _⟩
  case rest =>
    obtain ⟨rfl, hbc⟩ := hcut
    have HWc := hide ((unhide HW).trans (hbc.mono (unhide HW).size))
    have HAc := hide ((unhide HA).below hbc)
    have HBc := hide ((unhide HB).keep (hbc.block _ (unhide HB).lt))
    have hzc : w.heap.size + 2 ≤ wc.heap.size := by have := hbc.size; have := unhide HZ; omega
    clear p0 p1 p2 p3 p4 p5 q0 q1 hbc HA HB HW HZ b0
    cases htl : tl0B m m s t
    rotate_left
    · have HE : Hid (o = some []) := SepR.one (unhide HO) (show SepR m m s t (some []) from sep_now rfl (tl0B_iff.1 htl))
      clear htl
      go_wp2
      try rw [Exit.noGoto_ret]
      go_ret2
      rw [unhide HE]
      exact ⟨_, rfl, OwnL.nil _ _ _ _, unhide HWc⟩
    have HNT : Hid (¬ tl0 m m s t) := fun c => by rw [tl0B_iff.2 c] at htl; cases htl
    clear htl
    obtain ⟨p0, p1, p2, p3, p4, p5⟩ := unhide HAc
    rw [unhide HN] at p3
    have hmm := @run_makeMap Try.prog
    obtain ⟨w2, hw2⟩ : ∃ w2, w2 = wc.alloc (.map #[] 0) := ⟨_, rfl⟩
    have b2 : Below wc.heap.size wc w2 := by rw [hw2]; exact ballo _ _
    have z2 : w2.heap.size = wc.heap.size + 1 := by rw [hw2]; simp
    have HM2 : Hid (UMap w2 wc.heap.size 0 [((s : Int), (t : Int))] [((0, 0), 0)]) := by rw [hw2]; exact UMap.start _ _ _
    have r3 : w2.cell? ⟨w.heap.size, 3, none⟩ = some (.int .i64 (n : Int)) := (b2.cell (by show w.heap.size < _; omega)).trans p3
    rw [hw2] at r3
    have hn1 : 1 ≤ n := by have := unhide HN; omega
    have hn2 : n ≤ 1024 := by have := unhide HN; omega
    have HC := hide (newTies_any n w2 hn1 (by omega))
    clear p0 p1 p2 p4 p5
    go_wp2_with fail
    rw [← hw2]
    refine (unhide HC).mono ?_
    rintro e w3 ⟨gb, rfl, ho3, hb3⟩
    have hsn : s < n := by have := unhide HN; omega
    have htn : t < n := by have := unhide HN; omega
    have z23 := hb3.size
    have hgb := ho3.lt
    have HM3 := hide ((unhide HM2).below hb3)
    have HW3 := hide (bstep (unhide HWc) (bstep b2 hb3))
    have HB3 := hide ((unhide HBc).keep ((bstep b2 hb3).block _ (unhide HBc).lt))
    have HA3 := hide ((unhide HAc).below (bstep b2 hb3))
    have HC4 := hide (tie_any w2.heap.size gb n s t w3 (UF.start n) ho3 (by omega) hsn htn)
    have HD3 : Hid (Below wc.heap.size wc w3) := bstep b2 hb3
    obtain ⟨r0, r1, -, -⟩ := unhide HB3
    have r0 : w3.cell? ⟨w.heap.size + 1, 0, none⟩ = some (.int .i64 (s : Int)) := r0
    have r1 : w3.cell? ⟨w.heap.size + 1, 1, none⟩ = some (.int .i64 (t : Int)) := r1
    clear HC r3 p3 ho3 hb3 hw2 HM2 hmm
    go_wp2_with fail
    refine (unhide HC4).mono ?_
    rintro e w4 ⟨rfl, g4, hu4, ho4, hbx4⟩
    have hmg : wc.heap.size ≠ gb := by omega
    have HM4 := hide ((unhide HM3).keep (hbx4.block _ (unhide HM3).lt hmg))
    have HD4 : Hid (Below wc.heap.size wc w4) := (unhide HD3).trans (hbx4.below (fun k e => by omega) (unhide HD3).size)
    have HB4 := hide ((unhide HBc).keep ((unhide HD4).block _ (unhide HBc).lt))
    have z4 := hbx4.size
    clear HC4 r0 r1 HM3 HW3 HB3 HA3 HD3
    obtain ⟨r0, r1, -, -⟩ := unhide HB4
    have r0 : w4.cell? ⟨w.heap.size + 1, 0, none⟩ = some (.int .i64 (s : Int)) := r0
    have r1 : w4.cell? ⟨w.heap.size + 1, 1, none⟩ = some (.int .i64 (t : Int)) := r1
    have HU4 := hide hu4
    have HO4 := hide ho4
    clear hu4 ho4 hbx4
    obtain ⟨w5, hw5⟩ : ∃ w5, w5 = w4.alloc (.cells #[.int .i64 (s : Int), .int .i64 (t : Int)] 114) := ⟨_, rfl⟩
    have b5 : Below w4.heap.size w4 w5 := by rw [hw5]; exact ballo _ _
    have HI5 : Hid (FI m n k ((s : Int), (t : Int)) wc w5 wc.heap.size gb (.slice (some ⟨w4.heap.size, 0, none⟩) 1 1) 0 0 [((s : Int), (t : Int))] [[]] [((0, 0), 0)] g4 (mrgR (fun x => x) s t) (mrgD (fun x => x) (fun _ => 0) s t)) := by
      have hbm := (unhide HM4).lt
      have hbo := (unhide HO4).lt
      refine ⟨TiI.start, fun j y hc _ => by omega, unhide HU4, (TH.start n).tie hsn htn, Own.base ((unhide HO4).below b5) (by omega), ?_, ?_, Nat.le_refl _, hmg, fun b e => ?_, (unhide HD4).trans (b5.mono (by omega))⟩
      · obtain ⟨D, h1, h2⟩ := (unhide HM4).below b5
        exact ⟨D, h1.mono (by simp), h2⟩
      · rw [hw5]; exact OwnG.lit1 pcl_len w4 wc.heap.size _ _ (by omega) rfl
      · have : w4.heap.size = b := Option.some.inj e
        omega
    clear HU4 HO4 HM4 HB4 HD4 hgb z23
    go_wp2_with fail
    rw [← hw5]
    have z5 : wc.heap.size ≤ w5.heap.size := (unhide HI5).bl.size
    generalize hbb : (!decide (s = t)) = bb
    clear hbb r0 r1 b5 hw5
    go_step3
    go_wp2
    go_loopw [4, 5, 8, 9] (fun va vb vq va2 wx => ∃ (i : Nat) (S : List (Int × Int)) (V : List (List Int)) (U : List ((Int × Int) × Int)) (g rt dp : Nat → Nat), va = .slice none 0 0 ∧ vb = .bool false ∧ va2 = .int .i64 i ∧ FI m n k ((s : Int), (t : Int)) wc wx wc.heap.size gb vq i 0 S V U g rt dp) (fun _ _ _ c _ => 1048577 - (intOf c).toNat)
    case atStart => exact ⟨0, _, _, _, _, _, _, rfl, rfl, rfl, unhide HI5⟩
    case round =>
      obtain ⟨i, S, V, U, g, rt, dp, rfl, rfl, rfl, hinv⟩ := hrel
      clear HI5
      have HI := hide hinv
      have hsz := hinv.size (unhide HR) (unhide HK) (unhide HIP)
      have hil := hinv.inv.il
      obtain ⟨gq, cq, eq, q1, q2, -, hgq, hqc, -⟩ := hinv.q.pos pcl_len (0, 0) hinv.inv.ne
      subst eq
      obtain ⟨p0, p1, p2, p3, p4, p5⟩ := (unhide HAc).below hinv.bl
      by_cases hlt : i < S.length
      rotate_left
      · have hlt' : ¬ (i : Int) < (S.length : Int) := by omega
        have HE : Hid (o = none) := by
          have e : i = S.length := by omega
          subst e
          refine SepR.one (unhide HO) (hinv.inv.sepN (unhide HR).kd (unhide HK) (unhide HNT) fun j y hj hy => hinv.nt j y (.inl ⟨hj, hy⟩) hj)
        have HBL := hide hinv.bl
        clear hinv hqc
        go_wp2
        try rw [Exit.noGoto_ret]
        go_ret2
        rw [unhide HE]
        exact ⟨_, rfl, OwnL.nil _ _ _ _, (unhide HWc).trans ((unhide HBL).mono (by omega))⟩
      have hr := hinv.rng (unhide HR) (unhide HK) (unhide HIP) i hlt
      obtain ⟨s', hs'⟩ := Int.eq_ofNat_of_zero_le hr.1.1
      obtain ⟨t', ht'⟩ := Int.eq_ofNat_of_zero_le hr.2.1
      have HD : Hid (S.getD i (0, 0) = ((s' : Int), (t' : Int))) := Prod.ext hs' ht'
      have Hs1 : Hid ((s' : Int) < m.n) := by show _ < _; rw [← hs']; exact hr.1.2
      have Ht1 : Hid ((t' : Int) < m.n) := by show _ < _; rw [← ht']; exact hr.2.2
      have y0 : wr.cell? ⟨gq, i * 2, none⟩ = some (.int .i64 (s' : Int)) := by
        have := hqc i 0 hlt (by omega)
        rw [unhide HD] at this
        exact this
      have y1 : wr.cell? ⟨gq, i * 2 + 1, none⟩ = some (.int .i64 (t' : Int)) := by
        have := hqc i 1 hlt (by omega)
        rw [unhide HD] at this
        exact this
      have hlt' : (i : Int) < (S.length : Int) := by omega
      obtain ⟨w6, hw6⟩ : ∃ w6, w6 = wr.alloc (.cells #[.int .i64 (s' : Int), .int .i64 (t' : Int)] 114) := ⟨_, rfl⟩
      have b6 : Below wr.heap.size wr w6 := by rw [hw6]; exact ballo _ _
      obtain ⟨Pb, hPb⟩ : ∃ Pb, Pb = wr.heap.size := ⟨_, rfl⟩
      have HP6 : Hid (Bxp w6 Pb ((s' : Int), (t' : Int))) := by
        refine Bxp.of (t := 114) ?_
        rw [hw6, hPb]; exact heap_alloc_new _ _
      have HI6 := hide (hinv.on b6)
      have HQ6 : Hid (∀ b, (Value.slice (some ⟨gq, 0, none⟩) S.length cq).ownBlock = some b → b ≠ Pb) := fun b e => by
        have : gq = b := Option.some.inj e
        omega
      have HG6 : Hid (gb ≠ Pb ∧ wc.heap.size ≠ Pb) := ⟨by have := hinv.ow.lt; omega, by have := hinv.mp.lt; omega⟩
      have HPB : Hid (wc.heap.size ≤ Pb) := by have := hinv.bl.size; show _ ≤ _; omega
      have HLT := hide hlt
      have r1 : w6.cell? ⟨w.heap.size, 1, none⟩ = some (.int .i64 m.k) := (b6.cell (World.block_lt_of_cell? wr _ p1)).trans p1
      rw [hw6] at r1
      clear hinv hr hs' ht' hqc hil hlt b6 p0 p2 p3 p4 p5
      go_wp2
      rw [← hw6, ← hPb]
      clear r1 y0 y1 p1 hw6 hPb
      go_loopw [4, 5, 8, 52] (fun va vb vq vx wx => ∃ (x : Nat) (S : List (Int × Int)) (V : List (List Int)) (U : List ((Int × Int) × Int)) (g rt dp : Nat → Nat), va = .slice none 0 0 ∧ vb = .bool false ∧ vx = .int .i64 x ∧ x ≤ k ∧ Hid (i < S.length ∧ S.getD i (0, 0) = ((s' : Int), (t' : Int))) ∧ FI m n k ((s : Int), (t : Int)) wc wx wc.heap.size gb vq i x S V U g rt dp ∧ Bxp wx Pb ((s' : Int), (t' : Int)) ∧ Hid (∀ b, vq.ownBlock = some b → b ≠ Pb)) (fun _ _ _ c _ => k - (intOf c).toNat)
      case atStart => exact ⟨0, S, V, U, g, rt, dp, rfl, rfl, rfl, Nat.zero_le _, ⟨unhide HLT, unhide HD⟩, unhide HI6, unhide HP6, unhide HQ6⟩
      case round =>
        clear HI6 HP6 HQ6 HD HLT HI
        obtain ⟨x, S2, V2, U2, g2, rt2, dp2, rfl, rfl, rfl, hxk, hgd, hinv, hP, hqp⟩ := hrel
        have HI := hide hinv
        have HPX := hide hP
        have hiS := (unhide hgd).1
        have hsz2 := hinv.size (unhide HR) (unhide HK) (unhide HIP)
        obtain ⟨gq2, cq2, eq2, q3, q4, -, hgq2, -, -⟩ := hinv.q.pos pcl_len (0, 0) hinv.inv.ne
        subst eq2
        have hzc' := hinv.bl.size
        by_cases hx : (x : Int) < m.k
        rotate_left
        · have HX : Hid (¬ x < k) := by have := unhide HK; show ¬ _; omega
          obtain ⟨p0, p1, p2, p3, p4, p5⟩ := (unhide HAc).below hinv.bl
          clear hinv hP
          go_wp2
          go_roundw
          case rel => exact ⟨i + 1, S2, V2, U2, g2, rt2, dp2, rfl, rfl, by go_num, (unhide HI).row hiS (unhide HX)⟩
          case measure => simp [intOf]; omega
        have HXK : Hid (x < k) := by have := unhide HK; show _ < _; omega
        have BXd : Below wr.heap.size wr wr.drew := (Below.refl _ _).drew
        have BXw : Below w.heap.size w wr.drew := ((unhide HWc).trans (hinv.bl.mono (by omega))).drew
        have HS1 := hide (saidBy_any m a1 c1 a2 c2 s' x wr.drew (unhide HR) (h1.below BXw) (h2.below BXw) (unhide Hs1) hx)
        have HS2 : Hid (∀ wz, Below wr.heap.size wr wz → Calls Try.prog 63 #[mval m a1 c1 a2 c2, .int .i64 (t' : Int), .int .i64 (x : Int)] wz fun e w' => e = .returned (.int .i64 (sdB m t' x)) ∧ Below wz.heap.size wz w') := fun wz hz => by
          have BW : Below w.heap.size w wz := bstep ((unhide HWc).trans (hinv.bl.mono (by omega))) hz
          exact saidBy_any m a1 c1 a2 c2 t' x wz (unhide HR) (h1.below BW) (h2.below BW) (unhide Ht1) hx
        unfold mval at HS1 HS2
        have HKP : Hid (∀ wz, Below wr.heap.size wr wz → (wz.cell? ⟨w.heap.size, 0, none⟩ = some (.int .i64 m.kind) ∧ wz.cell? ⟨w.heap.size, 1, none⟩ = some (.int .i64 m.k) ∧ wz.cell? ⟨w.heap.size, 2, none⟩ = some (.int .i64 m.o) ∧ wz.cell? ⟨w.heap.size, 3, none⟩ = some (.int .i64 m.n) ∧ wz.cell? ⟨w.heap.size, 4, none⟩ = some (.slice a1 m.nx.length c1) ∧ wz.cell? ⟨w.heap.size, 5, none⟩ = some (.slice a2 m.out.length c2)) ∧ wz.cell? ⟨Pb, 0, none⟩ = some (.int .i64 (s' : Int)) ∧ wz.cell? ⟨Pb, 1, none⟩ = some (.int .i64 (t' : Int))) := fun wz hz => by
          obtain ⟨p0, p1, p2, p3, p4, p5⟩ := ((unhide HAc).below hinv.bl).below hz
          have hq := hP.keep (hz.block _ hP.lt)
          exact ⟨⟨p0, p1, p2, p3, p4, p5⟩, hq.c0, hq.c1⟩
        have hs0 := unhide HKP wr.drew BXd
        clear hinv hP BXw
        go_wp2
        go_region_held (fun wz => (wz.cell? ⟨w.heap.size, 0, none⟩ = some (.int .i64 m.kind) ∧ wz.cell? ⟨w.heap.size, 1, none⟩ = some (.int .i64 m.k) ∧ wz.cell? ⟨w.heap.size, 2, none⟩ = some (.int .i64 m.o) ∧ wz.cell? ⟨w.heap.size, 3, none⟩ = some (.int .i64 m.n) ∧ wz.cell? ⟨w.heap.size, 4, none⟩ = some (.slice a1 m.nx.length c1) ∧ wz.cell? ⟨w.heap.size, 5, none⟩ = some (.slice a2 m.out.length c2)) ∧ wz.cell? ⟨Pb, 0, none⟩ = some (.int .i64 (s' : Int)) ∧ wz.cell? ⟨Pb, 1, none⟩ = some (.int .i64 (t' : Int))) (first | exact hsB | exact hsA | exact hs0) (first | (have hmark := hsA; go_at_call 63; refine (unhide HS2 wA hbA2).mono ?_; rintro e wB ⟨rfl, hbB⟩; have hbB2 := bstep hbA2 hbB; have hsB := unhide HKP wB hbB2) | (go_at_call 63; refine (unhide HS1).mono ?_; rintro e wA ⟨rfl, hbA⟩; have hbA2 := bstep BXd hbA; have hsA := unhide HKP wA hbA2))
        have HIB := hide ((unhide HI).on hbB2)
        have HPBx := hide ((unhide HPX).keep (hbB2.block _ (unhide HPX).lt))
        have zB : wr.heap.size ≤ wB.heap.size := hbB2.size
        have HTI : Hid (tl1 m m (S2.getD i (0, 0)) x ↔ sdB m s' x ≠ sdB m t' x) := by
          show _ ↔ _
          rw [(unhide hgd).2]; exact tl1_sd
        clear HS1 HS2 HKP hs0 hsA hbA hbA2 hbB hbB2 BXd HI HPX
        obtain ⟨y0, y1, -, -⟩ := unhide HPBx
        have y0 : wB.cell? ⟨Pb, 0, none⟩ = some (.int .i64 (s' : Int)) := y0
        have y1 : wB.cell? ⟨Pb, 1, none⟩ = some (.int .i64 (t' : Int)) := y1
        by_cases hne : sdB m s' x = sdB m t' x
        rotate_left
        · have tne : (sdB m s' x != sdB m t' x) = true := bne_iff_ne.2 hne
          have HE : Hid (o = some (V2.getD i [] ++ [(x : Int)])) :=
            SepR.one (unhide HO) ((unhide HIB).inv.sep (unhide HR).kd (unhide HK) hiS (unhide HXK) (unhide HNT) (unhide HIB).nt ((unhide HTI).2 hne))
          have HC := hide (wordTo_any (unhide HIB).inv i wc.heap.size S2.length wB hiS (unhide HIB).mp ((unhide HIB).fit (unhide HR) (unhide HK) (unhide HIP)) (by omega))
          rw [(unhide hgd).2] at HC
          unfold pvl at HC
          have HBW := hide ((unhide HBc).keep ((unhide HIB).bl.block _ (unhide HBc).lt))
          obtain ⟨r0, r1, -, -⟩ := unhide HBW
          have r0 : wB.cell? ⟨w.heap.size + 1, 0, none⟩ = some (.int .i64 (s : Int)) := r0
          have r1 : wB.cell? ⟨w.heap.size + 1, 1, none⟩ = some (.int .i64 (t : Int)) := r1
          have HV8 : Hid ((V2.getD i []).length ≤ 1048576) := by have := tii_len (unhide HIB).inv i hiS; show _ ≤ _; omega
          have HWB := hide ((unhide HWc).trans ((unhide HIB).bl.mono (show w.heap.size ≤ wc.heap.size by omega)))
          clear hne HTI HIB
          generalize sdB m s' x = d1 at *
          generalize sdB m t' x = d2 at *
          generalize V2.getD i [] = VI at *
          go_wp2_with fail
          refine (unhide HC).mono ?_
          rintro e w7 ⟨v7, rfl, ho7, hb7⟩
          obtain ⟨a7, c7, e7, -, -, -, -, -⟩ := ho7.shape
          subst e7
          have HO7 := hide ho7
          have HB7 := hide hb7
          have h7 := unhide HV8
          clear HC y0 y1 r0 r1 ho7
          go_wp2_with (at_builtin; refine wpl_pushL eInt rfl (.tmp 69) (.tmp 71) rfl wB.heap.size _ VI rfl (OwnL.alloc (unhide HO7) _) (some ⟨w7.heap.size, 0, none⟩) 1 [(x : Int)] rfl (RdL.one _ _) (fun e => by cases e) (by simp only [List.length_cons, List.length_nil]; omega) (by have := (unhide HB7).size; simp; omega) ?_; intro v8 w8 ho8 hb8 hg8)
          obtain ⟨a8, c8, e8, -, -, -, -, -⟩ := ho8.shape
          subst e8
          try rw [Exit.noGoto_ret]
          go_ret2
          rw [unhide HE]
          exact ⟨_, rfl, ho8.mono (by have := (unhide HWB).size; omega), bstep (unhide HWB) (Below.trans (bstep (unhide HB7) (ballo _ _)) hb8)⟩
        have tne : (sdB m s' x != sdB m t' x) = false := by simp [hne]
        have HNT1 : Hid (¬ tl1 m m (S2.getD i (0, 0)) x) := fun c => (unhide HTI).1 c hne
        clear hne HTI
        generalize sdB m s' x = d1 at *
        generalize sdB m t' x = d2 at *
        obtain ⟨PX, hPX, hPXl, x0, x1, x2⟩ := way_of (unhide HR) (s := (s' : Int)) (by omega) (unhide Hs1) (x := (x : Int)) (by omega) hx
        obtain ⟨PY, hPY, hPYl, z0, z1, z2⟩ := way_of (unhide HR) (s := (t' : Int)) (by omega) (unhide Ht1) (x := (x : Int)) (by omega) hx
        have HWB := hide ((unhide HWc).trans ((unhide HIB).bl.mono (show w.heap.size ≤ wc.heap.size by omega)))
        obtain ⟨b7, off7, e7, hm7⟩ := (h1.below (unhide HWB)).at hPXl
        have hnX := hm7 PX hPXl
        have hnY := hm7 PY hPYl
        have rX := (unhide HR).st PX hPXl
        have rY := (unhide HR).st PY hPYl
        obtain ⟨u, hu'⟩ := Int.eq_ofNat_of_zero_le rX.1
        obtain ⟨v, hv'⟩ := Int.eq_ofNat_of_zero_le rY.1
        have HEN : Hid (stp m m (S2.getD i (0, 0)) (x : Int) = ((u : Int), (v : Int))) := by
          show _ = _
          rw [(unhide hgd).2]
          show (nxt m (s' : Int) (x : Int), nxt m (t' : Int) (x : Int)) = _
          unfold nxt
          rw [hPX, hPY, Int.toNat_natCast, Int.toNat_natCast, hu', hv']
        rw [hu'] at hnX rX
        rw [hv'] at hnY rY
        have hun : u < n := by have := unhide HN; omega
        have hvn : v < n := by have := unhide HN; omega
        have hPXl' : (PX : Int) < (m.nx.length : Int) := by omega
        have hPYl' : (PY : Int) < (m.nx.length : Int) := by omega
        obtain ⟨p0, p1, p2, p3, p4, p5⟩ := (unhide HAc).below (unhide HIB).bl
        rw [e7] at p4
        have HKP : Hid (∀ wz, Below wB.heap.size wB wz → (wz.cell? ⟨w.heap.size, 1, none⟩ = some (.int .i64 m.k) ∧ wz.cell? ⟨w.heap.size, 4, none⟩ = some (.slice (some ⟨b7, off7, none⟩) m.nx.length c1)) ∧ (wz.cell? ⟨Pb, 0, none⟩ = some (.int .i64 (s' : Int)) ∧ wz.cell? ⟨Pb, 1, none⟩ = some (.int .i64 (t' : Int))) ∧ wz.cell? ⟨b7, off7 + PX, none⟩ = some (.int .i64 (u : Int)) ∧ wz.cell? ⟨b7, off7 + PY, none⟩ = some (.int .i64 (v : Int))) := fun wz hz => by
          have K : ∀ {p : Addr} {y : Value}, wB.cell? p = some y → wz.cell? p = some y := fun h => (hz.cell (World.block_lt_of_cell? wB _ h)).trans h
          exact ⟨⟨K p1, K p4⟩, ⟨K y0, K y1⟩, K hnX, K hnY⟩
        have BXd : Below wB.heap.size wB wB.drew := (Below.refl _ _).drew
        have hs0 := unhide HKP wB.drew BXd
        have hs1 := unhide HKP _ (Below.drew (ballo wB (.cells #[.int .i64 (0 : Int), .int .i64 (0 : Int)] 114)))
        have b8 : Below wB.heap.size wB (wB.alloc (.cells #[.int .i64 (u : Int), .int .i64 (v : Int)] 114)).drew := Below.drew (ballo wB _)
        have hs2 := unhide HKP _ b8
        obtain ⟨w8, hw8⟩ : ∃ w8, w8 = (wB.alloc (.cells #[.int .i64 (u : Int), .int .i64 (v : Int)] 114)).drew := ⟨_, rfl⟩
        have HN8 : Hid (Bxp w8 wB.heap.size ((u : Int), (v : Int))) := by
          refine Bxp.of (t := 114) ?_
          rw [hw8]; exact heap_alloc_new wB _
        have z8 : w8.heap.size = wB.heap.size + 1 := by rw [hw8]; exact World.size_alloc _ _
        have wx1 : IntKind.i64.wrap ((s' : Int) * m.k) = (s' : Int) * m.k := by rw [IntKind.wrap_i64]; omega
        have wx2 : IntKind.i64.wrap (PX : Int) = PX := by rw [IntKind.wrap_i64]; omega
        have wy1 : IntKind.i64.wrap ((t' : Int) * m.k) = (t' : Int) * m.k := by rw [IntKind.wrap_i64]; omega
        have wy2 : IntKind.i64.wrap (PY : Int) = PY := by rw [IntKind.wrap_i64]; omega
        clear hm7 hu' hv' rX rY p0 p2 p3 p5 p1 p4 y0 y1 hnX hnY e7
        go_wp2
        go_region_held (fun wz => (wz.cell? ⟨w.heap.size, 1, none⟩ = some (.int .i64 m.k) ∧ wz.cell? ⟨w.heap.size, 4, none⟩ = some (.slice (some ⟨b7, off7, none⟩) m.nx.length c1)) ∧ (wz.cell? ⟨Pb, 0, none⟩ = some (.int .i64 (s' : Int)) ∧ wz.cell? ⟨Pb, 1, none⟩ = some (.int .i64 (t' : Int))) ∧ wz.cell? ⟨b7, off7 + PX, none⟩ = some (.int .i64 (u : Int)) ∧ wz.cell? ⟨b7, off7 + PY, none⟩ = some (.int .i64 (v : Int))) (first | exact hs0 | exact hs1 | exact hs2 | go_keep) (fail)
        rw [← hw8] at b8 ⊢
        have HI8 := hide ((unhide HIB).on b8)
        have HP8 := hide ((unhide HPBx).keep (b8.block _ (unhide HPBx).lt))
        have HC := hide (tie_any wc.heap.size gb n u v w8 (unhide HI8).uf (unhide HI8).ow (by omega) hun hvn)
        have HBN : Hid (gb < wB.heap.size ∧ wc.heap.size < wB.heap.size ∧ gq2 < wB.heap.size) := ⟨(unhide HIB).ow.lt.2, (unhide HIB).mp.lt, ((unhide HIB).q.lt rfl).2⟩
        have hPz := (unhide HPBx).lt
        clear hs0 hs1 hs2 HKP BXd HIB HPBx wx1 wx2 wy1 wy2 hPX hPY hPXl hPYl x0 x1 x2 z0 z1 z2 hPXl' hPYl' hw8 b8
        obtain ⟨y0, y1, f0, f1⟩ := unhide HN8
        have y0 : w8.cell? ⟨wB.heap.size, 0, none⟩ = some (.int .i64 (u : Int)) := y0
        have y1 : w8.cell? ⟨wB.heap.size, 1, none⟩ = some (.int .i64 (v : Int)) := y1
        go_wp2_with fail
        refine (unhide HC).mono ?_
        rintro e w9 ⟨rfl, g9, hu9, ho9, hbx9⟩
        have HN9 := hide ((unhide HN8).keep (hbx9.block _ (unhide HN8).lt (by have := (unhide HBN).1; omega)))
        have HP9 := hide ((unhide HP8).keep (hbx9.block _ (unhide HP8).lt (fun e => (unhide HG6).1 e.symm)))
        have HU9 := hide hu9
        have HO9 := hide ho9
        have HX9 := hide hbx9
        have z9 : w8.heap.size ≤ w9.heap.size := hbx9.size
        clear HC y0 y1 f0 f1 HN8 HP8 hu9 ho9 hbx9
        by_cases hrt : rt2 u = rt2 v
        · have trt : decide (rt2 u ≠ rt2 v) = false := by simp [hrt]
          have HRT := hide hrt
          rw [trt]
          clear hrt trt
          go_wp2
          go_roundw
          case rel => exact ⟨x + 1, S2, V2, U2, g9, _, _, rfl, rfl, by go_num, (by have := unhide HXK; omega), hgd, (unhide HI8).old hiS (unhide HXK) (unhide HNT1) (unhide HEN) hun hvn (unhide HRT) (unhide HU9) (unhide HO9) (unhide HX9), unhide HP9, hqp⟩
          case measure => simp [intOf]; have := unhide HXK; omega
        · have trt : decide (rt2 u ≠ rt2 v) = true := by simp [hrt]
          have HRT : Hid (rt2 u ≠ rt2 v) := hrt
          rw [trt]
          clear hrt trt
          have HFR := hide ((unhide HI8).fresh (unhide HRT))
          have hfN : FitP ((u : Int), (v : Int)) := ⟨⟨by show (0 : Int) ≤ u; omega, by show (u : Int) ≤ _; omega⟩, by show (0 : Int) ≤ v; omega, by show (v : Int) ≤ _; omega⟩
          obtain ⟨w10, hrun, hm10, hg10⟩ := ((unhide HI8).mp.keep ((unhide HX9).block _ (unhide HI8).mp.lt (unhide HI8).ne)).put (unhide HI8).inv.lenU (by unfold maxLen; omega) (S2.getD i (0, 0), (x : Int)) (unhide HFR) hfN ((unhide HI8).fit (unhide HR) (unhide HK) (unhide HIP))
          rw [(unhide hgd).2] at hrun
          unfold pvl svl at hrun
          dsimp only at hrun
          have HM10 := hide hm10
          have HG10 := hide hg10
          have z10 : w9.heap.size ≤ w10.heap.size := hg10.size
          have hblk : ∀ k, k < w9.heap.size → k ≠ wc.heap.size → w10.heap[k]? = w9.heap[k]? := fun k hk hne => hg10.block k hk (fun e => hne (Option.some.inj e))
          have HN10 := hide ((unhide HN9).keep (hblk _ (unhide HN9).lt (by have := (unhide HBN).2.1; omega)))
          have HP10 := hide ((unhide HP9).keep (hblk _ (unhide HP9).lt (fun e => (unhide HG6).2 e.symm)))
          have HO10 := hide ((unhide HO9).keep (hblk _ (unhide HO9).lt.2 (fun e => (unhide HI8).ne e.symm)))
          have HQ10 : Hid (OwnG 114 2 pcl w10 wc.heap.size (.slice (some ⟨gq2, 0, none⟩) S2.length cq2) S2) := (unhide HI8).q.keep fun b e => (hblk b (by have := ((unhide HI8).q.lt e).2; omega) ((unhide HI8).qm b e).1).trans ((unhide HX9).block b ((unhide HI8).q.lt e).2 ((unhide HI8).qm b e).2)
          have HBL10 : Hid (Below wc.heap.size wc w10) := ((unhide HI8).bl.trans ((unhide HX9).below (fun k e => by subst e; exact (unhide HI8).ow.lt.1) (unhide HI8).bl.size)).grown hg10 (by have := (unhide HI8).bl.size; omega) (fun k e => by cases e; exact Nat.le_refl _)
          obtain ⟨y0, y1, -, -⟩ := unhide HN9
          obtain ⟨r0, r1, -, -⟩ := unhide HP9
          obtain ⟨x0, x1, -, -⟩ := unhide HN10
          have y0 : w9.cell? ⟨wB.heap.size, 0, none⟩ = some (.int .i64 (u : Int)) := y0
          have y1 : w9.cell? ⟨wB.heap.size, 1, none⟩ = some (.int .i64 (v : Int)) := y1
          have r0 : w9.cell? ⟨Pb, 0, none⟩ = some (.int .i64 (s' : Int)) := r0
          have r1 : w9.cell? ⟨Pb, 1, none⟩ = some (.int .i64 (t' : Int)) := r1
          have x0 : w10.cell? ⟨wB.heap.size, 0, none⟩ = some (.int .i64 (u : Int)) := x0
          have x1 : w10.cell? ⟨wB.heap.size, 1, none⟩ = some (.int .i64 (v : Int)) := x1
          have HLT : ∀ j z, (pcl ((u : Int), (v : Int)))[j]? = some z → (w10.alloc (.cells #[.int .i64 (u : Int), .int .i64 (v : Int)] 114)).cell? ⟨w10.heap.size, j, none⟩ = some z := fun j z hz => by
            unfold World.cell?
            rw [heap_alloc_new]
            show (#[Value.int .i64 (u : Int), Value.int .i64 (v : Int)] : Array Value)[j]? = some z
            rw [← Array.getElem?_toList]; exact hz
          have HLH := hide HLT
          have HSZ : Hid (wc.heap.size ≤ (w10.alloc (.cells #[.int .i64 (u : Int), .int .i64 (v : Int)] 114)).heap.size) := by have := (unhide HBL10).size; show _ ≤ _; rw [World.size_alloc]; omega
          have HML : Hid (S2.length + 1 ≤ maxLen) := by show _ ≤ _; unfold maxLen; omega
          clear hm10 hg10 hblk hfN HLT
          go_wp2_with (at_builtin; refine wplG_push ePair rfl (.tmp 104) (.tmp 106) rfl wc.heap.size _ S2 rfl (OwnG.below (unhide HQ10) (ballo _ _)) w10.heap.size 1 ((u : Int), (v : Int)) rfl (unhide HLH) (by omega) (unhide HML) (unhide HSZ) ?_; intro v11 w11 ho11 hg11 hat11; have HO11 := hide ho11; have HG11 := hide hg11; have HT11 := hide hat11; clear ho11 hg11 hat11)
          go_roundw
          case rel =>
            have K : ∀ k, k < w10.heap.size → k ≠ gq2 → w11.heap[k]? = w10.heap[k]? := fun k hk hne => by
              rw [(unhide HG11).block k (by rw [World.size_alloc]; omega) (fun e => hne (Option.some.inj e)), Below.heap_alloc _ _ _ hk]
            have hqb := (unhide HI8).qm gq2 rfl
            have h10b := (unhide HBL10).size
            refine ⟨x + 1, S2 ++ [((u : Int), (v : Int))], V2 ++ [V2.getD i [] ++ [(x : Int)]], U2 ++ [(S2.getD i (0, 0), (x : Int))], g9, mrgR rt2 u v, mrgD rt2 dp2 u v, rfl, rfl, by go_num, (by have := unhide HXK; omega), ⟨?_, ?_⟩, (unhide HI8).new hiS (unhide HXK) (unhide HNT1) (unhide HEN) hun hvn (unhide HRT) (unhide HU9) ((unhide HO10).keep (K _ (unhide HO10).lt.2 (fun e => hqb.2 e.symm))) ((unhide HM10).keep (K _ (unhide HM10).lt (fun e => hqb.1 e.symm))) (unhide HO11) ?_ ?_, (unhide HP10).keep (K _ (unhide HP10).lt (fun e => unhide hqp gq2 rfl e.symm)), ?_⟩
            · rw [List.length_append]; omega
            · rw [gd_left _ hiS]; exact (unhide hgd).2
            · intro b e
              rcases unhide HT11 b e with e2 | e2
              · exact (unhide HI8).qm b e2
              · have := (unhide HM10).lt
                have := (unhide HO10).lt
                rw [World.size_alloc] at e2
                omega
            · exact ((unhide HBL10).alloc h10b _).grown (unhide HG11) (unhide HSZ) (fun k e => ((unhide HQ10).lt e).1)
            · intro b e
              rcases unhide HT11 b e with e2 | e2
              · exact unhide hqp b e2
              · rw [World.size_alloc] at e2
                omega
          case measure => simp [intOf]; have := unhide HXK; omega
end Go.Proofs.Ytagoilabphmdfaa
