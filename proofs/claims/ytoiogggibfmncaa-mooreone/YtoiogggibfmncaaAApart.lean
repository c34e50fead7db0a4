/-
  What the law's own apart returns: whether a word tells two machines apart.
-/
import Derived.Test.YtoiogggibfmncaaWPair
import Derived.Test.YtoiogggibfmncaaK7
import Derived.Test.YtoiogggibfmncaaK14
namespace Go.Proofs.Ytoiogggibfmncaa
open Go.RowKit Go.Maps

theorem blk_slice {g off n c b : Nat} (e : (Value.slice (some ⟨g, off, none⟩) n c).ownBlock = some b) : g = b := Option.some.inj e
/-- What holds on the way. -/
structure JI (m o : Mc) (MO g : Nat) (w2 wx : World) (v : Value) (S : List Int) (i x : Nat) : Prop where
  kn : Kn wx g (.slice (some ⟨g, 0, none⟩) MO MO) MO S
  st : OwnL .i64 3 wx g v S
  ap : v.ownBlock ≠ some g
  inv : PInv m o S i x
  bl : Below g w2 wx
theorem JI.draw {m o : Mc} {MO g : Nat} {w2 wx : World} {v : Value} {S : List Int} {i x : Nat} (h : JI m o MO g w2 wx v S i x) (q : Nat) : JI m o MO g w2 (wx.drewN q) v S i x :=
  ⟨h.kn.keep fun _ _ => rfl, h.st.keep fun _ _ => rfl, h.ap, h.inv, below_drewN h.bl q⟩
theorem JI.put {m o : Mc} {MO g : Nat} {w2 wx : World} {v : Value} {S : List Int} {i x i' x' : Nat} (h : JI m o MO g w2 wx v S i x) (p : PInv m o S i' x') : JI m o MO g w2 wx v S i' x' := ⟨h.kn, h.st, h.ap, p, h.bl⟩
theorem JI.new {m o : Mc} {MO g : Nat} {w2 wx : World} {v v' : Value} {S : List Int} {i x t : Nat} (h : JI m o MO g w2 wx v S i x) {o1 : Obj} {wc : World} (hs : OwnL .i64 3 wc g v' (S ++ [(t : Int)])) (hg : ((wx.setCell ⟨g, t, none⟩ (.bool true)).alloc o1).grownBy wc v.ownBlock) (hb : Below g ((wx.setCell ⟨g, t, none⟩ (.bool true)).alloc o1) wc)
    (ha : ∀ j, v'.ownBlock = some j → v.ownBlock = some j ∨ j = ((wx.setCell ⟨g, t, none⟩ (.bool true)).alloc o1).heap.size) (p : PInv m o (S ++ [(t : Int)]) i (x + 1)) : JI m o MO g w2 wc v' (S ++ [(t : Int)]) i (x + 1) := by
  have hlt := h.kn.lt (b := g) rfl
  have hk : wc.heap[g]? = (wx.setCell ⟨g, t, none⟩ (.bool true)).heap[g]? := by
    rw [hg.block _ (by simp; omega) (fun e => h.ap e.symm), Below.heap_alloc _ _ _ (by simp; omega)]
  refine ⟨(h.kn.store t).keep fun b e => ?_, hs, fun e => ?_, p, ?_⟩
  · have := blk_slice e
    subst this
    exact hk
  · rcases ha _ e with e2 | e2
    · exact h.ap e2
    · simp at e2; omega
  · exact ((h.bl.setCell (p := ⟨g, t, none⟩) (Nat.le_refl _) _).alloc (by simp; omega) o1).trans hb

/-- What apart returns. -/
def ApPost (m o : Mc) (w : World) (e : Ending) (w' : World) : Prop := ∃ b, e = .returned (.bool b) ∧ (b = true ↔ ¬ Same2 m 0 o 0) ∧ Below w.heap.size w w'
/-- What is said in a pair, for the two kinds. -/
theorem sa_two {m o : Mc} (hkd : o.kind = m.kind) (hk : o.k = m.k) (k0 : 1 ≤ m.k) (h2 : m.kind = 2) {p : Int} {s t : Nat} (hs : p / o.n = (s : Int)) (ht : p % o.n = (t : Int)) : saP m o p ↔ ∀ y : Nat, (y : Int) < m.k → m.out.getD ((s : Int) * m.k + (y : Int)).toNat 0 = o.out.getD ((t : Int) * m.k + (y : Int)).toNat 0 := by
  have hp : pp m = m.k.toNat := by unfold pp; rw [if_neg (by omega)]
  have hp' : pp o = m.k.toNat := by unfold pp; rw [if_neg (by omega), hk]
  have hc : ((m.k.toNat : Nat) : Int) = m.k := Int.toNat_of_nonneg (by omega)
  rw [sa_iff hkd hk, hs, ht]
  constructor
  · intro h y hy
    have h1 := h y (by omega)
    rw [rowO_get o _ (by omega), rowO_get m _ (by omega), hp, hp', hc] at h1
    exact h1.symm
  · intro h y hy
    rw [hp] at hy
    rw [rowO_get o _ (by omega), rowO_get m _ (by omega), hp, hp', hc]
    exact (h y (by omega)).symm
theorem sa_one {m o : Mc} (hkd : o.kind = m.kind) (hk : o.k = m.k) (h1 : m.kind = 1) {p : Int} {s t : Nat} (hs : p / o.n = (s : Int)) (ht : p % o.n = (t : Int)) : saP m o p ↔ m.out.getD s 0 = o.out.getD t 0 := by
  have hp : pp m = 1 := by unfold pp; rw [if_pos h1]
  have hp' : pp o = 1 := by unfold pp; rw [if_pos (by rw [hkd]; exact h1)]
  rw [sa_iff hkd hk, hp, hp', hs, ht]
  have e : ∀ (m : Mc) (s : Nat), pp m = 1 → (rowO m (s : Int) 1).getD 0 0 = m.out.getD s 0 := fun m s hp => by
    have h1 := rowO_get m (s : Int) (n := 1) (x := 0) (by omega)
    rw [hp, show ((s : Int) * ((1 : Nat) : Int) + ((0 : Nat) : Int)).toNat = s by omega] at h1
    exact h1
  constructor
  · intro h
    have := h 0 (by omega)
    rw [e m s hp, e o t hp'] at this
    exact this.symm
  · intro h i hi
    have c : i = 0 := by omega
    subst c
    rw [e m s hp, e o t hp', h]

set_option maxRecDepth 100000 in
set_option maxHeartbeats 8000000 in
theorem lapart_any (m o : Mc) (a1 : Option Addr) (c1 : Nat) (a2 : Option Addr) (c2 : Nat) (d1 : Option Addr) (e1 : Nat) (d2 : Option Addr) (e2 : Nat) (w : World) (R : Right m) (Q : Right o) (hkd : o.kind = m.kind) (hk : o.k = m.k) (h1 : RdL .i64 w a1 m.nx) (h2 : RdL .i64 w a2 m.out) (g1 : RdL .i64 w d1 o.nx) (g2 : RdL .i64 w d2 o.out) :
    Calls Try.prog 24 #[mval m a1 c1 a2 c2, mval o d1 e1 d2 e2] w (ApPost m o w) := by
  unfold mval
  obtain ⟨w2, hw2⟩ : ∃ w2, w2 = (w.alloc (.cells #[.int .i64 m.kind, .int .i64 m.k, .int .i64 m.o, .int .i64 m.n, .slice a1 m.nx.length c1, .slice a2 m.out.length c2] 24)).alloc (.cells #[.int .i64 o.kind, .int .i64 o.k, .int .i64 o.o, .int .i64 o.n, .slice d1 o.nx.length e1, .slice d2 o.out.length e2] 24) := ⟨_, rfl⟩
  have b2 : Below w.heap.size w w2 := by rw [hw2]; exact bstep (ballo _ _) (ballo _ _)
  have B2 : Box w2 w.heap.size m a1 c1 a2 c2 := by rw [hw2]; exact (Box.alloc w m a1 c1 a2 c2 24).below (ballo _ _)
  have C2 : Box w2 (w.heap.size + 1) o d1 e1 d2 e2 := by
    have := Box.alloc (w.alloc (.cells #[.int .i64 m.kind, .int .i64 m.k, .int .i64 m.o, .int .i64 m.n, .slice a1 m.nx.length c1, .slice a2 m.out.length c2] 24)) o d1 e1 d2 e2 24
    rw [hw2]
    simp only [World.size_alloc] at this
    exact this
  have z2 : w2.heap.size = w.heap.size + 2 := by rw [hw2]; simp
  have m0 := R.n0
  have m1 := R.n1
  have o0 := Q.n0
  have o1 := Q.n1
  have k0 := R.k0
  have k1 := R.k1
  have hMO : ∃ MO : Nat, m.n * o.n = (MO : Int) := Int.eq_ofNat_of_zero_le (Int.mul_nonneg (by omega) (by omega))
  obtain ⟨MO, hMO⟩ := hMO
  have hMO1 : 1 * 1 ≤ m.n * o.n := Int.mul_le_mul m0 o0 (by omega) (by omega)
  have hMO2 : m.n * o.n ≤ 1024 * 1024 := Int.mul_le_mul m1 o1 (by omega) (by omega)
  have hMa : 1 ≤ MO := by omega
  have hMb : MO ≤ 1048576 := by omega
  have HMO := hide hMO
  have HZ2 := hide z2
  have HR := hide R
  have HQ := hide Q
  have HKD := hide hkd
  have HK := hide hk
  obtain ⟨p0, p1, p2, p3, p4, p5⟩ := id B2
  obtain ⟨q0, q1, q2, q3, q4, q5⟩ := id C2
  clear R Q hkd hk z2
  go_enter Try.func24, Try.ntmps24
  go_wp2_with (at_make; refine wplK_make rfl (.tmp 16) (.tmp 16) rfl (w.heap.size + 2) _ _ MO rfl rfl (by first | rfl | exact unhide HMO) (by first | rfl | exact unhide HMO) (by omega) (by simp) ?_; rw [← hw2, unhide HZ2]; intro w3 hK3 hb3 hg3; obtain ⟨gk, ck, ek, -, -, hk1, hk2, hkc, hkf⟩ := hK3.pos (by omega); cases ek; have kc0 := hkc 0 (by omega); have kf0 := hkf 0)
  have hz3 : w.heap.size + 2 < w3.heap.size := hk2
  have w4e : ∃ w4, w4 = (w3.setCell ⟨w.heap.size + 2, 0, none⟩ (.bool true)).alloc (.cells #[.int .i64 0] 3) := ⟨_, rfl⟩
  obtain ⟨w4, w4e⟩ := w4e
  have s3 : (w3.setCell ⟨w.heap.size + 2, 0, none⟩ (.bool true)).heap.size = w3.heap.size := by simp
  have I0 : JI m o MO (w.heap.size + 2) w2 w4 (.slice (some ⟨w3.heap.size, 0, none⟩) 1 1) [0] 0 0 := by
    refine ⟨(hK3.store 0).keep fun b e => ?_, ?_, fun e => ?_, PInv.start m o m0 o0, ?_⟩
    · have := blk_slice e
      subst this
      rw [w4e, Below.heap_alloc _ _ _ (by rw [s3]; omega)]
    · have h5 := OwnL.lit (q := .i64) (t := 3) (w3.setCell ⟨w.heap.size + 2, 0, none⟩ (.bool true)) (w.heap.size + 2) [0] #[.int .i64 0] (by rw [s3]; omega) (by decide) rfl
      rw [s3] at h5
      rw [w4e]; exact h5
    · have := blk_slice e
      omega
    · rw [w4e]
      exact (hb3.setCell (p := ⟨w.heap.size + 2, 0, none⟩) (Nat.le_refl _) _).alloc (by rw [s3]; omega) _
  have HI0 := hide I0
  rw [← w4e]
  clear I0 w4e kc0 kf0 hkc hkf hK3 hb3 hg3 p0 p1 p2 p3 p4 p5 q0 q1 q2 q3 q4 q5 hk1 hk2 hz3 s3 hMO
  go_loopw [6, 7] (fun v a wx => ∃ (i : Nat) (S : List Int), a = .int .i64 i ∧ i ≤ S.length ∧ JI m o MO (w.heap.size + 2) w2 wx v S i 0) (fun _ a _ => MO - (intOf a).toNat)
  case atStart => exact ⟨0, [0], rfl, by simp, unhide HI0⟩
  case round =>
    obtain ⟨i, S, rfl, hi, hinv⟩ := hrel
    clear HI0
    have HI := hide hinv
    obtain ⟨av, cv, ev, -, -, -, -, -⟩ := hinv.st.shape
    subst ev
    have hlS := hinv.inv.len
    rw [unhide HMO] at hlS
    have hlS' : S.length ≤ MO := by omega
    have z2 := unhide HZ2
    have hbx := b2.trans (hinv.bl.mono (by omega))
    by_cases hlt : i < S.length
    rotate_left
    · have HE := hide (hinv.inv.same (unhide HR) (unhide HQ) (unhide HKD) (unhide HK) hlt)
      have hx : ¬ (i : Int) < (S.length : Int) := by omega
      clear hinv z2
      go_wp2
      go_ret
      exact ⟨false, rfl, ⟨(fun h => by cases h), (fun h => absurd (unhide HE) h)⟩, hbx⟩
    have hlt' : (i : Int) < (S.length : Int) := by omega
    obtain ⟨p0, p1, p2, p3, p4, p5⟩ := box_on B2 hinv.bl (by omega)
    obtain ⟨q0, q1, q2, q3, q4, q5⟩ := box_on C2 hinv.bl (by omega)
    obtain ⟨gs, cs, es, -, -, -, -, hcs, -⟩ := hinv.st.pos (by omega)
    cases es
    have hcell := hcs i hlt
    have hr := hinv.inv.rng _ (gd_mem hlt)
    obtain ⟨P, hP⟩ : ∃ P, P = S.getD i 0 := ⟨_, rfl⟩
    rw [← hP] at hcell hr
    obtain ⟨⟨s0, s1⟩, t0, t1⟩ := pr_of o0 hr.1 hr.2
    obtain ⟨s, hs⟩ := Int.eq_ofNat_of_zero_le s0
    obtain ⟨t, ht⟩ := Int.eq_ofNat_of_zero_le t0
    have HS := hide hs
    have HT := hide ht
    have HP := hide hP
    have P0 := hr.1
    have P1 : P ≤ 1048576 := by have := hr.2; omega
    have dd1 : P / o.n ≤ 1024 := by omega
    have rr1 : P % o.n ≤ 1024 := by omega
    have Hs1 : Hid ((s : Int) < m.n) := by show _ < _; omega
    have Ht1 : Hid ((t : Int) < o.n) := by show _ < _; omega
    have hnz : (o.n == 0) = false := by simp; omega
    clear hinv hcs hr hs ht hP s1 t1 z2
    go_wp2
    go_quiet (fail)
    rw [unhide HS, unhide HT]
    have HI5 : JI m o MO (w.heap.size + 2) w2 (wr.drewN nq) (.slice (some ⟨gs, 0, none⟩) S.length cv) S i 0 := (unhide HI).draw nq
    have bx5 := below_drewN hbx nq
    have B5 := box_on B2 HI5.bl (by have := unhide HZ2; omega)
    have C5 := box_on C2 HI5.bl (by have := unhide HZ2; omega)
    clear HI p0 p1 p2 p3 p4 p5 q0 q1 q2 q3 q4 q5 hbx hcell
    generalize wr.drewN nq = w5 at *
    have HI := hide HI5
    obtain ⟨p0, p1, p2, p3, p4, p5⟩ := B5
    obtain ⟨q0, q1, q2, q3, q4, q5⟩ := C5
    clear HI5
    by_cases hk1 : m.kind = 1
    case' pos =>
      have t9 : (m.kind == 1) = true := eq_t hk1
      have hso : s < m.out.length := by have := (unhide HR).outD hk1; have := unhide Hs1; omega
      have hto : t < o.out.length := by have := (unhide HQ).outD (by rw [unhide HKD]; exact hk1); have := unhide Ht1; omega
      have hso' : (s : Int) < (m.out.length : Int) := by omega
      have hto' : (t : Int) < (o.out.length : Int) := by omega
      obtain ⟨b5, off5, rfl, hm5⟩ := (h2.below bx5).at hso
      obtain ⟨b6, off6, rfl, hm6⟩ := (g2.below bx5).at hto
      have hoS := hm5 s hso
      have hoT := hm6 t hto
      have SA1 := sa_one (unhide HKD) (unhide HK) hk1 (unhide HS) (unhide HT)
      have SA1 := hide SA1
      obtain ⟨z1, hz1⟩ : ∃ z, z = m.out.getD s 0 := ⟨_, rfl⟩
      obtain ⟨z2, hz2⟩ : ∃ z, z = o.out.getD t 0 := ⟨_, rfl⟩
      rw [← hz1] at hoS SA1
      rw [← hz2] at hoT SA1
      clear hm5 hm6 hz1 hz2
      by_cases hd : z1 = z2
      rotate_left
      · have td : (z1 != z2) = true := bne_iff_ne.2 hd
        have HE : Hid (¬ Same2 m 0 o 0) := (unhide HI).inv.apart (unhide HR) (unhide HQ) (unhide HKD) (unhide HK) hlt (by rw [← unhide HP]; exact fun h => hd ((unhide SA1).1 h))
        clear hk1 hd
        go_wp2
        go_quiet (fail)
        go_wp2
        go_ret
        exact ⟨true, rfl, ⟨fun _ => unhide HE, fun _ => rfl⟩, below_drewN bx5 _⟩
      have td : (z1 != z2) = false := by simp [hd]
      have SAK : Hid (m.kind = 1 → saP m o P) := fun _ => (unhide SA1).2 hd
      clear SA1 hk1
      subst hd
      go_wp2
      go_quiet (fail)
      have HI6 := hide ((unhide HI).draw nq)
      clear td hoS hoT hso hto hso' hto' t9
    case' neg =>
      have t9 : (m.kind == 1) = false := eq_f hk1
      have SAK : Hid (m.kind = 1 → saP m o P) := fun h => absurd h hk1
      clear hk1
      go_wp2
      go_quiet (fail)
      have HI6 := hide ((unhide HI).draw nq)
      clear t9
    all_goals
      clear HI p0 p1 p2 p3 p4 p5 q0 q1 q2 q3 q4 q5 bx5 hlS hlS' hi
      have HLT := hide hlt
      clear hlt hlt'
      go_wp2
      go_loopw [6, 10] (fun v a wx => ∃ (x : Nat) (S' : List Int), a = .int .i64 x ∧ (x : Int) ≤ m.k ∧ i < S'.length ∧ Hid (S'.getD i 0 = P) ∧ Hid (m.kind = 2 → ∀ y : Nat, y < x → m.out.getD ((s : Int) * m.k + (y : Int)).toNat 0 = o.out.getD ((t : Int) * m.k + (y : Int)).toNat 0) ∧ JI m o MO (w.heap.size + 2) w2 wx v S' i x) (fun _ a _ => m.k.toNat - (intOf a).toNat)
      case atStart => exact ⟨0, S, rfl, by omega, unhide HLT, (unhide HP).symm, (fun _ y hy => by omega), unhide HI6⟩
      case round =>
        obtain ⟨x, S', rfl, hxk, hiS, hgd, hsd, hinv⟩ := hrel
        clear HI6 HLT HP
        have HI := hide hinv
        obtain ⟨gr, cr, er, -, -, -, -, -, -⟩ := hinv.st.pos (by omega)
        cases er
        have hlS := hinv.inv.len
        rw [unhide HMO] at hlS
        have hlS' : S'.length ≤ MO := by omega
        have z2 := unhide HZ2
        have hbx := b2.trans (hinv.bl.mono (by omega))
        obtain ⟨p0, p1, p2, p3, p4, p5⟩ := box_on B2 hinv.bl (by omega)
        obtain ⟨q0, q1, q2, q3, q4, q5⟩ := box_on C2 hinv.bl (by omega)
        by_cases hx : (x : Int) < m.k
        rotate_left
        · have HJ : Hid (JI m o MO (w.heap.size + 2) w2 wr (.slice (some ⟨gr, 0, none⟩) S'.length cr) S' (i + 1) 0) := by
            refine hinv.put (hinv.inv.row (by omega) ?_)
            rw [unhide hgd]
            rcases (unhide HR).kd with h | h
            · exact unhide SAK h
            · exact (sa_two (unhide HKD) (unhide HK) k0 h (unhide HS) (unhide HT)).2 fun y hy => unhide hsd h y (by omega)
          clear hinv z2
          go_wp2
          go_roundw
          case rel => exact ⟨i + 1, S', by go_num, by omega, unhide HJ⟩
          case measure => simp [intOf]; omega
        obtain ⟨X, hX, hXl, x0, x1, x2⟩ := way_of (unhide HR) (s := (s : Int)) (by omega) (unhide Hs1) (x := (x : Int)) (by omega) hx
        obtain ⟨Y, hY, hYl, y0, y1, y2⟩ := way_of (unhide HQ) (s := (t : Int)) (by omega) (unhide Ht1) (x := (x : Int)) (by omega) (by rw [unhide HK]; exact hx)
        rw [unhide HK] at hY y0 y1
        obtain ⟨b7, off7, e7, hm7⟩ := (h1.below hbx).at hXl
        obtain ⟨b8, off8, e8, hm8⟩ := (g1.below hbx).at hYl
        rw [e7] at p4
        rw [e8] at q4
        clear e7 e8
        have hnX := hm7 X hXl
        have hnY := hm8 Y hYl
        have rX := (unhide HR).st X hXl
        have rY := (unhide HQ).st Y hYl
        obtain ⟨u, hu⟩ := Int.eq_ofNat_of_zero_le rX.1
        obtain ⟨v, hv⟩ := Int.eq_ofNat_of_zero_le rY.1
        have eN : nxP m o P x = (u : Int) * o.n + (v : Int) := by
          unfold nxP cdP nxt
          rw [unhide HS, unhide HT, unhide HK, hX, hY, Int.toNat_natCast, Int.toNat_natCast, hu, hv]
        rw [hu] at hnX rX
        rw [hv] at hnY rY
        have hT := cd_rng (m := m) (o := o) rX.1 rX.2 rY.1 rY.2
        unfold cdP at hT
        rw [unhide HMO] at hT
        obtain ⟨T, hTT⟩ := Int.eq_ofNat_of_zero_le hT.1
        rw [hTT] at eN
        have EN := hide eN
        have HTT := hide hTT
        have hTl : T < MO := by omega
        have hTl' : (T : Int) < (MO : Int) := by omega
        have hXl' : (X : Int) < (m.nx.length : Int) := by omega
        have hYl' : (Y : Int) < (o.nx.length : Int) := by omega
        have un0 : 0 ≤ (u : Int) * o.n := Int.mul_nonneg (by omega) (by omega)
        have un1 : (u : Int) * o.n ≤ 1048576 := by omega
        have hv0 : (v : Int) ≤ 1024 := by have := rY.2; omega
        have HX := hide hX
        have HY := hide hY
        have Hv1 := hide rY
        clear hm7 hm8 hu hv eN hTT rX rY hinv z2 hT
        by_cases hk2 : m.kind = 2
        case' pos =>
          have t9 : (m.kind == 2) = true := eq_t hk2
          have hXo : X < m.out.length := by have := (unhide HR).outM hk2; have := (unhide HR).nx; omega
          have hYo : Y < o.out.length := by have := (unhide HQ).outM (by rw [unhide HKD]; exact hk2); have := (unhide HQ).nx; omega
          have hXo' : (X : Int) < (m.out.length : Int) := by omega
          have hYo' : (Y : Int) < (o.out.length : Int) := by omega
          obtain ⟨b5, off5, e5, hm5⟩ := (h2.below hbx).at hXo
          obtain ⟨b6, off6, e6, hm6⟩ := (g2.below hbx).at hYo
          rw [e5] at p5
          rw [e6] at q5
          clear e5 e6
          have hoX := hm5 X hXo
          have hoY := hm6 Y hYo
          obtain ⟨z1, hz1⟩ : ∃ z, z = m.out.getD X 0 := ⟨_, rfl⟩
          obtain ⟨z2, hz2⟩ : ∃ z, z = o.out.getD Y 0 := ⟨_, rfl⟩
          rw [← hz1] at hoX
          rw [← hz2] at hoY
          have SA2 := hide (sa_two (unhide HKD) (unhide HK) k0 hk2 (unhide HS) (unhide HT))
          have SA3 : Hid (m.out.getD ((s : Int) * m.k + (x : Int)).toNat 0 = z1 ∧ o.out.getD ((t : Int) * m.k + (x : Int)).toNat 0 = z2) := by
            refine ⟨?_, ?_⟩
            · rw [hX, hz1, Int.toNat_natCast]
            · rw [hY, hz2, Int.toNat_natCast]
          clear hm5 hm6 hz1 hz2
          by_cases hd : z1 = z2
          rotate_left
          · have td : (z1 != z2) = true := bne_iff_ne.2 hd
            have HE : Hid (¬ Same2 m 0 o 0) := (unhide HI).inv.apart (unhide HR) (unhide HQ) (unhide HKD) (unhide HK) hiS (by
              rw [unhide hgd]
              intro h
              have h5 := (unhide SA2).1 h x hx
              rw [(unhide SA3).1, (unhide SA3).2] at h5
              exact hd h5)
            clear hk2 hd
            go_wp2
            go_quiet (fail)
            go_wp2
            go_ret
            exact ⟨true, rfl, ⟨fun _ => unhide HE, fun _ => rfl⟩, below_drewN hbx _⟩
          have td : (z1 != z2) = false := by simp [hd]
          have SD : Hid (m.kind = 2 → ∀ y : Nat, y < x + 1 → m.out.getD ((s : Int) * m.k + (y : Int)).toNat 0 = o.out.getD ((t : Int) * m.k + (y : Int)).toNat 0) := fun h y hy => by
            by_cases e : y = x
            · rw [e, (unhide SA3).1, (unhide SA3).2, hd]
            · exact unhide hsd h y (by omega)
          clear hk2 SA2 SA3
          subst hd
          go_wp2
          go_quiet (fail)
          obtain ⟨nqa, hnqa⟩ : ∃ q, q = nq := ⟨_, rfl⟩
          rw [← hnqa]
          have HI7 := hide ((unhide HI).draw nqa)
          clear hnqa
          clear td hoX hoY t9
        case' neg =>
          have t9 : (m.kind == 2) = false := eq_f hk2
          have SD : Hid (m.kind = 2 → ∀ y : Nat, y < x + 1 → m.out.getD ((s : Int) * m.k + (y : Int)).toNat 0 = o.out.getD ((t : Int) * m.k + (y : Int)).toNat 0) := fun h => absurd h hk2
          clear hk2
          go_wp2
          go_quiet (fail)
          obtain ⟨nqa, hnqa⟩ : ∃ q, q = nq := ⟨_, rfl⟩
          rw [← hnqa]
          have HI7 := hide ((unhide HI).draw nqa)
          clear hnqa
          clear t9
        all_goals
          go_wp2
          go_quiet (fail)
          rw [unhide HTT]
          have HI8 := (unhide HI7).draw nq
          clear HI7 HI p0 p1 p2 p3 p4 p5 q0 q1 q2 q3 q4 q5 hnX hnY hbx
          obtain ⟨w6, hw6⟩ : ∃ w6, w6 = (wr.drewN nqa).drewN nq := ⟨_, rfl⟩
          rw [← hw6] at HI8 ⊢
          clear hw6
          obtain ⟨gk, ck, ek, -, -, -, hgk, hkc, hkf⟩ := HI8.kn.pos (by omega)
          obtain ⟨rfl, rfl⟩ : gk = w.heap.size + 2 ∧ ck = MO := by cases ek; exact ⟨rfl, rfl⟩
          have hkt := hkc T hTl
          have hkft := hkf T
          have HJ := hide HI8
          by_cases hm : (T : Int) ∈ S'
          · have tk : decide ((T : Int) ∈ S') = true := decide_eq_true hm
            rw [tk] at hkt
            have HM := hide hm
            clear hm tk HI8 hkc hkf ek
            go_wp2
            go_roundw
            case rel => exact ⟨x + 1, S', by go_num, by omega, hiS, hgd, SD, (unhide HJ).put ((unhide HJ).inv.old hx (by rw [unhide hgd, unhide EN]; exact unhide HM))⟩
            case measure => simp [intOf]; omega
          · have tk : decide ((T : Int) ∈ S') = false := decide_eq_false hm
            rw [tk] at hkt
            have HM := hide hm
            have SA : OwnL .i64 3 (w6.setCell ⟨w.heap.size + 2, T, none⟩ (.bool true)) (w.heap.size + 2) (.slice (some ⟨gr, 0, none⟩) S'.length cr) S' := HI8.st.keep fun b e => Below.heap_setCell _ _ _ _ (fun e2 => HI8.ap (by rw [e, e2]))
            have L1 : RdL .i64 ((w6.setCell ⟨w.heap.size + 2, T, none⟩ (.bool true)).alloc (.cells #[.int .i64 (T : Int)] 3)) (some ⟨w6.heap.size, 0, none⟩) [(T : Int)] := by
              have h9 := RdL.one (q := .i64) (t := 3) (w6.setCell ⟨w.heap.size + 2, T, none⟩ (.bool true)) (T : Int)
              have e9 : (w6.setCell ⟨w.heap.size + 2, T, none⟩ (.bool true)).heap.size = w6.heap.size := by simp
              rw [e9] at h9; exact h9
            clear hm tk HI8 hkc hkf ek
            go_wp2_with (at_builtin; refine wpl_pushA eInt rfl (.tmp 121) (.tmp 123) rfl (w.heap.size + 2) _ S' rfl (SA.alloc _) ⟨w6.heap.size, 0, none⟩ 1 [(T : Int)] rfl L1 (by simp only [List.length_cons, List.length_nil]; omega) (by simp; omega) ?_; intro vs' wc hownS hbS hgS hatS; obtain ⟨as', cs', es', -, -, -, -, -⟩ := hownS.shape; rw [show (S' ++ [(T : Int)]).length = S'.length + 1 by simp] at es'; subst es')
            go_roundw
            case rel =>
              have h8 := PInv.new (unhide HR) (unhide HQ) (unhide HK) (unhide HJ).inv hiS hx (by rw [unhide hgd, unhide EN]; exact unhide HM)
              rw [unhide hgd, unhide EN] at h8
              have h9 := (unhide HJ).new hownS hgS hbS hatS h8
              have f1 : i < (S' ++ [(T : Int)]).length := by rw [List.length_append]; omega
              have f2 : Hid ((S' ++ [(T : Int)]).getD i 0 = P) := by show _ = _; rw [gd_left 0 hiS]; exact unhide hgd
              have f3 : ((x + 1 : Nat) : Int) ≤ m.k := by omega
              refine ⟨x + 1, S' ++ [(T : Int)], ?_, f3, f1, f2, SD, ?_⟩
              · go_num
              · exact h9
            case measure => simp [intOf]; omega

end Go.Proofs.Ytoiogggibfmncaa
