/-
  What the reference's round returns: the walk.
-/
import Derived.Test.YtdnmabemollbeaaDoorK14
import Derived.Deep.CutRange
namespace Go.Proofs.YtdnmabemollbeaaDoor
open Go.RowKit Go.Maps

/-- What round leaves. -/
def RdPost (m : Mc) (n N : Nat) (w : World) (e : Ending) (w' : World) : Prop := ∃ v, e = .returned (.tuple #[v, .bool (mrP m n N N 0)]) ∧ MtPost N (apR m (n + 1)) w v w'

set_option maxRecDepth 100000 in
set_option maxHeartbeats 4000000 in
theorem round_any (m : Mc) (a1 : Option Addr) (c1 : Nat) (a2 : Option Addr) (c2 g c n N : Nat) (w : World) (R : Right m) (h1 : RdL .i64 w a1 m.nx) (h2 : RdL .i64 w a2 m.out) (hN : m.n = (N : Int)) (hM : Mat w g N (apR m n)) :
    Calls Tryd.prog 61 #[mval m a1 c1 a2 c2, .slice (some ⟨g, 0, none⟩) N c, .bool (decide (m.kind = 2))] w fun e w' => RdPost m n N w e w' := by
  unfold mval
  obtain ⟨w0, hw0⟩ : ∃ w0, w0 = w.alloc (.cells #[.int .i64 m.kind, .int .i64 m.k, .int .i64 m.o, .int .i64 m.n, .slice a1 m.nx.length c1, .slice a2 m.out.length c2] 24) := ⟨_, rfl⟩
  have b0 : Below w.heap.size w w0 := by rw [hw0]; exact ballo _ _
  have B0 : Box w0 w.heap.size m a1 c1 a2 c2 := by rw [hw0]; exact Box.alloc w m a1 c1 a2 c2 24
  have n0 := R.n0
  have n1 := R.n1
  have k0 := R.k0
  have k1 := R.k1
  have hN0 : 0 < N := by omega
  have hN1 : N ≤ 1024 := by omega
  have HR := hide R
  have HN := hide hN
  obtain ⟨fst, hfst⟩ : ∃ b, b = decide (m.kind = 2) := ⟨_, rfl⟩
  rw [← hfst]
  have HF := hide hfst
  clear R hN hfst
  go_enter Tryd.func61, Tryd.ntmps61
  go_wp2
  rw [← hw0]
  clear hw0
  go_loopw [8, 9, 10] (fun v d a wx => ∃ (s : Nat) (vs : Nat → Value), a = .int .i64 s ∧ s ≤ N ∧ d = .bool (mrP m n N s 0) ∧ MatB w0 wx v s N (apR m (n + 1)) vs) (fun _ _ a _ => N - (intOf a).toNat)
  case atStart => exact ⟨0, _, rfl, Nat.zero_le _, by rw [mrP_zero], MatB.start w0 N (apR m (n + 1))⟩
  case round =>
    obtain ⟨s, vs, rfl, hs, rfl, hinv⟩ := hrel
    obtain ⟨wp, hwp⟩ : ∃ wp, wp = wr := ⟨wr, rfl⟩
    subst hwp
    have HI := hide hinv
    obtain ⟨p0, p1, p2, p3, p4, p5⟩ := B0.below hinv.bl
    obtain ⟨av, cv, ev⟩ := hinv.out.shape
    subst ev
    have hbw := bstep b0 hinv.bl
    by_cases hlt : s < N
    rotate_left
    · have he : s = N := by omega
      subst he
      have HX : Hid (¬ (s : Int) < m.n) := by show ¬ _; have := unhide HN; omega
      have hx := unhide HX
      obtain ⟨g', c', e, hm⟩ := hinv.mat hN0
      cases e
      clear hinv
      go_wp2
      go_ret2
      exact ⟨_, rfl, g', _, rfl, hm, hbw⟩
    have hlt' : (s : Int) < m.n := by have := unhide HN; omega
    have hsN : (s : Int) < (N : Int) := by omega
    have hzz := hinv.bl.size
    clear hinv
    go_wp2_with (at_make; refine wplE_make eBool rfl (.tmp 21) (.tmp 21) rfl wp.heap.size _ _ N rfl rfl (unhide HN) (unhide HN) (by omega) (Nat.le_refl _) ?_; intro w1 hown1 hb1; obtain ⟨q0, q1, q2, q3, q4, q5⟩ := B0.below ((unhide HI).on hb1).bl)
    have HO : Hid (RwI wp w1 N (fun i => decide (i < 0) && apR m (n + 1) s i)) := ⟨hown1.congr fun i _ => by unfold bv; simp, hb1⟩
    clear hown1 hb1 p0 p1 p2 p3 p4 p5 q0 q1 q2 q3 q4 q5
    go_loopw [9, 12] (fun d a wx => ∃ t : Nat, a = .int .i64 t ∧ t ≤ N ∧ d = .bool (mrP m n N s t) ∧ RwI wp wx N (fun i => decide (i < t) && apR m (n + 1) s i)) (fun _ a _ => N - (intOf a).toNat)
    case atStart => exact ⟨0, rfl, Nat.zero_le _, rfl, unhide HO⟩
    case round =>
      obtain ⟨t, rfl, ht, rfl, hrw⟩ := hrel
      obtain ⟨wq, hwq⟩ : ∃ wq, wq = wr := ⟨wr, rfl⟩
      subst hwq
      clear HO
      have HO := hide hrw
      have hI2 := (unhide HI).on hrw.bl
      obtain ⟨p0, p1, p2, p3, p4, p5⟩ := B0.below hI2.bl
      have hbx := bstep b0 hI2.bl
      by_cases hltt : t < N
      rotate_left
      · have he : t = N := by omega
        subst he
        have HX : Hid (¬ (t : Int) < m.n) := by show ¬ _; have := unhide HN; omega
        have hx := unhide HX
        have HW := hide (hrw.own.congr (g := bv (apR m (n + 1) s)) fun i hi => by unfold bv; simp [hi])
        have OV := hI2.out
        have zz := hI2.bl.size
        have HB1 := hide hrw.bl
        rw [mrP_row]
        clear hrw hI2
        go_wp2_with (at_builtin; refine wplE_push eBools rfl (.tmp 105) (.tmp 107) rfl w0.heap.size _ s vs rfl (World.ownsRow.alloc OV _) wq.heap.size 1 (.slice (some ⟨wp.heap.size, 0, none⟩) t t) rfl (by simp) rfl (by omega) (by simp; omega) ?_; intro v3 w3 ho3 hb3 hg3 hat3)
        go_roundw
        case rel => exact ⟨s + 1, _, by go_num, by omega, rfl, (unhide HI).step hN0 (unhide HB1) (unhide HW) _ ho3 hb3 hg3 hat3⟩
        case measure => simp [intOf]; omega
      have hltt' : (t : Int) < m.n := by have := unhide HN; omega
      have htN : (t : Int) < (N : Int) := by omega
      have hMq := hM.below hbx
      obtain ⟨r, cr, hrow, hcells⟩ := hMq.row s hlt
      have hct := hcells t hltt
      obtain ⟨kc, kf⟩ := hrw.cell hltt
      clear hcells hMq
      have hrw2 : RwI wp wq N (rwB (apR m (n + 1) s) t false) := hrw.congr fun i => rwB_zero _ t i
      have HO2 := hide hrw2
      have hzq := hrw.bl.size
      clear hrw hrw2 hI2
      obtain ⟨A0, hA0⟩ : ∃ A0, A0 = apR m n s t := ⟨_, rfl⟩
      rw [← hA0] at hct
      have EA := hide hA0
      clear hA0
      go_upto_region 10 with fail
      go_cut [] from 29 to 104 (fun wx => RwI wp wx N (rwB (apR m (n + 1) s) t (ap0 m n s t)))
      case first =>
        cases A0
        · cases fst
          · have HE : Hid (ap0 m n s t = false) := by show _ = _; unfold ap0; rw [← unhide EA, ← unhide HF]; rfl
            go_wp2
            go_meet
            rw [unhide HE]
            exact (unhide HO2).store fun i => rwB_set _ _ _ _ i
          · have HE : Hid (ap0 m n s t = !(nowB m s t)) := by show _ = _; unfold ap0; rw [← unhide EA, ← unhide HF]; simp
            have HC := hide (now_any m a1 c1 a2 c2 s t wq (unhide HR) (h2.below hbx) hlt' hltt')
            go_wp2_with (go_at_call 74; refine (unhide HC).mono ?_; rintro e w2 ⟨rfl, hb2⟩; have O2 := (unhide HO2).on hb2; obtain ⟨kc2, kf2⟩ := O2.cell hltt)
            go_meet
            rw [unhide HE]
            exact O2.store fun i => rwB_set _ _ _ _ i
        · have HE : Hid (ap0 m n s t = true) := by show _ = _; unfold ap0; rw [← unhide EA]; rfl
          go_wp2
          go_meet
          rw [unhide HE]
          exact (unhide HO2).store fun i => rwB_set _ _ _ _ i
      case rest =>
        have HR0 : Hid (RwI wp wc N (rwB (apR m (n + 1) s) t (apX m n s t 0))) := by rw [apX_zero]; exact hcut
        clear hcut HO2 p0 p1 p2 p3 p4 p5 hrow hct kc kf HO
        go_wp2
        go_loopw [13] (fun a wx => ∃ x : Nat, a = .int .i64 x ∧ (x : Int) ≤ m.k ∧ RwI wp wx N (rwB (apR m (n + 1) s) t (apX m n s t x))) (fun a _ => m.k.toNat - (intOf a).toNat)
        case atStart => exact ⟨0, rfl, by omega, unhide HR0⟩
        case round =>
          obtain ⟨x, rfl, hxk, hrw⟩ := hrel
          clear HR0
          have HO := hide hrw
          have hI2 := (unhide HI).on hrw.bl
          obtain ⟨p0, p1, p2, p3, p4, p5⟩ := B0.below hI2.bl
          have hbx' := bstep b0 hI2.bl
          have hMx := hM.below hbx'
          obtain ⟨r2, cr2, hrow, hcells⟩ := hMx.row s hlt
          have hct := hcells t hltt
          have hcell := hrw.cell hltt
          have e9 : rwB (apR m (n + 1) s) t (apX m n s t x) t = apX m n s t x := by unfold rwB; rw [if_pos rfl]
          rw [e9] at hcell
          obtain ⟨kc, kf⟩ := hcell
          clear e9 hcells hrw hI2
          have hout : ∀ (b : Bool), apX m n s t x = b → (b = true ∨ (x : Int) = m.k) → b = apR m (n + 1) s t := fun b hb h => by
            rw [← apX_all]
            rcases h with h | h
            · rw [h] at hb ⊢
              exact (apX_mono hb (by omega)).symm
            · rw [← hb]; congr 1; omega
          have HOUT := hide hout
          clear hout
          by_cases hx : (x : Int) < m.k
          · cases hap : apX m n s t x
            · rw [hap] at kc HO
              obtain ⟨P, hP, hPl, t0, t1, t2⟩ := way_of (unhide HR) (s := (s : Int)) (by omega) hlt' (x := (x : Int)) (by omega) hx
              obtain ⟨Q, hQ, hQl, u0, u1, u2⟩ := way_of (unhide HR) (s := (t : Int)) (by omega) hltt' (x := (x : Int)) (by omega) hx
              obtain ⟨b4, off4, rfl, hn'⟩ := (h1.below hbx').at hPl
              have hnP := hn' P hPl
              have hnQ := hn' Q hQl
              have hyP := (unhide HR).st P hPl
              have hyQ := (unhide HR).st Q hQl
              have eN : nxt m s x = m.nx.getD P 0 := by unfold nxt; rw [hP]; simp
              have eM : nxt m t x = m.nx.getD Q 0 := by unfold nxt; rw [hQ]; simp
              obtain ⟨S', hS'⟩ := Int.eq_ofNat_of_zero_le hyP.1
              obtain ⟨T', hT'⟩ := Int.eq_ofNat_of_zero_le hyQ.1
              rw [hS'] at hnP hyP eN
              rw [hT'] at hnQ hyQ eM
              have hSN : S' < N := by have := unhide HN; omega
              have hTN : T' < N := by have := unhide HN; omega
              have hSN' : (S' : Int) < (N : Int) := by omega
              have hTN' : (T' : Int) < (N : Int) := by omega
              obtain ⟨r3, cr3, hrow3, hcells3⟩ := hMx.row S' hSN
              have hc3 := hcells3 T' hTN
              have hPl' : (P : Int) < (m.nx.length : Int) := by omega
              have hQl' : (Q : Int) < (m.nx.length : Int) := by omega
              have HE : Hid (apX m n s t (x + 1) = apR m n S' T') := by
                show _ = _
                rw [apX_succ, hap, eN, eM]; rfl
              have wr1 : IntKind.i64.wrap ((s : Int) * m.k) = s * m.k := by rw [IntKind.wrap_i64]; omega
              have wr2 : IntKind.i64.wrap (P : Int) = P := by rw [IntKind.wrap_i64]; omega
              have wr3 : IntKind.i64.wrap ((t : Int) * m.k) = t * m.k := by rw [IntKind.wrap_i64]; omega
              have wr4 : IntKind.i64.wrap (Q : Int) = Q := by rw [IntKind.wrap_i64]; omega
              generalize apR m n S' T' = z at *
              clear hcells3 hn' eN eM hS' hT' hMx hap HOUT hrow hct
              go_wp2
              go_region
              all_goals
                go_wp2
                go_roundw
                case rel => exact ⟨x + 1, by go_num, by omega, by rw [unhide HE]; exact ((unhide HO).on (bdrew1 wr)).store fun i => rwB_set _ _ _ _ i⟩
                case measure => simp [intOf]; omega
            · have HB : Hid (true = apR m (n + 1) s t) := unhide HOUT true hap (.inl rfl)
              rw [hap] at kc HO
              have HW := hide ((unhide HO).congr fun i => rwB_next (unhide HB) i)
              have HMR : Hid (mrP m n N s (t + 1) = (mrP m n N s t || (true != apR m n s t))) := by show _ = _; rw [mrP_next]; unfold dif; rw [← unhide HB]
              clear hap HOUT hMx HO HB
              generalize mrP m n N s t = D at *
              generalize apR m n s t = A at *
              cases D <;> cases A
              all_goals
                go_wp2
                go_quiet (fail)
                go_wp2
                go_roundw
              all_goals first | exact ⟨t + 1, by go_num, by omega, by rw [unhide HMR]; rfl, (unhide HW).on (bdrew wr _)⟩ | (simp [intOf]; omega)
          · have hxe : (x : Int) = m.k := by omega
            obtain ⟨b, hb⟩ : ∃ b, apX m n s t x = b := ⟨_, rfl⟩
            have HB : Hid (b = apR m (n + 1) s t) := unhide HOUT b hb (.inr hxe)
            rw [hb] at kc HO
            have HW := hide ((unhide HO).congr fun i => rwB_next (unhide HB) i)
            have HMR : Hid (mrP m n N s (t + 1) = (mrP m n N s t || (b != apR m n s t))) := by show _ = _; rw [mrP_next]; unfold dif; rw [← unhide HB]
            clear hb HOUT hMx HO HB hxe
            generalize mrP m n N s t = D at *
            generalize apR m n s t = A at *
            cases D <;> cases A <;> cases b
            all_goals
              go_wp2
              go_quiet (fail)
              go_wp2
              go_roundw
            all_goals first | exact ⟨t + 1, by go_num, by omega, by rw [unhide HMR]; rfl, (unhide HW).on (bdrew wr _)⟩ | (simp [intOf]; omega)

end Go.Proofs.YtdnmabemollbeaaDoor
