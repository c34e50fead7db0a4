/-
  The object that parts states: parted by what they say, walked.
-/
import Derived.Test.YtnakadlhafggkaaQSaid
namespace Go.Proofs.Ytnakadlhafggkaa
open Go.RowKit

def SaidPost (m : Mc) (N k : Nat) (w0 : World) (z : Nat) (p : Pp) (e : Ending) (w' : World) : Prop :=
  ∃ gs' cap' s' vq' vw' f' W, e = .returned (.tuple #[]) ∧ Sg m N k w0 w' z p gs' cap' s' vq' vw' f' W (fun _ => False) k ∧ ∀ u v, u < N → v < N → s'.c u = s'.c v → ∀ i, i < pp m → oAt m u i = oAt m v i
/-- What holds between two rounds. -/
structure SdI (m : Mc) (N k : Nat) (w0 wx : World) (z : Nat) (p : Pp) (bb : Nat) (a1 : Option Addr) (c1 : Nat) (a2 : Option Addr) (c2 : Nat) (t : Nat) (gs cap : Nat) (s : St) (vq vw : Value) (f : Nat → Bool) (W : List Int) : Prop where
  sg : Sg m N k w0 wx z p gs cap s vq vw f W (fun _ => False) k
  bx : Box wx bb m a1 c1 a2 c2
  nb : ¬ SvX z p gs vq vw bb
  sd : ∀ u v, u < N → v < N → s.c u = s.c v → ∀ i, i < t → oAt m u i = oAt m v i
theorem SdI.on {m : Mc} {N k : Nat} {w0 wx wy : World} {z : Nat} {p : Pp} {bb : Nat} {a1 : Option Addr} {c1 : Nat} {a2 : Option Addr} {c2 t gs cap : Nat} {s : St} {vq vw : Value} {f : Nat → Bool} {W : List Int} (h : SdI m N k w0 wx z p bb a1 c1 a2 c2 t gs cap s vq vw f W) (hb : Below wx.heap.size wx wy) : SdI m N k w0 wy z p bb a1 c1 a2 c2 t gs cap s vq vw f W :=
  ⟨h.sg.on hb, h.bx.below hb, h.nb, h.sd⟩
theorem Box.bxx {X : Nat → Prop} {w w' : World} {b : Nat} {m : Mc} {a1 : Option Addr} {c1 : Nat} {a2 : Option Addr} {c2 : Nat} (h : Box w b m a1 c1 a2 c2) (hb : Bx X w w') (hx : ¬ X b) : Box w' b m a1 c1 a2 c2 :=
  ⟨hb.cell h.p0 hx, hb.cell h.p1 hx, hb.cell h.p2 hx, hb.cell h.p3 hx, hb.cell h.p4 hx, hb.cell h.p5 hx⟩

set_option maxRecDepth 100000 in
set_option maxHeartbeats 4000000 in
theorem said_any (m : Mc) (a1 : Option Addr) (c1 : Nat) (a2 : Option Addr) (c2 : Nat) (N k : Nat) (w0 w : World) (z : Nat) (p : Pp) (gs cap : Nat) (s : St) (vq vw : Value) (f : Nat → Bool) (Wl : List Int) (F : Full m) (hN : m.n = (N : Int)) (hk : m.k = (k : Int)) (h2 : RdL .i64 w0 a2 m.out)
    (S : Sg m N k w0 w z p gs cap s vq vw f Wl (fun _ => False) k) :
    Calls Try.prog 38 #[.pointer (some ⟨z, 0, none⟩), mval m a1 c1 a2 c2] w fun e w' => SaidPost m N k w0 z p e w' := by
  unfold mval
  obtain ⟨P, hP⟩ : ∃ P, P = pp m := ⟨_, rfl⟩
  have hlen := out_lenN F hN
  have hP1 : 1 ≤ P := by rw [hP]; unfold pp; have := F.r.k0; split <;> omega
  have hP2 : P ≤ 64 := by rw [hP]; unfold pp; have := F.r.k1; split <;> omega
  have hN0 : 1 ≤ N := by have := F.r.n0; omega
  have hN1 : N ≤ 1024 := by have := F.r.n1; omega
  obtain ⟨O, hO⟩ : ∃ O : Nat, m.o = (O : Int) := ⟨m.o.toNat, by have := F.o0; omega⟩
  have hO0 : 1 ≤ O := by have := F.o0; omega
  have hO1 : O ≤ 64 := by have := F.o1; omega
  rw [← hP] at hlen
  have hLn : N * P ≤ 65536 := by have := Nat.mul_le_mul hN1 hP2; omega
  have b0 := ballo w (.cells #[.int .i64 m.kind, .int .i64 m.k, .int .i64 m.o, .int .i64 m.n, .slice a1 m.nx.length c1, .slice a2 m.out.length c2] 51)
  have I0 : SdI m N k w0 (w.alloc (.cells #[.int .i64 m.kind, .int .i64 m.k, .int .i64 m.o, .int .i64 m.n, .slice a1 m.nx.length c1, .slice a2 m.out.length c2] 51)) z p w.heap.size a1 c1 a2 c2 0 gs cap s vq vw f Wl :=
    ⟨S.on b0, Box.alloc w m a1 c1 a2 c2 51, fun e => by have := S.sv.xlt _ e; omega, fun _ _ _ _ _ i hi => by omega⟩
  obtain ⟨wb, hwb⟩ : ∃ wb, wb = w.alloc (.cells #[.int .i64 m.kind, .int .i64 m.k, .int .i64 m.o, .int .i64 m.n, .slice a1 m.nx.length c1, .slice a2 m.out.length c2] 51) := ⟨_, rfl⟩
  rw [← hwb] at I0
  have HI0 := hide I0
  have HF := hide F
  have HL := hide hlen
  have HNN := hide hN
  have HKK := hide hk
  have HP := hide hP
  have hq1 : (m.out.length : Int) / (N : Int) = (P : Int) := by
    rw [hlen]; simp; exact Int.mul_ediv_cancel_left _ (by omega)
  have hq0 : ¬ (N : Int) = 0 := by omega
  have hlo : m.out.length ≤ 65536 := by omega
  have HOO := hide hO
  have HO3 : Hid (∀ u i, u < N → i < P → ∃ o : Nat, o < O ∧ m.out.getD (u * P + i) 0 = (o : Int) ∧ oAt m u i = o ∧ u * P + i < m.out.length) := fun u i hu hi => by
    have hb : u * P + P ≤ N * P := by rw [← Nat.succ_mul]; exact Nat.mul_le_mul_right _ hu
    have h := F.r.so (u * P + i) (by omega)
    exact ⟨(m.out.getD (u * P + i) 0).toNat, by omega, by omega, by unfold oAt; rw [← hP], by omega⟩
  obtain ⟨-, -, p2, p3, -, p5⟩ := I0.bx
  rw [hO] at p2
  rw [hN] at p3
  clear b0 I0 F S hlen hP hN hO hk
  go_enter Try.func38, Try.ntmps38
  go_upto_region 1 with fail
  rw [← hwb]
  clear hwb
  go_wp2
  go_loopw [5, 6, 7, 8, 10, 18] (fun _ _ _ _ _ i wx => ∃ (t gs' cap' : Nat) (s' : St) (vq' vw' : Value) (f' : Nat → Bool) (W : List Int), t ≤ P ∧ i = .int .i64 t ∧ SdI m N k w0 wx z p w.heap.size a1 c1 a2 c2 t gs' cap' s' vq' vw' f' W) (fun _ _ _ _ _ i _ => P - (intOf i).toNat)
  case atStart => exact ⟨0, _, _, _, _, _, _, _, Nat.zero_le _, rfl, unhide HI0⟩
  case round =>
    obtain ⟨t, gs', cap', s', vq', vw', f', W, ht, rfl, hI⟩ := hrel
    clear HI0 p2 p3 p5
    by_cases hlt : t < P
    · obtain ⟨-, -, p2, p3, -, p5⟩ := hI.bx
      rw [unhide HOO] at p2
      rw [unhide HNN] at p3
      obtain ⟨wo, hwo⟩ : ∃ wo, wo = wr := ⟨_, rfl⟩
      subst hwo
      have HI := hide hI
      have hbz : w.heap.size < wo.heap.size := World.block_lt_of_cell? wo _ p2
      clear hI
      go_wp2_with (at_make; refine wplE_make eInts rfl (.tmp 22) (.tmp 22) rfl wo.heap.size _ _ O rfl rfl rfl rfl (by omega) (Nat.le_refl _) ?_; intro w1 hown1 hb1; have q3 : w1.cell? ⟨w.heap.size, 3, none⟩ = some (.int .i64 (N : Int)) := (hb1.cell (by exact hbz)).trans p3)
      have K0 := Bkt.start (n := O) hown1 (by omega) hb1
      have HK0 := hide K0
      clear K0 hown1 hb1 q3
      go_loopw [7, 8, 26] (fun _ _ j wx => ∃ (jj : Nat) (vs : Nat → Value), jj ≤ N ∧ j = .int .i64 jj ∧ Bkt wo wx wo.heap.size O vs (syL m.out P t jj)) (fun _ _ j _ => N - (intOf j).toNat)
      case atStart =>
        have e : syL m.out P t 0 = fun _ => [] := by funext i; rfl
        exact ⟨0, _, Nat.zero_le _, rfl, by rw [e]; exact unhide HK0⟩
      case round =>
        obtain ⟨jj, vs, hj, rfl, hk⟩ := hrel
        clear HK0
        have p5' : wr.cell? ⟨w.heap.size, 5, none⟩ = some (.slice a2 m.out.length c2) := (hk.bl.cell (by exact hbz)).trans p5
        by_cases hlt2 : jj < N
        · obtain ⟨o, ho, eo, eoA, hb⟩ := unhide HO3 jj t hlt2 hlt
          have hbl : Below w0.heap.size w0 wr := (unhide HI).sg.sv.ob.bl.trans (hk.bl.mono (unhide HI).sg.sv.ob.bl.size)
          obtain ⟨ab, ao, rfl, hc⟩ := (h2.below hbl).at hb
          have hcj := hc _ hb
          rw [eo] at hcj
          obtain ⟨pr, hpr⟩ : ∃ pr, pr = jj * P := ⟨_, rfl⟩
          have hmul : (jj : Int) * (P : Int) = (pr : Int) := by rw [hpr]; simp
          obtain ⟨ix, hix⟩ : ∃ ix, ix = pr + t := ⟨_, rfl⟩
          have hsum : (pr : Int) + (t : Int) = (ix : Int) := by omega
          rw [← hpr, ← hix] at hcj hb
          have hbl' : (ix : Int) < (m.out.length : Int) := by omega
          have hpl : pr ≤ 65536 := by omega
          have ho' : (o : Int) < (O : Int) := by omega
          obtain ⟨hcx, hfx⟩ := hk.cell o ho
          have hox := hk.own o ho
          have hgx := hk.ne o ho
          have hwx := hk.lt ho
          have hll := syL_len m.out P t jj o
          have HEO : Hid (o = (m.out.getD (jj * P + t) 0).toNat) := by show _ = _; rw [eo]; simp
          obtain ⟨v0, hv0⟩ : ∃ v0, v0 = vs o := ⟨_, rfl⟩
          rw [← hv0] at hcx hox hgx
          have HV0 := hide hv0
          have HK := hide hk
          obtain ⟨l0, hl0'⟩ : ∃ l0, l0 = syL m.out P t jj o := ⟨_, rfl⟩
          rw [← hl0'] at hox hll
          have HL0 := hide hl0'
          obtain ⟨av, cv, rfl, -, -, -, -, -⟩ := hox.shape
          have HOX := hide (hox.alloc (.cells #[.int .i64 (jj : Int)] 3))
          have hca := (World.cell?_of_block (a := ⟨wo.heap.size, o, none⟩) (Below.heap_alloc wr (.cells #[.int .i64 (jj : Int)] 3) _ hwx)).trans hcx
          have hfa := (World.frozen?_of_block (a := ⟨wo.heap.size, o, none⟩) (Below.heap_alloc wr (.cells #[.int .i64 (jj : Int)] 3) _ hwx)).trans hfx
          have HCA := hide hca
          have HFA := hide hfa
          clear hk hv0 hl0' hox hc eo eoA hbl hpr hix hca hfa
          go_wp2_with (at_builtin; refine wpl_pushA eInt rfl (.tmp 43) (.tmp 45) rfl wo.heap.size _ l0 rfl (unhide HOX) ⟨wr.heap.size, 0, none⟩ 1 [(jj : Int)] rfl (RdL.one _ _) (by simp only [List.length_cons, List.length_nil]; omega) (by simp; omega) ?_; intro v4 w4 ho4 hb4 hg4 hat4; have k1 := hg4.block wo.heap.size (by simp; omega) (fun e => hgx e.symm); have s41 := (World.cell?_of_block (a := ⟨wo.heap.size, o, none⟩) k1).trans (unhide HCA); have f4 := (World.frozen?_of_block (a := ⟨wo.heap.size, o, none⟩) k1).trans (unhide HFA); obtain ⟨a4, c4, rfl, -, -, -, -, -⟩ := ho4.shape)
          go_roundw
          case rel =>
            refine ⟨jj + 1, updV vs o (.slice a4 (l0.length + 1) c4), by omega, by go_num, ?_⟩
            have e := syL_next m.out P t jj
            rw [← unhide HEO, ← unhide HL0] at e
            rw [e]
            rw [show (l0 ++ [(jj : Int)]).length = l0.length + 1 by simp] at ho4 hat4
            exact (unhide HK).push ho (ballo wr _) (by rw [← unhide HV0]; exact hg4) ho4 (by rw [← unhide HV0]; exact hat4)
          case measure => simp [intOf]; omega
        · obtain rfl : jj = N := by omega
          have R0 : Rw wr wo.heap.size O vs (syL m.out P t jj) (SvX z p gs' vq' vw') := hk.rw (unhide HI).sg.sv.xlt
          have I1 := (unhide HI).on hk.bl
          have HR0 := hide R0
          have HI1 := hide I1
          clear hk R0 I1 p5' p2 p3 p5
          go_wp2
          go_loopw [10, 51] (fun _ o wx => ∃ (oo gs2 cap2 : Nat) (s2 : St) (vq2 vw2 : Value) (f2 : Nat → Bool) (W2 : List Int), oo ≤ O ∧ o = .int .i64 oo ∧ SdI m jj k w0 wx z p w.heap.size a1 c1 a2 c2 t gs2 cap2 s2 vq2 vw2 f2 W2 ∧ Rw wx wo.heap.size O vs (syL m.out P t jj) (SvX z p gs2 vq2 vw2) ∧ (∀ u v, u < jj → v < jj → s2.c u = s2.c v → ∀ o', o' < oo → ((u : Int) ∈ syL m.out P t jj o' ↔ (v : Int) ∈ syL m.out P t jj o'))) (fun _ o _ => O - (intOf o).toNat)
          case atStart => exact ⟨0, _, _, _, _, _, _, _, Nat.zero_le _, rfl, unhide HI1, unhide HR0, fun _ _ _ _ _ o' h => by omega⟩
          case round =>
            obtain ⟨oo, gs2, cap2, s2, vq2, vw2, f2, W2, hoo, rfl, hI, hR, hsame⟩ := hrel
            clear HI1 HR0
            by_cases hlt3 : oo < O
            · have hlt3' : (oo : Int) < (O : Int) := by omega
              have hcell := hR.cell oo hlt3
              obtain ⟨av, cv, ev, -, -, -, hrd, -⟩ := (hR.own oo hlt3).shape
              rw [ev] at hcell
              have hlw := hI.sg.lenW
              have hll := syL_len m.out P t jj oo
              have CS := svsplit_any w0 wr z p gs2 cap2 s2 vq2 vw2 f2 W2 av cv (syL m.out P t jj oo) hI.sg.sv hI.sg.wn (by rw [hI.sg.pn]; omega) (by omega) (by omega) hrd (fun x e _ hp => hR.off oo hlt3 x.block (by rw [ev, e]; rfl) (.inr (.inl hp))) (fun y hy => by rw [hI.sg.pn]; exact syL_rng hy)
              have HCS := hide CS
              have HI := hide hI
              have HR := hide hR
              have HSM := hide hsame
              clear CS hI hR hsame hrd ev
              generalize (syL m.out P t jj oo).length = ln at *
              go_wp2_with fail
              refine (unhide HCS).mono ?_
              rintro e w2 ⟨gs3, cap3, s3, vq3, vw3, f3, W3, rfl, hp⟩
              have HPP := hide hp
              clear hp HCS
              go_wp2
              go_roundw
              case rel =>
                have hp := unhide HPP
                have hI := unhide HI
                have F := unhide HF
                obtain ⟨hsg, hsf⟩ := hI.sg.split F.r (unhide HNN) (unhide HKK) hp (fun u v hu hv e => by
                  have hn := unhide HNN
                  have h1 := alk_oAt (i := t) (by rw [← unhide HP]; exact hlt) (alk_now F.r (by omega) (by omega) (by omega) (by omega) e)
                  rw [syL_mem, syL_mem]
                  unfold oAt at h1
                  rw [← unhide HP] at h1
                  rw [h1]
                  exact ⟨fun a => ⟨hv, a.2⟩, fun a => ⟨hu, a.2⟩⟩)
                have hbb := World.block_lt_of_cell? wr _ hI.bx.p0
                refine ⟨oo + 1, gs3, cap3, s3, vq3, vw3, f3, W3, by omega, by go_num, ⟨hsg, hI.bx.bxx hp.bx hI.nb, fun e => hI.nb (hp.nw _ hbb e), fun u v hu hv e => hI.sd u v hu hv (hsf.fine hu hv e).1⟩, (unhide HR).step (by omega) hp.bx hp.nw, fun u v hu hv e o' ho' => ?_⟩
                have hf := hsf.fine hu hv e
                by_cases d : o' < oo
                · exact (unhide HSM) u v hu hv hf.1 o' d
                · have : o' = oo := by omega
                  subst this
                  exact hf.2
              case measure => simp [intOf]; omega
            · obtain rfl : oo = O := by omega
              have HI := hide hI
              have HSM := hide hsame
              clear hI hR hsame
              go_wp2
              go_roundw
              case rel =>
                have hI := unhide HI
                refine ⟨t + 1, gs2, cap2, s2, vq2, vw2, f2, W2, by omega, by go_num, ⟨hI.sg, hI.bx, hI.nb, fun u v hu hv e i hi => ?_⟩⟩
                by_cases d : i < t
                · exact hI.sd u v hu hv e i d
                · have : i = t := by omega
                  subst this
                  obtain ⟨o, ho, eo, eoA, hb⟩ := unhide HO3 u i hu hlt
                  have h1 := (unhide HSM) u v hu hv e o ho
                  rw [syL_mem, syL_mem] at h1
                  have h2 := (h1.1 ⟨hu, by rw [eo]; simp⟩).2
                  rw [eoA]
                  unfold oAt
                  rw [← unhide HP, h2]
              case measure => simp [intOf]; omega
    · obtain rfl : t = P := by omega
      have HI := hide hI
      clear hI
      go_wp2
      go_end0
      have hI := unhide HI
      exact ⟨gs', cap', s', vq', vw', f', W, rfl, hI.sg, fun u v hu hv e i hi => hI.sd u v hu hv e i (by rw [unhide HP]; exact hi)⟩
end Go.Proofs.Ytnakadlhafggkaa
