/-
  The object that parts states: parted by where they lead, walked.
-/
import Derived.Test.YtnakadlhafggkaaQWay
import Derived.Test.YtnakadlhafggkaaQSaidW
import Derived.Test.YtnakadlhafggkaaQApi
import Derived.WalkMore
import Derived.Deep.LoopGhost
namespace Go.Proofs.Ytnakadlhafggkaa
open Go.RowKit

structure WyI (m : Mc) (N k : Nat) (w0 wx : World) (z : Nat) (p : Pp) (bb : Nat) (a1 : Option Addr) (c1 : Nat) (a2 : Option Addr) (c2 : Nat) (g : Nat) (vs : Nat → Value) (gs cap : Nat) (s : St) (vq vw : Value) (f : Nat → Bool) (W : List Int) (D0 : Nat → Prop) (x : Nat) : Prop where
  sg : Sg m N k w0 wx z p gs cap s vq vw f W D0 x
  bx : Box wx bb m a1 c1 a2 c2
  nb : ¬ SvX z p gs vq vw bb
  rw : Rw wx g (N * k) vs (ldL m.nx k m.nx.length) (SvX z p gs vq vw)
  nw : ∀ u v, u < N → v < N → s.c u = s.c v → ∀ i, i < pp m → oAt m u i = oAt m v i
def WaysPost (m : Mc) (N k : Nat) (w0 : World) (z : Nat) (p : Pp) (e : Ending) (w' : World) : Prop :=
  ∃ gs cap s vq vw f W D0 x, e = .returned (.tuple #[]) ∧ Sg m N k w0 w' z p gs cap s vq vw f W D0 x ∧ (∀ u v, u < N → v < N → s.c u = s.c v → ∀ i, i < pp m → oAt m u i = oAt m v i) ∧ ∀ u v y, u < N → v < N → y < k → s.c u = s.c v → s.c (dl m u y) = s.c (dl m v y)
section
variable {m : Mc} {N k : Nat} {w0 wx wy : World} {z : Nat} {p : Pp} {bb : Nat} {a1 : Option Addr} {c1 : Nat} {a2 : Option Addr} {c2 g : Nat} {vs : Nat → Value} {gs cap : Nat} {s : St} {vq vw : Value} {f : Nat → Bool} {W : List Int} {D0 : Nat → Prop} {x : Nat}
theorem WyI.on (h : WyI m N k w0 wx z p bb a1 c1 a2 c2 g vs gs cap s vq vw f W D0 x) (hb : Below wx.heap.size wx wy) (h0 : 0 < N * k) : WyI m N k w0 wy z p bb a1 c1 a2 c2 g vs gs cap s vq vw f W D0 x :=
  ⟨h.sg.on hb, h.bx.below hb, h.nb, h.rw.step h0 (Bx.of hb) (fun _ _ e => e), h.nw⟩
theorem WyI.done (h : WyI m N k w0 wx z p bb a1 c1 a2 c2 g vs gs cap s vq vw f [] D0 k) : WaysPost m N k w0 z p (.returned (.tuple #[])) wx :=
  ⟨gs, cap, s, vq, vw, f, [], D0, k, rfl, h.sg, h.nw, fun _ _ _ hu hv hy e => h.sg.ha.hop.done (Nat.le_refl _) hu hv e hy⟩
theorem WyI.alone (h : WyI m N k w0 wx z p bb a1 c1 a2 c2 g vs gs cap s vq vw f W D0 x) (e : s.K = N) : WaysPost m N k w0 z p (.returned (.tuple #[])) wx := by
  have I := h.sg.sv.ob.pi
  rw [h.sg.pn] at I
  exact ⟨gs, cap, s, vq, vw, f, W, D0, x, rfl, h.sg, h.nw, fun u v y hu hv _ e2 => by rw [I.alone e hu hv e2]⟩
end

set_option maxRecDepth 100000 in
set_option maxHeartbeats 4000000 in
theorem ways_any (m : Mc) (a1 : Option Addr) (c1 : Nat) (a2 : Option Addr) (c2 : Nat) (N k : Nat) (w0 w : World) (z : Nat) (p : Pp) (gs cap : Nat) (s : St) (vq vw : Value) (f : Nat → Bool) (Wl : List Int) (R : Right m) (hN : m.n = (N : Int)) (hk : m.k = (k : Int)) (h1 : RdL .i64 w0 a1 m.nx)
    (S : Sg m N k w0 w z p gs cap s vq vw f Wl (fun _ => False) k) (nw : ∀ u v, u < N → v < N → s.c u = s.c v → ∀ i, i < pp m → oAt m u i = oAt m v i) :
    Calls Try.prog 39 #[.pointer (some ⟨z, 0, none⟩), mval m a1 c1 a2 c2] w fun e w' => WaysPost m N k w0 z p e w' := by
  have hN0 : 1 ≤ N := by have := R.n0; omega
  have hN1 : N ≤ 1024 := by have := R.n1; omega
  have hk0 : 1 ≤ k := by have := R.k0; omega
  have hk1 : k ≤ 64 := by have := R.k1; omega
  have hlen : m.nx.length = N * k := by have := R.nx; rw [hk, hN] at this; exact_mod_cast this
  have hLn : N * k ≤ 65536 := by have := Nat.mul_le_mul hN1 hk1; omega
  have hL0 : 0 < N * k := Nat.mul_pos hN0 hk0
  have b0 := ballo w (.cells #[.int .i64 m.kind, .int .i64 m.k, .int .i64 m.o, .int .i64 m.n, .slice a1 m.nx.length c1, .slice a2 m.out.length c2] 51)
  have B0 := Box.alloc w m a1 c1 a2 c2 51
  obtain ⟨wb, hwb⟩ : ∃ wb, wb = w.alloc (.cells #[.int .i64 m.kind, .int .i64 m.k, .int .i64 m.o, .int .i64 m.n, .slice a1 m.nx.length c1, .slice a2 m.out.length c2] 51) := ⟨_, rfl⟩
  rw [← hwb] at b0 B0
  have LD := lead_any m a1 c1 a2 c2 wb R (h1.below (S.on b0).sv.ob.bl)
  rw [hk, Int.toNat_natCast, hlen] at LD
  have HLD := hide LD
  have HS := hide S
  have HB0 := hide b0
  have HBX := hide B0
  have HR := hide R
  have HNN := hide hN
  have HKK := hide hk
  have HNW := hide nw
  have HLE := hide hlen
  clear LD S R hN hk nw h1 hlen
  clear b0 B0
  subst hwb
  unfold mval at HLD ⊢
  go_enter Try.func39, Try.ntmps39
  go_wp2
  go_step3
  go_wp2_with fail
  refine (unhide HLD).mono ?_
  rintro e w1 ⟨g, cg, vs, rfl, hbk⟩
  have I1 : WyI m N k w0 w1 z p w.heap.size a1 c1 a2 c2 g vs gs cap s vq vw f Wl (fun _ => False) k := by
    have S := unhide HS
    have hxl : ∀ b, SvX z p gs vq vw b → b < (w.alloc (.cells #[.int .i64 m.kind, .int .i64 m.k, .int .i64 m.o, .int .i64 m.n, .slice a1 m.nx.length c1, .slice a2 m.out.length c2] 51)).heap.size := (S.on (unhide HB0)).sv.xlt
    refine ⟨(S.on (unhide HB0)).on hbk.bl, (unhide HBX).below hbk.bl, fun e => by have := S.sv.xlt _ e; omega, ?_, unhide HNW⟩
    have := hbk.rw hxl
    rw [unhide HLE]
    exact this
  have HI1 := hide I1
  clear I1 hbk HLD HBX HB0 HS HNW
  go_wp2
  go_step3
  go_wp2
  go_loopw [5, 6, 7, 9] (fun _ _ _ _ wx => ∃ (gs cap : Nat) (s : St) (vq vw : Value) (f : Nat → Bool) (W : List Int) (D0 : Nat → Prop), WyI m N k w0 wx z p w.heap.size a1 c1 a2 c2 g vs gs cap s vq vw f W D0 k) (fun _ _ _ _ wx => msW z p.b N wx)
  case atStart => exact ⟨_, _, _, _, _, _, _, _, unhide HI1⟩
  case round =>
    obtain ⟨gs, cap, s, vq, vw, f, W, D0, hI⟩ := hrel
    clear HI1
    have hc1 := hI.sg.sv.c1
    obtain ⟨aq, cq, rfl⟩ := hI.sg.sv.q.shape
    rcases W with _ | ⟨q0, W⟩
    · have HI := hide hI
      clear hI
      go_wp2
      try rw [Exit.noGoto_ret]
      go_end0
      exact (unhide HI).done
    · have hms := hI.sg.sv.ms N
      have hq0 := hI.sg.wn.mem q0 (by simp)
      obtain ⟨q, rfl⟩ : ∃ q : Nat, q0 = (q : Int) := ⟨q0.toNat, by omega⟩
      have hqK : q < s.K := by omega
      have TK := take_any w0 wr z p gs cap s (.slice aq (List.length ((q : Int) :: W)) cq) vw f W q hI.sg.sv hI.sg.wn
      have HTK := hide TK
      have HI := hide hI
      have HMS := hide hms
      rw [List.length_cons] at hc1
      have hl1 : (0 : Int) < ((W.length : Nat) : Int) + 1 := by omega
      obtain ⟨wo, hwo⟩ : ∃ wo, wo = wr := ⟨_, rfl⟩
      subst hwo
      clear TK hI hms
      go_wp2_with fail
      refine (unhide HTK).mono ?_
      rintro e w2 ⟨vq2, f2, rfl, hp⟩
      have conv : ∀ b, SvX z p gs vq2 vw b → SvX z p gs (.slice aq (List.length ((q : Int) :: W)) cq) vw b := fun b e => by
        rcases e with d | d | d | d
        · exact .inl d
        · exact .inr (.inl d)
        · exact .inr (.inr (.inl (hp.own ▸ d)))
        · exact .inr (.inr (.inr d))
      have I2 : WyI m N k w0 w2 z p w.heap.size a1 c1 a2 c2 g vs gs cap s vq2 vw f2 W (fun u => s.c u = q) 0 := by
        have hI := unhide HI
        exact ⟨⟨hp.sv, hp.wn, hI.sg.ha.take (Nat.le_refl _), hI.sg.pn⟩, hI.bx.bxx hp.bx hI.nb, fun e => hI.nb (conv _ e), hI.rw.step hL0 hp.bx (fun b _ e => conv b e), hI.nw⟩
      have PS : PI N s := by
        have := (unhide HI).sg.sv.ob.pi
        rw [(unhide HI).sg.pn] at this; exact this
      have SP : Spn m N s (fun u => s.c u = q) (s.b q) (s.e q) := Spn.start PS (unhide HI).sg.ha.snd hqK
      have hbe := PS.sp q hqK
      have hM0 : W.length + 2 * (N - s.K) < msW z p.b N wo := by rw [unhide HMS, List.length_cons]; omega
      have p1 := I2.bx.p1
      rw [unhide HKK] at p1
      have HI2 := hide I2
      have HSP := hide SP
      have HM0 := hide hM0
      have hpn : p.n = N := (unhide HI).sg.pn
      have HPN := hide hpn
      generalize hD0 : (fun u => s.c u = q) = D0 at *
      generalize hbq : s.b q = b0 at *
      generalize heq : s.e q = e0 at *
      generalize hln : e0 - b0 = ln at *
      generalize p.n - b0 = cpn at *
      have hlnN : ln ≤ 1024 := by omega
      have HLN := hide hln
      clear hln
      clear hp conv I2 PS SP HI HMS HTK hc1 hq0 hqK hM0 hpn hD0 hbq heq
      obtain ⟨M0, hM0⟩ : ∃ M0, M0 = msW z p.b N wo := ⟨_, rfl⟩
      rw [← hM0] at HM0
      have HMM := hide hM0
      clear hM0
      go_wp2
      go_loopw [6, 7, 9, 22] (fun _ _ _ i wx => ∃ (x gs3 cap3 : Nat) (s3 : St) (vq3 vw3 : Value) (f3 : Nat → Bool) (W3 : List Int), x ≤ k ∧ i = .int .i64 x ∧ WyI m N k w0 wx z p w.heap.size a1 c1 a2 c2 g vs gs3 cap3 s3 vq3 vw3 f3 W3 D0 x ∧ Spn m N s3 D0 b0 e0 ∧ W3.length + 2 * (N - s3.K) < M0) (fun _ _ _ i _ => k - (intOf i).toNat)
      case atStart => exact ⟨0, _, _, _, _, _, _, _, Nat.zero_le _, rfl, unhide HI2, unhide HSP, unhide HM0⟩
      case round =>
        obtain ⟨x, gs3, cap3, s3, vq3, vw3, f3, W3, hx, rfl, hI, hsp, hms⟩ := hrel
        clear HI2 HSP HM0 p1
        by_cases hlt : x < k
        · have q0 := hI.sg.sv.c0
          have q3 := hI.bx.p3
          rw [unhide HNN] at q3
          have CN : ∀ n, Calls Try.prog 18 #[.pointer (some ⟨p.b, 0, none⟩)] (wr.drewN n) fun e w' => e = .returned (.int .i64 (s3.K : Nat)) ∧ w' = wr.drewN n := fun n => count_any (PtAt.draws hI.sg.sv.ob.at_ n)
          have HCN := hide CN
          have HI := hide hI
          have HSP := hide hsp
          have HMS := hide hms
          have hKn := hI.sg.sv.ob.pi.Kn
          obtain ⟨wo2, hwo2⟩ : ∃ wo2, wo2 = wr := ⟨_, rfl⟩
          subst hwo2
          clear CN hI hsp hms
          by_cases hKN : s3.K = N
          · have hKN' : ((s3.K : Nat) : Int) = ((N : Nat) : Int) := by omega
            go_wp2
            go_quiet ((go_at_call 18; exact Calls.quiet_of_same ((unhide HCN) _)))
            go_wp2
            try rw [Exit.noGoto_ret]
            go_end0
            exact (((unhide HI).on (below_drewN (Below.refl _ _) _) hL0)).alone hKN
          · have hKN' : ¬ ((s3.K : Nat) : Int) = ((N : Nat) : Int) := by omega
            go_wp2
            go_quiet ((go_at_call 18; exact Calls.quiet_of_same ((unhide HCN) _)))
            have ID := (unhide HI).on (below_drewN (Below.refl _ _) nq) hL0
            generalize wo2.drewN nq = wd at *
            have PS : PI N s3 := by
              have := ID.sg.sv.ob.pi
              rw [ID.sg.pn] at this; exact this
            have hinj := way_inj (b := b0) PS hbe.2
            rw [unhide HLN] at hinj
            have HPS := hide PS
            have HIN := hide hinj
            have HID := hide ID
            have hgb : g < wd.heap.size := World.block_lt_of_cell? wd _ (ID.rw.cell 0 hL0)
            have hbb : w.heap.size < wd.heap.size := World.block_lt_of_cell? wd _ ID.bx.p0
            clear ID HI PS hinj q0 q3 HCN
            go_wp2
            have hbf : (((s3.K : Nat) : Int) == ((N : Nat) : Int)) = false := by simpa using hKN'
            rw [hbf]
            clear hKN hKN' hbf
            go_loopw [7, 9, 35] (fun l _ j wx => ∃ jj : Nat, jj ≤ ln ∧ j = .int .i64 jj ∧ OwnL .i64 3 wx wd.heap.size l (wyL m k x (fun j => s3.r (b0 + j)) jj) ∧ Below wd.heap.size wd wx) (fun _ _ j _ => ln - (intOf j).toNat)
            case atStart => exact ⟨0, Nat.zero_le _, rfl, OwnL.nil _ _ _ _, Below.refl _ _⟩
            case round =>
              obtain ⟨jj, hj, rfl, hl, hb⟩ := hrel
              by_cases hlt2 : jj < ln
              · have hrow := ((unhide HID).on hb hL0).sg.sv.ob.at_.row (i := b0 + jj) (by have := unhide HLN; rw [unhide HPN]; omega)
                have hr1 := hrow.1
                rw [tab_at _ (by have := unhide HLN; rw [unhide HPN]; omega)] at hr1
                have hsn := ((unhide HPS).rr (b0 + jj) (by have := unhide HLN; omega)).1
                obtain ⟨y, hy⟩ : ∃ y, y = s3.r (b0 + jj) := ⟨_, rfl⟩
                rw [← hy] at hr1 hsn
                obtain ⟨pr, hpr⟩ : ∃ pr, pr = y * k := ⟨_, rfl⟩
                have hmul : (y : Int) * (k : Int) = (pr : Int) := by rw [hpr]; simp
                have hprl : pr + k ≤ N * k := by rw [hpr, ← Nat.succ_mul]; exact Nat.mul_le_mul_right _ hsn
                obtain ⟨ix, hix⟩ : ∃ ix, ix = pr + x := ⟨_, rfl⟩
                have hsum : (pr : Int) + (x : Int) = (ix : Int) := by omega
                obtain ⟨T, hT⟩ : ∃ T, T = N * k := ⟨_, rfl⟩
                have hixl : ix < T := by omega
                have hixl3 : (ix : Int) < ((N * k : Nat) : Int) := by omega
                have hixl2 : (ix : Int) < (N : Int) * (k : Int) := by rw [← Int.natCast_mul]; exact hixl3
                have HIX : Hid (ix = s3.r (b0 + jj) * k + x) := by show _ = _; rw [hix, hpr, hy]
                have hrw := ((unhide HID).on hb hL0).rw
                have hc := hrw.cell ix (by omega)
                obtain ⟨av, cv, ev, hnil, -, -, hrd, -⟩ := (hrw.own ix (by omega)).shape
                rw [ev] at hc
                have p1' := ((unhide HID).on hb hL0).bx.p1
                rw [unhide HKK] at p1'
                have hlen2 := wyL_len (unhide HR) (unhide HNN) (unhide HKK) hlt (r := fun j => s3.r (b0 + j)) (j := jj + 1) (fun i i' h1 h2 => (unhide HIN) i i' (by omega) (by omega))
                unfold wyL at hlen2
                rw [← unhide HIX, List.length_append] at hlen2
                obtain ⟨l0, hl0⟩ : ∃ l0, l0 = wyL m k x (fun j => s3.r (b0 + j)) jj := ⟨_, rfl⟩
                obtain ⟨l1, hl1⟩ : ∃ l1, l1 = ldL m.nx k m.nx.length ix := ⟨_, rfl⟩
                rw [← hl0, ← hl1] at hlen2
                rw [← hl0] at hl
                rw [← hl1] at hrd hc hnil
                have EQ : Hid (wyL m k x (fun j => s3.r (b0 + j)) (jj + 1) = l0 ++ l1) := by show _ ++ _ = _; rw [hl0, hl1, unhide HIX]
                obtain ⟨au, cu, rfl, -, -, -, -, -⟩ := hl.shape
                have HL := hide hl
                have HRD := hide hrd
                have HNL := hide hnil
                have HB := hide hb
                have hzz := hb.size
                clear hrow hy hpr hix hrw ev hl0 hl1 hl hrd hnil hb hprl hT
                go_wp2_with (at_builtin; refine wpl_pushL eInt rfl (.tmp 39) (.tmp 48) rfl wd.heap.size _ l0 rfl (unhide HL) av cv l1 rfl (unhide HRD) (unhide HNL) (by omega) (by omega) ?_; intro v4 w4 ho4 hb4 _; obtain ⟨a4, c4, rfl, -, -, -, -, -⟩ := ho4.shape)
                go_roundw
                case rel => exact ⟨jj + 1, by omega, by go_num, by rw [unhide EQ]; rw [List.length_append] at ho4; exact ho4, (unhide HB).trans hb4⟩
                case measure => simp [intOf]; omega
              · have hje : ln = jj := by omega
                subst hje
                have IW := (unhide HID).on hb hL0
                have hwl := wyL_len (unhide HR) (unhide HNN) (unhide HKK) hlt (r := fun j => s3.r (b0 + j)) (j := ln) (unhide HIN)
                have hlw := IW.sg.lenW
                have hmem : ∀ u : Nat, u < N → ((u : Int) ∈ wyL m k x (fun j => s3.r (b0 + j)) ln ↔ D0 (dl m u x)) := fun u hu => by rw [← unhide HLN]; exact way_mem (unhide HR) (unhide HNN) (unhide HKK) hlt (unhide HPS) (unhide HSP) hbe.2 hu
                have hrng : ∀ y ∈ wyL m k x (fun j => s3.r (b0 + j)) ln, 0 ≤ y ∧ y < (p.n : Int) := fun y hy => by
                  obtain ⟨u, rfl⟩ := wyL_int hy
                  have := ((wyL_mem (unhide HR) (unhide HNN) (unhide HKK) hlt).1 hy).1
                  rw [unhide HPN]; omega
                obtain ⟨l0, hl0⟩ : ∃ l0, l0 = wyL m k x (fun j => s3.r (b0 + j)) ln := ⟨_, rfl⟩
                rw [← hl0] at hl hwl hmem hrng
                obtain ⟨au, cu, rfl, -, -, -, hrd, -⟩ := hl.shape
                have CS := svsplit_any w0 wr z p gs3 cap3 s3 vq3 vw3 f3 W3 au cu l0 IW.sg.sv IW.sg.wn (by rw [unhide HPN]; omega) (by omega) (by omega) hrd (fun y e _ hp => by
                  have h1 := (hl.lt (b := y.block) (by rw [e]; rfl)).1
                  have h2 := (unhide HID).sg.sv.xlt y.block (.inr (.inl hp))
                  omega) hrng
                have HCS := hide CS
                have HIW := hide IW
                have HMEM := hide hmem
                clear CS IW hmem hrng hl hrd hb hl0 hwl
                go_wp2_with fail
                refine (unhide HCS).mono ?_
                rintro e w2 ⟨gs4, cap4, s4, vq4, vw4, f4, W4, rfl, hp⟩
                have HPP := hide hp
                clear hp HCS
                go_wp2
                go_roundw
                case rel =>
                  have hp := unhide HPP
                  have hI := unhide HIW
                  have R := unhide HR
                  obtain ⟨hsg, hsf⟩ := hI.sg.split R (unhide HNN) (unhide HKK) hp (fun u v hu hv e => by
                    rw [(unhide HMEM) u hu, (unhide HMEM) v hv]
                    have hn := unhide HNN
                    have hk2 := unhide HKK
                    have h1 := alk_step R (s := (u : Int)) (t := (v : Int)) (by omega) (by omega) (by omega) (by omega) e (x := x) (by omega)
                    have r1 := nxt_range R (s := (u : Int)) (by omega) (by omega) (x := x) (by omega)
                    have r2 := nxt_range R (s := (v : Int)) (by omega) (by omega) (x := x) (by omega)
                    have hu2 := dl_lt R hn hk2 u x hu hlt
                    have hv2 := dl_lt R hn hk2 v x hv hlt
                    refine (unhide HSP).al _ _ hu2 hv2 ?_
                    unfold dl
                    rw [Int.toNat_of_nonneg r1.1, Int.toNat_of_nonneg r2.1]; exact h1)
                  have hbb := World.block_lt_of_cell? wr _ hI.bx.p0
                  have hsg' : Sg m N k w0 w2 z p gs4 cap4 s4 vq4 vw4 f4 W4 D0 (x + 1) := ⟨hsg.sv, hsg.wn, hsg.ha.drop (unhide HMEM) (fun u v hu hv e => (hsf.fine hu hv e).2), hsg.pn⟩
                  have inn : ∀ u, u < N → s3.b (s3.c u) ≤ s4.p u ∧ s4.p u < s3.e (s3.c u) := fun u hu => hp.inn u (by rw [unhide HPN]; exact hu)
                  have hlen := hsf.len
                  have hup := hsf.up
                  have hK4 : s4.K ≤ N := by have := hsg.sv.ob.pi.Kn; rw [unhide HPN] at this; exact this
                  have hms := unhide HMS
                  refine ⟨x + 1, gs4, cap4, s4, vq4, vw4, f4, W4, by omega, by go_num, ⟨hsg', hI.bx.bxx hp.bx hI.nb, fun e => hI.nb (hp.nw _ hbb e), hI.rw.step hL0 hp.bx hp.nw, fun u v hu hv e => hI.nw u v hu hv (hsf.fine hu hv e).1⟩, (unhide HSP).split (unhide HPS) hsf inn, by omega⟩
                case measure => simp [intOf]; omega
        · obtain rfl : x = k := by omega
          have HI := hide hI
          have HMS := hide hms
          clear hI hsp hms
          go_wp2
          go_roundw
          case rel => exact ⟨gs3, cap3, s3, vq3, vw3, f3, W3, D0, unhide HI⟩
          case measure =>
            have := (unhide HI).sg.sv.ms N
            rw [this, ← unhide HMM]
            exact unhide HMS
end Go.Proofs.Ytnakadlhafggkaa
