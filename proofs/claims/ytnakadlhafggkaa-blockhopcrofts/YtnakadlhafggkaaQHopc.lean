/-
  What the program's Hopcroft returns.
-/
import Derived.Test.YtnakadlhafggkaaQHopE
import Derived.Test.YtnakadlhafggkaaQHopM
import Derived.Test.YtnakadlhafggkaaQApi
import Derived.Test.YtnakadlhafggkaaK15
import Derived.Test.YtnakadlhafggkaaK3
import Derived.BigRegion
import Derived.Deep.CutRange
import Derived.Deep.OwnRows
import Derived.Deep.RegionLaw
namespace Go.Proofs.Ytnakadlhafggkaa
open Go.RowKit

def HcPost (m : Mc) (w : World) (e : Ending) (w' : World) : Prop :=
  ∃ v, e = .returned (.tuple #[v, .int .i64 (csV m).2.2]) ∧ OwnL .i64 3 w' w.heap.size v (csV m).1 ∧ Below w.heap.size w w'

theorem MadeZ.sg {m : Mc} {N k : Nat} {w0 w : World} {v : Value} {z : Nat} {p : Pp} {gs gw : Nat} (h : MadeZ w0 N v w z p gs gw) (R : Right m) (hN : m.n = (N : Int)) (hk : m.k = (k : Int)) :
    Sg m N k w0 w z p gs 1 (St.start N) (.slice none 0 0) (.slice (some ⟨gw, 0, none⟩) 1 1) (fun _ => false) [] (fun _ => False) k := by
  refine Sg.start R hN hk ?_ h.pn h.lo h.bl h.c0 h.c1 h.c2 h.f1 h.f2 h.e h.zl h.zp h.gl h.gz h.gp
  have h2 := h.hat
  rw [iotaP_tab, zeros_tab] at h2
  unfold PtS
  rw [h.pn]
  exact h2

set_option maxRecDepth 100000 in
set_option maxHeartbeats 2000000 in
theorem hop_any (m : Mc) (a1 : Option Addr) (c1 : Nat) (a2 : Option Addr) (c2 : Nat) (w : World) (h1 : RdL .i64 w a1 m.nx) (h2 : RdL .i64 w a2 m.out) (hn : m.nx.length ≤ maxLen) (ho : m.out.length ≤ maxLen) :
    Calls Try.prog 25 #[mval m a1 c1 a2 c2] w fun e w' => HcPost m w e w' := by
  have b0 := ballo w (.cells #[.int .i64 m.kind, .int .i64 m.k, .int .i64 m.o, .int .i64 m.n, .slice a1 m.nx.length c1, .slice a2 m.out.length c2] 51)
  have B0 := Box.alloc w m a1 c1 a2 c2 51
  have CK := mcheck_any m a1 c1 a2 c2 _ (h1.below b0) (h2.below b0) hn ho
  have HCK := hide CK
  have HB := hide b0
  have HBX := hide B0
  clear CK b0 B0
  unfold mval at HCK ⊢
  go_enter Try.func25, Try.ntmps25
  go_wp2_with fail
  refine (unhide HCK).mono ?_
  rintro e w1 ⟨rfl, hb1⟩
  have HB1 := hide (bstep (unhide HB) hb1)
  have BX1 := (unhide HBX).below hb1
  by_cases he : (mchV m).2 = 0
  · have HCS : Hid (csV m = (aftL m (rdV m), ((rdV m : Nat) : Int), 0)) := csV_ok he
    rw [he]
    have F := full_of he
    obtain ⟨N, hN⟩ : ∃ N : Nat, m.n = (N : Int) := ⟨m.n.toNat, by have := F.r.n0; omega⟩
    obtain ⟨k, hk⟩ : ∃ k : Nat, m.k = (k : Int) := ⟨m.k.toNat, by have := F.r.k0; omega⟩
    have hN0 : 1 ≤ N := by have := F.r.n0; omega
    have hN1 : N ≤ 65536 := by have := F.r.n1; omega
    have p3 : w1.cell? ⟨w.heap.size, 3, none⟩ = some (.int .i64 (N : Int)) := by rw [← hN]; exact BX1.p3
    have p3x : ∀ o, ((w1.alloc o).drew).cell? ⟨w.heap.size, 3, none⟩ = some (.int .i64 (N : Int)) := fun o => ((ballo w1 o).cell (World.block_lt_of_cell? w1 _ p3)).trans p3
    have H1 := hide (h1.below (unhide HB1))
    have H2 := hide (h2.below (unhide HB1))
    have HN := hide hN
    have HK := hide hk
    have HF := hide F
    have HBW := hide BX1
    clear hN hk F h1 h2 hn ho HCK HB HBX BX1 hb1
    have hmk : ∀ wx, (Instr.makeSlice 77 (.int .i64 1) (.int .i64 1)).run Try.prog wx = .ok (.slice (some ⟨wx.heap.size, 0, none⟩) 1 1) (wx.alloc (.cells (madeCells #[.bool false] 1) 4)) := run_make_row' (P := Try.prog) 77 4 (.bool false) 1 Try.underlying77 eBool.info rfl .i64 .i64 1 (by omega) (by omega)
    go_wp2
    go_cut [4] from 13 to 18 (fun v wx => ∃ z p gs gw, MadeZ w1 N v wx z p gs gw)
    case first =>
      go_region_law (refine step_call1 rfl 29 (.tmp 14) #[3] rfl Try.func29 (by kernel_rfl) (by kernel_rfl) (.int .i64 (N : Nat)) (by rfl) (newPart_any N _ hN0 hN1) ?_; rintro e w2 ⟨p, gs, rfl, hpn, hlo, hat, hb2⟩; refine ⟨_, rfl, ?_⟩)
      all_goals (go_wp2; go_meet)
      all_goals first | exact made_a hat hpn hlo hb2 | exact made_b hat hpn hlo hb2
    case rest =>
      clear hmk p3 p3x
      obtain ⟨z, p, gs, gw, hmz⟩ := hcut
      obtain rfl := hmz.v
      have S0 := hmz.sg (unhide HF).r (unhide HN) (unhide HK)
      obtain ⟨p0, p1, p2, p3, p4, p5⟩ := (unhide HBW).below hmz.bl
      have HS := hide (said_any m a1 c1 a2 c2 N k w1 _ z p gs 1 _ _ _ _ _ (unhide HF) (unhide HN) (unhide HK) (unhide H2) S0)
      unfold mval at HS
      clear hmz S0
      go_wp2_with fail
      refine (unhide HS).mono ?_
      rintro e w3 ⟨gs3, cap3, s3, vq3, vw3, f3, W3, rfl, S3, nw3⟩
      clear HS p0 p1 p2 p3 p4 p5
      obtain ⟨p0, p1, p2, p3, p4, p5⟩ := (unhide HBW).below S3.sv.ob.bl
      have HS := hide (ways_any m a1 c1 a2 c2 N k w1 _ z p gs3 cap3 s3 vq3 vw3 f3 W3 (unhide HF).r (unhide HN) (unhide HK) (unhide H1) S3 nw3)
      unfold mval at HS
      clear S3 nw3
      go_wp2_with fail
      refine (unhide HS).mono ?_
      rintro e w4 ⟨gs4, cap4, s4, vq4, vw4, f4, W4, D4, x4, rfl, S4, nw4, st4⟩
      clear HS p0 p1 p2 p3 p4 p5
      have q0 := S4.sv.c0
      have q2 := PtAt.c2 S4.sv.ob.at_
      rw [S4.pn] at q2
      have I4 := S4.sv.ob.pi
      have K4 := I4.Kn
      rw [S4.pn] at I4 K4
      obtain ⟨aC, cC, eC, -, -, -, rC, -⟩ := (PtAt.c S4.sv.ob.at_).shape
      cases eC
      rw [S4.pn] at rC
      have HL := hide (byLeast_any (some ⟨p.gc, 0, none⟩) N N s4.c w4 rC (fun i hi => by have := I4.cc i hi; omega) (by omega) hN1)
      have HE := hide (hop_end (unhide HF) (unhide HN) (unhide HK) S4.ha.snd nw4 st4)
      have HB4 := hide ((unhide HB1).trans (S4.sv.ob.bl.mono (unhide HB1).size))
      clear S4 nw4 st4 I4 K4 rC
      go_wp2_with fail
      refine (unhide HL).mono ?_
      rintro e w5 ⟨v, rfl, hv, hb5⟩
      have HV := hide hv
      have HB5 := hide hb5
      obtain ⟨av, cv, ev, -, -, -, -, -⟩ := hv.shape
      clear hv hb5 HL
      generalize clL (sqR s4.c) N = CL at *
      subst ev
      go_wp2
      go_ret2
      unfold HcPost
      rw [unhide HCS, ← unhide HE]
      exact ⟨_, rfl, (unhide HV).mono (unhide HB4).size, bstep (unhide HB4) (unhide HB5)⟩
  · have HCS : Hid (csV m = ([], 0, (mchV m).2)) := csV_err he
    generalize (mchV m).2 = E at *
    clear HCK HBX BX1 hb1
    go_wp2
    go_ret2
    unfold HcPost
    rw [unhide HCS]
    exact ⟨.slice none 0 0, rfl, OwnL.nil _ _ _ _, unhide HB1⟩
end Go.Proofs.Ytnakadlhafggkaa
