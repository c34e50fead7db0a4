/-
  The object that parts states: the first class that waits is taken.
-/
import Derived.Test.YtnakadlhafggkaaQSvJ
namespace Go.Proofs.Ytnakadlhafggkaa
open Go.RowKit

theorem grow_refl (w : World) (row : Option Nat) : w.grownBy w row := ⟨rfl, rfl, rfl, Nat.le_refl _, fun _ _ _ => rfl⟩
structure TkPost (w0 w : World) (z : Nat) (p : Pp) (gs cap : Nat) (s : St) (vq vw : Value) (Wl : List Int) (w' : World) (vq' : Value) (f' : Nat → Bool) : Prop where
  sv : Sv w0 w' z p gs cap s vq' vw s.K f' Wl
  wn : Wn s.K f' Wl
  own : vq'.ownBlock = vq.ownBlock
  bx : Bx (SvX z p gs vq vw) w w'

set_option maxRecDepth 100000 in
set_option maxHeartbeats 2000000 in
theorem take_any (w0 w : World) (z : Nat) (p : Pp) (gs cap : Nat) (s : St) (vq vw : Value) (f : Nat → Bool) (Wl : List Int) (q : Nat) (h : Sv w0 w z p gs cap s vq vw s.K f ((q : Int) :: Wl)) (hw : Wn s.K f ((q : Int) :: Wl)) :
    Calls Try.prog 55 #[.pointer (some ⟨z, 0, none⟩)] w fun e w' => ∃ vq' f', e = .returned (.slice (some ⟨p.gr, s.b q, none⟩) (s.e q - s.b q) (p.n - s.b q)) ∧ TkPost w0 w z p gs cap s vq vw Wl w' vq' f' := by
  have hqK : q < s.K := by have := hw.mem (q : Int) (by simp); omega
  obtain ⟨g, off, cq, rfl, hl, hcm, hc0, hcdr⟩ := h.q.cons
  obtain ⟨gw, cw, rfl, -, -, -, hgw, ecell, efro⟩ := h.e.pos (by omega)
  have c1 := h.c1
  have f1 := h.f1
  have P1 := h.putQ (Below.refl _ _) (grow_refl w _) hcdr (fun i e => .inl e)
  have hsp := h.ob.pi.sp q hqK
  have hKn := h.ob.pi.Kn
  have HS := hide h
  have HW := hide hw
  have HP := hide P1
  have hl1 : (0 : Int) < ((Wl.length : Nat) : Int) + 1 := by omega
  clear h hw P1 hcdr ecell efro
  go_enter Try.func55, Try.ntmps55
  go_upto_region 2 with fail
  go_cut [] from 4 to 29 (fun wx => wx = w.setCell ⟨z, 1, none⟩ (cdrQ g off Wl.length cq))
  case first =>
    by_cases hc1 : cq = 1
    · go_wp2
      go_meet
      simp [cdrQ, hc1]
    · go_wp2
      go_meet
      simp [cdrQ, hc1]
  case rest =>
    subst hcut
    obtain ⟨w1, hw1⟩ : ∃ w1, w1 = w.setCell ⟨z, 1, none⟩ (cdrQ g off Wl.length cq) := ⟨_, rfl⟩
    have P1 := unhide HP
    rw [← hw1] at P1 ⊢
    have d0 := P1.c0
    have d2 := P1.c2
    obtain ⟨gw', cw', ee, -, -, -, -, dcell, dfro⟩ := P1.e.pos (by omega)
    cases ee
    have dh := dcell q hqK
    have df := dfro q
    have B1 : Bx (SvX z p gs (.slice (some ⟨g, off, none⟩) (Wl.length + 1) cq) (.slice (some ⟨gw, 0, none⟩) s.K cw)) w w1 := by rw [hw1]; exact (Bx.refl _ w).setCell (p := ⟨z, 1, none⟩) (.inl rfl) _
    have M1 := P1.mark q false
    have B2 := B1.setCell (p := ⟨gw, q, none⟩) (.inr (.inr (.inr rfl))) (.bool false)
    have HM := hide M1
    have HB := hide B2
    clear P1 dcell dfro M1 B1 B2 hw1 HP c1 f1 hc0
    go_upto_region 3 with fail
    go_cut [] from 4 to 29 (fun wx => wx = w1.setCell ⟨gw, q, none⟩ (.bool false))
    case first =>
      go_wp2
      go_meet
      rfl
    case rest =>
      subst hcut
      obtain ⟨w2, hw2⟩ : ∃ w2, w2 = w1.setCell ⟨gw, q, none⟩ (.bool false) := ⟨_, rfl⟩
      have M1 := unhide HM
      have B2 := unhide HB
      rw [← hw2] at M1 B2 ⊢
      have d0' := M1.c0
      have SP := span_any M1.ob.at_ (c := q) (x := s.b q) (y := s.e q) hqK rfl rfl hsp.1 hsp.2
      have HSP := hide SP
      have HM1 := hide M1
      have HB2 := hide B2
      clear SP M1 B2 hw2 HM HB d0 d2 dh df
      go_wp2_with fail
      refine (unhide HSP).mono ?_
      rintro e w3 ⟨rfl, m, rfl⟩
      go_wp2
      go_ret
      exact ⟨_, _, rfl, (unhide HM1).draws m, (unhide HW).pop, rfl, (unhide HB2).draws m⟩
end Go.Proofs.Ytnakadlhafggkaa
