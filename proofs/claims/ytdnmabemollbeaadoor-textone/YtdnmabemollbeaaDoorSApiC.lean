/-
  What the reference's Classes returns, for every table.
-/
import Derived.Test.YtdnmabemollbeaaDoorSRoundW
import Derived.Test.YtdnmabemollbeaaDoorK13
import Derived.Test.YtdnmabemollbeaaDoorK15
import Derived.Test.YtdnmabemollbeaaDoorRMCheck
namespace Go.Proofs.YtdnmabemollbeaaDoor
open Go.RowKit Go.Maps

theorem aft_flat {m : Mc} (R : Right m) {j a b : Nat} (h : Still m j) (ha : j ≤ a) (hb : j ≤ b) : aftL m a = aftL m b := by
  refine (cls_congr fun s t hs ht => ?_).2.1
  have up : ∀ c, j ≤ c → (alkR m c s t = true ↔ alkR m j s t = true) := fun c hc => by
    refine ⟨fun e => alk_mono hc e, fun e => ?_⟩
    obtain ⟨d, rfl⟩ : ∃ d, c = j + d := ⟨c - j, by omega⟩
    exact h.up R (by omega) (by omega) (by omega) (by omega) e d
  exact Bool.eq_iff_iff.2 ((up a ha).trans (up b hb).symm)
theorem cls_aft {m : Mc} {N : Nat} (hN : m.n = (N : Int)) (n : Nat) : clL (alkR m n) N = aftL m n := by
  unfold aftL; rw [show m.n.toNat = N by omega]

set_option maxHeartbeats 1000000 in
theorem rclasses_any (m : Mc) (a1 : Option Addr) (c1 : Nat) (a2 : Option Addr) (c2 : Nat) (w : World) (h1 : RdL .i64 w a1 m.nx) (h2 : RdL .i64 w a2 m.out) (hn : m.nx.length ≤ maxLen) (ho : m.out.length ≤ maxLen) :
    Calls Tryd.prog 40 #[mval m a1 c1 a2 c2] w fun e w' => CsPost m w e w' := by
  unfold mval
  have b0 := ballo w (.cells #[.int .i64 m.kind, .int .i64 m.k, .int .i64 m.o, .int .i64 m.n, .slice a1 m.nx.length c1, .slice a2 m.out.length c2] 24)
  have B0 := Box.alloc w m a1 c1 a2 c2 24
  by_cases hz : (mchV m).2 = 0
  rotate_left
  · have H := hide (csV_err hz)
    have tz := ne_bne hz
    clear hz
    go_enter Tryd.func40, Tryd.ntmps40
    go_wp2_with fail
    refine (rmcheck_any m a1 c1 a2 c2 _ (h1.below b0) (h2.below b0) hn ho).mono ?_
    rintro e w1 ⟨rfl, hb1⟩
    have b1 := bstep b0 hb1
    clear hb1 h1 h2 B0 b0
    go_wp2
    go_ret3
    exact ⟨.slice none 0 0, by rw [unhide H]; rfl, by rw [unhide H]; exact OwnL.nil _ _ _ _, b1⟩
  have F := full_of hz
  have HF := hide F
  have HZ := hide hz
  have H := hide (csV_ok hz)
  have m0 := F.r.n0
  have m1 := F.r.n1
  obtain ⟨N, hN⟩ := Int.eq_ofNat_of_zero_le (show 0 ≤ m.n by omega)
  have hN0 : 0 < N := by omega
  have hN1 : N ≤ 1024 := by omega
  have HN := hide hN
  clear hz F hN m1
  go_enter Tryd.func40, Tryd.ntmps40
  go_wp2_with fail
  refine (rmcheck_any m a1 c1 a2 c2 _ (h1.below b0) (h2.below b0) hn ho).mono ?_
  rw [unhide HZ]
  rintro e w1 ⟨rfl, hb1⟩
  have b1 := bstep b0 hb1
  have B1 := B0.below hb1
  obtain ⟨p0, p1, p2, p3, p4, p5⟩ := id B1
  clear hb1 B0 b0
  go_wp2_with fail
  refine (start_any m a1 c1 a2 c2 N w1 (unhide HF).r (h2.below b1) (unhide HN)).mono ?_
  rintro e w2 ⟨v, rfl, g, c, rfl, hM, hb2⟩
  have B2 := B1.below hb2
  have b2 := bstep b1 hb2
  have HM := hide hM
  have HB := hide (Below.refl w2.heap.size w2)
  clear hM hb2 B1 b1 p0 p1 p2 p3 p4 p5
  go_wp2
  go_loopw [7, 8] (fun v a wx => ∃ (i g c : Nat), a = .int .i64 i ∧ v = .slice (some ⟨g, 0, none⟩) N c ∧ Hid (∀ j, j < i → ¬ Still m j) ∧ Mat wx g N (apR m i) ∧ Below w2.heap.size w2 wx) (fun _ a _ => N - (intOf a).toNat)
  case atStart => exact ⟨0, g, c, rfl, rfl, hide (fun j hj => by omega), unhide HM, unhide HB⟩
  case round =>
    obtain ⟨i, g, c, rfl, rfl, HS, hM, hb⟩ := hrel
    clear HM HB
    have HM := hide hM
    have bx := bstep b2 hb
    have Bx := B2.below hb
    obtain ⟨p0, p1, p2, p3, p4, p5⟩ := id Bx
    have hrd := rd_le m0 (unhide HS)
    have hi1 : i + 1 ≤ N := by have := unhide HN; omega
    have HRD := hide (round_any m a1 c1 a2 c2 g c i N wr (unhide HF).r (h1.below bx) (h2.below bx) (unhide HN) hM)
    clear hM hrd
    by_cases hst : Still m i
    · have te : mrP m i N N 0 = false := by
        cases e : mrP m i N N 0
        · rfl
        · exact absurd hst ((mrP_all (unhide HN) i).1 e)
      have HE := hide (rd_is m0 hst (unhide HS))
      clear hst
      go_wp2_with fail
      refine (unhide HRD).mono ?_
      rintro e w3 ⟨v3, rfl, g3, c3, rfl, -, hb3⟩
      rw [te]
      have b3 := bstep bx hb3
      have HCL := hide (rcls_any g c N (alkR m i) w3 ((unhide HM).below hb3) hN1)
      rw [cls_aft (unhide HN)] at HCL
      clear HRD
      go_wp2_with fail
      refine (unhide HCL).mono ?_
      rintro e w4 ⟨v4, rfl, hv4, hb4⟩
      have b4 := bstep b3 hb4
      have hv4 := hv4.mono (B' := w.heap.size) b3.size
      go_wp2
      go_ret3
      exact ⟨v4, by rw [unhide H, unhide HE]; rfl, by rw [unhide H, unhide HE]; exact hv4, b4⟩
    · have te : mrP m i N N 0 = true := (mrP_all (unhide HN) i).2 hst
      have HST := hide hst
      clear hst
      go_wp2_with fail
      refine (unhide HRD).mono ?_
      rintro e w3 ⟨v3, rfl, g3, c3, rfl, hM3, hb3⟩
      rw [te]
      have b3 := bstep hb hb3
      have HM3 := hide hM3
      clear HRD hM3
      go_wp2
      go_roundw
      case rel =>
        refine ⟨i + 1, g3, c3, by go_num, rfl, hide (fun j hj => ?_), unhide HM3, b3⟩
        by_cases c : j = i
        · subst c; exact unhide HST
        · exact unhide HS j (by omega)
      case measure => simp [intOf]; omega

end Go.Proofs.YtdnmabemollbeaaDoor
