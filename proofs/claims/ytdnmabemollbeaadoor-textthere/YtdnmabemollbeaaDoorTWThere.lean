/-
  TextThere, walked: for every input the call returns true.
-/
import Derived.Test.YtdnmabemollbeaaDoorTLive
import Derived.Test.YtdnmabemollbeaaDoorUThr
import Derived.Test.YtdnmabemollbeaaDoorK5
import Derived.Test.YtdnmabemollbeaaDoorK6
namespace Go.Proofs.YtdnmabemollbeaaDoor
set_option linter.unusedVariables false
open Go.RowKit

set_option maxRecDepth 100000 in
set_option maxHeartbeats 4000000 in
theorem textThere_walk (a : Option Addr) (c : Nat) (l : List Int) (w : World) (hA : ArgL .u8 1 w a c l) (g : Gl w) :
    Calls Tryd.prog 7 #[.slice a l.length c] w fun e w' => e = .returned (.bool true) ∧ Below w.heap.size w w' := by
  obtain ⟨b, rfl⟩ := zs_of hA.fits
  have hrd := hA.rd
  have hnA := hA.nil
  rw [zs_len] at hnA ⊢
  by_cases hl : 20000 < b.length
  · have hl' : (b.length : Int) > 20000 := by omega
    go_enter Tryd.func7, Tryd.ntmps7
    go_wp2_with (go_at_call 12; refine (live_any w g).mono ?_; rintro e w1 ⟨rfl, hb1⟩)
    go_ret
    exact ⟨rfl, hb1⟩
  have hl' : ¬ ((b.length : Int) > 20000) := by omega
  have him := import_any a c b w hrd g
  unfold ImPost at him
  clear hA
  cases hi : imP b with
  | error x =>
    obtain ⟨p, er⟩ := x
    obtain ⟨hp, he0, he1⟩ := im_bad hi
    have hp' : (p : Int) ≤ b.length := by omega
    have hp0 : (0 : Int) ≤ p := by omega
    rw [hi, show imV b (.error (p, er)) = (mcZ, er, (p : Int)) from rfl] at him
    unfold mval at him
    dsimp only at him
    go_enter Tryd.func7, Tryd.ntmps7
    go_wp2_with fail
    refine him.mono ?_
    rintro e w1 ⟨d1, e1, d2, e2, rfl, ⟨o1, o2, -⟩, hb1⟩
    obtain ⟨s1, t1, g1, -, -, -, k1, -⟩ := o1.shape
    obtain ⟨s2, t2, g2, -, -, -, k2, -⟩ := o2.shape
    cases g1
    cases g2
    have ba : Below w1.heap.size w1 (w1.alloc (.cells #[.int .i64 mcZ.kind, .int .i64 mcZ.k, .int .i64 mcZ.o, .int .i64 mcZ.n, .slice d1 mcZ.nx.length e1, .slice d2 mcZ.out.length e2] 24)) := ballo _ _
    have b4 := bstep hb1 ba
    have hsm := msame_any mcZ d1 e1 d2 e2 none 0 none 0 _ (k1.below ba) (k2.below ba) (RdL.nil _ _ _) (RdL.nil _ _ _) (by decide) (by decide)
    unfold mval at hsm
    clear him
    go_wp2_with (first | (go_at_call 17; refine (num_any _ _).mono ?_; rintro e wz ⟨rfl, hwz⟩; subst wz) | (go_at_call 18; refine hsm.mono ?_; rintro e w7 ⟨rfl, hb7⟩) | (go_at_call 12; refine (live_any _ (g.below (bstep b4 hb7))).mono ?_; rintro e wl ⟨rfl, hbl⟩))
    go_ret
    exact ⟨rfl, bstep (bstep b4 hb7) hbl⟩
  | ok m =>
    obtain ⟨F, ht⟩ := im_there hi
    rw [hi, show imV b (.ok m) = (m, 0, (b.length : Int)) from rfl] at him
    unfold mval at him
    dsimp only at him
    have mn : m.nx.length ≤ maxLen := by
      have := F.r.nx; have := F.r.n1; have := F.r.k1; have := F.r.n0; have := F.r.k0
      have : m.n * m.k ≤ 1024 * 64 := Int.mul_le_mul F.r.n1 F.r.k1 (by omega) (by decide)
      unfold maxLen; omega
    have mo : m.out.length ≤ maxLen := by
      have := F.r.n1; have := F.r.k1; have := F.r.n0; have := F.r.k0
      have : m.n * m.k ≤ 1024 * 64 := Int.mul_le_mul F.r.n1 F.r.k1 (by omega) (by decide)
      unfold maxLen
      rcases F.r.kd with h | h
      · have := F.r.outD h; omega
      · have := F.r.outM h; omega
    go_enter Tryd.func7, Tryd.ntmps7
    go_wp2_with fail
    refine him.mono ?_
    rintro e w1 ⟨d1, e1, d2, e2, rfl, ⟨o1, o2, -⟩, hb1⟩
    obtain ⟨s1, t1, g1, -, -, -, k1, -⟩ := o1.shape
    obtain ⟨s2, t2, g2, -, -, -, k2, -⟩ := o2.shape
    cases g1
    cases g2
    have ba : Below w1.heap.size w1 (w1.alloc (.cells #[.int .i64 m.kind, .int .i64 m.k, .int .i64 m.o, .int .i64 m.n, .slice d1 m.nx.length e1, .slice d2 m.out.length e2] 24)) := ballo _ _
    have b4 := bstep hb1 ba
    have C3 := Box.alloc w1 m d1 e1 d2 e2 24
    have hex := export_any m d1 e1 d2 e2 _ (k1.below ba) (k2.below ba) mn mo (g.below b4)
    rw [expV_ok (mch_full F), ht] at hex
    have hri := fun wz (h : Below w1.heap.size w1 wz) => right_any m d1 e1 d2 e2 wz (k1.below h) (k2.below h) mn mo
    have hfa : ((mchV m).2 == 0) = true := by simp [mch_full F]
    rw [hfa] at hri
    unfold mval at hex hri
    clear him hfa
    generalize hw4 : (w1.alloc (.cells #[.int .i64 m.kind, .int .i64 m.k, .int .i64 m.o, .int .i64 m.n, .slice d1 m.nx.length e1, .slice d2 m.out.length e2] 24)) = w4 at *
    obtain ⟨q0, q1, q2, q3, q4, q5⟩ := id C3
    go_wp2_with (first | (go_at_call 17; refine (num_any _ _).mono ?_; rintro e wz ⟨rfl, hwz⟩; subst wz))
    refine hex.mono ?_
    rintro e w5 ⟨v5, rfl, ho5, hb5⟩
    have b5 := bstep b4 hb5
    have c5 := bstep ba hb5
    have C5 := C3.below hb5
    clear q0 q1 q2 q3 q4 q5 hex
    obtain ⟨q0, q1, q2, q3, q4, q5⟩ := id C5
    obtain ⟨x1, y1, rfl, hn1, -, -, rd1, -⟩ := ho5.shape
    rw [zs_len] at hn1 ⊢
    dsimp only
    go_wp2_with (first | (go_at_call 17; refine (num_any _ _).mono ?_; rintro e wz ⟨rfl, hwz⟩; subst wz) | (go_at_call 25; refine (hri w5 c5).mono ?_; rintro e w7 ⟨rfl, hb7⟩))
    have hs := bsame_any x1 a y1 c b b w7 (rd1.below hb7) (hrd.below (bstep b5 hb7)) hn1 hnA
    rw [decide_eq_true rfl] at hs
    refine hs.mono ?_
    rintro e wz ⟨rfl, hwz⟩
    subst wz
    go_wp2_with (go_at_call 12; refine (live_any _ (g.below (bstep b5 hb7))).mono ?_; rintro e wl ⟨rfl, hbl⟩)
    go_ret
    exact ⟨rfl, bstep (bstep b5 hb7) hbl⟩

end Go.Proofs.YtdnmabemollbeaaDoor
