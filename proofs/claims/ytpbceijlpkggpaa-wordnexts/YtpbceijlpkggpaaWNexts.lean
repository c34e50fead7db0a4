/-
  The law WordNexts returns true in every world, for every list and every k, and turns nothing that was there.
-/
import Derived.Test.YtpbceijlpkggpaaLive
import Derived.Test.YtpbceijlpkggpaaRNext
import Derived.Test.YtpbceijlpkggpaaArg
namespace Go.Proofs.Ytpbceijlpkggpaa
open Go.RowKit

theorem wordNexts_walk (a0 : Option Addr) (n0 c0 : Nat) (f0 : Nat → Int) (k : Int) (w : World) (h0 : Arg w a0 n0 c0 f0) (_hk : Fits k) :
    Calls Try.prog 6 #[.slice a0 n0 c0, .int .i64 k] w fun e w' => e = .returned (.bool true) ∧ Below w.heap.size w w' := by
  go_enter Try.func6, Try.ntmps6
  go_wp2_with fail
  refine (lent_any a0 n0 c0 f0 w h0.rd h0.nil h0.bytes).mono ?_
  rintro e w1 ⟨g, cap, rfl, L, hg, hb1⟩
  go_wp2_with fail
  refine (next_any _ n0 cap f0 k w1 L.rd (by intro h; cases h) (by have := L.room; omega) h0.max).mono ?_
  rintro e w2 ⟨v, rfl, hown2, hb2⟩
  have B2 := bstep hb1 hb2
  have L2 := L.below hb2
  go_wp2_with fail
  refine (rnext_any a0 n0 c0 f0 k w2 (h0.rd.below B2) h0.nil h0.le h0.max).mono ?_
  rintro e w3 ⟨v', rfl, hown3, hb3⟩
  have B3 := bstep B2 hb3
  have L3 := L2.below hb3
  have hm : (nextV n0 f0 k).1 ≤ maxLen := by
    have := nextV_len n0 f0 k
    unfold maxLen; omega
  obtain ⟨a2, c2, rfl, _, _, R2, _⟩ := hown2.shape
  obtain ⟨a3, c3, rfl, _, _, R3, _⟩ := hown3.shape
  have R2' := R2.below hb3
  generalize (nextV n0 f0 k).2.2 = y
  generalize (nextV n0 f0 k).1 = m at *
  generalize (nextV n0 f0 k).2.1 = q at *
  clear hown2 hown3 R2 L L2 hb1 hb2 hb3 B2
  go_wp2_with fail
  refine (same_any a2 a3 m c2 m c3 q q w3 R2' R3 hm hm).mono ?_
  rw [samB_yes (fun _ _ => rfl)]
  rintro e w4 ⟨rfl, hb4⟩
  have B4 := bstep B3 hb4
  have L4 := L3.below hb4
  go_wp2_with (first | (go_at_call 15; refine (num_any _ _).mono ?_; rintro e w' ⟨rfl, rfl⟩) | fail)
  refine (kept_any g n0 cap c0 f0 f0 a0 _ L4 (h0.rd.below B4) fun _ _ => rfl).mono ?_
  rintro e w5 ⟨rfl, hb5⟩
  have B5 := bstep B4 hb5
  go_wp2_with fail
  refine (live_any w5).mono ?_
  rintro e w6 ⟨rfl, hb6⟩
  have B6 := bstep B5 hb6
  go_wp2
  go_ret
  exact ⟨rfl, B6⟩

end Go.Proofs.Ytpbceijlpkggpaa
