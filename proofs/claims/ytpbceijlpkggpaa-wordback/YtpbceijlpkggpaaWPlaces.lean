/-
  The law WordPlaces returns true in every world, for all arguments, and turns nothing that was there.
-/
import Derived.Test.YtpbceijlpkggpaaLive
import Derived.Test.YtpbceijlpkggpaaArg
import Derived.Test.YtpbceijlpkggpaaRAt
namespace Go.Proofs.Ytpbceijlpkggpaa
open Go.RowKit

theorem AtIs.same {k i : Int} {m m' : Nat} {g g' : Nat → Int} (h : AtIs k i m g) (h' : AtIs k i m' g') : samB m g m' g' = true := by
  rw [samB_iff]
  by_cases e : atE k i = 0
  · have hk : 1 ≤ k := by
      by_cases hk : k < 1
      · rw [atE_arg (.inl hk)] at e; omega
      · omega
    exact rk_one hk (h.2 e).2.1 (h'.2 e).2.1 (by rw [(h.2 e).2.2, (h'.2 e).2.2])
  · rw [h.1 e, h'.1 e]; exact ⟨rfl, fun i hi => by omega⟩
theorem AtIs.len {k i : Int} {m : Nat} {g : Nat → Int} (h : AtIs k i m g) : m ≤ maxLen := by
  have : m ≤ 4096 := by
    by_cases e : atE k i = 0
    · exact (h.2 e).1
    · rw [h.1 e]; omega
  unfold maxLen; omega

theorem wordPlaces_walk (k i : Int) (a0 : Option Addr) (n0 c0 : Nat) (f0 : Nat → Int) (w : World) (_hk : Fits k) (_hi : Fits i) (h0 : Arg w a0 n0 c0 f0) :
    Calls Try.prog 8 #[.int .i64 k, .int .i64 i, .slice a0 n0 c0] w fun e w' => e = .returned (.bool true) ∧ Below w.heap.size w w' := by
  go_enter Try.func8, Try.ntmps8
  go_wp2_with fail
  refine (at_any k i w).mono ?_
  rintro e w1 ⟨v, m, g, rfl, hown1, hb1, hat⟩
  go_wp2_with fail
  refine (rat_any k i w1).mono ?_
  rintro e w2 ⟨v', m', g', rfl, hown2, hb2, hat'⟩
  have B2 := bstep hb1 hb2
  have S := hide (hat.same hat')
  obtain ⟨a2, c2, rfl, _, _, R2, _⟩ := hown1.shape
  obtain ⟨a3, c3, rfl, _, _, R3, _⟩ := hown2.shape
  have R2' := R2.below hb2
  have hm := hat.len
  have hm' := hat'.len
  clear hown1 hown2 R2 hb1 hb2 hat hat'
  go_wp2_with fail
  refine (rank_any a0 n0 c0 f0 k w2 (h0.rd.below B2) h0.max).mono ?_
  rintro e w' ⟨rfl, rfl⟩
  go_wp2_with fail
  refine (rrank_any a0 n0 c0 f0 k w' (h0.rd.below B2) h0.max).mono ?_
  rintro e w2 ⟨rfl, rfl⟩
  generalize (rankV n0 f0 k).1 = x1
  generalize (rankV n0 f0 k).2 = x2
  generalize atE k i = x3
  go_wp2_with fail
  refine (same_any a2 a3 m c2 m' c3 g g' w2 R2' R3 hm hm').mono ?_
  rw [unhide S]
  rintro e w3 ⟨rfl, hb3⟩
  have B3 := bstep B2 hb3
  go_wp2_with (first | (go_at_call 15; refine (num_any _ _).mono ?_; rintro e w' ⟨rfl, rfl⟩) | fail)
  refine (live_any _).mono ?_
  rintro e w4 ⟨rfl, hb4⟩
  have B4 := bstep B3 hb4
  go_wp2
  go_ret
  exact ⟨rfl, B4⟩

end Go.Proofs.Ytpbceijlpkggpaa
