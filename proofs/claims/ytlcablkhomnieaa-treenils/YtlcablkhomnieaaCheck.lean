/-
  What Check returns (and, next door, the reference's), for every list and every k.
-/
import Derived.Test.YtlcablkhomnieaaAlpha
import Derived.Test.YtlcablkhomnieaaK1
namespace Go.Proofs.Ytlcablkhomnieaa
open Go.RowKit

theorem check_any (a : Option Addr) (n c : Nat) (f : Nat → Int) (k : Int) (w : World) (hr : Rd w a n f) (hn : n ≤ maxLen) :
    Calls Try.prog 40 #[.slice a n c, .int .i64 k] w fun e w' => e = .returned (.tuple #[.int .i64 (chkV n f k).1, .int .i64 (chkV n f k).2]) ∧ w' = w := by
  unfold maxLen at hn
  by_cases hk : 1 ≤ k ∧ k ≤ 64
  · obtain ⟨k0, k1⟩ := hk
    have ck := alp_yes k0 k1
    by_cases hl : 4096 < n
    · have H := hide (chkV_long (f := f) k0 k1 hl)
      go_enter Try.func40, Try.ntmps40
      go_wp2_with (go_at_call 65; refine (isAlphabet_any _ _).mono ?_; rintro e w' ⟨rfl, rfl⟩)
      go_ret2
      exact ⟨by rw [unhide H]; rfl, rfl⟩
    · have hl2 : n ≤ 4096 := by omega
      clear hl
      go_enter Try.func40, Try.ntmps40
      go_wp2_with (go_at_call 65; refine (isAlphabet_any _ _).mono ?_; rintro e w' ⟨rfl, rfl⟩)
      go_loop [15] (fun i => ∃ j : Nat, j ≤ n ∧ i = .int .i64 j ∧ ∀ l, l < j → badB f k l = false) (fun i => n - (intOf i).toNat)
      case atStart => exact ⟨0, Nat.zero_le _, rfl, fun l hl => by omega⟩
      case round =>
        obtain ⟨j, hj, rfl, hg⟩ := hrel
        have HG := hide hg
        clear hg
        by_cases hlt : j < n
        · obtain ⟨b, off, rfl, hc⟩ := hr.at hlt
          have hcj := hc j hlt
          clear hc
          by_cases h1 : f j < 0
          · have H := hide (chkV_sym k0 k1 hl2 hlt (bad_yes (.inl h1)) (unhide HG))
            go_wp2
            go_ret2
            exact ⟨by rw [unhide H]; rfl, rfl⟩
          · by_cases h2 : k ≤ f j
            · have H := hide (chkV_sym k0 k1 hl2 hlt (bad_yes (.inr h2)) (unhide HG))
              go_wp2
              go_ret2
              exact ⟨by rw [unhide H]; rfl, rfl⟩
            · have HN := hide (bad_no (f := f) (k := k) (i := j) (by omega) (by omega))
              go_wp2
              go_round
              case rel => exact ⟨j + 1, by omega, by go_num, fun l hl => by by_cases e : l = j; { subst e; exact unhide HN }; exact unhide HG l (by omega)⟩
              case measure => simp [intOf]; omega
        · have he : j = n := by omega
          subst he
          have H := hide (chkV_ok k0 k1 hl2 (unhide HG))
          go_wp2
          go_ret2
          exact ⟨by rw [unhide H]; rfl, rfl⟩
  · have ck := alp_no (k := k) (by omega)
    have H := hide (chkV_arg (n := n) (f := f) (k := k) (by omega))
    go_enter Try.func40, Try.ntmps40
    go_wp2_with (go_at_call 65; refine (isAlphabet_any _ _).mono ?_; rintro e w' ⟨rfl, rfl⟩)
    go_ret2
    exact ⟨by rw [unhide H]; rfl, rfl⟩

end Go.Proofs.Ytlcablkhomnieaa
