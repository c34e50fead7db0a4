/-
  The page's examples: live returns true in every world, and turns nothing that was there.
-/
import Derived.Test.YtpbceijlpkggpaaCounts
import Derived.Test.YtpbceijlpkggpaaRank
import Derived.Test.YtpbceijlpkggpaaNext
import Derived.Test.YtpbceijlpkggpaaAt
import Derived.Test.YtpbceijlpkggpaaLent
namespace Go.Proofs.Ytpbceijlpkggpaa
open Go.RowKit

theorem bstep {w w1 w2 : World} (h : Below w.heap.size w w1) (hb : Below w1.heap.size w1 w2) : Below w.heap.size w w2 := h.trans (hb.mono h.size)
theorem balloc {w w1 : World} (h : Below w.heap.size w w1) (o : Obj) : Below w.heap.size w (w1.alloc o) := h.alloc h.size o

/-- A literal of one, two numbers. -/
def l2 (x y : Int) (i : Nat) : Int := if i = 0 then x else y

theorem nx11 : nextV 2 (l2 1 1) 2 = (3, fun _ => 0, 0) :=
  nextV_long (n := 2) (k := 2) (f := l2 1 1) ⟨by decide, by decide, by decide, fun i _ => by unfold l2; split <;> simp⟩ (fun i _ => by unfold l2; split <;> rfl) (by decide)
theorem ct23 : countV 2 3 = (15, 0) := by decide
theorem word01 : IsWord 2 (l2 0 1) 2 := ⟨by decide, by decide, by decide, fun i _ => by unfold l2; split <;> simp⟩
theorem rk01 : rk (l2 0 1) 2 2 = 4 := by decide
theorem rv01 : rankV 2 (l2 0 1) 2 = (4, 0) := by rw [rankV_ok word01 (by rw [rk01]; decide), rk01]
theorem ck02 : chkV 2 (l2 0 2) 2 = (1, 10) := by decide
theorem cp1 : cmpV 1 (l2 1 1) 2 (l2 0 0) = -1 := by decide
theorem ad1 : addV 1099511627776 1 = (0, 11) := by decide
theorem sm1 : samB 3 (fun _ => 0) 3 (constF 0) = true := samB_yes fun _ _ => rfl
theorem sm2 : samB 2 (l2 0 1) 2 (l2 0 1) = true := samB_yes fun _ _ => rfl
theorem ae24 : atE 2 4 = 0 := by decide
theorem at24 {m : Nat} {g : Nat → Int} (h : AtIs 2 4 m g) : m = 2 ∧ ∀ i, i < m → g i = l2 0 1 i :=
  rk_one (by decide) (h.2 ae24).2.1 (fun i hi => word01.2.2.2 i hi) (by rw [(h.2 ae24).2.2, rk01])

set_option maxRecDepth 100000 in
theorem live_any (w : World) : Calls Try.prog 17 #[] w fun e w' => e = .returned (.bool true) ∧ Below w.heap.size w w' := by
  go_enter Try.func17, Try.ntmps17
  go_wp2_with fail
  refine (next_any (some ⟨w.heap.size, 0, none⟩) 2 2 (l2 1 1) 2 (w.alloc (.cells #[.int .i64 1, .int .i64 1] 3)) (Rd.lit w 2 (l2 1 1) _ (by decide) rfl) (by intro h; cases h) (by decide) (by decide)).mono ?_
  rw [nx11]
  rintro e w1 ⟨va, rfl, hown1, hb1⟩
  have B1 : Below w.heap.size w w1 := bstep (balloc (Below.refl _ _) _) hb1
  obtain ⟨aa, ca, rfl, hnila, hlea, hrda, hblka⟩ := hown1.shape
  clear hnila hblka hown1 hb1
  go_wp2_with fail
  refine (count_any 2 3 w1 (by decide)).mono ?_
  rw [ct23]
  rintro e w' ⟨rfl, rfl⟩
  go_wp2_with fail
  refine (at_any 2 4 w').mono ?_
  rw [ae24]
  rintro e w2 ⟨vb, m, g, rfl, hown2, hb2, hat⟩
  obtain ⟨rfl, hg⟩ := at24 hat
  have B2 : Below w.heap.size w w2 := bstep B1 hb2
  obtain ⟨ab, cb, rfl, hnilb, hleb, hrdb, hblkb⟩ := (hown2.congr hg).shape
  have R2 := hrda.below hb2
  clear hnilb hblkb hown2 hb2 hat hg hrda B1
  go_wp2_with fail
  refine (rank_any (some ⟨w2.heap.size, 0, none⟩) 2 2 (l2 0 1) 2 (w2.alloc (.cells #[.int .i64 0, .int .i64 1] 3)) (Rd.lit w2 2 (l2 0 1) _ (by decide) rfl) (by decide)).mono ?_
  rw [rv01]
  rintro e w3 ⟨rfl, rfl⟩
  go_wp2_with fail
  refine (add_any 1099511627776 1 _).mono ?_
  rw [ad1]
  rintro e w3 ⟨rfl, rfl⟩
  have B3 := balloc B2 (.cells #[.int .i64 0, .int .i64 1] 3)
  have Ra3 := R2.below ((Below.refl _ _).alloc (Nat.le_refl _) (.cells #[.int .i64 0, .int .i64 1] 3))
  have Rb3 := hrdb.below ((Below.refl _ _).alloc (Nat.le_refl _) (.cells #[.int .i64 0, .int .i64 1] 3))
  generalize w2.alloc (.cells #[.int .i64 0, .int .i64 1] 3) = w3 at *
  clear R2 hrdb B2
  go_wp2_with fail
  refine (check_any (some ⟨w3.heap.size, 0, none⟩) 2 2 (l2 0 2) 2 (w3.alloc (.cells #[.int .i64 0, .int .i64 2] 3)) (Rd.lit w3 2 (l2 0 2) _ (by decide) rfl) (by decide)).mono ?_
  rw [ck02]
  rintro e w4 ⟨rfl, rfl⟩
  have B4 := balloc B3 (.cells #[.int .i64 0, .int .i64 2] 3)
  have Ra4 := Ra3.below ((Below.refl _ _).alloc (Nat.le_refl _) (.cells #[.int .i64 0, .int .i64 2] 3))
  have Rb4 := Rb3.below ((Below.refl _ _).alloc (Nat.le_refl _) (.cells #[.int .i64 0, .int .i64 2] 3))
  generalize w3.alloc (.cells #[.int .i64 0, .int .i64 2] 3) = w4 at *
  clear Ra3 Rb3 B3
  go_wp2_with fail
  have r1 := (Rd.lit w4 1 (l2 1 1) #[.int .i64 1] (by decide) rfl).below ((Below.refl _ _).alloc (Nat.le_refl _) (.cells #[.int .i64 0, .int .i64 0] 3))
  have r2 : Rd ((w4.alloc (.cells #[.int .i64 1] 3)).alloc (.cells #[.int .i64 0, .int .i64 0] 3)) (some ⟨w4.heap.size + 1, 0, none⟩) 2 (l2 0 0) := by
    have := Rd.lit (w4.alloc (.cells #[.int .i64 1] 3)) 2 (l2 0 0) #[.int .i64 0, .int .i64 0] (by decide) rfl
    simpa using this
  refine (compare_any _ _ 1 1 2 2 (l2 1 1) (l2 0 0) _ r1 r2 (by decide) (by decide)).mono ?_
  rw [cp1]
  rintro e w5 ⟨rfl, hb5⟩
  have B5 := bstep (balloc (balloc B4 (.cells #[.int .i64 1] 3)) (.cells #[.int .i64 0, .int .i64 0] 3)) hb5
  have Ra5 := (Ra4.below (((Below.refl _ _).alloc (Nat.le_refl _) (.cells #[.int .i64 1] 3)).alloc (by simp) (.cells #[.int .i64 0, .int .i64 0] 3))).below hb5
  have Rb5 := (Rb4.below (((Below.refl _ _).alloc (Nat.le_refl _) (.cells #[.int .i64 1] 3)).alloc (by simp) (.cells #[.int .i64 0, .int .i64 0] 3))).below hb5
  clear r1 r2 hb5 B4 Ra4 Rb4
  go_wp2_with fail
  refine (same_any aa _ 3 ca 3 3 (fun _ => 0) (constF 0) (w5.alloc (.cells #[.int .i64 0, .int .i64 0, .int .i64 0] 3)) (Ra5.below ((Below.refl _ _).alloc (Nat.le_refl _) _)) (Rd.lit w5 3 (constF 0) _ (by decide) rfl) (by decide) (by decide)).mono ?_
  rw [sm1]
  rintro e w6 ⟨rfl, hb6⟩
  have B6 := bstep (balloc B5 _) hb6
  have Rb6 := (Rb5.below ((Below.refl _ _).alloc (Nat.le_refl _) (.cells #[.int .i64 0, .int .i64 0, .int .i64 0] 3))).below hb6
  clear hb6 B5 Ra5 Rb5
  go_wp2_with fail
  refine (same_any ab _ 2 cb 2 2 (l2 0 1) (l2 0 1) (w6.alloc (.cells #[.int .i64 0, .int .i64 1] 3)) (Rb6.below ((Below.refl _ _).alloc (Nat.le_refl _) _)) (Rd.lit w6 2 (l2 0 1) _ (by decide) rfl) (by decide) (by decide)).mono ?_
  rw [sm2]
  rintro e w7 ⟨rfl, hb7⟩
  have B7 := bstep (balloc B6 _) hb7
  clear hb7 B6 Rb6
  go_wp2_with (go_at_call 15; refine (num_any _ _).mono ?_; rintro e w' ⟨rfl, rfl⟩)
  go_ret
  exact ⟨rfl, B7⟩

end Go.Proofs.Ytpbceijlpkggpaa
