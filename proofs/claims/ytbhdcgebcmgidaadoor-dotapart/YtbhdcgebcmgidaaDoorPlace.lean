/-
  Where a number first stands in a list: the reference's place, slices.Index and slices.Contains; whether two lists are the same: the references' Same.
-/
import Derived.Test.YtbhdcgebcmgidaaDoorK1
namespace Go.Proofs.YtbhdcgebcmgidaaDoor
open Go.RowKit

theorem e32 : Elt .i32 21 25 4 := ⟨Tryd.underlying25, by kernel_rfl, by decide⟩

/-- The place of the first x in l, counted from k; -1: there is none. -/
def plc (x : Int) : List Int → Nat → Int
  | [], _ => -1
  | y :: l, k => if y = x then k else plc x l (k + 1)
theorem plc_cons_eq {x y : Int} {l : List Int} {k : Nat} (h : y = x) : plc x (y :: l) k = k := by simp [plc, h]
theorem plc_cons_ne {x y : Int} {l : List Int} {k : Nat} (h : y ≠ x) : plc x (y :: l) k = plc x l (k + 1) := by simp [plc, h]
theorem plc_end {x : Int} {l : List Int} {j k : Nat} (h : l.length ≤ j) : plc x (l.drop j) k = -1 := by
  rw [List.drop_eq_nil_of_le h]; rfl
theorem plc_range (x : Int) : ∀ (l : List Int) (k : Nat), plc x l k = -1 ∨ ((k : Int) ≤ plc x l k ∧ plc x l k < k + l.length)
  | [], _ => .inl rfl
  | y :: l, k => by
    by_cases h : y = x
    · rw [plc_cons_eq h]; simp only [List.length_cons]; omega
    · rw [plc_cons_ne h]
      rcases plc_range x l (k + 1) with h1 | h1
      · exact .inl h1
      · simp only [List.length_cons]; omega
theorem plc_mem (x : Int) : ∀ (l : List Int) (k : Nat), x ∈ l ↔ 0 ≤ plc x l k
  | [], _ => by simp [plc]
  | y :: l, k => by
    by_cases h : y = x
    · rw [plc_cons_eq h]; simp [h]
    · rw [plc_cons_ne h, ← plc_mem x l (k + 1)]; simp [Ne.symm h]
theorem plc_get (x : Int) : ∀ (l : List Int) (k : Nat), 0 ≤ plc x l k → l.getD (plc x l k - k).toNat 0 = x
  | [], _, h => by simp [plc] at h
  | y :: l, k, h => by
    by_cases e : y = x
    · rw [plc_cons_eq e]; simp [e]
    · rw [plc_cons_ne e] at h ⊢
      have h1 := plc_get x l (k + 1) h
      rcases plc_range x l (k + 1) with h2 | h2
      · omega
      · have : (plc x l (k + 1) - k).toNat = (plc x l (k + 1) - (k + 1 : Nat)).toNat + 1 := by omega
        rw [this, List.getD_cons_succ]; exact h1

theorem place_any (a : Option Addr) (c : Nat) (l : List Int) (x : Int) (w : World) (hr : RdL .i32 w a l) (hn : l.length ≤ maxLen) :
    Calls Tryd.prog 38 #[.slice a l.length c, .int .i32 x] w fun e w' => e = .returned (.int .i64 (plc x l 0)) ∧ w' = w := by
  unfold maxLen at hn
  go_enter Tryd.func38, Tryd.ntmps38
  go_wp2
  go_loopw [5] (fun i wr => wr = w ∧ ∃ j : Nat, j ≤ l.length ∧ i = .int .i64 j ∧ Hid (plc x (l.drop j) j = plc x l 0)) (fun i _ => l.length - (intOf i).toNat)
  case atStart => exact ⟨rfl, 0, Nat.zero_le _, rfl, hide rfl⟩
  case round =>
    obtain ⟨rfl, j, hj, rfl, H⟩ := hrel
    by_cases hlt : j < l.length
    · obtain ⟨b, off, rfl, hc⟩ := hr.at hlt
      have hcj := hc j hlt
      have hlt' : (j : Int) < (l.length : Int) := by omega
      have HD := hide (drop_at hlt)
      clear hc
      generalize l.getD j 0 = y at *
      by_cases h1 : y = x
      · subst h1
        go_wp2
        go_ret
        exact ⟨ret_int (by rw [← unhide H, unhide HD, plc_cons_eq rfl]), rfl⟩
      · have HN := hide h1
        have h2 : (y == x) = false := by simpa using h1
        clear h1
        go_wp2
        go_roundw
        case rel => exact ⟨trivial, j + 1, by omega, by go_num, hide (by rw [← unhide H, unhide HD, plc_cons_ne (unhide HN)])⟩
        case measure => simp [intOf]; omega
    · have HE := hide (plc_end (x := x) (l := l) (j := j) (k := j) (by omega))
      go_wp2
      go_ret
      exact ⟨ret_int (by rw [← unhide H, unhide HE]), rfl⟩

end Go.Proofs.YtbhdcgebcmgidaaDoor
