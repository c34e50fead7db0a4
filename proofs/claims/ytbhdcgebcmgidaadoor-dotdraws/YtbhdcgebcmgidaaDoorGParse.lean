/-
  What the program's nameFault and Parse return.
-/
import Derived.Test.YtbhdcgebcmgidaaDoorGName
namespace Go.Proofs.YtbhdcgebcmgidaaDoor
open Go.RowKit

/-- What keeps r from being the next name. -/
def fltV (broken : Bool) (names : List Int) (r : Int) : Int :=
  if broken = true ∨ noName r = true then 20 else if 0 ≤ plc r names 0 then 21 else if names.length = 64 then 3 else 0

theorem nameFault_any (a : Option Addr) (c : Nat) (l : List Int) (rest : ByteArray) (r : Int) (w : World) (hr : RdL .i32 w a l) (hn : l.length ≤ maxLen) :
    Calls Tryd.prog 50 #[.slice a l.length c, .string rest, .int .i32 r] w fun e w' => e = .returned (.int .i64 (fltV (brkR rest r) l r)) ∧ w' = w := by
  cases hb : brkR rest r
  · cases hm : noName r
    · by_cases hp : 0 ≤ plc r l 0
      · have H := hide (show fltV false l r = 21 by simp [fltV, hm, hp])
        have hp2 : decide (0 ≤ plc r l 0) = true := by simpa using hp
        clear hp
        go_enter Tryd.func50, Tryd.ntmps50
        go_wp2_with (first | (go_at_call 55; refine (isBroken_any _ _ _).mono ?_; rw [hb]; rintro e w' ⟨rfl, rfl⟩) | (go_at_call 56; refine (isName_any _ _).mono ?_; rw [hm]; rintro e w' ⟨rfl, rfl⟩) | (go_at_call 57; refine (Contains_any _ _ _ _ _ hr hn).mono ?_; rw [hp2]; rintro e w' ⟨rfl, rfl⟩))
        go_ret
        exact ⟨ret_int (by rw [unhide H]), rfl⟩
      · have hp2 : decide (0 ≤ plc r l 0) = false := by simpa using hp
        by_cases hl : l.length = 64
        · have H := hide (show fltV false l r = 3 by simp [fltV, hm, hp, hl])
          have hl2 : ((l.length : Int) == 64) = true := by simp [hl]
          clear hp hl
          go_enter Tryd.func50, Tryd.ntmps50
          go_wp2_with (first | (go_at_call 55; refine (isBroken_any _ _ _).mono ?_; rw [hb]; rintro e w' ⟨rfl, rfl⟩) | (go_at_call 56; refine (isName_any _ _).mono ?_; rw [hm]; rintro e w' ⟨rfl, rfl⟩) | (go_at_call 57; refine (Contains_any _ _ _ _ _ hr hn).mono ?_; rw [hp2]; rintro e w' ⟨rfl, rfl⟩))
          go_ret
          exact ⟨ret_int (by rw [unhide H]), rfl⟩
        · have H := hide (show fltV false l r = 0 by simp [fltV, hm, hp, hl])
          have hl2 : ((l.length : Int) == 64) = false := by simp; omega
          clear hp hl
          go_enter Tryd.func50, Tryd.ntmps50
          go_wp2_with (first | (go_at_call 55; refine (isBroken_any _ _ _).mono ?_; rw [hb]; rintro e w' ⟨rfl, rfl⟩) | (go_at_call 56; refine (isName_any _ _).mono ?_; rw [hm]; rintro e w' ⟨rfl, rfl⟩) | (go_at_call 57; refine (Contains_any _ _ _ _ _ hr hn).mono ?_; rw [hp2]; rintro e w' ⟨rfl, rfl⟩))
          go_ret
          exact ⟨ret_int (by rw [unhide H]), rfl⟩
    · have H := hide (show fltV false l r = 20 by simp [fltV, hm])
      go_enter Tryd.func50, Tryd.ntmps50
      go_wp2_with (first | (go_at_call 55; refine (isBroken_any _ _ _).mono ?_; rw [hb]; rintro e w' ⟨rfl, rfl⟩) | (go_at_call 56; refine (isName_any _ _).mono ?_; rw [hm]; rintro e w' ⟨rfl, rfl⟩))
      go_ret
      exact ⟨ret_int (by rw [unhide H]), rfl⟩
  · have H := hide (show fltV true l r = 20 by simp [fltV])
    go_enter Tryd.func50, Tryd.ntmps50
    go_wp2_with (go_at_call 55; refine (isBroken_any _ _ _).mono ?_; rw [hb]; rintro e w' ⟨rfl, rfl⟩)
    go_ret
    exact ⟨ret_int (by rw [unhide H]), rfl⟩

/-- The names of s from a place on, behind acc. -/
def prs (s : ByteArray) : Nat → Nat → List Int → List Int × Int × Nat
  | 0, _, acc => (acc, 0, s.size)
  | f + 1, pos, acc => if pos < s.size then (if fltV (brk s pos) acc (rn s pos) = 0 then prs s f (pos + wd s pos) (acc ++ [rn s pos]) else ([], fltV (brk s pos) acc (rn s pos), pos)) else (acc, 0, s.size)
def prsV (s : ByteArray) : List Int × Int × Nat := if s.size = 0 then ([], 4, 0) else prs s s.size 0 []
theorem prs_end {s : ByteArray} {f pos : Nat} {acc : List Int} (h : ¬ pos < s.size) : prs s f pos acc = (acc, 0, s.size) := by
  cases f <;> simp [prs, h]
theorem prs_go {s : ByteArray} {f pos : Nat} {acc : List Int} (h : pos < s.size) (h0 : fltV (brk s pos) acc (rn s pos) = 0) : prs s (f + 1) pos acc = prs s f (pos + wd s pos) (acc ++ [rn s pos]) := by
  simp [prs, h, h0]
theorem prs_stop {s : ByteArray} {f pos : Nat} {acc : List Int} (h : pos < s.size) (h0 : fltV (brk s pos) acc (rn s pos) ≠ 0) : prs s (f + 1) pos acc = ([], fltV (brk s pos) acc (rn s pos), pos) := by
  simp [prs, h, h0]
theorem fltV_len {b : Bool} {l : List Int} {r : Int} (h : fltV b l r = 0) : l.length ≠ 64 := by
  intro e
  unfold fltV at h
  split at h
  · omega
  · split at h
    · omega
    · omega

end Go.Proofs.YtbhdcgebcmgidaaDoor
