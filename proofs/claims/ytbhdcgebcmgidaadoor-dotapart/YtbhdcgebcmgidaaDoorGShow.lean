/-
  What the program's Show returns: a word's names as one text, or the first fault.
-/
import Derived.Test.YtbhdcgebcmgidaaDoorPlace
import Derived.Test.YtbhdcgebcmgidaaDoorGFirst
import Derived.Test.YtbhdcgebcmgidaaDoorShelf
namespace Go.Proofs.YtbhdcgebcmgidaaDoor
open Go.RowKit

/-- The names of a word's symbols as bytes, behind acc. -/
def shw (names : List Int) : List Int → List UInt8 → List UInt8 × Int
  | [], acc => (acc, 0)
  | x :: w, acc => if x < 0 ∨ (names.length : Int) ≤ x then ([], 10) else if Lib.validRune (names.getD x.toNat 0) = true then shw names w (acc ++ Lib.encodeRune (names.getD x.toNat 0)) else ([], 1)
def shwV (names w : List Int) : List UInt8 × Int := shw names w []
theorem shw_end {names l : List Int} {j : Nat} {acc : List UInt8} (h : l.length ≤ j) : shw names (l.drop j) acc = (acc, 0) := by
  rw [List.drop_eq_nil_of_le h]; rfl
theorem shw_sym {names l : List Int} {x : Int} {acc : List UInt8} (h : x < 0 ∨ (names.length : Int) ≤ x) : shw names (x :: l) acc = ([], 10) := by
  simp only [shw, if_pos h]
theorem shw_arg {names l : List Int} {m : Nat} {acc : List UInt8} (h : m < names.length) (hv : Lib.validRune (names.getD m 0) = false) : shw names ((m : Int) :: l) acc = ([], 1) := by
  rw [shw, if_neg (by omega), Int.toNat_natCast, hv]; rfl
theorem shw_go {names l : List Int} {m : Nat} {acc : List UInt8} (h : m < names.length) (hv : Lib.validRune (names.getD m 0) = true) : shw names ((m : Int) :: l) acc = shw names l (acc ++ Lib.encodeRune (names.getD m 0)) := by
  rw [shw, if_neg (by omega), Int.toNat_natCast, if_pos hv]

theorem ret_text {v v' : Value} {a a' : Int} (hv : v = v') (h : a = a') : Ending.returned (.tuple #[v, .int .i64 a]) = .returned (.tuple #[v', .int .i64 a']) := by rw [hv, h]

end Go.Proofs.YtbhdcgebcmgidaaDoor
