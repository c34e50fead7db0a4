/-
  What the program's Read returns: the word of a text by any names in memory of its own, or the first fault.
-/
import Derived.Test.YtbhdcgebcmgidaaDoorGFirst
import Derived.Test.YtbhdcgebcmgidaaDoorGParseW
namespace Go.Proofs.YtbhdcgebcmgidaaDoor
open Go.RowKit Go.Maps

/-- The word of s from a place on, behind acc. -/
def rds (names : List Int) (s : ByteArray) : Nat → Nat → List Int → List Int × Int × Nat
  | 0, _, acc => (acc, 0, s.size)
  | f + 1, pos, acc => if pos < s.size then (if acc.length = 4096 then ([], 2, pos) else if brk s pos = true ∨ ¬ 0 ≤ plc (rn s pos) names 0 then ([], 20, pos) else rds names s f (pos + wd s pos) (acc ++ [plc (rn s pos) names 0])) else (acc, 0, s.size)
def rdsV (names : List Int) (s : ByteArray) : List Int × Int × Nat := rds names s s.size 0 []
theorem rds_end {names : List Int} {s : ByteArray} {f pos : Nat} {acc : List Int} (h : ¬ pos < s.size) : rds names s f pos acc = (acc, 0, s.size) := by
  cases f <;> simp [rds, h]
theorem rds_long {names : List Int} {s : ByteArray} {f pos : Nat} {acc : List Int} (h : pos < s.size) (h0 : acc.length = 4096) : rds names s (f + 1) pos acc = ([], 2, pos) := by
  simp [rds, h, h0]
theorem rds_rune {names : List Int} {s : ByteArray} {f pos : Nat} {acc : List Int} (h : pos < s.size) (h0 : acc.length ≠ 4096) (h1 : brk s pos = true ∨ ¬ 0 ≤ plc (rn s pos) names 0) : rds names s (f + 1) pos acc = ([], 20, pos) := by
  rw [rds, if_pos h, if_neg h0, if_pos h1]
theorem rds_go {names : List Int} {s : ByteArray} {f pos : Nat} {acc : List Int} (h : pos < s.size) (h0 : acc.length ≠ 4096) (h1 : brk s pos = false) (h2 : 0 ≤ plc (rn s pos) names 0) : rds names s (f + 1) pos acc = rds names s f (pos + wd s pos) (acc ++ [plc (rn s pos) names 0]) := by
  rw [rds, if_pos h, if_neg h0, if_neg (by rw [h1]; simp [h2])]

theorem PMap.of_heap {w w' : World} {b : Nat} {l : List Int} (h : PMap w b l) (e : w'.heap[b]? = w.heap[b]?) : PMap w' b l := by
  obtain ⟨n, D, ⟨es, clock, h1, h2⟩, r⟩ := h
  exact ⟨n, D, ⟨es, clock, e.trans h1, h2⟩, r⟩
theorem litInj {a b : Int} (h : (DataW.lit (.int .i64 a) : DataW Unit) = .lit (.int .i64 b)) : b = a := by cases h; rfl

end Go.Proofs.YtbhdcgebcmgidaaDoor
