/-
  Bytes as a string, wherever they lie; bytes compared.
-/
import Derived.Test.YtagoilabphmdfaaDoorTByt
namespace Go.Proofs.YtagoilabphmdfaaDoor
open Go.RowKit

/-- string(b), b anywhere. -/
theorem conv_rd {w : World} {a : Option Addr} {c : Nat} {l : List UInt8} (h : RdL .u8 w a (zs l)) (hnil : a = none → l.length = 0 ∧ c = 0) : (convert 26 9 (.slice a l.length c)).run Tryd.prog w = .ok (.string ⟨l.toArray⟩) w := by
  cases a with
  | none =>
    obtain ⟨h0, rfl⟩ := hnil rfl
    obtain rfl := List.length_eq_zero_iff.1 h0
    exact conv_nil w
  | some ad =>
    refine run_convert_bytes_back w 26 9 5 ad c l Tryd.underlying26 Tryd.underlying5 Tryd.underlying9 fun j hj => ?_
    obtain ⟨b, off, e, hc⟩ := h.at (i := j) (by rw [zs_len]; exact hj)
    cases e
    rw [add_at, hc j (by rw [zs_len]; exact hj)]
    simp [zs, hj]
theorem beq_dec (l m : List UInt8) : (l == m) = decide (l = m) := by
  by_cases h : l = m
  · subst h; simp
  · rw [decide_eq_false h]; simpa using h
/-- The reference's Same of bytes. -/
theorem bsame_any (a a' : Option Addr) (c c' : Nat) (l m : List UInt8) (w : World) (h : RdL .u8 w a (zs l)) (h' : RdL .u8 w a' (zs m)) (hnil : a = none → l.length = 0 ∧ c = 0) (hnil' : a' = none → m.length = 0 ∧ c' = 0) :
    Calls Tryd.prog 7 #[.slice a l.length c, .slice a' m.length c'] w fun e w' => e = .returned (.bool (decide (l = m))) ∧ w' = w := by
  have k1 := conv_rd h hnil
  have k2 := conv_rd h' hnil'
  have HE := hide (beq_dec l m)
  go_enter Tryd.func7, Tryd.ntmps7
  go_wp2
  go_ret
  exact ⟨ret_bool (unhide HE), rfl⟩

end Go.Proofs.YtagoilabphmdfaaDoor
