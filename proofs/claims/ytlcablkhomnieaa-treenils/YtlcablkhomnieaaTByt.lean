/-
  Bytes as numbers; string(b).
-/
import Derived.Test.YtlcablkhomnieaaK1
import Derived.Laws.IdiomStrings
namespace Go.Proofs.Ytlcablkhomnieaa
open Go.RowKit

theorem e8 : Elt .u8 5 126 1 := ⟨Try.underlying126, by kernel_rfl, by decide⟩

/-- Bytes as numbers. -/
def zs (l : List UInt8) : List Int := l.map fun b => (b.toNat : Int)
theorem zs_len (l : List UInt8) : (zs l).length = l.length := by simp [zs]
theorem conv_nil (w : World) : (convert 126 9 (.slice none 0 0)).run Try.prog w = .ok (.string ⟨#[]⟩) w := by kernel_rfl
/-- string(b). -/
theorem conv_bytes {w : World} {B : Nat} {v : Value} {l : List UInt8} (h : OwnL .u8 5 w B v (zs l)) : (convert 126 9 v).run Try.prog w = .ok (.string ⟨l.toArray⟩) w := by
  obtain ⟨a, c, rfl, hnil, hlc, hcm, hrd, hblk⟩ := h.shape
  cases a with
  | none =>
    obtain ⟨h0, rfl⟩ := hnil rfl
    rw [zs_len] at h0
    obtain rfl := List.length_eq_zero_iff.1 h0
    exact conv_nil w
  | some ad =>
    rw [zs_len] at *
    refine run_convert_bytes_back w 126 9 5 ad c l Try.underlying126 Try.underlying5 Try.underlying9 fun j hj => ?_
    obtain ⟨b, off, e, hc⟩ := hrd.at (i := j) (by rw [zs_len]; exact hj)
    cases e
    rw [add_at, hc j (by rw [zs_len]; exact hj)]
    simp [zs, hj]

theorem zs_nil : zs [] = [] := rfl
theorem zs_app (l m : List UInt8) : zs (l ++ m) = zs l ++ zs m := by simp [zs]
theorem zs_cells (l : List UInt8) : (zs l).map (Value.int .u8) = Lib.byteCells l := by simp [zs, Lib.byteCells]
theorem zs_getD {l : List UInt8} {i : Nat} (h : i < l.length) : (zs l).getD i 0 = ((l.getD i 0).toNat : Int) := by
  simp [zs, h]
theorem zs_inj {l m : List UInt8} (h : zs l = zs m) : l = m := by
  induction l generalizing m with
  | nil => cases m with
    | nil => rfl
    | cons y m => simp [zs] at h
  | cons x l ih => cases m with
    | nil => simp [zs] at h
    | cons y m =>
      simp only [zs, List.map_cons, List.cons.injEq] at h
      have e : x = y := UInt8.toNat_inj.1 (by omega)
      rw [ih h.2, e]
/-- A slice of bytes that came in, as bytes. -/
theorem zs_of {l : List Int} (h : ∀ i, i < l.length → (Lit.int .u8 (l.getD i 0)).wf = true) : ∃ b : List UInt8, l = zs b := by
  induction l with
  | nil => exact ⟨[], rfl⟩
  | cons x l ih =>
    obtain ⟨b, rfl⟩ := ih fun i hi => by simpa using h (i + 1) (by simpa using hi)
    have h0 := h 0 (by simp)
    have h1 : IntKind.u8.min = 0 := rfl
    have h2 : IntKind.u8.max = 255 := rfl
    simp only [Lit.wf, Bool.and_eq_true, decide_eq_true_eq, List.getD_cons_zero] at h0
    refine ⟨UInt8.ofNat x.toNat :: b, ?_⟩
    simp only [zs, List.map_cons, List.cons.injEq, and_true]
    simp
    omega

end Go.Proofs.Ytlcablkhomnieaa
