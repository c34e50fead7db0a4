/-
  How a slice of ints that came in is opened: what it reads as, and its bounds.
-/
import Derived.Test.YtaldjpjlggnhhaaRows
import Derived.Test.YtaldjpjlggnhhaaK1
import Derived.ProofKit
import Derived.OpenShut
import Derived.ShutString
import Derived.ChangeOld
import Derived.SizedLaws
namespace Go.Proofs.Ytaldjpjlggnhhaa
open Go.ChangeShapes Go.WideShapes Go.ChangeAt Go.RowKit

theorem ownKn : ownKnob Try.prog.godebug = none := by kernel_rfl
theorem laidOutT : laidOutB Try.prog = true := by kernel_rfl
theorem bytesInt : Try.prog.bytesOf 3 = 8 := by kernel_rfl
theorem cellsInt : Try.prog.cellsOf 3 = 1 := by kernel_rfl

/-- An int of 64 bits. -/
def Fits (x : Int) : Prop := -9223372036854775808 ≤ x ∧ x ≤ 9223372036854775807
theorem fits_of {x : Int} (h : (Lit.int .i64 x).wf = true) : Fits x := by
  have h1 : IntKind.i64.min = -9223372036854775808 := rfl
  have h2 : IntKind.i64.max = 9223372036854775807 := rfl
  simp only [Lit.wf, Bool.and_eq_true, decide_eq_true_eq] at h
  unfold Fits
  omega

/-- A slice of ints that came in: it reads as f; its capacity lies within the form's reach. -/
structure Arg (w : World) (a : Option Addr) (n c : Nat) (f : Nat → Int) : Prop where
  rd : Rd w a n f
  nil : a = none → n = 0 ∧ c = 0
  le : n ≤ c
  reach : c * 8 ≤ 140737488351232
  fits : ∀ i, i < n → Fits (f i)
theorem Arg.max {w : World} {a : Option Addr} {n c : Nat} {f : Nat → Int} (h : Arg w a n c f) : n ≤ maxLen := by
  have := h.le; have := h.reach; unfold maxLen; omega
theorem Arg.bytes {w : World} {a : Option Addr} {n c : Nat} {f : Nat → Int} (h : Arg w a n c f) : n * 8 ≤ 140737488351232 := by
  have := h.le; have := h.reach; omega

theorem open_arg {H : Type} {enc : TypeId × Value → H} {W : World} {a : Option Addr} {len cap : Nat} {d : DataW H} {p : List MemPlace}
    (h : DataW.Trod enc Try.prog W 0 (fun _ => true) true 42 (.slice a len cap) d p) (hs : ∀ es sp, d = .slice es sp → (es.length + sp.length) * 8 ≤ reachBytes) : ∃ f, Arg W a len cap f := by
  obtain ⟨fuel, hf⟩ := h
  rcases open_ints Try.underlying42 Try.underlying3 cellsInt hf with ⟨hcs, _⟩ | ⟨x, l, c, zs, hcs, _, hl, hm, hz, hx, hcell, hwz⟩
  · simp [Value.cells] at hcs
    obtain ⟨rfl, rfl, rfl⟩ := hcs
    exact ⟨fun _ => 0, .inl rfl, fun _ => ⟨rfl, rfl⟩, Nat.le_refl _, by omega, fun i hi => by omega⟩
  · simp [Value.cells] at hcs
    obtain ⟨rfl, rfl, rfl⟩ := hcs
    simp only [if_true] at hz
    have hr := hs _ _ (congrArg Prod.fst hx)
    simp only [lits, List.length_map, List.length_take, List.length_drop, reachBytes] at hr
    refine ⟨fun i => zs.getD i 0, ?_, (fun h => by cases h), hl, by omega, fun i hi => ?_⟩
    · by_cases h0 : len = 0
      · exact .inl h0
      · obtain ⟨b, off, spot⟩ := x
        have hc := hcell 0 (by omega)
        have hspot : spot = none := by simpa [Addr.add] using World.cell?_spot hc
        subst hspot
        exact .inr ⟨b, off, rfl, fun i hi => by rw [← add_at]; exact hcell i (by omega)⟩
    · refine fits_of (hwz _ ?_)
      simp only [List.getD, List.getElem?_eq_getElem (show i < zs.length by omega), Option.getD_some]
      exact List.getElem_mem _

end Go.Proofs.Ytaldjpjlggnhhaa
