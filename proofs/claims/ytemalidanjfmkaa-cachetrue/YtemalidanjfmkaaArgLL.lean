/-
  How a slice of slices of ints that came in is opened, as lists.
-/
import Derived.Test.YtemalidanjfmkaaK5
import Derived.Test.YtemalidanjfmkaaK1
import Derived.Deep.Matrix
namespace Go.Proofs.Ytemalidanjfmkaa
open Go.ChangeShapes Go.WideShapes Go.ChangeAt Go.RowKit

/-- A slice of slices that came in: list r lies at A r, has the capacity cp r, and reads as L r. -/
structure ArgLL (w : World) (a : Option Addr) (m : Nat) (A : Nat → Option Addr) (cp : Nat → Nat) (L : Nat → List Int) : Prop where
  top : RdV w a m (fun r => .slice (A r) (L r).length (cp r))
  row : ∀ r, r < m → RdL .i64 w (A r) (L r)
  nil : ∀ r, r < m → A r = none → (L r).length = 0 ∧ cp r = 0
theorem open_argLL {H : Type} {enc : TypeId × Value → H} {W : World} {a : Option Addr} {len cap : Nat} {d : DataW H} {p : List MemPlace}
    (h : DataW.Trod enc Try.prog W 0 (fun _ => true) true 32 (.slice a len cap) d p) : ∃ A cp L, ArgLL W a len A cp L := by
  obtain ⟨fuel, hf⟩ := h
  rcases Deep.open_int_rows Try.underlying32 Try.underlying29 Try.underlying3 (by kernel_rfl) (by kernel_rfl) hf with ⟨hcs, _⟩ | ⟨x, l, c, A, Ln, C, Z, hcs, _, hl, hm, _, hrow⟩
  · simp [Value.cells] at hcs
    obtain ⟨rfl, rfl, rfl⟩ := hcs
    exact ⟨fun _ => none, fun _ => 0, fun _ => [], .inl rfl, fun r hr => by omega, fun r hr => by omega⟩
  · simp [Value.cells] at hcs
    obtain ⟨rfl, rfl, rfl⟩ := hcs
    have hlen : ∀ r, r < len → ((Z r).take (Ln r)).length = Ln r := fun r hr => by
      obtain ⟨_, h1, _, h2, _⟩ := hrow r (by omega)
      rw [List.length_take]; omega
    refine ⟨A, C, fun r => (Z r).take (Ln r), ?_, fun r hr => ?_, fun r hr e => ?_⟩
    · by_cases h0 : len = 0
      · exact .inl h0
      · obtain ⟨b, off, spot⟩ := x
        have hc := (hrow 0 (by omega)).1
        have hspot : spot = none := by simpa [Addr.add] using World.cell?_spot hc
        subst hspot
        refine .inr ⟨b, off, rfl, fun i hi => ?_⟩
        have := (hrow i (by omega)).1
        rw [add_at] at this
        rw [this]
        show _ = some (Value.slice (A i) (List.take (Ln i) (Z i)).length (C i))
        rw [hlen i hi]
    · obtain ⟨_, h1, _, h2, _, h3, h4⟩ := hrow r (by omega)
      have h5 := hlen r hr
      cases hA : A r with
      | none => exact .inl (by rw [h5]; have := h3 hA; omega)
      | some ad =>
        by_cases h0 : Ln r = 0
        · exact .inl (by rw [h5]; exact h0)
        · obtain ⟨_, hcell⟩ := h4 ad hA
          obtain ⟨b, off, spot⟩ := ad
          have hc := hcell 0 (by omega)
          have hspot : spot = none := by simpa [Addr.add] using World.cell?_spot hc
          subst hspot
          refine .inr ⟨b, off, rfl, fun i hi => ?_⟩
          rw [h5] at hi
          have := hcell i (by omega)
          rw [add_at] at this
          rw [this]
          simp only [List.getD, List.getElem?_take_of_lt hi]
    · obtain ⟨_, h1, _, h2, _, h3, _⟩ := hrow r (by omega)
      have := h3 e
      have := hlen r hr
      omega
end Go.Proofs.Ytemalidanjfmkaa
