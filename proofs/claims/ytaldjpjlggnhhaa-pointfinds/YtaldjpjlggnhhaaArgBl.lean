/-
  How a slice of Booleans that came in is opened, as a list.
-/
import Derived.Test.YtaldjpjlggnhhaaArg
import Derived.Test.YtaldjpjlggnhhaaJRef
import Derived.Deep.SlicePairs
namespace Go.Proofs.Ytaldjpjlggnhhaa
open Go.ChangeShapes Go.WideShapes Go.ChangeAt Go.RowKit Go.Deep

structure ArgBl (w : World) (a : Option Addr) (c : Nat) (l : List Bool) : Prop where
  rd : RdB w a l
  nil : a = none → l.length = 0 ∧ c = 0
  le : l.length ≤ c
  max : c ≤ maxLen
theorem open_argB {H : Type} {enc : TypeId × Value → H} {W : World} {a : Option Addr} {len cap : Nat} {d : DataW H} {p : List MemPlace}
    (h : DataW.Trod enc Try.prog W 0 (fun _ => true) true 22 (.slice a len cap) d p) : ∃ l : List Bool, l.length = len ∧ ArgBl W a cap l := by
  obtain ⟨fuel, hf⟩ := h
  have h1' : Try.prog.cellsOf 4 = 1 := by kernel_rfl
  rcases open_slice Try.underlying22 hf with ⟨hcs, _⟩ | ⟨x, l, c, m, n, D, Pl, hcs, _, hl, hm, hmm, _, hx⟩
  · simp [Value.cells] at hcs
    obtain ⟨rfl, rfl, rfl⟩ := hcs
    exact ⟨[], rfl, .inl rfl, fun _ => ⟨rfl, rfl⟩, Nat.le_refl _, Nat.zero_le _⟩
  · simp [Value.cells] at hcs
    obtain ⟨rfl, rfl, rfl⟩ := hcs
    simp only [if_true] at hmm
    have each : ∀ i, i < len → ∃ q : Bool, W.cell? (x.add i) = some (.bool q) := fun i hi => by
      obtain ⟨cs', h1, h2⟩ := hx i (by omega)
      rw [h1'] at h1
      obtain ⟨q, rfl, _⟩ := DataW.trod_bool Try.underlying4 h2
      obtain ⟨_, hlen, hcell⟩ := World.cells?_some h1
      have := hcell 0 (by omega)
      rw [add_add] at this
      exact ⟨q, by simpa using this⟩
    obtain ⟨q, hq⟩ := choose_lt each
    have hlen : ((List.range len).map q).length = len := by simp
    refine ⟨(List.range len).map q, hlen, ?_, fun e => (by cases e), by omega, hm⟩
    by_cases h0 : len = 0
    · left; subst h0; rfl
    · obtain ⟨b, off, spot⟩ := x
      have hc := hq 0 (by omega)
      have hspot : spot = none := by simpa [Addr.add] using World.cell?_spot hc
      subst hspot
      refine .inr ⟨b, off, rfl, fun i hi => ?_⟩
      rw [hlen] at hi
      rw [← add_at, hq i hi]
      simp [List.getD, hi]

end Go.Proofs.Ytaldjpjlggnhhaa
