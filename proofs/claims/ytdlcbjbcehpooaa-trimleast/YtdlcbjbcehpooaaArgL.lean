/-
  How a slice of whole numbers that came in is opened, as a list; what a string that came in says.
-/
import Derived.Test.YtdlcbjbcehpooaaRows
import Derived.Test.YtdlcbjbcehpooaaSeq
import Derived.ProofKit
import Derived.OpenShut
import Derived.ShutString
import Derived.ChangeOld
import Derived.SizedLaws
namespace Go.Proofs.Ytdlcbjbcehpooaa
open Go.ChangeShapes Go.WideShapes Go.ChangeAt Go.RowKit

theorem ownKn : ownKnob Try.prog.godebug = none := by kernel_rfl
theorem laidOutT : laidOutB Try.prog = true := by kernel_rfl

/-- An int of 64 bits. -/
def Fits (x : Int) : Prop := -9223372036854775808 ≤ x ∧ x ≤ 9223372036854775807
theorem fits_of {x : Int} (h : (Lit.int .i64 x).wf = true) : Fits x := by
  have h1 : IntKind.i64.min = -9223372036854775808 := rfl
  have h2 : IntKind.i64.max = 9223372036854775807 := rfl
  simp only [Lit.wf, Bool.and_eq_true, decide_eq_true_eq] at h
  unfold Fits
  omega

/-- A slice that came in: it reads as l; its capacity lies within the form's reach (k bytes an element). -/
structure ArgL (q : IntKind) (k : Nat) (w : World) (a : Option Addr) (c : Nat) (l : List Int) : Prop where
  rd : RdL q w a l
  nil : a = none → l.length = 0 ∧ c = 0
  le : l.length ≤ c
  reach : c * k ≤ 140737488351232
  fits : ∀ i, i < l.length → (Lit.int q (l.getD i 0)).wf = true

theorem open_argL {H : Type} {enc : TypeId × Value → H} {W : World} {q : IntKind} {t st : TypeId} {k : Nat} {a : Option Addr} {len cap : Nat} {d : DataW H} {p : List MemPlace}
    (hu : Try.prog.underlying st = some (.slice t)) (he : Try.prog.underlying t = some (.int q)) (hc1 : Try.prog.cellsOf t = 1)
    (h : DataW.Trod enc Try.prog W 0 (fun _ => true) true st (.slice a len cap) d p) (hs : ∀ es sp, d = .slice es sp → (es.length + sp.length) * k ≤ reachBytes) : ∃ l : List Int, l.length = len ∧ ArgL q k W a cap l := by
  obtain ⟨fuel, hf⟩ := h
  rcases open_ints hu he hc1 hf with ⟨hcs, _⟩ | ⟨x, l, c, zs, hcs, _, hl, hm, hz, hx, hcell, hwz⟩
  · simp [Value.cells] at hcs
    obtain ⟨rfl, rfl, rfl⟩ := hcs
    exact ⟨[], rfl, .inl rfl, fun _ => ⟨rfl, rfl⟩, Nat.le_refl _, by omega, fun i hi => by simp at hi⟩
  · simp [Value.cells] at hcs
    obtain ⟨rfl, rfl, rfl⟩ := hcs
    simp only [if_true] at hz
    have hr := hs _ _ (congrArg Prod.fst hx)
    simp only [lits, List.length_map, List.length_take, List.length_drop, reachBytes] at hr
    have e1 : min len zs.length + (zs.length - len) = cap := by omega
    rw [e1] at hr
    have hlen : (zs.take len).length = len := by rw [List.length_take]; omega
    have hget : ∀ i, i < len → (zs.take len).getD i 0 = zs.getD i 0 := fun i hi => by
      simp only [List.getD, List.getElem?_take_of_lt hi]
    refine ⟨zs.take len, hlen, ?_, (fun h => by cases h), by omega, by omega, fun i hi => ?_⟩
    · by_cases h0 : len = 0
      · exact .inl (by omega)
      · obtain ⟨b, off, spot⟩ := x
        have hc := hcell 0 (by omega)
        have hspot : spot = none := by simpa [Addr.add] using World.cell?_spot hc
        subst hspot
        exact .inr ⟨b, off, rfl, fun i hi => by rw [hget i (by omega), ← add_at]; exact hcell i (by omega)⟩
    · rw [hget i (by omega)]
      refine hwz _ ?_
      simp only [List.getD, List.getElem?_eq_getElem (show i < zs.length by omega), Option.getD_some]
      exact List.getElem_mem _

end Go.Proofs.Ytdlcbjbcehpooaa
