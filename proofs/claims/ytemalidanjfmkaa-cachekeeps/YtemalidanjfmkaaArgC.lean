/-
  How a slice of calls (a number and two lists each) that came in is opened: as a slice of answers is.
-/
import Derived.Test.YtemalidanjfmkaaK28
namespace Go.Proofs.Ytemalidanjfmkaa
open Go.ChangeShapes Go.WideShapes Go.ChangeAt Go.RowKit Go.Deep

set_option maxRecDepth 100000 in
/-- Three cells that are a call. -/
theorem open_threeC {w : World} {H : Type} {enc : TypeId × Value → H} {n : Nat} {cs : List Value} {x : DataW H × List MemPlace} (h : DataW.trod enc Try.prog w 0 (fun _ => true) true n 40 cs = some x) : ∃ p : Pa, cs = paC p ∧ ArgPa w p := by
  obtain ⟨xs, k, -, -, hlen, hxl, hf⟩ := DataW.trod_struct Try.underlying40 h
  have h3 : Try.prog.cellsOf 40 = 3 := by kernel_rfl
  rw [h3] at hlen
  match xs, hxl, cs, hlen with
  | [y0, y1, y2], _, [v0, v1, v2], _ =>
    have g0 := hf 0 _ rfl
    have g1 := hf 1 _ rfl
    have g2 := hf 2 _ rfl
    simp only [List.getElem?_cons_zero, List.getElem?_cons_succ] at g0 g1 g2
    obtain ⟨k0, rfl, f0⟩ := fitI g0
    obtain ⟨a1, l1, d1, rfl, A1⟩ := sliI g1
    obtain ⟨a2, l2, d2, rfl, A2⟩ := sliI g2
    exact ⟨⟨⟨k0, l1, l2⟩, a1, d1, a2, d2⟩, rfl, A1, A2, f0⟩

set_option maxRecDepth 100000 in
theorem open_acts {H : Type} {enc : TypeId × Value → H} {W : World} {a : Option Addr} {len cap : Nat} {d : DataW H} {p : List MemPlace}
    (h : DataW.Trod enc Try.prog W 0 (fun _ => true) true 22 (.slice a len cap) d p) : ∃ l : List Pa, l.length = len ∧ ArgPs W a cap l := by
  obtain ⟨fuel, hf⟩ := h
  have h3 : Try.prog.cellsOf 40 = 3 := by kernel_rfl
  rcases open_slice Try.underlying22 hf with ⟨hcs, _⟩ | ⟨x, l, c, m, n, D, Pl, hcs, _, hl, hm, hmm, _, hx⟩
  · simp [Value.cells] at hcs
    obtain ⟨rfl, rfl, rfl⟩ := hcs
    exact ⟨[], rfl, ⟨⟨.inl rfl, fun p hp => (by cases hp)⟩, fun p hp => (by cases hp), fun _ => ⟨rfl, rfl⟩, Nat.le_refl _, Nat.zero_le _⟩⟩
  · simp [Value.cells] at hcs
    obtain ⟨rfl, rfl, rfl⟩ := hcs
    simp only [if_true] at hmm
    have each : ∀ i, i < len → ∃ q : Pa, ArgPa W q ∧ ∀ j, j < 3 → W.cell? (x.add (i * 3 + j)) = (paC q)[j]? := fun i hi => by
      obtain ⟨cs', h1, h2⟩ := hx i (by omega)
      rw [h3] at h1
      obtain ⟨q, rfl, A⟩ := open_threeC h2
      obtain ⟨_, hlen, hcell⟩ := World.cells?_some h1
      refine ⟨q, A, fun j hj => ?_⟩
      have := hcell j (by omega)
      rw [add_add] at this
      exact this
    have hi : Inhabited Pa := ⟨⟨⟨0, [], []⟩, none, 0, none, 0⟩⟩
    obtain ⟨q, hq⟩ := choose_lt each
    have hlen : ((List.range len).map q).length = len := by simp
    refine ⟨(List.range len).map q, hlen, ⟨⟨?_, fun p hp => ?_⟩, fun p hp => ?_, fun e => (by cases e), by omega, hm⟩⟩
    · by_cases h0 : len = 0
      · left; subst h0; rfl
      · obtain ⟨b, off, spot⟩ := x
        have hc := (hq 0 (by omega)).2 0 (by omega)
        have hspot : spot = none := by
          have := hc
          simp only [paC, List.getElem?_cons_zero] at this
          simpa [Addr.add] using World.cell?_spot this
        subst hspot
        refine .inr ⟨b, off, rfl, fun i hi j hj => ?_⟩
        rw [hlen] at hi
        have := (hq i hi).2 j hj
        rw [add_at] at this
        rw [this]
        simp
    · obtain ⟨i, hi, rfl⟩ := List.mem_map.1 hp
      exact (hq i (List.mem_range.1 hi)).1.rd
    · obtain ⟨i, hi, rfl⟩ := List.mem_map.1 hp
      exact (hq i (List.mem_range.1 hi)).1

end Go.Proofs.Ytemalidanjfmkaa
