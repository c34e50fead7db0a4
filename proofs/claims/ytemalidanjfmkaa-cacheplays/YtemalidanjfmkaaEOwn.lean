/-
  Answers of the call's own: a slice of them to which one is appended.
-/
import Derived.Test.YtemalidanjfmkaaELine
namespace Go.Proofs.Ytemalidanjfmkaa
open Go.RowKit

theorem rdG {q : IntKind} {w w' : World} {a : Option Addr} {l : List Int} {row : Option Nat} (h : RdL q w a l) (hg : w.grownBy w' row) (hx : ∀ x, a = some x → row ≠ some x.block) : RdL q w' a l := by
  rcases h with h | ⟨b, off, e, hc⟩
  · exact .inl h
  · refine .inr ⟨b, off, e, fun i hi => ?_⟩
    have h1 := hc i hi
    have hb : b < w.heap.size := World.block_lt_of_cell? w _ h1
    have h2 := hg.block b hb (fun e' => hx _ e e'.symm)
    rw [World.cell?_of_block (w := w) (w' := w') h2]
    exact h1
/-- A slice of answers of the call's own. -/
structure OwnPs (w : World) (B : Nat) (v : Value) (l : List Pa) : Prop where
  top : w.ownsRow B 79 3 v l.length (l.flatMap paC)
  row : ∀ p ∈ l, RdPa w p
  apart : ∀ p ∈ l, ∀ x, (p.a1 = some x ∨ p.a2 = some x) → v.ownBlock ≠ some x.block ∧ x.block < w.heap.size
theorem OwnPs.nil (w : World) (B : Nat) : OwnPs w B (.slice none 0 0) [] := ⟨World.ownsRow_nil _ _ _ _, fun _ h => (by cases h), fun _ h => (by cases h)⟩
theorem OwnPs.grown {w w' : World} {B : Nat} {v : Value} {l : List Pa} (h : OwnPs w B v l) (hb : Below w.heap.size w w') : OwnPs w' B v l := by
  have hlt := World.ownsRow.lt h.top
  refine ⟨World.ownsRow.kept (row := none) h.top ⟨hb.os, hb.tape, hb.output, hb.size, fun i hi _ => hb.block i hi⟩ ?_, fun p hp => ⟨(h.row p hp).out.below hb, (h.row p hp).word.below hb⟩, fun p hp x hx => ⟨(h.apart p hp x hx).1, Nat.lt_of_lt_of_le (h.apart p hp x hx).2 hb.size⟩⟩
  cases v.ownBlock <;> simp
theorem paC_len (p : Pa) : (paC p).length = 3 := rfl
theorem flat_len : ∀ l : List Pa, (l.flatMap paC).length = l.length * 3
  | [] => rfl
  | p :: l => by rw [List.flatMap_cons, List.length_append, paC_len, flat_len l, List.length_cons]; omega
theorem flat_at : ∀ (l : List Pa) (i : Nat) (h : i < l.length) (j : Nat), j < 3 → (l.flatMap paC)[i * 3 + j]? = (paC l[i])[j]?
  | p :: l, 0, _, j, hj => by rw [List.flatMap_cons, List.getElem?_append_left (by rw [paC_len]; omega)]; simp
  | p :: l, i + 1, h, j, hj => by
    rw [List.flatMap_cons, List.getElem?_append_right (by rw [paC_len]; omega), paC_len, show (i + 1) * 3 + j - 3 = i * 3 + j by omega, flat_at l i (by simpa using h) j hj]
    rfl
theorem OwnPs.rd {w : World} {B : Nat} {v : Value} {l : List Pa} (h : OwnPs w B v l) : ∃ a c, v = .slice a l.length c ∧ RdPs w a l := by
  rcases h.top.2 with ⟨rfl, h0⟩ | ⟨g, cap, cur, rfl, hb, hg, hn, hm, hs, ht⟩
  · have : l = [] := List.eq_nil_of_length_eq_zero h0
    subst this
    exact ⟨none, 0, rfl, .inl rfl, h.row⟩
  · refine ⟨_, _, rfl, .inr ⟨g, 0, rfl, fun i hi j hj => ?_⟩, h.row⟩
    have e := flat_at l i hi j hj
    have hlt : j < (paC l[i]).length := by rw [paC_len]; exact hj
    rw [List.getElem?_eq_getElem hlt] at e ⊢
    have := h.top.cells (g := g) rfl _ _ e
    rw [add_at] at this
    exact this
def okI (x : Option TypeInfo) : Bool := match x with
  | some i => (match i.zero with
    | some z => decide (i.size = 3 ∧ z.cells.size = 3 ∧ i.bytes ≤ 1000)
    | none => false)
  | none => false
theorem okI_of {x : Option TypeInfo} (h : okI x = true) : ∃ i z, x = some i ∧ i.zero = some z ∧ i.size = 3 ∧ z.cells.size = 3 ∧ i.bytes ≤ 1000 := by
  unfold okI at h
  split at h
  · split at h
    · exact ⟨_, _, rfl, by assumption, of_decide_eq_true h⟩
    · cases h
  · cases h
theorem info_A : ∃ i z, Try.prog.info? 79 = some i ∧ i.zero = some z ∧ i.size = 3 ∧ z.cells.size = 3 ∧ i.bytes ≤ 1000 := okI_of (by kernel_rfl)
end Go.Proofs.Ytemalidanjfmkaa
