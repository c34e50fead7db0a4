/-
  Answers of the call's own: a slice of them to which one is appended.
-/
import Derived.Test.YtagoilabphmdfaaDoorELine
namespace Go.Proofs.YtagoilabphmdfaaDoor
open Go.RowKit

theorem rdG {q : IntKind} {w w' : World} {a : Option Addr} {l : List Int} {row : Option Nat} (h : RdL q w a l) (hg : w.grownBy w' row) (hx : ∀ x, a = some x → row ≠ some x.block) : RdL q w' a l := by
  rcases h with h | ⟨b, off, e, hc⟩
  · exact .inl h
  · refine .inr ⟨b, off, e, fun i hi => ?_⟩
    have h1 := hc i hi
    have hb : b < w.heap.size := World.block_lt_of_cell? w _ h1
    have h2 := hg.block b hb (fun e' => hx _ e e'.symm)
    rw [World.cell?_of_block (w := w) (w' := w') h2]
    exact h1
/-- A slice of answers of the call's own. -/
structure OwnPs (w : World) (B : Nat) (v : Value) (l : List Pa) : Prop where
  top : w.ownsRow B 35 3 v l.length (l.flatMap paC)
  row : ∀ p ∈ l, RdPa w p
  apart : ∀ p ∈ l, ∀ x, (p.a1 = some x ∨ p.a2 = some x) → v.ownBlock ≠ some x.block ∧ x.block < w.heap.size
theorem OwnPs.nil (w : World) (B : Nat) : OwnPs w B (.slice none 0 0) [] := ⟨World.ownsRow_nil _ _ _ _, fun _ h => (by cases h), fun _ h => (by cases h)⟩
theorem OwnPs.grown {w w' : World} {B : Nat} {v : Value} {l : List Pa} (h : OwnPs w B v l) (hb : Below w.heap.size w w') : OwnPs w' B v l := by
  have hlt := World.ownsRow.lt h.top
  refine ⟨World.ownsRow.kept (row := none) h.top ⟨hb.os, hb.tape, hb.output, hb.size, fun i hi _ => hb.block i hi⟩ ?_, fun p hp => ⟨(h.row p hp).out.below hb, (h.row p hp).word.below hb⟩, fun p hp x hx => ⟨(h.apart p hp x hx).1, Nat.lt_of_lt_of_le (h.apart p hp x hx).2 hb.size⟩⟩
  cases v.ownBlock <;> simp
theorem paC_len (p : Pa) : (paC p).length = 3 := rfl
theorem flat_len : ∀ l : List Pa, (l.flatMap paC).length = l.length * 3
  | [] => rfl
  | p :: l => by rw [List.flatMap_cons, List.length_append, paC_len, flat_len l, List.length_cons]; omega
theorem flat_at : ∀ (l : List Pa) (i : Nat) (h : i < l.length) (j : Nat), j < 3 → (l.flatMap paC)[i * 3 + j]? = (paC l[i])[j]?
  | p :: l, 0, _, j, hj => by rw [List.flatMap_cons, List.getElem?_append_left (by rw [paC_len]; omega)]; simp
  | p :: l, i + 1, h, j, hj => by
    rw [List.flatMap_cons, List.getElem?_append_right (by rw [paC_len]; omega), paC_len, show (i + 1) * 3 + j - 3 = i * 3 + j by omega, flat_at l i (by simpa using h) j hj]
    rfl
theorem OwnPs.rd {w : World} {B : Nat} {v : Value} {l : List Pa} (h : OwnPs w B v l) : ∃ a c, v = .slice a l.length c ∧ RdPs w a l := by
  rcases h.top.2 with ⟨rfl, h0⟩ | ⟨g, cap, cur, rfl, hb, hg, hn, hm, hs, ht⟩
  · have : l = [] := List.eq_nil_of_length_eq_zero h0
    subst this
    exact ⟨none, 0, rfl, .inl rfl, h.row⟩
  · refine ⟨_, _, rfl, .inr ⟨g, 0, rfl, fun i hi j hj => ?_⟩, h.row⟩
    have e := flat_at l i hi j hj
    have hlt : j < (paC l[i]).length := by rw [paC_len]; exact hj
    rw [List.getElem?_eq_getElem hlt] at e ⊢
    have := h.top.cells (g := g) rfl _ _ e
    rw [add_at] at this
    exact this
def okI (x : Option TypeInfo) : Bool := match x with
  | some i => (match i.zero with
    | some z => decide (i.size = 3 ∧ z.cells.size = 3 ∧ i.bytes ≤ 1000)
    | none => false)
  | none => false
theorem okI_of {x : Option TypeInfo} (h : okI x = true) : ∃ i z, x = some i ∧ i.zero = some z ∧ i.size = 3 ∧ z.cells.size = 3 ∧ i.bytes ≤ 1000 := by
  unfold okI at h
  split at h
  · split at h
    · exact ⟨_, _, rfl, by assumption, of_decide_eq_true h⟩
    · cases h
  · cases h
theorem info_A : ∃ i z, Tryd.prog.info? 35 = some i ∧ i.zero = some z ∧ i.size = 3 ∧ z.cells.size = 3 ∧ i.bytes ≤ 1000 := okI_of (by kernel_rfl)
theorem OwnPs.push {w : World} (ty : TypeId) {B : Nat} {v : Value} {l : List Pa} (h : OwnPs w B v l) (p : Pa) (hp : RdPa w p) (ha : ∀ x, (p.a1 = some x ∨ p.a2 = some x) → v.ownBlock ≠ some x.block ∧ x.block < w.heap.size) (g c : Nat) (hc : ∀ j, j < 3 → w.cell? ⟨g, j, none⟩ = (paC p)[j]?) (hl : l.length < 1000000) (hB : B ≤ w.heap.size) :
    ∃ v' w', (Builtin.append_ #[22, 22] ty #[v, .slice (some ⟨g, 0, none⟩) 1 c]).run Tryd.prog w = .ok v' w' ∧ OwnPs w' B v' (l ++ [p]) ∧ Below B w w' := by
  obtain ⟨i, z, hi, hz, hs, hzs, hby⟩ := info_A
  have hlt := World.ownsRow.lt h.top
  obtain ⟨v', w', hrun, r1, r2, _, r4⟩ := run_append_own_at (P := Tryd.prog) w B 22 ty 35 i z 3 i.bytes Tryd.underlying22 hi hz hs rfl hzs (by decide) v l.length (l.flatMap paC) h.top ⟨g, 0, none⟩ 1 c (paC p) rfl (fun j u hj => by
      have hjm : j < 3 := (List.getElem?_eq_some_iff.1 hj).1
      rw [add_at, ← hj, Nat.zero_add]
      exact hc j hjm) (fun u hu => by
      simp only [paC, List.mem_cons, List.not_mem_nil, or_false] at hu
      rcases hu with rfl | rfl | rfl <;> rfl) (by unfold maxLen; omega) (by
      have : (l.length + 1) * i.bytes ≤ 1000001 * 1000 := Nat.mul_le_mul (by omega) hby
      omega) hB
  have hbl : Below B w w' := (Below.refl B w).grown r2 hB fun k hk => (hlt k hk).1
  have hnew : ∀ q ∈ l ++ [p], RdPa w q ∧ ∀ x, (q.a1 = some x ∨ q.a2 = some x) → v.ownBlock ≠ some x.block ∧ x.block < w.heap.size := fun q hq => by
    rcases List.mem_append.1 hq with hq | hq
    · exact ⟨h.row q hq, h.apart q hq⟩
    · rw [List.mem_singleton] at hq; subst hq; exact ⟨hp, ha⟩
  refine ⟨v', w', hrun, ⟨by rw [List.length_append, List.flatMap_append]; simpa using r1, fun q hq => ?_, fun q hq x hx => ?_⟩, hbl⟩
  · obtain ⟨h1, h2⟩ := hnew q hq
    exact ⟨rdG h1.out r2 fun x e => (h2 x (.inl e)).1, rdG h1.word r2 fun x e => (h2 x (.inr e)).1⟩
  · obtain ⟨h1, h2⟩ := hnew q hq
    obtain ⟨h3, h4⟩ := h2 x hx
    refine ⟨fun e => ?_, Nat.lt_of_lt_of_le h4 r2.size⟩
    rcases r4 with r4 | r4
    · exact h3 (r4 ▸ e)
    · rw [r4] at e; have := Option.some.inj e; omega

end Go.Proofs.YtagoilabphmdfaaDoor
