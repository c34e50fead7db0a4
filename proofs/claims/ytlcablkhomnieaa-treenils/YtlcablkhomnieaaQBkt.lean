/-
  A row of rows that are appended to one by one.
-/
import Derived.Test.YtlcablkhomnieaaK19
import Derived.Test.YtlcablkhomnieaaK13
namespace Go.Proofs.Ytlcablkhomnieaa
open Go.RowKit

def updV {α : Type} (f : Nat → α) (j : Nat) (x : α) (i : Nat) : α := if i = j then x else f i
theorem updV_same {α : Type} (f : Nat → α) (j : Nat) (x : α) : updV f j x j = x := if_pos rfl
theorem updV_ne {α : Type} {f : Nat → α} {j i : Nat} {x : α} (h : i ≠ j) : updV f j x i = f i := if_neg h
/-- The block g holds n rows, each in memory of the call's own. -/
structure Bkt (w0 w : World) (g n : Nat) (vs : Nat → Value) (L : Nat → List Int) : Prop where
  lo : w0.heap.size ≤ g
  cell : ∀ i, i < n → w.cell? ⟨g, i, none⟩ = some (vs i) ∧ w.frozen? ⟨g, i, none⟩ = false
  own : ∀ i, i < n → OwnL .i64 3 w w0.heap.size (vs i) (L i)
  ne : ∀ i, i < n → (vs i).ownBlock ≠ some g
  dis : ∀ i j, i < n → j < n → i ≠ j → ∀ b, (vs i).ownBlock = some b → (vs j).ownBlock ≠ some b
  bl : Below w0.heap.size w0 w

section
variable {w0 w w1 w2 w' : World} {g n : Nat} {vs : Nat → Value} {L : Nat → List Int}
theorem Bkt.on (h : Bkt w0 w g n vs L) (hb : Below w.heap.size w w') : Bkt w0 w' g n vs L :=
  ⟨h.lo, fun i hi => by
    have hg := World.block_lt_of_cell? w _ (h.cell i hi).1
    exact ⟨(hb.cell (p := ⟨g, i, none⟩) hg).trans (h.cell i hi).1, (hb.frozen (p := ⟨g, i, none⟩) hg).trans (h.cell i hi).2⟩, fun i hi => (h.own i hi).keep (fun b e => hb.block b ((h.own i hi).lt e).2), h.ne, h.dis, h.bl.trans (hb.mono h.bl.size)⟩
theorem Bkt.lt (h : Bkt w0 w g n vs L) {i : Nat} (hi : i < n) : g < w.heap.size := World.block_lt_of_cell? w _ (h.cell i hi).1
theorem Bkt.push {i : Nat} {v' : Value} {l' : List Int} (h : Bkt w0 w g n vs L) (hi : i < n) (hb : Below w.heap.size w w1) (hg : w1.grownBy w2 (vs i).ownBlock) (ho : OwnL .i64 3 w2 w0.heap.size v' l') (hat : ∀ b, v'.ownBlock = some b → (vs i).ownBlock = some b ∨ b = w1.heap.size) :
    Bkt w0 (w2.setCell ⟨g, i, none⟩ v') g n (updV vs i v') (updV L i l') := by
  have hlt := h.lt hi
  have s1 := hb.size
  have s0 := h.bl.size
  have k2 : ∀ b, b < w.heap.size → (vs i).ownBlock ≠ some b → w2.heap[b]? = w.heap[b]? := fun b h1 h2 => (hg.block b (by omega) (fun e => h2 e.symm)).trans (hb.block b h1)
  have kg := k2 g hlt (h.ne i hi)
  have k3 : ∀ b, b ≠ g → (w2.setCell ⟨g, i, none⟩ v').heap[b]? = w2.heap[b]? := fun b hne => Below.heap_setCell w2 _ _ b hne
  have vn : v'.ownBlock ≠ some g := fun e => by
    rcases hat g e with d | d
    · exact h.ne i hi d
    · omega
  refine ⟨h.lo, fun j hj => ?_, fun j hj => ?_, fun j hj => ?_, fun j k hj hk hne b hb' => ?_, ?_⟩
  · rw [World.frozen?_setCell]
    refine ⟨?_, (World.frozen?_of_block (a := ⟨g, j, none⟩) kg).trans (h.cell j hj).2⟩
    by_cases e : j = i
    · subst e
      rw [updV_same]
      exact World.cell?_setCell_same w2 _ _ ((World.cell?_of_block (a := ⟨g, j, none⟩) kg).trans (h.cell j hj).1)
    · rw [updV_ne e, World.cell?_setCell_other _ _ _ _ (fun d => e (by cases d; rfl))]
      exact (World.cell?_of_block (a := ⟨g, j, none⟩) kg).trans (h.cell j hj).1
  · by_cases e : j = i
    · subst e
      rw [updV_same, updV_same]
      exact ho.keep fun b e => k3 b (fun d => vn (d ▸ e))
    · rw [updV_ne e, updV_ne e]
      exact (h.own j hj).keep fun b d => (k3 b (fun d2 => h.ne j hj (d2 ▸ d))).trans (k2 b ((h.own j hj).lt d).2 (h.dis j i hj hi e b d))
  · by_cases e : j = i
    · subst e; rw [updV_same]; exact vn
    · rw [updV_ne e]; exact h.ne j hj
  · by_cases e : j = i
    · subst e
      rw [updV_same] at hb'
      rw [updV_ne (Ne.symm hne)]
      rcases hat b hb' with d | d
      · exact h.dis j k hj hk hne b d
      · intro d2
        have := ((h.own k hk).lt d2).2
        omega
    · rw [updV_ne e] at hb'
      by_cases e2 : k = i
      · subst e2
        rw [updV_same]
        intro d
        rcases hat b d with d2 | d2
        · exact h.dis j k hj hk hne b hb' d2
        · have := ((h.own j hj).lt hb').2
          omega
      · rw [updV_ne e2]; exact h.dis j k hj hk hne b hb'
  · have b1 : Below w0.heap.size w0 w1 := h.bl.trans (hb.mono s0)
    have b2 : Below w0.heap.size w0 w2 := b1.grown hg b1.size (fun k e => ((h.own i hi).lt e).1)
    exact b2.setCell h.lo _
/-- make([][]int, n). -/
theorem Bkt.start {c : Nat} (h : OwnE 29 w w0.heap.size (.slice (some ⟨g, 0, none⟩) n c) n (fun _ => .slice none 0 0)) (hn : 0 < n) (hb : Below w0.heap.size w0 w) : Bkt w0 w g n (fun _ => .slice none 0 0) (fun _ => []) := by
  obtain ⟨g', c', e, -, -, hlo, -, hc, hf⟩ := h.pos hn
  cases e
  exact ⟨hlo, fun i hi => ⟨hc i hi, hf i⟩, fun _ _ => OwnL.nil _ _ _ _, fun _ _ e => (by cases e), fun _ _ _ _ _ _ e => (by cases e), hb⟩
end
theorem eInts : EltV 29 32 (.slice none 0 0) 24 := ⟨Try.underlying32, by kernel_rfl, by decide, rfl⟩
end Go.Proofs.Ytlcablkhomnieaa
