/-
  A row of numbers that is taken from at the front: how it lies in memory, append to it.
-/
import Derived.Test.YtnakadlhafggkaaQPart
import Derived.ArgAppend
import Derived.Laws.Append
namespace Go.Proofs.Ytnakadlhafggkaa
open Go.RowKit

/-- The value v is a slice that reads as l; its room lies in one block. -/
def Que (w : World) (v : Value) (l : List Int) : Prop :=
  (v = .slice none 0 0 ∧ l = []) ∨ ∃ g off cap cur, v = .slice (some ⟨g, off, none⟩) l.length cap ∧ w.heap[g]? = some (.cells cur 3 (0, 0)) ∧ l.length ≤ cap ∧ cap ≤ maxLen ∧ off + cap ≤ cur.size ∧ ∀ i, i < l.length → cur[off + i]? = some (.int .i64 (l.getD i 0))
theorem Que.nil (w : World) : Que w (.slice none 0 0) [] := .inl ⟨rfl, rfl⟩
theorem Que.keep {w w' : World} {v : Value} {l : List Int} (h : Que w v l) (k : ∀ b, v.ownBlock = some b → w'.heap[b]? = w.heap[b]?) : Que w' v l := by
  rcases h with h | ⟨g, off, cap, cur, rfl, hg, r⟩
  · exact .inl h
  · exact .inr ⟨g, off, cap, cur, rfl, (k g rfl).trans hg, r⟩
theorem Que.lt {w : World} {v : Value} {l : List Int} (h : Que w v l) {b : Nat} (e : v.ownBlock = some b) : b < w.heap.size := by
  rcases h with ⟨rfl, _⟩ | ⟨g, off, cap, cur, rfl, hg, r⟩
  · cases e
  · cases e; exact (Array.getElem?_eq_some_iff.1 hg).1
theorem Que.shape {w : World} {v : Value} {l : List Int} (h : Que w v l) : ∃ a c, v = .slice a l.length c := by
  rcases h with ⟨rfl, rfl⟩ | ⟨g, off, cap, cur, rfl, _⟩
  · exact ⟨none, 0, rfl⟩
  · exact ⟨_, cap, rfl⟩
theorem Que.cell {w : World} {g off : Nat} {cur : Array Value} (hg : w.heap[g]? = some (.cells cur 3 (0, 0))) (i : Nat) : w.cell? ⟨g, off + i, none⟩ = cur[off + i]? := by
  simp [World.cell?, hg]
/-- Behind the first one: where the capacity ends, the place stays. -/
def cdrQ (g off n cap : Nat) : Value := .slice (some ⟨g, if cap = 1 then off else off + 1, none⟩) n (cap - 1)
/-- One that has a first one. -/
theorem Que.cons {w : World} {v : Value} {x : Int} {l : List Int} (h : Que w v (x :: l)) :
    ∃ g off cap, v = .slice (some ⟨g, off, none⟩) (l.length + 1) cap ∧ l.length + 1 ≤ cap ∧ cap ≤ maxLen ∧ w.cell? ⟨g, off, none⟩ = some (.int .i64 x) ∧ Que w (cdrQ g off l.length cap) l := by
  rcases h with ⟨_, h⟩ | ⟨g, off, cap, cur, rfl, hg, hl, hc, hs, hr⟩
  · cases h
  · rw [List.length_cons] at hl
    refine ⟨g, off, cap, rfl, hl, hc, ?_, .inr ⟨g, _, cap - 1, cur, rfl, hg, by omega, by omega, ?_, fun i hi => ?_⟩⟩
    · have h0 := hr 0 (by simp)
      have := Que.cell (off := off) hg 0
      rw [h0] at this
      exact this
    · by_cases c1 : cap = 1
      · rw [if_pos c1]; omega
      · rw [if_neg c1]; omega
    · rw [if_neg (by omega)]
      have := hr (i + 1) (by rw [List.length_cons]; omega)
      rw [show off + 1 + i = off + (i + 1) by omega, this]
      simp
theorem Que.of {w : World} {B : Nat} {v : Value} {l : List Int} (h : OwnL .i64 3 w B v l) : Que w v l := by
  rcases h.2 with ⟨rfl, h0⟩ | ⟨g, cap, cur, rfl, _, hg, h1, h2, h3, h4⟩
  · refine .inl ⟨rfl, ?_⟩
    exact List.eq_nil_of_length_eq_zero h0
  · refine .inr ⟨g, 0, cap, cur, rfl, hg, h1, h2, by omega, fun i hi => ?_⟩
    have e : ((l.map (Value.int .i64))[i]?) = some (.int .i64 (l.getD i 0)) := by simp [hi]
    rw [← h4, List.getElem?_take] at e
    split at e
    · simpa using e
    · cases e
theorem Que.push {w : World} {v : Value} {l : List Int} (h : Que w v l) (ty : TypeId) (b0 o0 : Nat) (c : Nat) (x : Int) (hx : w.cell? ⟨b0, o0, none⟩ = some (.int .i64 x)) (hl : l.length ≤ 1000000) :
    ∃ v' w', (Builtin.append_ #[29, 29] ty #[v, .slice (some ⟨b0, o0, none⟩) 1 c]).run Try.prog w = .ok v' w' ∧ Que w' v' (l ++ [x]) ∧ w.grownBy w' v.ownBlock ∧ (∀ i, v'.ownBlock = some i → v.ownBlock = some i ∨ w.heap.size ≤ i) := by
  obtain ⟨i, hi, hz0, hz1, hz2⟩ := info_parts eInt.info
  have hnews : ∀ j u, [Value.int .i64 x][j]? = some u → w.cell? ((⟨b0, o0, none⟩ : Addr).add j) = some u := fun j u hj => by
    rcases j with _ | j
    · simp at hj
      subst hj
      rw [add_at]; exact hx
    · simp at hj
  have hrd : RdL .i64 w (some ⟨b0, o0, none⟩) [x] := .inr ⟨b0, o0, rfl, fun i hi => by
    have : i = 0 := by simpa using hi
    subst this; exact hx⟩
  rcases h with ⟨rfl, rfl⟩ | ⟨g, off, cap, cur, rfl, hg, h1, h2, h3, h4⟩
  · obtain ⟨v', w', hrun, r1, _, r2, r3⟩ := run_pushA (w := w) eInt ty w.heap.size (.slice none 0 0) [] (World.ownsRow_nil _ _ _ _) ⟨b0, o0, none⟩ c [x] (hrd) (by simp) (Nat.le_refl _)
    exact ⟨v', w', hrun, Que.of r1, r2, fun k hk => (r3 k hk).imp id (fun e => by omega)⟩
  · by_cases hroom : l.length + 1 ≤ cap
    · have hsz : off + l.length < cur.size := by omega
      have hrun := run_append_room_cells (P := Try.prog) (w := w) 29 ty 3 i eInt.und hi g off l.length cap ⟨b0, o0, none⟩ 1 c [.int .i64 x] (by rw [hz1]; rfl) hnews (by simp [Value.oneCell']) hroom
        (fun j hj => by
          have : j = 0 := by simpa using hj
          subst this
          rw [hz1, show off + l.length * 1 + 0 = off + l.length by omega, Que.cell hg]
          simp [hsz]) (fun j hj => by simp [World.frozen?, hg])
      rw [hz1, show off + l.length * 1 = off + l.length by omega] at hrun
      refine ⟨_, _, hrun, .inr ⟨g, off, cap, cur.setIfInBounds (off + l.length) (.int .i64 x), by simp, ?_, by simp; omega, h2, by simp; omega, fun j hj => ?_⟩, ⟨rfl, rfl, rfl, by simp [World.setCells, World.setCell], fun k hk hne => ?_⟩, fun k hk => .inl hk⟩
      · simp [World.setCells, World.setCell, Array.getElem?_modify, hg]
      · by_cases c1 : j = l.length
        · subst c1
          simp [hsz]
        · have hj2 : j < l.length := by simp at hj; omega
          rw [Array.getElem?_setIfInBounds_ne (by omega), h4 j hj2]
          simp [List.getElem?_append, hj2]
      · exact Below.heap_setCell w _ _ k (fun e => hne (by rw [e]; rfl))
    · obtain ⟨v', w', hrun, r1, r2⟩ := run_append_arg_grows (P := Try.prog) (w := w) 29 ty 3 i (.int .i64 0) 1 8 eInt.und hi hz0 hz1 hz2 rfl (by decide) ⟨g, off, none⟩ l.length cap (l.map (Value.int .i64)) (by simp) (fun j u hj => by
          have hjm : j < l.length := by
            have := (List.getElem?_eq_some_iff.1 hj).1
            rwa [List.length_map] at this
          rw [map_getD hjm] at hj
          rw [← hj, add_at, Que.cell hg]; exact h4 j hjm) ⟨b0, o0, none⟩ 1 c [.int .i64 x] rfl hnews (by omega) (by unfold maxLen; omega) (by omega)
      refine ⟨v', w', hrun, Que.of (B := w.heap.size) ?_, ⟨r2.os, r2.tape, r2.output, r2.size, fun k hk _ => r2.block k hk (by simp)⟩, fun k hk => .inr ?_⟩
      · unfold OwnL; rw [List.length_append, List.map_append]; exact r1
      · exact (World.ownsRow.lt r1 k hk).1
section
variable {w : World} {ops : Array Oper} {rest : List Oper} {o : Oper} {a : Act} {Q : Exit → Act → World → Prop}
theorem wplQ_push (hgd : o.guard = none) (s z : Operand) (ho : o.op = .call { callee := .builtin .append, args := #[s, z], argTypes := #[29, 29] })
    (v : Value) (l : List Int) (hs : a.eval s = v) (h : Que w v l) (b0 o0 : Nat) (c : Nat) (x : Int) (hz : a.eval z = .slice (some ⟨b0, o0, none⟩) 1 c) (hx : w.cell? ⟨b0, o0, none⟩ = some (.int .i64 x)) (hl : l.length ≤ 1000000)
    (k : ∀ v' w', Que w' v' (l ++ [x]) → w.grownBy w' v.ownBlock → (∀ i, v'.ownBlock = some i → v.ownBlock = some i ∨ w.heap.size ≤ i) → wpList Try.prog ops Q rest (a.put o.dst v') w') :
    wpList Try.prog ops Q (o :: rest) a w := by
  refine wpList_plain hgd fun K hK => ?_
  obtain ⟨v', w', hrun, r1, r2, r3⟩ := h.push o.type b0 o0 c x hx hl
  unfold Oper.wp
  simp [execOp, ho, resolve, invoke, builtin, hs, hz, hrun, Result.andThen]
  exact hK _ _ (k v' w' r1 r2 r3)
end
end Go.Proofs.Ytnakadlhafggkaa
