/-
  append to a slice of structs of the call's own: where it lies, and that the row behind an older slice stays; as one step of a statement whose order is open.
-/
import Derived.Test.YtemalidanjfmkaaK19
import Derived.Test.YtemalidanjfmkaaK1
namespace Go.Proofs.Ytemalidanjfmkaa
open Go.RowKit

section
variable {α : Type} {e : TypeId} {k : Nat} {enc : α → List Value} {w : World}
set_option maxRecDepth 100000 in
theorem run_pushG {st : TypeId} {z : Value} {b : Nat} (E : EltG e st z k b enc) (ty : TypeId) (B : Nat) (v : Value) (L : List α) (hown : OwnG e k enc w B v L)
    (g c : Nat) (x : α) (hc : ∀ j u, (enc x)[j]? = some u → w.cell? ⟨g, j, none⟩ = some u)
    (hn : (L.length + 1) * b ≤ 140737488355328) (h63 : L.length + 1 ≤ maxLen) (hbase : B ≤ w.heap.size) :
    ∃ v' w', (Builtin.append_ #[st, st] ty #[v, .slice (some ⟨g, 0, none⟩) 1 c]).run Try.prog w = .ok v' w' ∧ OwnG e k enc w' B v' (L ++ [x]) ∧ w.grownBy w' v.ownBlock ∧ (v'.ownBlock = v.ownBlock ∨ (v'.ownBlock = some w.heap.size ∧ w.grownBy w' none)) := by
  obtain ⟨i, hi, hz0, hz1, hz2⟩ := info_parts E.info
  have hcs : ∀ j u, (enc x)[j]? = some u → w.cell? ((⟨g, 0, none⟩ : Addr).add j) = some u := fun j u hj => by rw [add_at, Nat.zero_add]; exact hc j u hj
  have hl : (enc x).length = 1 * k := by rw [E.len, Nat.one_mul]
  obtain ⟨v', w', hr, r1, r2, _, r4⟩ := run_append_own_at (P := Try.prog) w B st ty e i z k b E.und hi hz0 hz1 hz2 E.zs E.pos v L.length (L.flatMap enc) hown ⟨g, 0, none⟩ 1 c (enc x) hl hcs (E.one x) h63 hn hbase
  have h7 : ((L.length + 1 : Nat) : Int) ≤ 9223372036854775807 := by unfold maxLen at h63; omega
  refine ⟨v', w', hr, ?_, r2, ?_⟩
  · unfold OwnG
    rw [List.length_append, List.length_singleton, List.flatMap_append, List.flatMap_singleton]; exact r1
  · rcases hown.2 with ⟨hv, h0⟩ | ⟨g', cap, cur, hv, hbg, hg, hnc, hcm, hcz, htake⟩
    · subst hv
      have hr2 := run_append_nil (P := Try.prog) w st ty e i z E.und hi hz0 ⟨g, 0, none⟩ 1 c (enc x) (by rw [hz1]; exact hl) hcs (by omega) (by omega) (by rw [hz2]; rw [h0] at hn; omega)
      have hq := hr.symm.trans hr2
      injection hq with e1 e2
      right
      rw [e1, e2]
      exact ⟨rfl, rfl, rfl, rfl, by simp, fun j hj _ => Below.heap_alloc w.drew _ j hj⟩
    · subst hv
      by_cases hroom : L.length + 1 ≤ cap
      · left
        have hfit : L.length * i.size + (enc x).length ≤ cur.size := by
          rw [E.len, hz1, hcz]
          have h9 := Nat.mul_le_mul_right k hroom
          rw [Nat.add_mul, Nat.one_mul] at h9
          exact h9
        have hr2 := run_append_room (P := Try.prog) w st ty e i E.und hi g' L.length cap cur hg ⟨g, 0, none⟩ 1 c (enc x) (by rw [hz1]; exact hl) hcs (E.one x) hroom hfit
        have hq := hr.symm.trans hr2
        injection hq with e1 e2
        rw [e1]; rfl
      · right
        have holds : ∀ j u, (L.flatMap enc)[j]? = some u → w.cell? ((⟨g', 0, none⟩ : Addr).add j) = some u := World.ownsRow.cells hown (g := g') rfl
        have hr2 := run_append_grow (P := Try.prog) w st ty e i z E.und hi hz0 ⟨g', 0, none⟩ L.length cap (L.flatMap enc) (by rw [hz1]; exact hown.1) holds ⟨g, 0, none⟩ 1 c (enc x) (by rw [hz1]; exact hl) hcs (by omega) h7 (by rw [hz2]; exact growslice_fits (by omega) hn)
        have hq := hr.symm.trans hr2
        injection hq with e1 e2
        rw [e1, e2]
        exact ⟨rfl, rfl, rfl, rfl, by simp, fun j hj _ => Below.heap_alloc w.drew _ j hj⟩
theorem step_pushG {st : TypeId} {z : Value} {b : Nat} {ops : Array Oper} {o : Oper} {a : Act} {K : Act → World → Prop} {Q : Exit → Act → World → Prop} {F : Prop} (E : EltG e st z k b enc)
    (hg : o.guard = none) (s y : Operand) (ho : o.op = .call { callee := .builtin .append, args := #[s, y], argTypes := #[st, st] })
    (B : Nat) (v : Value) (L : List α) (hs : a.eval s = v) (hown : OwnG e k enc w B v L)
    (g c : Nat) (x : α) (hx : a.eval y = .slice (some ⟨g, 0, none⟩) 1 c) (hc : ∀ j u, (enc x)[j]? = some u → w.cell? ⟨g, j, none⟩ = some u)
    (hn : (L.length + 1) * b ≤ 140737488355328) (h63 : L.length + 1 ≤ maxLen) (hbase : B ≤ w.heap.size)
    (h : ∀ v' w', OwnG e k enc w' B v' (L ++ [x]) → w.grownBy w' v.ownBlock → (v'.ownBlock = v.ownBlock ∨ (v'.ownBlock = some w.heap.size ∧ w.grownBy w' none)) → K (a.put o.dst v') w') :
    if Region.wanted o (yielded ops a.tmps) = true then Oper.wp Try.prog o a w K Q else F := by
  have hw : Region.wanted o (yielded ops a.tmps) = true := by simp [Region.wanted, hg]
  rw [if_pos hw]
  obtain ⟨v', w', hrun, r1, r2, r3⟩ := run_pushG (w := w) E o.type B v L hown g c x hc hn h63 hbase
  unfold Oper.wp
  simp [execOp, ho, resolve, invoke, builtin, hs, hx, hrun, Result.andThen]
  exact h v' w' r1 r2 r3
end
end Go.Proofs.Ytemalidanjfmkaa
