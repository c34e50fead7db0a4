/-
  append to a slice of the call's own, with where the new row lies: in a walk, and as one step of a statement whose order is open.
-/
import Derived.Test.YtdlcbjbcehpooaaSeqMore
import Derived.Deep.RegionLaw
import Derived.Maps.AppendAt
namespace Go.Proofs.Ytdlcbjbcehpooaa
open Go.RowKit

theorem run_pushA {q : IntKind} {t st : TypeId} {k : Nat} {w : World} (E : Elt q t st k) (ty : TypeId) (B : Nat) (v : Value) (l : List Int) (hown : OwnL q t w B v l)
    (ad : Addr) (c : Nat) (m : List Int) (hrd : RdL q w (some ad) m) (hbytes : (l.length + m.length) * k ≤ 140737488355328) (hbase : B ≤ w.heap.size) :
    ∃ v' w', (Builtin.append_ #[st, st] ty #[v, .slice (some ad) m.length c]).run Try.prog w = .ok v' w' ∧ OwnL q t w' B v' (l ++ m) ∧ Below B w w' ∧ w.grownBy w' v.ownBlock ∧ (∀ i, v'.ownBlock = some i → v.ownBlock = some i ∨ i = w.heap.size) := by
  obtain ⟨i, hi, hz0, hz1, hz2⟩ := info_parts E.info
  have hk := E.pos
  have hlen : l.length + m.length ≤ maxLen := by
    have : (l.length + m.length) * 1 ≤ (l.length + m.length) * k := Nat.mul_le_mul_left _ hk
    unfold maxLen; omega
  have hlt := World.ownsRow.lt hown
  obtain ⟨v', w', hrun, r1, r2, _, r4⟩ := run_append_own_at (P := Try.prog) w B st ty t i (.int q 0) 1 k E.und hi hz0 hz1 hz2 rfl (by decide) v l.length (l.map (Value.int q)) hown ad m.length c (m.map (Value.int q)) (by simp) (fun j u hj => by
      have hjm : j < m.length := by
        have := (List.getElem?_eq_some_iff.1 hj).1
        rwa [List.length_map] at this
      rw [map_getD hjm] at hj
      obtain ⟨b, off, e, hc⟩ := hrd.at hjm
      cases e
      rw [← hj]
      rw [add_at]; exact hc j hjm) (fun u hu => by
      simp at hu
      obtain ⟨z, _, rfl⟩ := hu
      rfl) hlen hbytes hbase
  refine ⟨v', w', hrun, ?_, (Below.refl B w).grown r2 hbase fun k hk => (hlt k hk).1, r2, fun i hi => ?_⟩
  · unfold OwnL; rw [List.length_append, List.map_append]; exact r1
  · rcases r4 with r4 | r4
    · exact .inl (r4 ▸ hi)
    · rw [r4] at hi; cases hi; exact .inr rfl

theorem step_pushA {q : IntKind} {t st : TypeId} {k : Nat} {ops : Array Oper} {o : Oper} {a : Act} {w : World} {K : Act → World → Prop} {Q : Exit → Act → World → Prop} {F : Prop} (E : Elt q t st k)
    (hg : o.guard = none) (s x : Operand) (ho : o.op = .call { callee := .builtin .append, args := #[s, x], argTypes := #[st, st] })
    (B : Nat) (v : Value) (l : List Int) (hs : a.eval s = v) (hown : OwnL q t w B v l)
    (ad : Addr) (c : Nat) (m : List Int) (hx : a.eval x = .slice (some ad) m.length c) (hrd : RdL q w (some ad) m)
    (hbytes : (l.length + m.length) * k ≤ 140737488355328) (hbase : B ≤ w.heap.size)
    (h : ∀ v' w', OwnL q t w' B v' (l ++ m) → Below B w w' → w.grownBy w' v.ownBlock → (∀ i, v'.ownBlock = some i → v.ownBlock = some i ∨ i = w.heap.size) → K (a.put o.dst v') w') :
    if Region.wanted o (yielded ops a.tmps) = true then Oper.wp Try.prog o a w K Q else F := by
  have hw : Region.wanted o (yielded ops a.tmps) = true := by simp [Region.wanted, hg]
  rw [if_pos hw]
  obtain ⟨v', w', hrun, r1, r2, r3, r4⟩ := run_pushA (w := w) E o.type B v l hown ad c m hrd hbytes hbase
  unfold Oper.wp
  simp [execOp, ho, resolve, invoke, builtin, hs, hx, hrun, Result.andThen]
  exact h v' w' r1 r2 r3 r4

section
variable {w : World} {ops : Array Oper} {rest : List Oper} {o : Oper} {a : Act} {Q : Exit → Act → World → Prop}
theorem wpl_pushA {q : IntKind} {t st : TypeId} {k : Nat} (E : Elt q t st k) (hgd : o.guard = none) (s x : Operand) (ho : o.op = .call { callee := .builtin .append, args := #[s, x], argTypes := #[st, st] })
    (B : Nat) (v : Value) (l : List Int) (hs : a.eval s = v) (hown : OwnL q t w B v l)
    (ad : Addr) (c : Nat) (m : List Int) (hx : a.eval x = .slice (some ad) m.length c) (hrd : RdL q w (some ad) m)
    (hbytes : (l.length + m.length) * k ≤ 140737488355328) (hbase : B ≤ w.heap.size)
    (h : ∀ v' w', OwnL q t w' B v' (l ++ m) → Below B w w' → w.grownBy w' v.ownBlock → (∀ i, v'.ownBlock = some i → v.ownBlock = some i ∨ i = w.heap.size) → wpList Try.prog ops Q rest (a.put o.dst v') w') :
    wpList Try.prog ops Q (o :: rest) a w := by
  refine wpList_plain hgd fun K hK => ?_
  obtain ⟨v', w', hrun, r1, r2, r3, r4⟩ := run_pushA (w := w) E o.type B v l hown ad c m hrd hbytes hbase
  unfold Oper.wp
  simp [execOp, ho, resolve, invoke, builtin, hs, hx, hrun, Result.andThen]
  exact hK _ _ (h v' w' r1 r2 r3 r4)
end
end Go.Proofs.Ytdlcbjbcehpooaa
