/-
  append to a slice of the call's own, as one step of a statement whose order is open.
-/
import Derived.Test.YtdlcbjbcehpooaaSeq
import Derived.Deep.RegionLaw
namespace Go.Proofs.Ytdlcbjbcehpooaa
open Go.RowKit

theorem step_pushL {q : IntKind} {t st : TypeId} {k : Nat} {ops : Array Oper} {o : Oper} {a : Act} {w : World} {K : Act → World → Prop} {Q : Exit → Act → World → Prop} {F : Prop} (E : Elt q t st k)
    (hg : o.guard = none) (s x : Operand) (ho : o.op = .call { callee := .builtin .append, args := #[s, x], argTypes := #[st, st] })
    (B : Nat) (v : Value) (l : List Int) (hs : a.eval s = v) (hown : OwnL q t w B v l)
    (ad : Addr) (c : Nat) (m : List Int) (hx : a.eval x = .slice (some ad) m.length c) (hrd : RdL q w (some ad) m)
    (hbytes : (l.length + m.length) * k ≤ 140737488355328) (hbase : B ≤ w.heap.size)
    (h : ∀ v' w', OwnL q t w' B v' (l ++ m) → Below B w w' → K (a.put o.dst v') w') :
    if Region.wanted o (yielded ops a.tmps) = true then Oper.wp Try.prog o a w K Q else F := by
  have hw : Region.wanted o (yielded ops a.tmps) = true := by simp [Region.wanted, hg]
  rw [if_pos hw]
  obtain ⟨i, hi, hz0, hz1, hz2⟩ := info_parts E.info
  have hk := E.pos
  have hlen : l.length + m.length ≤ maxLen := by
    have : (l.length + m.length) * 1 ≤ (l.length + m.length) * k := Nat.mul_le_mul_left _ hk
    unfold maxLen; omega
  have hlt := World.ownsRow.lt hown
  obtain ⟨v', w', hrun, r1, r2, _⟩ := run_append_own (P := Try.prog) w B st o.type t i (.int q 0) 1 k E.und hi hz0 hz1 hz2 rfl (by decide) v l.length (l.map (Value.int q)) hown ad m.length c (m.map (Value.int q)) (by simp) (fun j u hj => by
      have hjm : j < m.length := by
        have := (List.getElem?_eq_some_iff.1 hj).1
        rwa [List.length_map] at this
      rw [map_getD hjm] at hj
      obtain ⟨b, off, e, hc⟩ := hrd.at hjm
      cases e
      rw [← hj]
      rw [add_at]; exact hc j hjm) (fun u hu => by
      simp at hu
      obtain ⟨z, _, rfl⟩ := hu
      rfl) hlen hbytes hbase
  unfold Oper.wp
  simp [execOp, ho, resolve, invoke, builtin, hs, hx, hrun, Result.andThen]
  refine h v' w' ?_ ((Below.refl B w).grown r2 hbase fun k hk => (hlt k hk).1)
  unfold OwnL; rw [List.length_append, List.map_append]; exact r1

end Go.Proofs.Ytdlcbjbcehpooaa
