/-
  append of a string to bytes to which one may append: owned, or full.
-/
import Derived.Test.YtbhdcgebcmgidaaDoorTFul
namespace Go.Proofs.YtbhdcgebcmgidaaDoor
open Go.RowKit

theorem run_pushFS {w : World} (ty : TypeId) (B g : Nat) (l : List UInt8) (hrd : RdL .u8 w (some ⟨g, 0, none⟩) (zs l)) (s : ByteArray) (hm : 0 < s.size)
    (hbytes : l.length + s.size ≤ 140737488355328) (hbase : B ≤ w.heap.size) :
    ∃ v' w', (Builtin.append_ #[29, 9] ty #[.slice (some ⟨g, 0, none⟩) l.length l.length, .string s]).run Tryd.prog w = .ok v' w' ∧ OwnL .u8 5 w' B v' (zs (l ++ s.data.toList)) ∧ Below w.heap.size w w' ∧ v'.ownBlock = some w.heap.size := by
  obtain ⟨i, hi, hz0, hz1, hz2⟩ := info_parts e8.info
  have h63 : l.length + s.size ≤ maxLen := by unfold maxLen; omega
  have hl1 : ((zs l).map (Value.int .u8)).length = l.length := by rw [List.length_map, zs_len]
  have hsl : s.data.toList.length = s.size := by rw [Array.length_toList]; rfl
  have hm1 : ((zs s.data.toList).map (Value.int .u8)).length = s.size := by rw [List.length_map, zs_len, hsl]
  have hr := Lib.run_append_grow_string (P := Tryd.prog) w 29 9 ty 5 i (.int .u8 0) e8.und Tryd.underlying9 hi hz0 ⟨g, 0, none⟩ l.length l.length ((zs l).map (Value.int .u8)) (by rw [hz1]; simpa using hl1) (zs_cell hrd) s (by omega) (by omega) (by rw [hz2]; exact growslice_fits (by omega) (by omega))
  refine ⟨_, _, hr, ?_, ⟨rfl, rfl, rfl, by simp, fun j hj => Below.heap_alloc w.drew _ j hj⟩, rfl⟩
  have hge := grownCap_ge w (l.length + s.size) l.length 5
  have hcm := grownCap_le_maxLen w (l.length + s.size) l.length 5 h63
  unfold OwnL
  rw [zs_len, List.length_append, zs_app, List.map_append, hsl]
  refine ⟨by rw [List.length_append, hl1, hm1, Nat.mul_one], .inr ⟨w.heap.size, _, _, rfl, hbase, heap_alloc_new w.drew _, hge, hcm, ?_, ?_⟩⟩
  · have hz1 : (Value.int IntKind.u8 0).cells.size = 1 := rfl
    have hsc : (Lib.strCells s).length = s.size := Lib.strCells_length s
    simp only [Array.size_append, List.size_toArray, size_zeroCells, hz1, hl1, hsc]
    omega
  · simp only [Array.toList_append, List.append_assoc]
    rw [← List.append_assoc, str_cells]
    have : (l.length + s.size) * 1 = ((zs l).map (Value.int .u8) ++ (zs s.data.toList).map (Value.int .u8)).length := by rw [List.length_append, hl1, hm1, Nat.mul_one]
    rw [this]
    exact List.take_left
theorem Apd.gr {w : World} {B : Nat} {v : Value} {l : List UInt8} (h : Apd w B v l) : ∀ i, v.ownBlock = some i → B ≤ i ∧ i < w.heap.size := fun i hi => by
  rcases h with h | ⟨g, rfl, -, h1, h2⟩
  · exact h.lt hi
  · cases hi; exact ⟨h1, h2⟩
theorem run_pushXS {w : World} (ty : TypeId) (B : Nat) (v : Value) (l : List UInt8) (h : Apd w B v l) (s : ByteArray) (hm : 0 < s.size)
    (hbytes : l.length + s.size ≤ 140737488355328) (hbase : B ≤ w.heap.size) :
    ∃ v' w', (Builtin.append_ #[29, 9] ty #[v, .string s]).run Tryd.prog w = .ok v' w' ∧ OwnL .u8 5 w' B v' (zs (l ++ s.data.toList)) ∧ w.grownBy w' v.ownBlock ∧ (∀ i, v'.ownBlock = some i → v.ownBlock = some i ∨ i = w.heap.size) := by
  rcases h with h | ⟨g, rfl, hr, h1, h2⟩
  · obtain ⟨v', w', hrun, r1, -, r3, r4⟩ := run_pushS (w := w) ty B v l h s hbytes hbase
    exact ⟨v', w', hrun, r1, r3, r4⟩
  · obtain ⟨v', w', hrun, r1, r2, r3⟩ := run_pushFS (w := w) ty B g l hr s hm hbytes hbase
    exact ⟨v', w', hrun, r1, ⟨r2.os, r2.tape, r2.output, r2.size, fun i hi _ => r2.block i hi⟩, fun i hi => .inr (by rw [r3] at hi; cases hi; rfl)⟩
theorem step_pushXS {ops : Array Oper} {o : Oper} {a : Act} {w : World} {K : Act → World → Prop} {Q : Exit → Act → World → Prop} {F : Prop}
    (hg : o.guard = none) (x y : Operand) (ho : o.op = .call { callee := .builtin .append, args := #[x, y], argTypes := #[29, 9] })
    (B : Nat) (v : Value) (l : List UInt8) (hs : a.eval x = v) (hap : Apd w B v l) (s : ByteArray) (hx : a.eval y = .string s) (hm : 0 < s.size)
    (hbytes : l.length + s.size ≤ 140737488355328) (hbase : B ≤ w.heap.size)
    (h : ∀ v' w', OwnL .u8 5 w' B v' (zs (l ++ s.data.toList)) → w.grownBy w' v.ownBlock → (∀ i, v'.ownBlock = some i → v.ownBlock = some i ∨ i = w.heap.size) → K (a.put o.dst v') w') :
    if Region.wanted o (yielded ops a.tmps) = true then Oper.wp Tryd.prog o a w K Q else F := by
  have hw : Region.wanted o (yielded ops a.tmps) = true := by simp [Region.wanted, hg]
  rw [if_pos hw]
  obtain ⟨v', w', hrun, r1, r2, r3⟩ := run_pushXS (w := w) o.type B v l hap s hm hbytes hbase
  unfold Oper.wp
  simp [execOp, ho, resolve, invoke, builtin, hs, hx, hrun, Result.andThen]
  exact h v' w' r1 r2 r3

section
variable {w : World} {ops : Array Oper} {rest : List Oper} {o : Oper} {a : Act} {Q : Exit → Act → World → Prop}
theorem wpl_pushXS (hgd : o.guard = none) (x y : Operand) (ho : o.op = .call { callee := .builtin .append, args := #[x, y], argTypes := #[29, 9] })
    (B : Nat) (v : Value) (l : List UInt8) (hs : a.eval x = v) (hap : Apd w B v l) (s : ByteArray) (hx : a.eval y = .string s) (hm : 0 < s.size)
    (hbytes : l.length + s.size ≤ 140737488355328) (hbase : B ≤ w.heap.size)
    (h : ∀ v' w', OwnL .u8 5 w' B v' (zs (l ++ s.data.toList)) → w.grownBy w' v.ownBlock → wpList Tryd.prog ops Q rest (a.put o.dst v') w') :
    wpList Tryd.prog ops Q (o :: rest) a w := by
  refine wpList_plain hgd fun K hK => ?_
  obtain ⟨v', w', hrun, r1, r2, _⟩ := run_pushXS (w := w) o.type B v l hap s hm hbytes hbase
  unfold Oper.wp
  simp [execOp, ho, resolve, invoke, builtin, hs, hx, hrun, Result.andThen]
  exact hK _ _ (h v' w' r1 r2)
end

end Go.Proofs.YtbhdcgebcmgidaaDoor
