/-
  append to a row that is full and only read: the new row is the call's own. Bytes of which one may append: owned, or full.
-/
import Derived.Test.YtbhdcgebcmgidaaDoorTStr
import Derived.Lib.SlBytesConst
namespace Go.Proofs.YtbhdcgebcmgidaaDoor
open Go.RowKit

theorem zs_cell {w : World} {ad : Addr} {m : List UInt8} (hrd : RdL .u8 w (some ad) (zs m)) : ∀ j u, ((zs m).map (Value.int .u8))[j]? = some u → w.cell? (ad.add j) = some u := fun j u hj => by
  have hjm : j < (zs m).length := by
    have := (List.getElem?_eq_some_iff.1 hj).1
    rwa [List.length_map] at this
  rw [map_getD hjm] at hj
  obtain ⟨b, off, e, hc⟩ := hrd.at hjm
  cases e
  rw [← hj, add_at]; exact hc j hjm

theorem run_pushF {w : World} (ty : TypeId) (B g : Nat) (l : List UInt8) (hrd : RdL .u8 w (some ⟨g, 0, none⟩) (zs l)) (ad : Addr) (c : Nat) (m : List UInt8) (hrm : RdL .u8 w (some ad) (zs m)) (hm : 0 < m.length)
    (hbytes : l.length + m.length ≤ 140737488355328) (hbase : B ≤ w.heap.size) :
    ∃ v' w', (Builtin.append_ #[29, 29] ty #[.slice (some ⟨g, 0, none⟩) l.length l.length, .slice (some ad) m.length c]).run Tryd.prog w = .ok v' w' ∧ OwnL .u8 5 w' B v' (zs (l ++ m)) ∧ Below w.heap.size w w' := by
  obtain ⟨i, hi, hz0, hz1, hz2⟩ := info_parts e8.info
  have h63 : l.length + m.length ≤ maxLen := by unfold maxLen; omega
  have h7 : ((l.length + m.length : Nat) : Int) ≤ 9223372036854775807 := by omega
  have hl1 : ((zs l).map (Value.int .u8)).length = l.length := by rw [List.length_map, zs_len]
  have hm1 : ((zs m).map (Value.int .u8)).length = m.length := by rw [List.length_map, zs_len]
  have hr := run_append_grow (P := Tryd.prog) w 29 ty 5 i (.int .u8 0) e8.und hi hz0 ⟨g, 0, none⟩ l.length l.length ((zs l).map (Value.int .u8)) (by rw [hz1]; simpa using hl1) (zs_cell hrd) ad m.length c ((zs m).map (Value.int .u8)) (by rw [hz1]; simpa using hm1) (zs_cell hrm) (by omega) h7 (by rw [hz2]; exact growslice_fits (by omega) (by omega))
  refine ⟨_, _, hr, ?_, ⟨rfl, rfl, rfl, by simp, fun j hj => Below.heap_alloc w.drew _ j hj⟩⟩
  have hge := grownCap_ge w (l.length + m.length) l.length 5
  have hcm := grownCap_le_maxLen w (l.length + m.length) l.length 5 h63
  unfold OwnL
  rw [zs_len, List.length_append, zs_app, List.map_append]
  refine ⟨by rw [List.length_append, hl1, hm1, Nat.mul_one], .inr ⟨w.heap.size, _, _, rfl, hbase, heap_alloc_new w.drew _, hge, hcm, ?_, ?_⟩⟩
  · have hz1 : (Value.int IntKind.u8 0).cells.size = 1 := rfl
    simp only [Array.size_append, List.size_toArray, size_zeroCells, hz1, hl1, hm1]
    omega
  · simp only [Array.toList_append, List.append_assoc]
    rw [← List.append_assoc]
    have : (l.length + m.length) * 1 = ((zs l).map (Value.int .u8) ++ (zs m).map (Value.int .u8)).length := by rw [List.length_append, hl1, hm1, Nat.mul_one]
    rw [this]
    exact List.take_left

/-- Bytes to which one may append: the call's own, or a full row. -/
def Apd (w : World) (B : Nat) (v : Value) (l : List UInt8) : Prop :=
  OwnL .u8 5 w B v (zs l) ∨ ∃ g, v = .slice (some ⟨g, 0, none⟩) l.length l.length ∧ RdL .u8 w (some ⟨g, 0, none⟩) (zs l) ∧ B ≤ g ∧ g < w.heap.size
theorem Apd.grown {w w' : World} {B : Nat} {v : Value} {l : List UInt8} (h : Apd w B v l) (hb : Below w.heap.size w w') : Apd w' B v l := by
  rcases h with h | ⟨g, e, hr, h1, h2⟩
  · exact .inl (h.grown hb)
  · exact .inr ⟨g, e, hr.below hb, h1, Nat.lt_of_lt_of_le h2 hb.size⟩
theorem Apd.alloc {w : World} {B : Nat} {v : Value} {l : List UInt8} (h : Apd w B v l) (o : Obj) : Apd (w.alloc o) B v l := h.grown ((Below.refl _ _).alloc (Nat.le_refl _) _)
theorem run_pushX {w : World} (ty : TypeId) (B : Nat) (v : Value) (l : List UInt8) (h : Apd w B v l) (ad : Addr) (c : Nat) (m : List UInt8) (hrm : RdL .u8 w (some ad) (zs m)) (hm : 0 < m.length)
    (hbytes : l.length + m.length ≤ 140737488355328) (hbase : B ≤ w.heap.size) :
    ∃ v' w', (Builtin.append_ #[29, 29] ty #[v, .slice (some ad) m.length c]).run Tryd.prog w = .ok v' w' ∧ OwnL .u8 5 w' B v' (zs (l ++ m)) ∧ Below B w w' := by
  rcases h with h | ⟨g, rfl, hr, h1, h2⟩
  · have hx := run_pushA (w := w) e8 ty B v (zs l) h ad c (zs m) hrm (by rw [zs_len, zs_len]; omega) hbase
    rw [zs_len, ← zs_app] at hx
    obtain ⟨v', w', hrun, r1, r2, _, _⟩ := hx
    exact ⟨v', w', hrun, r1, r2⟩
  · obtain ⟨v', w', hrun, r1, r2⟩ := run_pushF (w := w) ty B g l hr ad c m hrm hm hbytes hbase
    exact ⟨v', w', hrun, r1, r2.mono hbase⟩
theorem step_pushX {ops : Array Oper} {o : Oper} {a : Act} {w : World} {K : Act → World → Prop} {Q : Exit → Act → World → Prop} {F : Prop}
    (hg : o.guard = none) (s x : Operand) (ho : o.op = .call { callee := .builtin .append, args := #[s, x], argTypes := #[29, 29] })
    (B : Nat) (v : Value) (l : List UInt8) (hs : a.eval s = v) (hap : Apd w B v l) (ad : Addr) (c : Nat) (m : List UInt8) (hx : a.eval x = .slice (some ad) m.length c) (hrm : RdL .u8 w (some ad) (zs m)) (hm : 0 < m.length)
    (hbytes : l.length + m.length ≤ 140737488355328) (hbase : B ≤ w.heap.size)
    (h : ∀ v' w', OwnL .u8 5 w' B v' (zs (l ++ m)) → Below B w w' → K (a.put o.dst v') w') :
    if Region.wanted o (yielded ops a.tmps) = true then Oper.wp Tryd.prog o a w K Q else F := by
  have hw : Region.wanted o (yielded ops a.tmps) = true := by simp [Region.wanted, hg]
  rw [if_pos hw]
  obtain ⟨v', w', hrun, r1, r2⟩ := run_pushX (w := w) o.type B v l hap ad c m hrm hm hbytes hbase
  unfold Oper.wp
  simp [execOp, ho, resolve, invoke, builtin, hs, hx, hrun, Result.andThen]
  exact h v' w' r1 r2
section
variable {w : World} {ops : Array Oper} {rest : List Oper} {o : Oper} {a : Act} {Q : Exit → Act → World → Prop}
theorem wpl_pushX (hgd : o.guard = none) (s x : Operand) (ho : o.op = .call { callee := .builtin .append, args := #[s, x], argTypes := #[29, 29] })
    (B : Nat) (v : Value) (l : List UInt8) (hs : a.eval s = v) (hap : Apd w B v l) (ad : Addr) (c : Nat) (m : List UInt8) (hx : a.eval x = .slice (some ad) m.length c) (hrm : RdL .u8 w (some ad) (zs m)) (hm : 0 < m.length)
    (hbytes : l.length + m.length ≤ 140737488355328) (hbase : B ≤ w.heap.size)
    (h : ∀ v' w', OwnL .u8 5 w' B v' (zs (l ++ m)) → Below B w w' → wpList Tryd.prog ops Q rest (a.put o.dst v') w') :
    wpList Tryd.prog ops Q (o :: rest) a w := by
  refine wpList_plain hgd fun K hK => ?_
  obtain ⟨v', w', hrun, r1, r2⟩ := run_pushX (w := w) o.type B v l hap ad c m hrm hm hbytes hbase
  unfold Oper.wp
  simp [execOp, ho, resolve, invoke, builtin, hs, hx, hrun, Result.andThen]
  exact hK _ _ (h v' w' r1 r2)
end
/-- []byte of a constant. -/
theorem conv_const (w : World) (C : Array Value) (n c : Nat) : (convert 29 29 (.slice (some ⟨w.heap.size, 0, none⟩) n c)).run Tryd.prog (w.alloc (.cells C 5)) = .ok (.slice (some ⟨w.heap.size, 0, none⟩) n c) (w.alloc (.cells C 5 (C.size, C.size + 1))) := Lib.run_convert_bytes_const (P := Tryd.prog) w 29 5 C n c Tryd.underlying29 Tryd.underlying5
theorem RdL.const (w : World) (b : List UInt8) (C : Array Value) (fz : Nat × Nat) (hC : C.toList = (zs b).map (Value.int .u8)) : RdL .u8 (w.alloc (.cells C 5 fz)) (some ⟨w.heap.size, 0, none⟩) (zs b) := by
  by_cases h0 : (zs b).length = 0
  · exact .inl h0
  · refine .inr ⟨w.heap.size, 0, rfl, fun i hi => ?_⟩
    rw [Nat.zero_add]
    have e : C[i]? = some (.int .u8 ((zs b).getD i 0)) := by
      rw [← Array.getElem?_toList, hC, map_getD hi]
    rw [World.cell?_alloc_mark]
    simpa using e

end Go.Proofs.YtbhdcgebcmgidaaDoor
