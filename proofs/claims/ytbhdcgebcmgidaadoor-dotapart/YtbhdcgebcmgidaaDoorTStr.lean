/-
  append of a string's bytes to bytes of the call's own, with where the new row lies; what stays while a row grows.
-/
import Derived.Test.YtbhdcgebcmgidaaDoorK1
import Derived.Test.YtbhdcgebcmgidaaDoorTByt
import Derived.Test.YtbhdcgebcmgidaaDoorTGl
import Derived.Lib.AppendStr
namespace Go.Proofs.YtbhdcgebcmgidaaDoor
open Go.RowKit

theorem str_cells (s : ByteArray) : Lib.strCells s = (zs s.data.toList).map (Value.int .u8) := by
  unfold Lib.strCells zs; rw [List.map_map]; rfl

theorem run_pushS {w : World} (ty : TypeId) (B : Nat) (v : Value) (l : List UInt8) (hown : OwnL .u8 5 w B v (zs l)) (s : ByteArray) (hbytes : l.length + s.size ≤ 140737488355328) (hbase : B ≤ w.heap.size) :
    ∃ v' w', (Builtin.append_ #[29, 9] ty #[v, .string s]).run Tryd.prog w = .ok v' w' ∧ OwnL .u8 5 w' B v' (zs (l ++ s.data.toList)) ∧ Below B w w' ∧ w.grownBy w' v.ownBlock ∧ (∀ i, v'.ownBlock = some i → v.ownBlock = some i ∨ i = w.heap.size) := by
  obtain ⟨i, hi, hz0, hz1, hz2⟩ := info_parts e8.info
  have hlen : (zs l).length = l.length := zs_len l
  have hmx : l.length + s.size ≤ maxLen := by unfold maxLen; omega
  have hlt := World.ownsRow.lt hown
  have ho : w.ownsRow B 5 1 v l.length ((zs l).map (Value.int .u8)) := by rw [← hlen]; exact hown
  obtain ⟨v', w', hrun, r1, r2, _⟩ := Lib.run_append_own_string (P := Tryd.prog) w B 29 9 ty 5 i e8.und Tryd.underlying9 hi hz0 hz1 hz2 v l.length _ ho s hmx hbytes hbase
  refine ⟨v', w', hrun, ?_, (Below.refl B w).grown r2 hbase fun k hk => (hlt k hk).1, r2, fun j hj => ?_⟩
  · unfold OwnL
    rw [zs_len, List.length_append, zs_app, List.map_append, ← str_cells]
    have : s.data.toList.length = s.size := by rw [Array.length_toList]; rfl
    rw [this]; exact r1
  · rcases ho.2 with ⟨rfl, h0⟩ | ⟨g, cap, cur, rfl, hbg, hg, hnc, hcm, hcs, htake⟩
    · by_cases hm : s.size = 0
      · have hn : Lib.strCells s = [] := List.eq_nil_of_length_eq_zero (by rw [Lib.strCells_length]; exact hm)
        have hf := Lib.run_firstCells_string (P := Tryd.prog) w 1 s
        rw [hm] at hf
        have hr : (Builtin.append_ #[29, 9] ty #[.slice none 0 0, .string s]).run Tryd.prog w = .ok (.slice none 0 0) w := by
          simp [Builtin.append_, run_underlying e8.und, run_underlying Tryd.underlying9, sizeOf, typeInfo, hi, hz1, Builtin.lenOf, hm, hf]
        rw [hr] at hrun
        cases hrun
        cases hj
      · have hr := run_append_nil_string (P := Tryd.prog) w 29 9 ty 5 i (.int .u8 0) e8.und Tryd.underlying9 hi hz0 s (by omega) (by omega) (by rw [hz2]; omega)
        rw [hr] at hrun
        cases hrun
        cases hj
        exact .inr rfl
    · by_cases hroom : l.length + s.size ≤ cap
      · have hcs' : cur.size = cap := by simpa using hcs
        have hr := Lib.run_append_room_string (P := Tryd.prog) w 29 9 ty 5 i e8.und Tryd.underlying9 hi hz1 g l.length cap cur hg s hroom (by omega)
        rw [hr] at hrun
        cases hrun
        exact .inl hj
      · have hxl : ((zs l).map (Value.int .u8)).length = l.length := by rw [List.length_map, zs_len]
        have holds : ∀ j u, ((zs l).map (Value.int .u8))[j]? = some u → w.cell? ((⟨g, 0, none⟩ : Addr).add j) = some u := ho.cells (g := g) rfl
        have hr := Lib.run_append_grow_string (P := Tryd.prog) w 29 9 ty 5 i (.int .u8 0) e8.und Tryd.underlying9 hi hz0 ⟨g, 0, none⟩ l.length cap _ (by rw [hz1]; simpa using hxl) holds s (by omega) (by omega) (by rw [hz2]; exact growslice_fits (by omega) (by omega))
        rw [hr] at hrun
        cases hrun
        cases hj
        exact .inr rfl

section
variable {w : World} {ops : Array Oper} {rest : List Oper} {o : Oper} {a : Act} {Q : Exit → Act → World → Prop}
theorem wpl_pushS (hgd : o.guard = none) (x y : Operand) (ho : o.op = .call { callee := .builtin .append, args := #[x, y], argTypes := #[29, 9] })
    (B : Nat) (v : Value) (l : List UInt8) (hs : a.eval x = v) (hown : OwnL .u8 5 w B v (zs l)) (s : ByteArray) (hx : a.eval y = .string s)
    (hbytes : l.length + s.size ≤ 140737488355328) (hbase : B ≤ w.heap.size)
    (h : ∀ v' w', OwnL .u8 5 w' B v' (zs (l ++ s.data.toList)) → Below B w w' → w.grownBy w' v.ownBlock → (∀ i, v'.ownBlock = some i → v.ownBlock = some i ∨ i = w.heap.size) → wpList Tryd.prog ops Q rest (a.put o.dst v') w') :
    wpList Tryd.prog ops Q (o :: rest) a w := by
  refine wpList_plain hgd fun K hK => ?_
  obtain ⟨v', w', hrun, r1, r2, r3, r4⟩ := run_pushS (w := w) o.type B v l hown s hbytes hbase
  unfold Oper.wp
  simp [execOp, ho, resolve, invoke, builtin, hs, hx, hrun, Result.andThen]
  exact hK _ _ (h v' w' r1 r2 r3 r4)
/-- append(s, x...), s and x bytes of the call's own. -/
theorem wpl_pushB (hgd : o.guard = none) (x y : Operand) (ho : o.op = .call { callee := .builtin .append, args := #[x, y], argTypes := #[29, 29] })
    (B : Nat) (v : Value) (l : List UInt8) (hs : a.eval x = v) (hown : OwnL .u8 5 w B v (zs l)) (B' : Nat) (u : Value) (m : List UInt8) (hx : a.eval y = u) (hown' : OwnL .u8 5 w B' u (zs m))
    (hm : 0 < m.length) (hbytes : l.length + m.length ≤ 140737488355328) (hbase : B ≤ w.heap.size)
    (h : ∀ v' w', OwnL .u8 5 w' B v' (zs (l ++ m)) → Below B w w' → w.grownBy w' v.ownBlock → (∀ i, v'.ownBlock = some i → v.ownBlock = some i ∨ i = w.heap.size) → wpList Tryd.prog ops Q rest (a.put o.dst v') w') :
    wpList Tryd.prog ops Q (o :: rest) a w := by
  obtain ⟨ad, c, rfl, hnil, _, _, hrd, _⟩ := hown'.shape
  cases ad with
  | none => have := (hnil rfl).1; rw [zs_len] at this; omega
  | some ad =>
    refine wpl_pushA e8 hgd x y ho B v (zs l) hs hown ad c (zs m) hx hrd (by rw [zs_len, zs_len]; omega) hbase ?_
    rw [← zs_app]
    exact h
end

theorem step_pushB {ops : Array Oper} {o : Oper} {a : Act} {w : World} {K : Act → World → Prop} {Q : Exit → Act → World → Prop} {F : Prop}
    (hg : o.guard = none) (s x : Operand) (ho : o.op = .call { callee := .builtin .append, args := #[s, x], argTypes := #[29, 29] })
    (B : Nat) (v : Value) (l : List UInt8) (hs : a.eval s = v) (hown : OwnL .u8 5 w B v (zs l)) (B' : Nat) (u : Value) (m : List UInt8) (hx : a.eval x = u) (hown' : OwnL .u8 5 w B' u (zs m))
    (hm : 0 < m.length) (hbytes : l.length + m.length ≤ 140737488355328) (hbase : B ≤ w.heap.size)
    (h : ∀ v' w', OwnL .u8 5 w' B v' (zs (l ++ m)) → Below B w w' → w.grownBy w' v.ownBlock → (∀ i, v'.ownBlock = some i → v.ownBlock = some i ∨ i = w.heap.size) → K (a.put o.dst v') w') :
    if Region.wanted o (yielded ops a.tmps) = true then Oper.wp Tryd.prog o a w K Q else F := by
  obtain ⟨ad, c, rfl, hnil, _, _, hrd, _⟩ := hown'.shape
  cases ad with
  | none => have := (hnil rfl).1; rw [zs_len] at this; omega
  | some ad =>
    refine step_pushA e8 hg s x ho B v (zs l) hs hown ad c (zs m) hx hrd (by rw [zs_len, zs_len]; omega) hbase ?_
    rw [← zs_app]
    exact h

/-- From a world with the row v to one with the row v': all old blocks but v's own are as they were. -/
structure Kp (w : World) (v : Value) (w' : World) (v' : Value) : Prop where
  gr : w.grownBy w' v.ownBlock
  pl : ∀ k, v'.ownBlock = some k → v.ownBlock = some k ∨ w.heap.size ≤ k
theorem Kp.refl (w : World) (v : Value) : Kp w v w v := ⟨⟨rfl, rfl, rfl, Nat.le_refl _, fun _ _ _ => rfl⟩, fun _ h => .inl h⟩
theorem Kp.trans {a b c : World} {u v x : Value} (h : Kp a u b v) (k : Kp b v c x) : Kp a u c x :=
  ⟨⟨k.gr.os.trans h.gr.os, k.gr.tape.trans h.gr.tape, k.gr.output.trans h.gr.output, Nat.le_trans h.gr.size k.gr.size, fun i hi hne => by
      rw [k.gr.block i (Nat.lt_of_lt_of_le hi h.gr.size) (fun e => by
        rcases h.pl i e.symm with h | h
        · exact hne h.symm
        · omega)]
      exact h.gr.block i hi hne⟩, fun i hi => by
    have hs := h.gr.size
    rcases k.pl i hi with k | k
    · rcases h.pl i k with h | h
      · exact .inl h
      · exact .inr h
    · exact .inr (by omega)⟩
theorem Kp.on {a b c : World} {u v : Value} (h : Kp a u b v) (k : Below b.heap.size b c) : Kp a u c v :=
  h.trans ⟨⟨k.os, k.tape, k.output, k.size, fun i hi _ => k.block i hi⟩, fun _ h => .inl h⟩
theorem Kp.push {a b c : World} {u v x : Value} (h : Kp a u b v) (g : b.grownBy c v.ownBlock) (p : ∀ i, x.ownBlock = some i → v.ownBlock = some i ∨ i = b.heap.size) : Kp a u c x :=
  h.trans ⟨g, fun i hi => (p i hi).imp id fun e => by omega⟩
theorem Kp.below {w w' : World} {v v' : Value} {B : Nat} (h : Kp w v w' v') (hB : B ≤ w.heap.size) (hv : ∀ k, v.ownBlock = some k → B ≤ k) : Below B w w' := (Below.refl B w).grown h.gr hB hv
theorem Kp.own {w w' : World} {v v' : Value} {B : Nat} {l : List UInt8} (h : Kp w v w' v') (hB : B ≤ w.heap.size) (ho : OwnL .u8 5 w B v (zs l)) : Below B w w' :=
  h.below hB fun _ e => (ho.lt e).1
/-- A block apart from the row stays, and stays apart. -/
theorem Kp.keep {w w' : World} {v v' : Value} {b : Nat} (h : Kp w v w' v') (hb : b < w.heap.size) (hv : v.ownBlock ≠ some b) : w'.heap[b]? = w.heap[b]? := h.gr.block b hb fun e => hv e.symm
theorem Kp.apart {w w' : World} {v v' : Value} {b : Nat} (h : Kp w v w' v') (hb : b < w.heap.size) (hv : v.ownBlock ≠ some b) : v'.ownBlock ≠ some b := fun e => by
  rcases h.pl b e with h | h
  · exact hv h
  · omega
end Go.Proofs.YtbhdcgebcmgidaaDoor
