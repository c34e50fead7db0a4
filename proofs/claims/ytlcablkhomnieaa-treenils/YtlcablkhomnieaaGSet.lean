/-
  Blocks of cells, slices of structs of the call's own: cells turned; make.
-/
import Derived.Test.YtlcablkhomnieaaK27
import Derived.Test.YtlcablkhomnieaaK19
namespace Go.Proofs.Ytlcablkhomnieaa
open Go.RowKit

theorem Bk.frz {w : World} {k : Nat} {cs : List Value} {t : TypeId} (h : Bk w k cs t) (i : Nat) : w.frozen? ⟨k, i, none⟩ = false := by
  simp [World.frozen?, show w.heap[k]? = _ from h]
theorem Bk.set {w : World} {k : Nat} {cs : List Value} {t : TypeId} (h : Bk w k cs t) (i : Nat) (u : Value) : Bk (w.setCell ⟨k, i, none⟩ u) k (cs.set i u) t := by
  have h' : w.heap[k]? = some (.cells cs.toArray t (0, 0)) := h
  show (w.setCell ⟨k, i, none⟩ u).heap[k]? = _
  simp [World.setCell, Array.getElem?_modify, h']
theorem Bk.keep {w w' : World} {k : Nat} {cs : List Value} {t : TypeId} (h : Bk w k cs t) (e : w'.heap[k]? = w.heap[k]?) : Bk w' k cs t := e.trans h

/-! ### Slices of structs: one cell, two cells turned -/
theorem flat_set {k : Nat} : ∀ (LL : List (List Value)) (s i : Nat) (u : Value), (∀ r ∈ LL, r.length = k) → s < LL.length → i < k → (LL.set s ((LL.getD s []).set i u)).flatten = LL.flatten.set (s * k + i) u
  | [], s, i, u, _, hs, _ => by simp at hs
  | r :: LL, 0, i, u, hk, _, hi => by
    have := hk r (by simp)
    simp [this, hi]
  | r :: LL, s + 1, i, u, hk, hs, hi => by
    have h1 := hk r (by simp)
    have h2 := flat_set LL s i u (fun q hq => hk q (by simp [hq])) (by simpa using hs) hi
    have e : (s + 1) * k + i = k + (s * k + i) := by rw [Nat.add_mul]; omega
    rw [List.set_cons_succ, List.flatten_cons, List.flatten_cons, List.set_append, h1, if_neg (by omega), e, Nat.add_sub_cancel_left, ← h2]
    rfl
section
variable {α : Type} {e : TypeId} {k : Nat} {enc : α → List Value} {w w' : World} {B g cap : Nat} {L : List α}
theorem fm_map (L : List α) : L.flatMap enc = (L.map enc).flatten := by simp [List.flatMap]
theorem map_at (d : α) {s : Nat} (hs : s < L.length) : (L.map enc).getD s [] = enc (L.getD s d) := by simp [hs]
theorem OwnG.set1 (hk : ∀ x, (enc x).length = k) (d : α) (h : OwnG e k enc w B (.slice (some ⟨g, 0, none⟩) L.length cap) L) {s i : Nat} (hs : s < L.length) (hi : i < k) (u : Value) (y : α) (hy : enc y = (enc (L.getD s d)).set i u) :
    OwnG e k enc (w.setCell ⟨g, s * k + i, none⟩ u) B (.slice (some ⟨g, 0, none⟩) L.length cap) (L.set s y) := by
  have h1 := (World.ownsRow.stored h (s * k + i) u).1
  unfold OwnG
  rw [List.length_set, fm_map, List.map_set, hy, ← map_at (enc := enc) d hs, flat_set _ _ _ _ (fun r hr => by obtain ⟨x, -, rfl⟩ := List.mem_map.1 hr; exact hk x) (by simpa using hs) hi, ← fm_map]
  exact h1
theorem OwnG.set2 (hk : ∀ x, (enc x).length = k) (d : α) (h : OwnG e k enc w B (.slice (some ⟨g, 0, none⟩) L.length cap) L) {s i j : Nat} (hs : s < L.length) (hi : i < k) (hj : j < k) (u v : Value) (y : α) (hy : enc y = ((enc (L.getD s d)).set i u).set j v) :
    OwnG e k enc ((w.setCell ⟨g, s * k + i, none⟩ u).setCell ⟨g, s * k + j, none⟩ v) B (.slice (some ⟨g, 0, none⟩) L.length cap) (L.set s y) := by
  have h1 := (World.ownsRow.stored (World.ownsRow.stored h (s * k + i) u).1 (s * k + j) v).1
  have hkk : ∀ r ∈ L.map enc, r.length = k := fun r hr => by obtain ⟨x, -, rfl⟩ := List.mem_map.1 hr; exact hk x
  have hs' : s < (L.map enc).length := by simpa using hs
  have e1 := flat_set (L.map enc) s i u hkk hs' hi
  have e2 := flat_set ((L.map enc).set s (((L.map enc).getD s []).set i u)) s j v (fun r hr => by
      rcases List.mem_or_eq_of_mem_set hr with h | h
      · exact hkk r h
      · subst h; rw [List.length_set, map_at (enc := enc) d hs]; exact hk _) (by simpa using hs) hj
  rw [e1] at e2
  have e3 : ((L.map enc).set s (((L.map enc).getD s []).set i u)).getD s [] = ((L.map enc).getD s []).set i u := by simp [hs]
  rw [e3, List.set_set, map_at (enc := enc) d hs, ← hy, ← List.map_set, ← fm_map, ← fm_map] at e2
  unfold OwnG
  rw [List.length_set, e2]
  exact h1
end
section
variable {α : Type} {e : TypeId} {k : Nat} {enc : α → List Value} {w : World} {ops : Array Oper} {rest : List Oper} {o : Oper} {a : Act} {Q : Exit → Act → World → Prop}
theorem fm_rep (x : α) : ∀ n : Nat, ((List.replicate n x).flatMap enc).length = n * (enc x).length
  | 0 => by simp
  | n + 1 => by rw [List.replicate_succ, List.flatMap_cons, List.length_append, fm_rep x n, Nat.add_mul]; omega
/-- make([]T, n). -/
theorem wplG_make {st : TypeId} {z : Value} {b : Nat} (E : EltG e st z k b enc) (x : α) (hz : z.cells.toList = enc x) (hgd : o.guard = none) (l c : Operand) (ho : o.op = Op.makeSlice st l c) (B : Nat) (L C : Int) (n : Nat)
    (hl : a.eval l = .int .i64 L) (hc : a.eval c = .int .i64 C) (hL : L = (n : Int)) (hC : C = (n : Int)) (hb : b * n ≤ 281474976710656) (hn : n ≤ maxLen) (hbase : B ≤ w.heap.size)
    (h : ∀ w', OwnG e k enc w' B (.slice (some ⟨w.heap.size, 0, none⟩) n n) (List.replicate n x) → Below w.heap.size w w' → wpList Try.prog ops Q rest (a.put o.dst (.slice (some ⟨w.heap.size, 0, none⟩) n n)) w') :
    wpList Try.prog ops Q (o :: rest) a w := by
  obtain ⟨i, hi, hz0, hz1, hz2⟩ := info_parts E.info
  refine wpList_make_full w hgd l c st ho B e i z k E.und hi hz0 hz1 .i64 .i64 L C n hl hc hL hC (by rw [hz2]; exact hb) hn hbase ?_
  intro w' h1 h2
  refine h w' ?_ ((Below.refl _ w).grown h2 (Nat.le_refl _) fun k hk => by cases hk)
  unfold OwnG
  have q : (madeCells z.cells (n * k)).toList = (List.replicate n x).flatMap enc := by
    have hsz := E.zs
    have hxl := E.len x
    refine List.ext_getElem? fun j => ?_
    by_cases hj : j < n * k
    · have hk := E.pos
      have ht : j / k < n := by rw [Nat.div_lt_iff_lt_mul hk]; exact hj
      have hm : j % k < k := Nat.mod_lt _ hk
      have ej : j = j / k * k + j % k := by rw [Nat.mul_comm]; exact (Nat.div_add_mod j k).symm
      have e1 : ((List.replicate n x).flatMap enc)[j]? = (enc x)[j % k]? := by
        conv => lhs; rw [ej]
        rw [fm_get E.len x (List.replicate n x) (j / k) (j % k) (by simpa using ht) hm]
        simp [ht]
      rw [e1]
      have h4 : (enc x)[j % k]? = some (z.cells[j % k]!) := by
        rw [← hz, getElem!_def, Array.getElem?_toList, Array.getElem?_eq_getElem (by omega)]
      rw [h4]
      simp only [madeCells, Array.toList_map, Array.toList_range, List.getElem?_map, List.getElem?_range hj, Option.map_some, hsz]
    · rw [List.getElem?_eq_none (by rw [Array.length_toList, size_madeCells]; omega), List.getElem?_eq_none (by rw [fm_rep, hxl]; omega)]
  rw [List.length_replicate, ← q]; exact h1
end


end Go.Proofs.Ytlcablkhomnieaa
