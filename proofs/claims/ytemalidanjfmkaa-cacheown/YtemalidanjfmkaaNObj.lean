/-
  The program's cache in memory: its seven cells, its row; what may be asked of it without a look into the row.
-/
import Derived.Test.YtemalidanjfmkaaNWalk
import Derived.Test.YtemalidanjfmkaaK27
import Derived.Test.YtemalidanjfmkaaGPush
namespace Go.Proofs.Ytemalidanjfmkaa
open Go.RowKit

theorem Bk.frz {w : World} {k : Nat} {cs : List Value} {t : TypeId} (h : Bk w k cs t) (i : Nat) : w.frozen? ⟨k, i, none⟩ = false := by
  simp [World.frozen?, show w.heap[k]? = _ from h]
theorem Bk.set {w : World} {k : Nat} {cs : List Value} {t : TypeId} (h : Bk w k cs t) (i : Nat) (u : Value) : Bk (w.setCell ⟨k, i, none⟩ u) k (cs.set i u) t := by
  have h' : w.heap[k]? = some (.cells cs.toArray t (0, 0)) := h
  show (w.setCell ⟨k, i, none⟩ u).heap[k]? = _
  simp [World.setCell, Array.getElem?_modify, h']
theorem Bk.keep {w w' : World} {k : Nat} {cs : List Value} {t : TypeId} (h : Bk w k cs t) (e : w'.heap[k]? = w.heap[k]?) : Bk w' k cs t := e.trans h

/-! ### Slices of structs: one cell, two cells turned -/
theorem flat_set {k : Nat} : ∀ (LL : List (List Value)) (s i : Nat) (u : Value), (∀ r ∈ LL, r.length = k) → s < LL.length → i < k → (LL.set s ((LL.getD s []).set i u)).flatten = LL.flatten.set (s * k + i) u
  | [], s, i, u, _, hs, _ => by simp at hs
  | r :: LL, 0, i, u, hk, _, hi => by
    have := hk r (by simp)
    simp [this, hi]
  | r :: LL, s + 1, i, u, hk, hs, hi => by
    have h1 := hk r (by simp)
    have h2 := flat_set LL s i u (fun q hq => hk q (by simp [hq])) (by simpa using hs) hi
    have e : (s + 1) * k + i = k + (s * k + i) := by rw [Nat.add_mul]; omega
    rw [List.set_cons_succ, List.flatten_cons, List.flatten_cons, List.set_append, h1, if_neg (by omega), e, Nat.add_sub_cancel_left, ← h2]
    rfl
section
variable {α : Type} {e : TypeId} {k : Nat} {enc : α → List Value} {w w' : World} {B g cap : Nat} {L : List α}
theorem fm_map (L : List α) : L.flatMap enc = (L.map enc).flatten := by simp [List.flatMap]
theorem map_at (d : α) {s : Nat} (hs : s < L.length) : (L.map enc).getD s [] = enc (L.getD s d) := by simp [hs]
theorem OwnG.set1 (hk : ∀ x, (enc x).length = k) (d : α) (h : OwnG e k enc w B (.slice (some ⟨g, 0, none⟩) L.length cap) L) {s i : Nat} (hs : s < L.length) (hi : i < k) (u : Value) (y : α) (hy : enc y = (enc (L.getD s d)).set i u) :
    OwnG e k enc (w.setCell ⟨g, s * k + i, none⟩ u) B (.slice (some ⟨g, 0, none⟩) L.length cap) (L.set s y) := by
  have h1 := (World.ownsRow.stored h (s * k + i) u).1
  unfold OwnG
  rw [List.length_set, fm_map, List.map_set, hy, ← map_at (enc := enc) d hs, flat_set _ _ _ _ (fun r hr => by obtain ⟨x, -, rfl⟩ := List.mem_map.1 hr; exact hk x) (by simpa using hs) hi, ← fm_map]
  exact h1
theorem OwnG.set2 (hk : ∀ x, (enc x).length = k) (d : α) (h : OwnG e k enc w B (.slice (some ⟨g, 0, none⟩) L.length cap) L) {s i j : Nat} (hs : s < L.length) (hi : i < k) (hj : j < k) (u v : Value) (y : α) (hy : enc y = ((enc (L.getD s d)).set i u).set j v) :
    OwnG e k enc ((w.setCell ⟨g, s * k + i, none⟩ u).setCell ⟨g, s * k + j, none⟩ v) B (.slice (some ⟨g, 0, none⟩) L.length cap) (L.set s y) := by
  have h1 := (World.ownsRow.stored (World.ownsRow.stored h (s * k + i) u).1 (s * k + j) v).1
  have hkk : ∀ r ∈ L.map enc, r.length = k := fun r hr => by obtain ⟨x, -, rfl⟩ := List.mem_map.1 hr; exact hk x
  have hs' : s < (L.map enc).length := by simpa using hs
  have e1 := flat_set (L.map enc) s i u hkk hs' hi
  have e2 := flat_set ((L.map enc).set s (((L.map enc).getD s []).set i u)) s j v (fun r hr => by
      rcases List.mem_or_eq_of_mem_set hr with h | h
      · exact hkk r h
      · subst h; rw [List.length_set, map_at (enc := enc) d hs]; exact hk _) (by simpa using hs) hj
  rw [e1] at e2
  have e3 : ((L.map enc).set s (((L.map enc).getD s []).set i u)).getD s [] = ((L.map enc).getD s []).set i u := by simp [hs]
  rw [e3, List.set_set, map_at (enc := enc) d hs, ← hy, ← List.map_set, ← fm_map, ← fm_map] at e2
  unfold OwnG
  rw [List.length_set, e2]
  exact h1
end
section
variable {α : Type} {e : TypeId} {k : Nat} {enc : α → List Value} {w : World} {ops : Array Oper} {rest : List Oper} {o : Oper} {a : Act} {Q : Exit → Act → World → Prop}
theorem fm_rep (x : α) : ∀ n : Nat, ((List.replicate n x).flatMap enc).length = n * (enc x).length
  | 0 => by simp
  | n + 1 => by rw [List.replicate_succ, List.flatMap_cons, List.length_append, fm_rep x n, Nat.add_mul]; omega
/-- make([]T, n). -/
theorem wplG_make {st : TypeId} {z : Value} {b : Nat} (E : EltG e st z k b enc) (x : α) (hz : z.cells.toList = enc x) (hgd : o.guard = none) (l c : Operand) (ho : o.op = Op.makeSlice st l c) (B : Nat) (L C : Int) (n : Nat)
    (hl : a.eval l = .int .i64 L) (hc : a.eval c = .int .i64 C) (hL : L = (n : Int)) (hC : C = (n : Int)) (hb : b * n ≤ 281474976710656) (hn : n ≤ maxLen) (hbase : B ≤ w.heap.size)
    (h : ∀ w', OwnG e k enc w' B (.slice (some ⟨w.heap.size, 0, none⟩) n n) (List.replicate n x) → Below w.heap.size w w' → wpList Try.prog ops Q rest (a.put o.dst (.slice (some ⟨w.heap.size, 0, none⟩) n n)) w') :
    wpList Try.prog ops Q (o :: rest) a w := by
  obtain ⟨i, hi, hz0, hz1, hz2⟩ := info_parts E.info
  refine wpList_make_full w hgd l c st ho B e i z k E.und hi hz0 hz1 .i64 .i64 L C n hl hc hL hC (by rw [hz2]; exact hb) hn hbase ?_
  intro w' h1 h2
  refine h w' ?_ ((Below.refl _ w).grown h2 (Nat.le_refl _) fun k hk => by cases hk)
  unfold OwnG
  have q : (madeCells z.cells (n * k)).toList = (List.replicate n x).flatMap enc := by
    have hsz := E.zs
    have hxl := E.len x
    refine List.ext_getElem? fun j => ?_
    by_cases hj : j < n * k
    · have hk := E.pos
      have ht : j / k < n := by rw [Nat.div_lt_iff_lt_mul hk]; exact hj
      have hm : j % k < k := Nat.mod_lt _ hk
      have ej : j = j / k * k + j % k := by rw [Nat.mul_comm]; exact (Nat.div_add_mod j k).symm
      have e1 : ((List.replicate n x).flatMap enc)[j]? = (enc x)[j % k]? := by
        conv => lhs; rw [ej]
        rw [fm_get E.len x (List.replicate n x) (j / k) (j % k) (by simpa using ht) hm]
        simp [ht]
      rw [e1]
      have h4 : (enc x)[j % k]? = some (z.cells[j % k]!) := by
        rw [← hz, getElem!_def, Array.getElem?_toList, Array.getElem?_eq_getElem (by omega)]
      rw [h4]
      simp only [madeCells, Array.toList_map, Array.toList_range, List.getElem?_map, List.getElem?_range hj, Option.map_some, hsz]
    · rw [List.getElem?_eq_none (by rw [Array.length_toList, size_madeCells]; omega), List.getElem?_eq_none (by rw [fm_rep, hxl]; omega)]
  rw [List.length_replicate, ← q]; exact h1
end

/-! ### The object -/
def coC (c : Cs) (n g cap : Nat) : List Value := [.int .i64 c.kind, .int .i64 c.k, .int .i64 c.o, .int .i64 c.most, .slice (some ⟨g, 0, none⟩) n cap, .int .i64 c.hits, .int .i64 c.miss]
/-- The cache at block b, its row at block g. -/
structure Co (B : Nat) (w : World) (b g cap : Nat) (c : Cs) (R : List En) : Prop where
  o : Bk w b (coC c R.length g cap) 65
  r : OwnG 87 6 enL w B (.slice (some ⟨g, 0, none⟩) R.length cap) R
  i : Ri c R
  ne : b ≠ g
  bB : B ≤ b
section
variable {B : Nat} {w w' : World} {b g cap : Nat} {c : Cs} {R : List En}
theorem Co.keep (h : Co B w b g cap c R) (e1 : w'.heap[b]? = w.heap[b]?) (e2 : w'.heap[g]? = w.heap[g]?) : Co B w' b g cap c R :=
  ⟨h.o.keep e1, h.r.keep fun k ek => by cases ek; exact e2, h.i, h.ne, h.bB⟩
theorem Co.glt (h : Co B w b g cap c R) : B ≤ g ∧ g < w.heap.size := h.r.lt rfl
theorem Co.blt (h : Co B w b g cap c R) : b < w.heap.size := h.o.lt
theorem Co.below (h : Co B w b g cap c R) (hb : Below w.heap.size w w') : Co B w' b g cap c R := h.keep (hb.block _ h.blt) (hb.block _ h.glt.2)
theorem Co.bx {X : Nat → Prop} (h : Co B w b g cap c R) (hb : Bx X w w') (h1 : ¬ X b) (h2 : ¬ X g) : Co B w' b g cap c R := h.keep (hb.block _ h.blt h1) (hb.block _ h.glt.2 h2)
theorem Co.len (h : Co B w b g cap c R) : 1 ≤ R.length ∧ R.length ≤ 1048576 := by
  have h1 := h.i.tr.pos
  have h2 := h.i.tr.len
  have h3 := h.i.pc.room
  have h4 := h.i.pc.m1
  omega
theorem Co.row (h : Co B w b g cap c R) : RdR w g R ∧ R.length ≤ cap ∧ cap ≤ maxLen ∧ ∀ i, w.frozen? ⟨g, i, none⟩ = false := by
  obtain ⟨g', cap', e, h1, h2, h3, h4, h5, h6⟩ := h.r.pos enL_len en0 h.len.1
  cases e
  exact ⟨fun i hi j hj => h5 i j hi hj, h1, h2, h6⟩
theorem Co.c0 (h : Co B w b g cap c R) : w.cell? ⟨b, 0, none⟩ = some (.int .i64 c.kind) := h.o.cell 0
theorem Co.c1 (h : Co B w b g cap c R) : w.cell? ⟨b, 1, none⟩ = some (.int .i64 c.k) := h.o.cell 1
theorem Co.c2 (h : Co B w b g cap c R) : w.cell? ⟨b, 2, none⟩ = some (.int .i64 c.o) := h.o.cell 2
theorem Co.c3 (h : Co B w b g cap c R) : w.cell? ⟨b, 3, none⟩ = some (.int .i64 c.most) := h.o.cell 3
theorem Co.c4 (h : Co B w b g cap c R) : w.cell? ⟨b, 4, none⟩ = some (.slice (some ⟨g, 0, none⟩) R.length cap) := h.o.cell 4
theorem Co.c5 (h : Co B w b g cap c R) : w.cell? ⟨b, 5, none⟩ = some (.int .i64 c.hits) := h.o.cell 5
theorem Co.c6 (h : Co B w b g cap c R) : w.cell? ⟨b, 6, none⟩ = some (.int .i64 c.miss) := h.o.cell 6
theorem Co.hit (h : Co B w b g cap c R) (x : Int) : Co B (w.setCell ⟨b, 5, none⟩ (.int .i64 x)) b g cap { c with hits := x } R :=
  ⟨h.o.set 5 _, h.r.keep fun k ek => by cases ek; exact Below.heap_setCell _ _ _ _ h.ne.symm, h.i.count x c.miss, h.ne, h.bB⟩
theorem Co.missed (h : Co B w b g cap c R) (x : Int) : Co B (w.setCell ⟨b, 6, none⟩ (.int .i64 x)) b g cap { c with miss := x } R :=
  ⟨h.o.set 6 _, h.r.keep fun k ek => by cases ek; exact Below.heap_setCell _ _ _ _ h.ne.symm, h.i.count c.hits x, h.ne, h.bB⟩

theorem isMealy_any (h : Co B w b g cap c R) : Calls Try.prog 34 #[.pointer (some ⟨b, 0, none⟩)] w fun e w' => e = .returned (.bool (c.kind == 2)) ∧ w' = w := by
  have c0 := h.c0
  clear h
  go_enter Try.func34, Try.ntmps34
  go_wp2
  go_ret
  exact ⟨rfl, rfl⟩
theorem isMade_any (h : Co B w b g cap c R) : Calls Try.prog 35 #[.pointer (some ⟨b, 0, none⟩)] w fun e w' => e = .returned (.bool true) ∧ w' = w := by
  have c4 := h.c4
  have hp := h.len.1
  have HD := hide (show decide (0 < R.length) = true from decide_eq_true (by omega))
  clear h hp
  go_enter Try.func35, Try.ntmps35
  go_wp2
  go_ret
  exact ⟨ret_bool (unhide HD), rfl⟩
theorem isMade_nil (w : World) : Calls Try.prog 35 #[.pointer none] w fun e w' => e = .returned (.bool false) ∧ w' = w := by
  go_enter Try.func35, Try.ntmps35
  go_wp2
  go_ret
  exact ⟨rfl, rfl⟩
theorem nodes_any (h : Co B w b g cap c R) : Calls Try.prog 21 #[.pointer (some ⟨b, 0, none⟩)] w fun e w' => e = .returned (.int .i64 (c.bg.length : Int)) ∧ w' = w := by
  have c4 := h.c4
  have HL := hide h.i.tr.len
  clear h
  go_enter Try.func21, Try.ntmps21
  go_wp2
  go_ret
  exact ⟨by rw [← unhide HL]; rfl, rfl⟩
theorem hits_any (h : Co B w b g cap c R) : Calls Try.prog 22 #[.pointer (some ⟨b, 0, none⟩)] w fun e w' => e = .returned (.int .i64 c.hits) ∧ w' = w := by
  have c5 := h.c5
  clear h
  go_enter Try.func22, Try.ntmps22
  go_wp2
  go_ret
  exact ⟨rfl, rfl⟩
theorem misses_any (h : Co B w b g cap c R) : Calls Try.prog 23 #[.pointer (some ⟨b, 0, none⟩)] w fun e w' => e = .returned (.int .i64 c.miss) ∧ w' = w := by
  have c6 := h.c6
  clear h
  go_enter Try.func23, Try.ntmps23
  go_wp2
  go_ret
  exact ⟨rfl, rfl⟩
end
theorem nodes_nil (w : World) : Calls Try.prog 21 #[.pointer none] w fun e w' => e = .returned (.int .i64 0) ∧ w' = w := by
  go_enter Try.func21, Try.ntmps21
  go_wp2
  go_ret
  exact ⟨rfl, rfl⟩
theorem hits_nil (w : World) : Calls Try.prog 22 #[.pointer none] w fun e w' => e = .returned (.int .i64 0) ∧ w' = w := by
  go_enter Try.func22, Try.ntmps22
  go_wp2
  go_ret
  exact ⟨rfl, rfl⟩
theorem misses_nil (w : World) : Calls Try.prog 23 #[.pointer none] w fun e w' => e = .returned (.int .i64 0) ∧ w' = w := by
  go_enter Try.func23, Try.ntmps23
  go_wp2
  go_ret
  exact ⟨rfl, rfl⟩
theorem put_nil (u v : Value) (w : World) : Calls Try.prog 15 #[.pointer none, u, v] w fun e w' => e = .returned (.int .i64 5) ∧ w' = w := by
  have h := isMade_nil w
  go_enter Try.func15, Try.ntmps15
  go_wp2_with fail
  refine h.mono ?_
  rintro e w1 ⟨rfl, rfl⟩
  go_wp2
  go_ret
  exact ⟨rfl, rfl⟩
theorem get_nil (u : Value) (w : World) : Calls Try.prog 17 #[.pointer none, u] w fun e w' => e = .returned (.tuple #[.slice none 0 0, .bool false]) ∧ w' = w := by
  have h := isMade_nil w
  go_enter Try.func17, Try.ntmps17
  go_wp2_with fail
  refine h.mono ?_
  rintro e w1 ⟨rfl, rfl⟩
  go_wp2
  go_ret2
  exact ⟨rfl, rfl⟩
theorem has_nil (u : Value) (w : World) : Calls Try.prog 20 #[.pointer none, u] w fun e w' => e = .returned (.bool false) ∧ w' = w := by
  have h := isMade_nil w
  go_enter Try.func20, Try.ntmps20
  go_wp2_with fail
  refine h.mono ?_
  rintro e w1 ⟨rfl, rfl⟩
  go_wp2
  go_ret
  exact ⟨rfl, rfl⟩
theorem words_nil (w : World) : Calls Try.prog 26 #[.pointer none] w fun e w' => e = .returned (.slice none 0 0) ∧ w' = w := by
  have h := isMade_nil w
  go_enter Try.func26, Try.ntmps26
  go_wp2_with fail
  refine h.mono ?_
  rintro e w1 ⟨rfl, rfl⟩
  go_wp2
  go_ret
  exact ⟨rfl, rfl⟩

end Go.Proofs.Ytemalidanjfmkaa
