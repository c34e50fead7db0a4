/-
  Slices of whole numbers of any kind, as lists: how one reads in a world, one in memory of the call's own, append to it.
-/
import Derived.Test.YtdlcbjbcehpooaaOwn
namespace Go.Proofs.Ytdlcbjbcehpooaa
open Go.RowKit

/-- The slice with the address a reads in w as the list l of numbers of kind q. -/
def RdL (q : IntKind) (w : World) (a : Option Addr) (l : List Int) : Prop :=
  l.length = 0 ∨ ∃ b off, a = some ⟨b, off, none⟩ ∧ ∀ i, i < l.length → w.cell? ⟨b, off + i, none⟩ = some (.int q (l.getD i 0))

theorem RdL.nil (q : IntKind) (w : World) (a : Option Addr) : RdL q w a [] := .inl rfl
theorem RdL.at {q : IntKind} {w : World} {a : Option Addr} {l : List Int} (h : RdL q w a l) {i : Nat} (hi : i < l.length) :
    ∃ b off, a = some ⟨b, off, none⟩ ∧ ∀ j, j < l.length → w.cell? ⟨b, off + j, none⟩ = some (.int q (l.getD j 0)) := by
  rcases h with h | h
  · omega
  · exact h
theorem RdL.below {q : IntKind} {w w' : World} {a : Option Addr} {l : List Int} (h : RdL q w a l) (hb : Below w.heap.size w w') : RdL q w' a l := by
  rcases h with h | ⟨b, off, rfl, hc⟩
  · exact .inl h
  · refine .inr ⟨b, off, rfl, fun i hi => ?_⟩
    have := World.block_lt_of_cell? w _ (hc i hi)
    rw [hb.cell (by exact this)]
    exact hc i hi
theorem RdL.rd {w : World} {a : Option Addr} {l : List Int} (h : RdL .i64 w a l) : Rd w a l.length (fun i => l.getD i 0) := h
/-- The same, from block B on, where the slice lies below B. -/
theorem RdL.under {q : IntKind} {w w' : World} {B : Nat} {a : Option Addr} {l : List Int} (h : RdL q w a l) (hb : Below B w w') (hB : ∀ x, a = some x → x.block < B) : RdL q w' a l := by
  rcases h with h | ⟨b, off, rfl, hc⟩
  · exact .inl h
  · refine .inr ⟨b, off, rfl, fun i hi => ?_⟩
    have h1 := hB ⟨b, off, none⟩ rfl
    rw [hb.cell (by exact h1)]
    exact hc i hi

/-- What the program says of an element type and its slices. -/
structure Elt (q : IntKind) (t st : TypeId) (k : Nat) : Prop where
  und : Try.prog.underlying st = some (.slice t)
  info : (Try.prog.info? t).map (fun i => (i.zero, i.size, i.bytes)) = some (some (.int q 0), 1, k)
  pos : 1 ≤ k

theorem eInt : Elt .i64 3 22 8 := ⟨Try.underlying22, by kernel_rfl, by decide⟩

/-- The value v is a slice in memory of the call's own (from block B on), and reads as l. -/
def OwnL (q : IntKind) (t : TypeId) (w : World) (B : Nat) (v : Value) (l : List Int) : Prop := w.ownsRow B t 1 v l.length (l.map (Value.int q))

theorem OwnL.nil (q : IntKind) (t : TypeId) (w : World) (B : Nat) : OwnL q t w B (.slice none 0 0) [] := World.ownsRow_nil _ _ _ _
theorem OwnL.drew {q : IntKind} {t : TypeId} {w : World} {B : Nat} {v : Value} {l : List Int} (h : OwnL q t w B v l) : OwnL q t w.drew B v l := World.ownsRow.drew h
theorem OwnL.alloc {q : IntKind} {t : TypeId} {w : World} {B : Nat} {v : Value} {l : List Int} (h : OwnL q t w B v l) (o : Obj) : OwnL q t (w.alloc o) B v l := World.ownsRow.alloc h o

theorem map_getD {q : IntKind} {l : List Int} {i : Nat} (h : i < l.length) : (l.map (Value.int q))[i]? = some (.int q (l.getD i 0)) := by
  simp [h]

theorem OwnL.shape {q : IntKind} {t : TypeId} {w : World} {B : Nat} {v : Value} {l : List Int} (h : OwnL q t w B v l) :
    ∃ a c, v = .slice a l.length c ∧ (a = none → l.length = 0 ∧ c = 0) ∧ l.length ≤ c ∧ c ≤ maxLen ∧ RdL q w a l ∧ (∀ x, a = some x → B ≤ x.block ∧ x.block < w.heap.size) := by
  have hlt := World.ownsRow.lt h
  obtain ⟨h1, h2⟩ := id h
  rcases h2 with ⟨rfl, h0⟩ | ⟨g, cap, cur, rfl, hg, hcell, hnc, hm, hs, ht⟩
  · exact ⟨none, 0, by rw [h0], fun _ => ⟨h0, rfl⟩, by omega, Nat.zero_le _, .inl h0, fun x hx => by cases hx⟩
  · refine ⟨_, _, rfl, (fun h => by cases h), hnc, hm, .inr ⟨g, 0, rfl, fun i hi => ?_⟩, fun x hx => ?_⟩
    · have := World.ownsRow.cellAt h i (by omega)
      rw [map_getD hi] at this
      simpa using this
    · cases hx
      exact hlt g rfl

theorem OwnL.grown {q : IntKind} {t : TypeId} {w w' : World} {B : Nat} {v : Value} {l : List Int} (h : OwnL q t w B v l) (hb : Below w.heap.size w w') : OwnL q t w' B v l := by
  have hlt := World.ownsRow.lt h
  refine World.ownsRow.kept (row := none) h ⟨hb.os, hb.tape, hb.output, hb.size, fun i hi _ => hb.block i hi⟩ ?_
  cases v.ownBlock <;> simp

/-- A literal. -/
theorem OwnL.lit {q : IntKind} {t : TypeId} (w : World) (B : Nat) (l : List Int) (cs : Array Value) (hb : B ≤ w.heap.size) (hm : l.length ≤ maxLen) (hc : cs.toList = l.map (Value.int q)) :
    OwnL q t (w.alloc (.cells cs t)) B (.slice (some ⟨w.heap.size, 0, none⟩) l.length l.length) l := by
  unfold OwnL
  rw [← hc]
  have hs : cs.size = l.length := by rw [← Array.length_toList, hc, List.length_map]
  exact World.ownsRow_lit w cs l.length hb hm (by omega)
theorem RdL.lit {q : IntKind} {t : TypeId} (w : World) (l : List Int) (cs : Array Value) (hm : l.length ≤ maxLen) (hc : cs.toList = l.map (Value.int q)) :
    RdL q (w.alloc (.cells cs t)) (some ⟨w.heap.size, 0, none⟩) l := by
  obtain ⟨a, c, e, _, _, _, h, _⟩ := (OwnL.lit w w.heap.size l cs (Nat.le_refl _) hm hc).shape
  cases e
  exact h
theorem RdL.one {q : IntKind} {t : TypeId} (w : World) (x : Int) : RdL q (w.alloc (.cells #[.int q x] t)) (some ⟨w.heap.size, 0, none⟩) [x] :=
  RdL.lit w [x] _ (by unfold maxLen; simp) rfl

section
variable {w : World} {ops : Array Oper} {rest : List Oper} {o : Oper} {a : Act} {Q : Exit → Act → World → Prop}

/-- append(s, x...), s the call's own. -/
theorem wpl_pushL {q : IntKind} {t st : TypeId} {k : Nat} (E : Elt q t st k) (hgd : o.guard = none) (s x : Operand) (ho : o.op = .call { callee := .builtin .append, args := #[s, x], argTypes := #[st, st] })
    (B : Nat) (v : Value) (l : List Int) (hs : a.eval s = v) (hown : OwnL q t w B v l)
    (ao : Option Addr) (c : Nat) (m : List Int) (hx : a.eval x = .slice ao m.length c) (hrd : RdL q w ao m) (hnil : ao = none → m.length = 0 ∧ c = 0)
    (hbytes : (l.length + m.length) * k ≤ 140737488355328) (hbase : B ≤ w.heap.size)
    (h : ∀ v' w', OwnL q t w' B v' (l ++ m) → Below B w w' → w.grownBy w' v.ownBlock → wpList Try.prog ops Q rest (a.put o.dst v') w') :
    wpList Try.prog ops Q (o :: rest) a w := by
  obtain ⟨i, hi, hz0, hz1, hz2⟩ := info_parts E.info
  have hk := E.pos
  have hlen : l.length + m.length ≤ maxLen := by
    have : (l.length + m.length) * 1 ≤ (l.length + m.length) * k := Nat.mul_le_mul_left _ hk
    unfold maxLen; omega
  cases ao with
  | none =>
    obtain ⟨h0, rfl⟩ := hnil rfl
    have hm : m = [] := List.length_eq_zero_iff.1 h0
    subst hm
    refine wpList_append_own_none hgd s x st ho B t i 1 E.und hi v l.length (l.map (Value.int q)) hs hown hx ?_
    refine h v w ?_ (Below.refl _ _) ⟨rfl, rfl, rfl, Nat.le_refl _, fun _ _ _ => rfl⟩
    rw [List.append_nil]; exact hown
  | some ad =>
    refine wpList_append_own w hgd s x st ho B t i (.int q 0) 1 k E.und hi hz0 hz1 hz2 rfl (by decide) v l.length (l.map (Value.int q)) hs hown ad m.length c (m.map (Value.int q)) hx (by simp) ?_ ?_ hlen hbytes hbase ?_
    · intro j u hj
      have hjm : j < m.length := by
        have := (List.getElem?_eq_some_iff.1 hj).1
        rwa [List.length_map] at this
      rw [map_getD hjm] at hj
      obtain ⟨b, off, e, hc⟩ := hrd.at hjm
      cases e
      rw [← hj]
      rw [add_at]; exact hc j hjm
    · intro u hu
      simp at hu
      obtain ⟨z, _, rfl⟩ := hu
      rfl
    · intro v' w' h1 h2 _
      have hlt := World.ownsRow.lt hown
      refine h v' w' ?_ ((Below.refl B w).grown h2 hbase fun k hk => (hlt k hk).1) h2
      unfold OwnL; rw [List.length_append, List.map_append]; exact h1

/-- make([]T, 0, n). -/
theorem wpl_roomL {q : IntKind} {t st : TypeId} {k : Nat} (E : Elt q t st k) (hgd : o.guard = none) (l c : Operand) (ho : o.op = Op.makeSlice st l c) (B : Nat) (C : Int) (n : Nat)
    (hl : a.eval l = .int .i64 0) (hc : a.eval c = .int .i64 C) (hC : C = (n : Int)) (hbytes : k * n ≤ 140737488355328) (hbase : B ≤ w.heap.size)
    (h : ∀ w', OwnL q t w' B (.slice (some ⟨w.heap.size, 0, none⟩) 0 n) [] → Below B w w' → wpList Try.prog ops Q rest (a.put o.dst (.slice (some ⟨w.heap.size, 0, none⟩) 0 n)) w') :
    wpList Try.prog ops Q (o :: rest) a w := by
  obtain ⟨i, hi, hz0, hz1, hz2⟩ := info_parts E.info
  have hk := E.pos
  have hlen : n ≤ maxLen := by
    have : 1 * n ≤ k * n := Nat.mul_le_mul_right _ hk
    unfold maxLen; omega
  refine wpList_make_own w hgd l c st ho B t i (.int q 0) 1 E.und hi hz0 hz1 .i64 .i64 C n hl hc hC (by rw [hz2]; omega) hlen hbase ?_
  intro w' h1 h2
  exact h w' h1 ((Below.refl B w).grown h2 hbase fun k hk => by cases hk)
end

/-- The base of what is owned, lowered. -/
theorem OwnL.mono {q : IntKind} {t : TypeId} {w : World} {B B' : Nat} {v : Value} {l : List Int} (h : OwnL q t w B v l) (hb : B' ≤ B) : OwnL q t w B' v l := by
  obtain ⟨h1, h2⟩ := h
  refine ⟨h1, ?_⟩
  rcases h2 with h | ⟨g, cap, cur, e, hg, r⟩
  · exact .inl h
  · exact .inr ⟨g, cap, cur, e, Nat.le_trans hb hg, r⟩

end Go.Proofs.Ytdlcbjbcehpooaa
