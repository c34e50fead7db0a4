/-
  Some texts of this seat, one behind the other.
-/
import Derived.BigRegion
import Derived.Deep.CutRange
import Derived.Deep.OwnRows
import Derived.Maps.AppendAt
import Derived.Test.YtlcablkhomnieaaK1
/-
  An object that holds numbers in classes: how it lies in memory, and what of old memory may turn.
-/
namespace Go.Proofs.Ytlcablkhomnieaa
open Go.RowKit

/-- Outside of X old memory stays as it was. -/
structure Bx (X : Nat → Prop) (w w' : World) : Prop where
  os : w'.os = w.os
  tape : w'.tape = w.tape
  output : w'.output = w.output
  size : w.heap.size ≤ w'.heap.size
  block : ∀ k, k < w.heap.size → ¬ X k → w'.heap[k]? = w.heap[k]?
theorem Bx.refl (X : Nat → Prop) (w : World) : Bx X w w := ⟨rfl, rfl, rfl, Nat.le_refl _, fun _ _ _ => rfl⟩
theorem Bx.of {X : Nat → Prop} {w w' : World} (h : Below w.heap.size w w') : Bx X w w' := ⟨h.os, h.tape, h.output, h.size, fun k hk _ => h.block k hk⟩
theorem Bx.trans {X Y : Nat → Prop} {a b c : World} (h : Bx X a b) (k : Bx Y b c) (hY : ∀ j, j < a.heap.size → Y j → X j) : Bx X a c :=
  ⟨k.os.trans h.os, k.tape.trans h.tape, k.output.trans h.output, Nat.le_trans h.size k.size, fun j hj hx => (k.block j (Nat.lt_of_lt_of_le hj h.size) (fun y => hx (hY j hj y))).trans (h.block j hj hx)⟩
theorem Bx.below {X : Nat → Prop} {w w' : World} {B : Nat} (h : Bx X w w') (hX : ∀ k, X k → B ≤ k) (hB : B ≤ w.heap.size) : Below B w w' :=
  ⟨h.os, h.tape, h.output, h.size, fun k hk => h.block k (by omega) (fun x => by have := hX k x; omega)⟩
theorem Bx.grown {X : Nat → Prop} {a w w' : World} {row : Option Nat} (h : Bx X a w) (hg : w.grownBy w' row) (hr : ∀ k, row = some k → k < a.heap.size → X k) : Bx X a w' :=
  ⟨hg.os.trans h.os, hg.tape.trans h.tape, hg.output.trans h.output, Nat.le_trans h.size hg.size, fun k hk hx => (hg.block k (Nat.lt_of_lt_of_le hk h.size) (fun e => hx (hr k e.symm hk))).trans (h.block k hk hx)⟩
theorem Bx.setCell {X : Nat → Prop} {a w : World} (h : Bx X a w) {p : Addr} (hp : X p.block) (u : Value) : Bx X a (w.setCell p u) :=
  ⟨h.os, h.tape, h.output, by have := h.size; simpa [World.setCell] using this, fun k hk hx => (Below.heap_setCell w p u k (fun e => hx (by rw [e]; exact hp))).trans (h.block k hk hx)⟩
theorem Bx.alloc {X : Nat → Prop} {a w : World} (h : Bx X a w) (o : Obj) : Bx X a (w.alloc o) :=
  ⟨h.os, h.tape, h.output, by have := h.size; simp; omega, fun k hk hx => (Below.heap_alloc _ _ _ (Nat.lt_of_lt_of_le hk h.size)).trans (h.block k hk hx)⟩
theorem Bx.draws {X : Nat → Prop} {a w : World} (h : Bx X a w) (n : Nat) : Bx X a (w.drewN n) := ⟨h.os, h.tape, h.output, h.size, h.block⟩
theorem Bx.drew {X : Nat → Prop} {a w : World} (h : Bx X a w) : Bx X a w.drew := ⟨h.os, h.tape, h.output, h.size, h.block⟩
theorem Bx.cell {X : Nat → Prop} {w w' : World} (h : Bx X w w') {p : Addr} {u : Value} (hc : w.cell? p = some u) (hx : ¬ X p.block) : w'.cell? p = some u :=
  (World.cell?_of_block (h.block p.block (World.block_lt_of_cell? w _ hc) hx)).trans hc
theorem OwnL.bx {q : IntKind} {t : TypeId} {w w' : World} {B : Nat} {v : Value} {l : List Int} {X : Nat → Prop} (h : OwnL q t w B v l) (hb : Bx X w w') (hx : ∀ b, v.ownBlock = some b → ¬ X b) : OwnL q t w' B v l :=
  h.keep fun b e => hb.block b (h.lt e).2 (hx b e)
theorem RdL.bx {q : IntKind} {w w' : World} {a : Option Addr} {l : List Int} {X : Nat → Prop} (h : RdL q w a l) (hb : Bx X w w') (hx : ∀ x, a = some x → ¬ X x.block) : RdL q w' a l := by
  rcases h with h | ⟨b, off, rfl, hc⟩
  · exact .inl h
  · exact .inr ⟨b, off, rfl, fun i hi => hb.cell (hc i hi) (hx ⟨b, off, none⟩ rfl)⟩

/-- The cells of n pairs. -/
def cellsP (n : Nat) (F : Nat → Nat → Int) : List Value := (List.range (n * 2)).map fun j => .int .i64 (F (j / 2) (j % 2))
theorem length_cellsP (n : Nat) (F : Nat → Nat → Int) : (cellsP n F).length = n * 2 := by simp [cellsP]
theorem cellsP_get {n : Nat} {F : Nat → Nat → Int} {s i : Nat} (hs : s < n) (hi : i < 2) : (cellsP n F)[s * 2 + i]? = some (.int .i64 (F s i)) := by
  have h1 : s * 2 + i < n * 2 := by omega
  have h2 : (s * 2 + i) / 2 = s := by omega
  have h3 : (s * 2 + i) % 2 = i := by omega
  simp [cellsP, h1, h2, h3]
theorem cellsP_congr {n : Nat} {F G : Nat → Nat → Int} (h : ∀ s i, s < n → i < 2 → F s i = G s i) : cellsP n F = cellsP n G := by
  unfold cellsP
  apply List.map_congr_left
  intro j hj
  have := List.mem_range.1 hj
  rw [h (j / 2) (j % 2) (by omega) (by omega)]
/-- One number turned. -/
def setP (s i : Nat) (x : Int) (F : Nat → Nat → Int) (s' i' : Nat) : Int := if s' = s ∧ i' = i then x else F s' i'
/-- A pair more. -/
def addP (n : Nat) (x y : Int) (F : Nat → Nat → Int) (s i : Nat) : Int := if s < n then F s i else if i = 0 then x else y
/-- Where an object lies: its own cells, the row, the places, the classes; how many numbers it holds. -/
structure Pp where
  b : Nat
  gr : Nat
  gp : Nat
  gc : Nat
  n : Nat
/-- Its blocks. -/
def Pp.has (p : Pp) (gs k : Nat) : Prop := k = p.b ∨ k = p.gr ∨ k = p.gp ∨ k = p.gc ∨ k = gs

section
variable {w w' : World} {p : Pp} {gs cap K : Nat} {R P C : List Int} {F : Nat → Nat → Int}
end

end Go.Proofs.Ytlcablkhomnieaa

/-
  What the program's newPart makes: an object that holds 0 to n - 1 in one class.
-/
namespace Go.Proofs.Ytlcablkhomnieaa
open Go.RowKit

theorem infoI : (Try.prog.info? 3).map (fun i => (i.zero, i.size, i.bytes)) = some (some (.int .i64 0), 1, 8) := by kernel_rfl


theorem own_zeros {w : World} {g n : Nat} (h : w.heap[g]? = some (.cells (madeCells #[.int .i64 0] n) 3)) (hn : n ≤ 65536) : OwnL .i64 3 w 0 (.slice (some ⟨g, 0, none⟩) (List.replicate n (0 : Int)).length n) (List.replicate n 0) := by
  have e := toList_madeCells_one (.int .i64 0) n
  refine ⟨by simp, .inr ⟨g, n, madeCells #[.int .i64 0] n, rfl, Nat.zero_le _, h, by simp, by unfold maxLen; omega, by rw [size_madeCells]; omega, ?_⟩⟩
  rw [e]
  simp
theorem al4 (w : World) (o0 o1 o2 o3 : Obj) : ((((w.alloc o0).alloc o1).alloc o2).alloc o3).heap[w.heap.size]? = some o0 ∧ ((((w.alloc o0).alloc o1).alloc o2).alloc o3).heap[w.heap.size + 1]? = some o1 ∧ ((((w.alloc o0).alloc o1).alloc o2).alloc o3).heap[w.heap.size + 1 + 1]? = some o2 ∧ ((((w.alloc o0).alloc o1).alloc o2).alloc o3).heap[w.heap.size + 1 + 1 + 1]? = some o3 := by
  have n0 := heap_alloc_new w o0
  have n1 := heap_alloc_new (w.alloc o0) o1
  have n2 := heap_alloc_new ((w.alloc o0).alloc o1) o2
  have n3 := heap_alloc_new (((w.alloc o0).alloc o1).alloc o2) o3
  simp only [World.size_alloc] at n1 n2 n3
  refine ⟨?_, ?_, ?_, n3⟩
  · rw [Below.heap_alloc _ _ _ (by simp <;> omega), Below.heap_alloc _ _ _ (by simp <;> omega), Below.heap_alloc _ _ _ (by simp)]; exact n0
  · rw [Below.heap_alloc _ _ _ (by simp <;> omega), Below.heap_alloc _ _ _ (by simp)]; exact n1
  · rw [Below.heap_alloc _ _ _ (by simp)]; exact n2
theorem bl4 (w : World) (o0 o1 o2 o3 : Obj) : Below w.heap.size w ((((w.alloc o0).alloc o1).alloc o2).alloc o3) :=
  ((((Below.refl _ w).alloc (Nat.le_refl _) o0).alloc (by simp) o1).alloc (by simp; omega) o2).alloc (by simp; omega) o3
theorem siz4 (w : World) (o0 o1 o2 o3 : Obj) : ((((w.alloc o0).alloc o1).alloc o2).alloc o3).heap.size = w.heap.size + 1 + 1 + 1 + 1 := by simp
/-- 0 to n - 1, the first j of them written. -/
def iotaP (n j : Nat) : List Int := (List.range n).map fun i => if i < j then (i : Int) else 0
theorem iotaP_len (n j : Nat) : (iotaP n j).length = n := by simp [iotaP]
theorem iotaP_zero (n : Nat) : iotaP n 0 = List.replicate n 0 := by
  refine List.ext_getElem? fun i => ?_
  simp [iotaP, List.getElem?_replicate]
  by_cases h : i < n <;> simp [h]
theorem iotaP_set {n j : Nat} (h : j < n) : (iotaP n j).set j (j : Int) = iotaP n (j + 1) := by
  refine List.ext_getElem? fun i => ?_
  rw [List.getElem?_set]
  by_cases e : j = i
  · subst e; simp [iotaP, h]
  · rw [if_neg e]
    simp only [iotaP, List.getElem?_map]
    by_cases hi : i < n
    · rw [List.getElem?_range hi]
      have : (i < j) ↔ (i < j + 1) := by omega
      simp [this]
    · rw [List.getElem?_eq_none (by simp; omega)]; rfl
end Go.Proofs.Ytlcablkhomnieaa

/-
  Slices whose elements are structs: how one in memory of the call's own reads, append to it.
-/
namespace Go.Proofs.Ytlcablkhomnieaa
open Go.RowKit

/-- The slice v lies in memory of the call's own (from block B on), and its elements read as L. -/
def OwnG {α : Type} (e : TypeId) (k : Nat) (enc : α → List Value) (w : World) (B : Nat) (v : Value) (L : List α) : Prop := w.ownsRow B e k v L.length (L.flatMap enc)
/-- What the program says of the element's type. -/
structure EltG {α : Type} (e st : TypeId) (z : Value) (k b : Nat) (enc : α → List Value) : Prop where
  und : Try.prog.underlying st = some (.slice e)
  info : (Try.prog.info? e).map (fun i => (i.zero, i.size, i.bytes)) = some (some z, k, b)
  zs : z.cells.size = k
  pos : 0 < k
  len : ∀ x, (enc x).length = k
  one : ∀ x, ∀ u ∈ enc x, u.oneCell' = true
theorem fm_len {α : Type} {enc : α → List Value} {k : Nat} (hk : ∀ x, (enc x).length = k) : ∀ (L : List α), (L.flatMap enc).length = L.length * k
  | [] => by simp
  | x :: L => by rw [List.flatMap_cons, List.length_append, hk, fm_len hk L, List.length_cons, Nat.add_mul]; omega
theorem fm_get {α : Type} {enc : α → List Value} {k : Nat} (hk : ∀ x, (enc x).length = k) (d : α) : ∀ (L : List α) (s i : Nat), s < L.length → i < k → (L.flatMap enc)[s * k + i]? = (enc (L.getD s d))[i]?
  | [], s, i, hs, _ => by simp at hs
  | x :: L, 0, i, _, hi => by
    rw [List.flatMap_cons, Nat.zero_mul, Nat.zero_add, List.getElem?_append_left (by rw [hk]; exact hi)]; rfl
  | x :: L, s + 1, i, hs, hi => by
    have e : (s + 1) * k + i = k + (s * k + i) := by rw [Nat.add_mul]; omega
    rw [List.flatMap_cons, e, List.getElem?_append_right (by rw [hk]; omega), hk, Nat.add_sub_cancel_left, fm_get hk d L s i (by simpa using hs) hi]
    rfl
section
variable {α : Type} {e : TypeId} {k : Nat} {enc : α → List Value} {w w' : World} {B : Nat} {v : Value} {L : List α}
theorem OwnG.nil (w : World) (B : Nat) : OwnG e k enc w B (.slice none 0 0) [] := ⟨by simp, .inl ⟨rfl, rfl⟩⟩
theorem OwnG.lt (h : OwnG e k enc w B v L) {b : Nat} (eb : v.ownBlock = some b) : B ≤ b ∧ b < w.heap.size := World.ownsRow.lt h b eb
theorem OwnG.keep (h : OwnG e k enc w B v L) (kp : ∀ b, v.ownBlock = some b → w'.heap[b]? = w.heap[b]?) : OwnG e k enc w' B v L := by
  obtain ⟨h1, h2⟩ := h
  refine ⟨h1, ?_⟩
  rcases h2 with h2 | ⟨g, cap, cur, rfl, hg, hcell, rest⟩
  · exact .inl h2
  · exact .inr ⟨g, cap, cur, rfl, hg, by rw [kp g rfl]; exact hcell, rest⟩
theorem OwnG.below (h : OwnG e k enc w B v L) (hb : Below w.heap.size w w') : OwnG e k enc w' B v L := h.keep fun b eb => hb.block b (h.lt eb).2
theorem OwnG.mono {B' : Nat} (h : OwnG e k enc w B v L) (hb : B' ≤ B) : OwnG e k enc w B' v L := by
  obtain ⟨h1, h2⟩ := h
  refine ⟨h1, ?_⟩
  rcases h2 with h | ⟨g, cap, cur, e, hg, r⟩
  · exact .inl h
  · exact .inr ⟨g, cap, cur, e, Nat.le_trans hb hg, r⟩
theorem OwnG.shape (h : OwnG e k enc w B v L) : ∃ a c, v = .slice a L.length c := by
  rcases h.2 with ⟨rfl, h0⟩ | ⟨g, cap, cur, rfl, _⟩
  · exact ⟨none, 0, by rw [h0]⟩
  · exact ⟨_, cap, rfl⟩
theorem OwnG.pos (hk : ∀ x, (enc x).length = k) (d : α) (h : OwnG e k enc w B v L) (hn : 0 < L.length) :
    ∃ g cap, v = .slice (some ⟨g, 0, none⟩) L.length cap ∧ L.length ≤ cap ∧ cap ≤ maxLen ∧ B ≤ g ∧ g < w.heap.size ∧ (∀ s i, s < L.length → i < k → w.cell? ⟨g, s * k + i, none⟩ = (enc (L.getD s d))[i]?) ∧ ∀ i, w.frozen? ⟨g, i, none⟩ = false := by
  have hlt := World.ownsRow.lt h
  obtain ⟨h1, h2⟩ := id h
  rcases h2 with ⟨rfl, h0⟩ | ⟨g, cap, cur, rfl, hg, hcell, hnc, hm, hs, ht⟩
  · omega
  · refine ⟨g, cap, rfl, hnc, hm, hg, (hlt g rfl).2, fun s i hs hi => ?_, fun i => World.ownsRow.frozenAt h i⟩
    have hle : s * k + i < L.length * k := by
      have : (s + 1) * k ≤ L.length * k := Nat.mul_le_mul_right k hs
      rw [Nat.add_mul] at this
      omega
    have := World.ownsRow.cellAt h (s * k + i) hle
    rw [fm_get hk d L s i hs hi] at this
    exact this
variable {ops : Array Oper} {rest : List Oper} {o : Oper} {a : Act} {Q : Exit → Act → World → Prop}
/-- append(s, x) of a slice of the call's own. -/
theorem wplG_push {st : TypeId} {z : Value} {b : Nat} (E : EltG e st z k b enc) (hgd : o.guard = none) (s y : Operand) (ho : o.op = .call { callee := .builtin .append, args := #[s, y], argTypes := #[st, st] })
    (B : Nat) (v : Value) (L : List α) (hs : a.eval s = v) (hown : OwnG e k enc w B v L)
    (g c : Nat) (x : α) (hx : a.eval y = .slice (some ⟨g, 0, none⟩) 1 c) (hc : ∀ j u, (enc x)[j]? = some u → w.cell? ⟨g, j, none⟩ = some u)
    (hn : (L.length + 1) * b ≤ 140737488355328) (h63 : L.length + 1 ≤ maxLen) (hbase : B ≤ w.heap.size)
    (h : ∀ v' w', OwnG e k enc w' B v' (L ++ [x]) → w.grownBy w' v.ownBlock → (∀ b, v'.ownBlock = some b → v.ownBlock = some b ∨ b = w.heap.size) → wpList Try.prog ops Q rest (a.put o.dst v') w') :
    wpList Try.prog ops Q (o :: rest) a w := by
  obtain ⟨i, hi, hz0, hz1, hz2⟩ := info_parts E.info
  refine wpList_append_own_at w hgd s y st ho B e i z k b E.und hi hz0 hz1 hz2 E.zs E.pos v L.length (L.flatMap enc) hs hown ⟨g, 0, none⟩ 1 c (enc x) hx (by rw [E.len, Nat.one_mul]) ?_ (E.one x) h63 hn hbase ?_
  · intro j u hj
    have := hc j u hj
    rw [add_at, Nat.zero_add]; exact this
  · intro v' w' r1 r2 _ r4
    refine h v' w' ?_ r2 fun b hb => ?_
    · unfold OwnG
      rw [List.length_append, List.length_singleton, List.flatMap_append, List.flatMap_singleton]; exact r1
    · rcases r4 with r4 | r4
      · exact .inl (r4 ▸ hb)
      · rw [r4] at hb; cases hb; exact .inr rfl
/-- A literal of one element. -/
theorem OwnG.lit1 (hk : ∀ x, (enc x).length = k) (w : World) (B : Nat) (x : α) (cs : Array Value) (hb : B ≤ w.heap.size) (hc : cs.toList = enc x) : OwnG e k enc (w.alloc (.cells cs e)) B (.slice (some ⟨w.heap.size, 0, none⟩) 1 1) [x] := by
  unfold OwnG
  have hl : cs.size = k := by rw [← Array.length_toList, hc, hk]
  refine ⟨by simp [hk], .inr ⟨w.heap.size, 1, cs, rfl, hb, heap_alloc_new _ _, Nat.le_refl _, by unfold maxLen; omega, by simp [hl], ?_⟩⟩
  rw [List.flatMap_singleton, ← hc]
  simp
  exact List.take_of_length_le (by simp [hl])
end
end Go.Proofs.Ytlcablkhomnieaa

/-
  What slices.Reverse leaves of a row of numbers of the call's own.
-/
namespace Go.Proofs.Ytlcablkhomnieaa
open Go.RowKit

/-- The first i and the last i exchanged. -/
def rvF (n i : Nat) (f : Nat → Int) (k : Nat) : Int := if k < i ∨ n ≤ k + i then f (n - 1 - k) else f k
/-- What Reverse leaves. -/
def RevPost (B gb cap n : Nat) (f : Nat → Int) (w : World) (e : Ending) (w' : World) : Prop :=
  e = .returned (.tuple #[]) ∧ Own w' B (.slice (some ⟨gb, 0, none⟩) n cap) n (fun k => f (n - 1 - k)) ∧ Bx (fun k => k = gb) w w' ∧ w'.heap.size = w.heap.size

end Go.Proofs.Ytlcablkhomnieaa

/-
  What the program's Join of words returns, by lists.
-/
namespace Go.Proofs.Ytlcablkhomnieaa
open Go.RowKit

/-- Lists one behind the other. -/
def catL (ls : Nat → List Int) : Nat → List Int
  | 0 => []
  | t + 1 => catL ls t ++ ls t
theorem catL_le {ls : Nat → List Int} {L : Nat} : ∀ {t}, (∀ i, i < t → (ls i).length ≤ L) → (catL ls t).length ≤ t * L
  | 0, _ => by simp [catL]
  | t + 1, h => by
    have h1 := catL_le (t := t) (L := L) fun i hi => h i (by omega)
    have h2 := h t (by omega)
    rw [catL, List.length_append, Nat.succ_mul]; omega

set_option maxHeartbeats 1000000 in
theorem joinL_any (a : Option Addr) (N c : Nat) (vs : Nat → Value) (ls : Nat → List Int) (cs : Nat → Nat) (ads : Nat → Option Addr) (w : World) (hr : RdV w a N vs) (hN : N ≤ 1000)
    (hvs : ∀ i, i < N → vs i = .slice (ads i) (ls i).length (cs i) ∧ RdL .i64 w (ads i) (ls i) ∧ (ads i = none → (ls i).length = 0 ∧ cs i = 0) ∧ (ls i).length ≤ 200000) :
    Calls Try.prog 41 #[.slice a N c] w fun e w' => ∃ v, e = .returned v ∧ OwnL .i64 3 w' w.heap.size v (catL ls N) ∧ Below w.heap.size w w' := by
  have HV := hide hvs
  clear hvs
  go_enter Try.func41, Try.ntmps41
  go_wp2
  go_loopw [3, 8] (fun v i wr => ∃ t : Nat, t ≤ N ∧ i = .int .i64 t ∧ OwnL .i64 3 wr w.heap.size v (catL ls t) ∧ Below w.heap.size w wr) (fun _ i _ => N - (intOf i).toNat)
  case atStart => exact ⟨0, by omega, rfl, OwnL.nil _ _ _ _, Below.refl _ _⟩
  case round =>
    obtain ⟨t, ht, rfl, hown, hbr⟩ := hrel
    have hszr := hbr.size
    have hcat := catL_le (ls := ls) (L := 200000) (t := t) fun i hi => (unhide HV i (by omega)).2.2.2
    have hcat2 : (catL ls t).length ≤ 200000000 := Nat.le_trans hcat (Nat.mul_le_mul (show t ≤ 1000 by omega) (Nat.le_refl 200000))
    clear hcat
    have HOW := hide hown
    obtain ⟨av, cv, rfl, _, _, _, _, _⟩ := hown.shape
    clear hown
    by_cases hlt : t < N
    · obtain ⟨b, off, rfl, hcell⟩ := (hr.below hbr).at hlt
      obtain ⟨hv, hrd, hnil, hle⟩ := unhide HV t hlt
      have hct := hcell t hlt
      rw [hv] at hct
      have HNX : Hid (catL ls (t + 1) = catL ls t ++ ls t) := rfl
      have HRD := hide (hrd.below hbr)
      have HNI := hide hnil
      clear hcell hv hrd hnil
      generalize catL ls t = X at *
      generalize ls t = Y at *
      go_wp2_with (at_builtin; refine wpl_pushL eInt rfl (.tmp 12) (.tmp 13) rfl w.heap.size _ X rfl (unhide HOW) (ads t) (cs t) Y rfl (unhide HRD) (unhide HNI) (by omega) hszr ?_; intro v3 w3 hown3 hb3 hg3)
      go_roundw
      case rel => exact ⟨t + 1, by omega, by go_num, by rw [unhide HNX]; exact hown3, hbr.trans hb3⟩
      case measure => simp [intOf]; omega
    · have he : t = N := by omega
      subst he
      go_wp2
      go_ret
      exact ⟨_, rfl, unhide HOW, hbr⟩
end Go.Proofs.Ytlcablkhomnieaa
