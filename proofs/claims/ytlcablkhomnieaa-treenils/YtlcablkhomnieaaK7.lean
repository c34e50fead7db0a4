/-
  Some texts of this seat, one behind the other.
-/
import Derived.Maps.OwnOps
import Derived.Maps.OwnSet
import Derived.WalkMore
import Derived.Test.YtlcablkhomnieaaK1
import Derived.Test.YtlcablkhomnieaaK2
import Derived.Test.YtlcablkhomnieaaK3
import Derived.Test.YtlcablkhomnieaaK6
/-
  What the program's newOrder and add do: a row of states in memory with a map of their places.
-/
namespace Go.Proofs.Ytlcablkhomnieaa
open Go.RowKit Go.Maps

/-- A row of states and their places, in block b. -/
structure Ord (w : World) (B b g : Nat) (v : Value) (S : List Int) : Prop where
  c0 : w.cell? ⟨b, 0, none⟩ = some v
  c1 : w.cell? ⟨b, 1, none⟩ = some (.map (some g))
  f0 : w.frozen? ⟨b, 0, none⟩ = false
  f1 : w.frozen? ⟨b, 1, none⟩ = false
  own : OwnL .i64 3 w B v S
  map : NMap w g S
  bg : b ≠ g
  vb : v.ownBlock ≠ some b
  vg : v.ownBlock ≠ some g
  Bb : B ≤ b
  Bg : B ≤ g

/-- What add leaves where the state is new. -/
def AddPost (w : World) (B b g : Nat) (v : Value) (S : List Int) (s : Int) (e : Ending) (w' : World) : Prop :=
  e = .returned (.bool true) ∧ (∃ v', Ord w' B b g v' (S ++ [s]) ∧ (∀ i, v'.ownBlock = some i → v.ownBlock = some i ∨ w.heap.size ≤ i)) ∧ Below B w w' ∧ ∀ i, i < w.heap.size → i ≠ b → i ≠ g → v.ownBlock ≠ some i → w'.heap[i]? = w.heap[i]?

end Go.Proofs.Ytlcablkhomnieaa

/-
  What the program's search returns: the states that can be come to, a map of their places, and the ways by which each was first come to.
-/
namespace Go.Proofs.Ytlcablkhomnieaa
open Go.RowKit Go.Maps

/-- What holds on the way. -/
structure SInv (m : Mc) (w w0 wr : World) (vw v : Value) (i x : Nat) (S : List Int) (V : List (List Int)) (W : List Int) : Prop where
  ord : Ord wr (w.heap.size + 1) (w.heap.size + 1) (w.heap.size + 3) v S
  ways : OwnL .i64 3 wr (w.heap.size + 1) vw W
  apb : vw.ownBlock ≠ some (w.heap.size + 1)
  apg : vw.ownBlock ≠ some (w.heap.size + 3)
  apv : ∀ b, vw.ownBlock = some b → v.ownBlock ≠ some b
  inv : RInv m i x S V
  wy : Wy m S V W
  fuel : Fuel m i x S V
  b1 : Below w.heap.size w wr
  d1 : Below (w.heap.size + 1) w0 wr

/-- What search leaves. -/
def SPost (m : Mc) (w : World) (e : Ending) (w' : World) : Prop :=
  ∃ v vw W, e = .returned (.tuple #[.agg #[v, .map (some (w.heap.size + 3))], vw]) ∧ OwnL .i64 3 w' w.heap.size v (rchV m).1 ∧ NMap w' (w.heap.size + 3) (rchV m).1 ∧ OwnL .i64 3 w' w.heap.size vw W ∧ Wy m (rchV m).1 (rchV m).2 W ∧ Below w.heap.size w w'

theorem Ord.draws {w : World} {B b g : Nat} {v : Value} {S : List Int} (h : Ord w B b g v S) (q : Nat) : Ord (w.drewN q) B b g v S :=
  ⟨h.c0, h.c1, h.f0, h.f1, h.own, h.map, h.bg, h.vb, h.vg, h.Bb, h.Bg⟩
theorem SInv.old {m : Mc} {w w0 wr : World} {vw v : Value} {i x : Nat} {S : List Int} {V : List (List Int)} {W : List Int} (R : Right m) (h : SInv m w w0 wr vw v i x S V W) (hi : i < S.length) (hx : (x : Int) < m.k) (ht : nxt m (S.getD i 0) x ∈ S) (q : Nat) :
    SInv m w w0 (wr.drewN q) vw v i (x + 1) S V W :=
  ⟨h.ord.draws q, h.ways, h.apb, h.apg, h.apv, h.inv.old hi hx ht, h.wy, h.fuel.old (h.inv.size R) hi hx ht, below_drewN h.b1 q, below_drewN h.d1 q⟩
theorem SInv.row {m : Mc} {w w0 wr : World} {vw v : Value} {i x : Nat} {S : List Int} {V : List (List Int)} {W : List Int} (R : Right m) (h : SInv m w w0 wr vw v i x S V W) (hi : i < S.length) (hx : (x : Int) = m.k) :
    SInv m w w0 wr vw v (i + 1) 0 S V W :=
  ⟨h.ord, h.ways, h.apb, h.apg, h.apv, h.inv.row hi (by omega) R.k0, h.wy, h.fuel.row (h.inv.size R) hi hx, h.b1, h.d1⟩
theorem SInv.new {m : Mc} {w w0 wr w1 w3 : World} {vw v v1 vw3 : Value} {i x : Nat} {S : List Int} {V : List (List Int)} {W : List Int} (R : Right m) (h : SInv m w w0 wr vw v i x S V W) (hi : i < S.length) (hx : (x : Int) < m.k) (ht : ¬ nxt m (S.getD i 0) x ∈ S) {q : Nat}
    (ho : Ord w1 (w.heap.size + 1) (w.heap.size + 1) (w.heap.size + 3) v1 (S ++ [nxt m (S.getD i 0) x])) (hv : ∀ j, v1.ownBlock = some j → v.ownBlock = some j ∨ (wr.drewN q).heap.size ≤ j) (hb : Below (w.heap.size + 1) (wr.drewN q) w1)
    {o : Obj}
    (hw : OwnL .i64 3 w3 (w.heap.size + 1) vw3 (W ++ [S.getD i 0 * m.k + x])) (hg : (w1.alloc o).grownBy w3 vw.ownBlock) (hb3 : Below (w.heap.size + 1) (w1.alloc o) w3) (hat : ∀ j, vw3.ownBlock = some j → vw.ownBlock = some j ∨ j = (w1.alloc o).heap.size) :
    SInv m w w0 w3 vw3 v1 i (x + 1) (S ++ [nxt m (S.getD i 0) x]) (V ++ [V.getD i [] ++ [(x : Int)]]) (W ++ [S.getD i 0 * m.k + x]) := by
  have hz : wr.heap.size ≤ w1.heap.size := hb.size
  have hwl : ∀ j, vw.ownBlock = some j → j < wr.heap.size := fun j e => (h.ways.lt e).2
  have hvl : ∀ j, v.ownBlock = some j → j < wr.heap.size := fun j e => (h.ord.own.lt e).2
  have hv1 : ∀ j, v1.ownBlock = some j → v.ownBlock = some j ∨ wr.heap.size ≤ j := hv
  have hat' : ∀ j, vw3.ownBlock = some j → vw.ownBlock = some j ∨ j = w1.heap.size + 1 := fun j e => (hat j e).imp id fun e => by simpa using e
  have hv1l : ∀ j, v1.ownBlock = some j → j < w1.heap.size := fun j e => (ho.own.lt e).2
  have hb1 : w.heap.size + 1 < w1.heap.size := World.block_lt_of_cell? w1 _ ho.c0
  have hg1 := ho.map.lt
  have K : ∀ j, j < w1.heap.size → vw.ownBlock ≠ some j → w3.heap[j]? = w1.heap[j]? := fun j hj hne => by
    rw [hg.block j (by simp; omega) (fun e => hne e.symm), Below.heap_alloc _ _ _ hj]
  have n1 : ∀ j, v1.ownBlock = some j → vw.ownBlock ≠ some j := fun j e e2 => (hv1 j e).elim (fun e3 => h.apv j e2 e3) fun e3 => by have := hwl j e2; omega
  have hd : Below (w.heap.size + 1) wr w3 := (below_drewN (Below.refl _ wr) q).trans ((hb.alloc (by omega) o).trans hb3)
  have kb := K _ hb1 h.apb
  have zb := h.b1.size
  refine ⟨⟨(World.cell?_of_block kb).trans ho.c0, (World.cell?_of_block kb).trans ho.c1, ?_, ?_, ho.own.keep fun j e => K j (hv1l j e) (n1 j e), ho.map.keep (K _ hg1 h.apg), ho.bg, ho.vb, ho.vg, ho.Bb, ho.Bg⟩, hw, fun e => ?_, fun e => ?_, fun j e e2 => ?_, h.inv.new R hi hx ht, h.wy.new h.inv.len hi hx _, h.fuel.new (h.inv.size R) hi hx ht, ?_, h.d1.trans hd⟩
  · have := ho.f0; unfold World.frozen? at this ⊢; rw [kb]; exact this
  · have := ho.f1; unfold World.frozen? at this ⊢; rw [kb]; exact this
  · rcases hat' _ e with e | e
    · exact h.apb e
    · omega
  · rcases hat' _ e with e | e
    · exact h.apg e
    · omega
  · rcases hat' _ e with e | e
    · exact n1 j e2 e
    · have := hv1l j e2; omega
  · exact h.b1.trans (hd.mono (by omega))

theorem SInv.fin {m : Mc} {w w0 wr : World} {vw v : Value} {i x : Nat} {S : List Int} {V : List (List Int)} {W : List Int} (h : SInv m w w0 wr vw v i x S V W) (e : rchV m = (S, V)) :
    SPost m w (.returned (.tuple #[.agg #[v, .map (some (w.heap.size + 3))], vw])) ((wr.setCell ⟨w.heap.size + 1, 0, none⟩ v).setCell ⟨w.heap.size + 1, 1, none⟩ (.map (some (w.heap.size + 3)))) ∧
      ((wr.setCell ⟨w.heap.size + 1, 0, none⟩ v).setCell ⟨w.heap.size + 1, 1, none⟩ (.map (some (w.heap.size + 3)))).cell? ⟨w.heap.size + 1, 0, none⟩ = some v ∧
      ((wr.setCell ⟨w.heap.size + 1, 0, none⟩ v).setCell ⟨w.heap.size + 1, 1, none⟩ (.map (some (w.heap.size + 3)))).cell? ⟨w.heap.size + 1, 1, none⟩ = some (.map (some (w.heap.size + 3))) := by
  have K : ∀ j, j ≠ w.heap.size + 1 → ((wr.setCell ⟨w.heap.size + 1, 0, none⟩ v).setCell ⟨w.heap.size + 1, 1, none⟩ (.map (some (w.heap.size + 3)))).heap[j]? = wr.heap[j]? := fun j hj => by
    rw [Below.heap_setCell _ _ _ _ (by simpa using hj), Below.heap_setCell _ _ _ _ (by simpa using hj)]
  refine ⟨⟨v, vw, W, rfl, ?_, ?_, ?_, ?_, ?_⟩, ?_, ?_⟩
  · rw [e]; exact (h.ord.own.keep fun j ej => K j fun e2 => h.ord.vb (e2 ▸ ej)).mono (by omega)
  · rw [e]; exact h.ord.map.keep (K _ (by omega))
  · exact (h.ways.keep fun j ej => K j fun e2 => h.apb (e2 ▸ ej)).mono (by omega)
  · rw [e]; exact h.wy
  · exact (h.b1.setCell (p := ⟨w.heap.size + 1, 0, none⟩) (by simp) _).setCell (p := ⟨w.heap.size + 1, 1, none⟩) (by simp) _
  · rw [World.cell?_setCell_other (a := ⟨w.heap.size + 1, 1, none⟩) (b := ⟨w.heap.size + 1, 0, none⟩) (h := fun e => by cases e)]; exact World.cell?_setCell_same _ _ _ h.ord.c0
  · refine World.cell?_setCell_same _ _ _ (u := .map (some (w.heap.size + 3))) ?_
    rw [World.cell?_setCell_other (a := ⟨w.heap.size + 1, 0, none⟩) (b := ⟨w.heap.size + 1, 1, none⟩) (h := fun e => by cases e)]; exact h.ord.c1

end Go.Proofs.Ytlcablkhomnieaa

/-
  Slices of lists in memory of their own.
-/
namespace Go.Proofs.Ytlcablkhomnieaa
open Go.RowKit

def nsV (V : List (List Int)) (i : Nat) : Nat := (V.getD i []).length
def fsV (V : List (List Int)) (i j : Nat) : Int := (V.getD i []).getD j 0
/-- A slice of lists, each in memory of its own. -/
structure LLs (w : World) (B : Nat) (v : Value) (vs : Nat → Value) (V : List (List Int)) : Prop where
  out : OwnV w B v V.length vs
  fam : Fam w B V.length vs (nsV V) (fsV V)
  ap : ∀ b, v.ownBlock = some b → ∀ i, i < V.length → (vs i).ownBlock ≠ some b
theorem LLs.nil (w : World) (B : Nat) (vs : Nat → Value) : LLs w B (.slice none 0 0) vs [] := ⟨OwnV.nil _ _ _, Fam.zero _ _ _ _ _, fun b e => by cases e⟩
theorem LLs.below {w w' : World} {B : Nat} {v : Value} {vs : Nat → Value} {V : List (List Int)} (h : LLs w B v vs V) (hb : Below w.heap.size w w') : LLs w' B v vs V := ⟨h.out.below hb, h.fam.below hb, h.ap⟩
theorem LLs.base {w : World} {B B' : Nat} {v : Value} {vs : Nat → Value} {V : List (List Int)} (h : LLs w B v vs V) (hb : B' ≤ B) : LLs w B' v vs V := ⟨h.out.base hb, ⟨fun i hi => (h.fam.own i hi).base hb, h.fam.apart⟩, h.ap⟩
theorem LLs.rdx {w : World} {B : Nat} {v : Value} {vs : Nat → Value} {V : List (List Int)} (h : LLs w B v vs V) : ∃ a c, v = .slice a V.length c ∧ RdV w a V.length vs := by
  obtain ⟨a, c, e, _, _, r⟩ := h.out.shape
  exact ⟨a, c, e, r⟩
theorem LLs.draws {w : World} {B : Nat} {v : Value} {vs : Nat → Value} {V : List (List Int)} (h : LLs w B v vs V) (q : Nat) : LLs (w.drewN q) B v vs V := ⟨h.out, h.fam.keep fun _ _ _ _ => rfl, h.ap⟩

end Go.Proofs.Ytlcablkhomnieaa

/-
  A row of Booleans of the call's own: which numbers are in a list.
-/
namespace Go.Proofs.Ytlcablkhomnieaa
open Go.RowKit

theorem infoBool : (Try.prog.info? 4).map (fun i => (i.zero, i.size, i.bytes)) = some (some (.bool false), 1, 1) := by kernel_rfl
/-- Of 0 to n - 1, which are in S. -/
def cellsK (S : List Int) (n : Nat) : List Value := (List.range n).map fun i : Nat => .bool (decide ((i : Int) ∈ S))
theorem length_cellsK (S : List Int) (n : Nat) : (cellsK S n).length = n := by simp [cellsK]
theorem cellsK_get {S : List Int} {n i : Nat} (h : i < n) : (cellsK S n)[i]? = some (.bool (decide ((i : Int) ∈ S))) := by simp [cellsK, h]
def Kn (w : World) (B : Nat) (v : Value) (n : Nat) (S : List Int) : Prop := w.ownsRow B 4 1 v n (cellsK S n)
theorem Kn.keep {w w' : World} {B n : Nat} {v : Value} {S : List Int} (h : Kn w B v n S) (k : ∀ b, v.ownBlock = some b → w'.heap[b]? = w.heap[b]?) : Kn w' B v n S := ownsRow_keep h k
theorem Kn.lt {w : World} {B n : Nat} {v : Value} {S : List Int} (h : Kn w B v n S) {b : Nat} (e : v.ownBlock = some b) : B ≤ b ∧ b < w.heap.size := World.ownsRow.lt h b e
theorem Kn.pos {w : World} {B n : Nat} {v : Value} {S : List Int} (h : Kn w B v n S) (hn : 0 < n) :
    ∃ g cap, v = .slice (some ⟨g, 0, none⟩) n cap ∧ n ≤ cap ∧ cap ≤ maxLen ∧ B ≤ g ∧ g < w.heap.size ∧ (∀ i, i < n → w.cell? ⟨g, i, none⟩ = some (.bool (decide ((i : Int) ∈ S)))) ∧ (∀ i, w.frozen? ⟨g, i, none⟩ = false) := by
  have hlt := World.ownsRow.lt h
  obtain ⟨h1, h2⟩ := id h
  rcases h2 with ⟨rfl, rfl⟩ | ⟨g, cap, cur, rfl, hg, hcell, hnc, hm, hs, ht⟩
  · omega
  · refine ⟨g, cap, rfl, hnc, hm, hg, (hlt g rfl).2, fun i hi => ?_, fun i => World.ownsRow.frozenAt h i⟩
    have := World.ownsRow.cellAt h i (by omega)
    rw [cellsK_get hi] at this
    exact this
theorem Kn.store {w : World} {B g n cap : Nat} {S : List Int} (h : Kn w B (.slice (some ⟨g, 0, none⟩) n cap) n S) (t : Nat) :
    Kn (w.setCell ⟨g, t, none⟩ (.bool true)) B (.slice (some ⟨g, 0, none⟩) n cap) n (S ++ [(t : Int)]) := by
  have h1 := World.ownsRow.stored h t (.bool true)
  unfold Kn
  have e : (cellsK S n).set t (.bool true) = cellsK (S ++ [(t : Int)]) n := by
    refine List.ext_getElem? fun i => ?_
    by_cases hi : i < n
    · rw [cellsK_get hi, List.getElem?_set]
      by_cases e : t = i
      · subst e; simp [length_cellsK, hi]
      · rw [if_neg e, cellsK_get hi]
        have : ((i : Int) ∈ S ++ [(t : Int)]) ↔ (i : Int) ∈ S := by simp; omega
        simp only [this]
    · rw [List.getElem?_eq_none (by rw [List.length_set, length_cellsK]; omega), List.getElem?_eq_none (by rw [length_cellsK]; omega)]
  rw [← e]
  exact h1.1
section
variable {w : World} {ops : Array Oper} {rest : List Oper} {o : Oper} {a : Act} {Q : Exit → Act → World → Prop}
end

end Go.Proofs.Ytlcablkhomnieaa

/-
  Small words on lists, maps of places and access words.
-/
namespace Go.Proofs.Ytlcablkhomnieaa
open Go.RowKit Go.Maps

theorem wy_len {m : Mc} {S : List Int} {V : List (List Int)} {W : List Int} (hW : Wy m S V W) (h0 : V.getD 0 [] = []) : ∀ i, i < V.length → (V.getD i []).length ≤ i
  | 0, _ => by rw [h0]; simp
  | t + 1, hi => by
    obtain ⟨j, y, hj, _, _, e⟩ := hW.2 t (by have := hW.1; omega)
    rw [e, List.length_append, List.length_singleton]
    have := wy_len hW h0 j (by omega)
    omega
  termination_by i => i

end Go.Proofs.Ytlcablkhomnieaa

/-
  What is said stays, numbers play no part: machines whose states have other numbers, in plain words.
-/
namespace Go.Proofs.Ytlcablkhomnieaa
open Go.RowKit

theorem flat_get {row : Int → List Int} {K : Nat} (hr : ∀ s, (row s).length = K) : ∀ (S : List Int) (i x : Nat), i < S.length → x < K → (S.flatMap row).getD (i * K + x) 0 = (row (S.getD i 0)).getD x 0
  | [], i, x, h, _ => by simp at h
  | s :: S, 0, x, _, hx => by
    rw [List.flatMap_cons, Nat.zero_mul, Nat.zero_add, gd_left 0 (by rw [hr]; exact hx)]
    rfl
  | s :: S, i + 1, x, h, hx => by
    have ih := flat_get hr S i x (by simpa using h) hx
    have e : (i + 1) * K + x = (row s).length + (i * K + x) := by rw [hr, Nat.add_mul, Nat.one_mul]; omega
    rw [List.flatMap_cons, e]
    have e2 : (row s ++ S.flatMap row).getD ((row s).length + (i * K + x)) 0 = (S.flatMap row).getD (i * K + x) 0 := by
      simp only [List.getD]
      rw [List.getElem?_append_right (by omega)]
      congr 2
      omega
    rw [e2, ih]
    rfl
theorem rowN_get (m : Mc) (f : Int → Int) (s : Int) {n x : Nat} (h : x < n) : (rowN m f s n).getD x 0 = f (nxt m s (x : Int)) := by
  unfold rowN
  simp only [List.getD, List.getElem?_map, List.getElem?_range h, Option.map_some, Option.getD_some]
theorem rowO_get (m : Mc) (s : Int) {n x : Nat} (h : x < n) : (rowO m s n).getD x 0 = m.out.getD (s * (pp m : Int) + (x : Int)).toNat 0 := by
  unfold rowO
  simp only [List.getD, List.getElem?_map, List.getElem?_range h, Option.map_some, Option.getD_some]
theorem nxt_pick {m : Mc} (k0 : 1 ≤ m.k) {S : List Int} {f : Int → Int} {i x : Nat} (hi : i < S.length) (hx : (x : Int) < m.k) : nxt (pickV m S f) (i : Int) (x : Int) = f (nxt m (S.getD i 0) x) := by
  have e : ((i : Int) * m.k + (x : Int)).toNat = i * m.k.toNat + x := by
    have : ((i * m.k.toNat : Nat) : Int) = (i : Int) * m.k := by rw [Int.natCast_mul, Int.toNat_of_nonneg (by omega)]
    omega
  show (nxR m f S).getD ((i : Int) * m.k + (x : Int)).toNat 0 = _
  rw [e]
  unfold nxR
  rw [flat_get (K := m.k.toNat) (fun s => rowN_len _ _ _ _) S i x hi (by omega), rowN_get _ _ _ (by omega)]
theorem out_pick {m : Mc} {S : List Int} {f : Int → Int} {i x : Nat} (hi : i < S.length) (hx : x < pp m) : (pickV m S f).out.getD ((i : Int) * (pp m : Int) + (x : Int)).toNat 0 = m.out.getD (S.getD i 0 * (pp m : Int) + (x : Int)).toNat 0 := by
  have e : ((i : Int) * (pp m : Int) + (x : Int)).toNat = i * pp m + x := by
    have : ((i * pp m : Nat) : Int) = (i : Int) * (pp m : Int) := Int.natCast_mul _ _
    omega
  show (ouR m S).getD _ 0 = _
  rw [e]
  unfold ouR
  rw [flat_get (K := pp m) (fun s => rowO_len _ _ _) S i x hi hx, rowO_get _ _ hx]
theorem pp_pick (m : Mc) (S : List Int) (f : Int → Int) : pp (pickV m S f) = pp m := rfl
theorem rowO_pick {m : Mc} {S : List Int} {f : Int → Int} {i : Nat} (hi : i < S.length) : rowO (pickV m S f) (i : Int) (pp (pickV m S f)) = rowO m (S.getD i 0) (pp m) := by
  rw [pp_pick]
  unfold rowO
  apply List.map_congr_left
  intro x hx
  rw [List.mem_range] at hx
  rw [pp_pick]
  exact out_pick hi hx

/-- What Check lets pass, with the bounds of O. -/
structure Full (m : Mc) : Prop where
  r : Right m
  od : m.kind = 1 → m.o = 2
  o0 : 1 ≤ m.o
  o1 : m.o ≤ 64
theorem full_of {m : Mc} (h : (mchV m).2 = 0) : Full m := by
  have R := right_of h
  unfold mchV at h
  by_cases hk : m.kind = 1
  · rw [if_pos hk] at h
    rcases szV_cases m 2 2 1 with ⟨_, s⟩ | ⟨hz, _, _⟩
    · have := s.o0; have := s.o1
      exact ⟨R, fun _ => by omega, by omega, by omega⟩
    · rw [if_neg hz] at h; exact absurd h hz
  · rw [if_neg hk] at h
    by_cases hk2 : m.kind = 2
    · rw [if_pos hk2] at h
      rcases szV_cases m 1 64 m.k with ⟨_, s⟩ | ⟨hz, _, _⟩
      · exact ⟨R, fun h => absurd h hk, s.o0, s.o1⟩
      · rw [if_neg hz] at h; exact absurd h hz
    · rw [if_neg hk2] at h; cases h
theorem mch_full {m : Mc} (h : Full m) : (mchV m).2 = 0 := by
  have R := h.r
  have e1 : bdAt m.nx m.n = none := bdAt_none fun i hi => bad_no (R.st i hi).1 (R.st i hi).2
  have e2 : bdAt m.out m.o = none := bdAt_none fun i hi => bad_no (R.so i hi).1 (R.so i hi).2
  have e3 := enV_ok e1 e2
  unfold mchV
  rcases R.kd with hk | hk
  · rw [if_pos hk, szV_ok R.k0 R.k1 (by rw [h.od hk]; decide) (by rw [h.od hk]; decide) R.n0 R.n1 R.nx (by rw [R.outD hk]; omega), if_pos rfl, e3]
  · rw [if_neg (by omega), if_pos hk, szV_ok R.k0 R.k1 h.o0 h.o1 R.n0 R.n1 R.nx (R.outM hk), if_pos rfl, e3]
/-- A machine of some states, all ways among them, is one. -/
theorem full_pick {m : Mc} (h : Full m) {S : List Int} {f : Int → Int} (hl : S.length ≤ 1024) (hp : 0 < S.length) (hr : ∀ p, p < S.length → 0 ≤ S.getD p 0 ∧ S.getD p 0 < m.n) (hf : ∀ p, p < S.length → ∀ y : Nat, (y : Int) < m.k → 0 ≤ f (nxt m (S.getD p 0) y) ∧ f (nxt m (S.getD p 0) y) < S.length) : Full (pickV m S f) := by
  have R := h.r
  have k0 := R.k0
  have hpp := pp_le R
  have ln : ((nxR m f S).length : Int) = (S.length : Int) * m.k := by rw [nxR_len, Int.natCast_mul, Int.toNat_of_nonneg (by omega)]
  have lo : ((ouR m S).length : Int) = (S.length : Int) * (pp m : Int) := by rw [ouR_len, Int.natCast_mul]
  refine ⟨⟨R.kd, R.k0, R.k1, ?_, ?_, ln, fun hk => ?_, fun hk => ?_, fun j hj => ?_, fun j hj => ?_⟩, h.od, h.o0, h.o1⟩
  · show 1 ≤ (S.length : Int); omega
  · show (S.length : Int) ≤ 1024; omega
  · show ((ouR m S).length : Int) = (S.length : Int)
    have hk' : m.kind = 1 := hk
    rw [lo]; unfold pp; rw [if_pos hk']; omega
  · show ((ouR m S).length : Int) = (S.length : Int) * m.k
    have hk' : m.kind = 2 := hk
    rw [lo]; unfold pp; rw [if_neg (by omega), Int.toNat_of_nonneg (by omega)]
  · have hj' : j < S.length * m.k.toNat := by rw [← nxR_len m f S]; exact hj
    have hd : j / m.k.toNat < S.length := Nat.div_lt_of_lt_mul (by rw [Nat.mul_comm]; exact hj')
    have hm : j % m.k.toNat < m.k.toNat := Nat.mod_lt _ (by omega)
    have e : j = j / m.k.toNat * m.k.toNat + j % m.k.toNat := by rw [Nat.mul_comm]; exact (Nat.div_add_mod _ _).symm
    have h1 := hf _ hd (j % m.k.toNat) (by omega)
    show 0 ≤ (nxR m f S).getD j 0 ∧ (nxR m f S).getD j 0 < (S.length : Int)
    have h2 : (nxR m f S).getD j 0 = f (nxt m (S.getD (j / m.k.toNat) 0) ((j % m.k.toNat : Nat) : Int)) := by
      conv => lhs; rw [e]
      unfold nxR
      rw [flat_get (K := m.k.toNat) (fun s => rowN_len _ _ _ _) S _ _ hd hm, rowN_get _ _ _ hm]
    rw [h2]; exact h1
  · have hj' : j < S.length * pp m := by rw [← ouR_len m S]; exact hj
    have hd : j / pp m < S.length := Nat.div_lt_of_lt_mul (by rw [Nat.mul_comm]; exact hj')
    have hm : j % pp m < pp m := Nat.mod_lt _ (by omega)
    have e : j = j / pp m * pp m + j % pp m := by rw [Nat.mul_comm]; exact (Nat.div_add_mod _ _).symm
    have hr1 := hr _ hd
    obtain ⟨Q, q1, q2, q3, _⟩ := said_of R hr1.1 hr1.2
    show 0 ≤ (ouR m S).getD j 0 ∧ (ouR m S).getD j 0 < m.o
    have h2 : (ouR m S).getD j 0 = m.out.getD (Q + j % pp m) 0 := by
      conv => lhs; rw [e]
      unfold ouR
      rw [flat_get (K := pp m) (fun s => rowO_len _ _ _) S _ _ hd hm, rowO_get _ _ hm, q1]
      congr 1
    rw [h2]
    exact R.so _ (by omega)

/-- What can be come to is closed. -/
theorem rch_closed {m : Mc} (R : Right m) {s : Int} (hs : s ∈ (rchV m).1) {x : Nat} (hx : (x : Int) < m.k) : nxt m s x ∈ (rchV m).1 := by
  have I := rchV_inv R
  obtain ⟨p, hp, rfl⟩ := mem_gd hs
  obtain ⟨q, hq, e, _⟩ := I.cov p x (.inl ⟨hp, hx⟩) hp
  rw [← e]; exact gd_mem hq
theorem rch_len {m : Mc} (R : Right m) : (rchV m).1.length ≤ 1024 ∧ ((rchV m).1.length : Int) ≤ m.n := by
  have := (rchV_inv R).size R
  have := R.n1
  have := R.n0
  omega
theorem full_can {m : Mc} (h : Full m) : Full (canM m) := by
  have I := rchV_inv h.r
  refine full_pick h (rch_len h.r).1 I.ne I.rng fun p hp y hy => ?_
  have h1 := rch_closed h.r (gd_mem hp) hy
  have := List.idxOf_lt_length_iff.2 h1
  omega
theorem full_tur {m : Mc} (h : Full m) {p : List Int} (hp : IsP p m.n) : Full (turM m p) := by
  have R := h.r
  have n0 := R.n0
  have n1 := R.n1
  have hl := hp.1
  have i := ordP_inv hp
  have e := ordP_len p
  refine full_pick h (by omega) (by omega) (fun q hq => ?_) fun q hq y hy => ?_
  · have := i.rng q hq; omega
  · have hr := i.rng q hq
    have h1 := nxt_range R (s := (ordP p).getD q 0) (by omega) (by omega) hy
    have := List.idxOf_lt_length_iff.2 (ordP_idx hp h1.1 h1.2).2
    omega

end Go.Proofs.Ytlcablkhomnieaa

/-
  Canon says what the machine says, and is the same for all numberings: in plain words.
-/
namespace Go.Proofs.Ytlcablkhomnieaa
open Go.RowKit

theorem idx_get {S : List Int} {s : Int} (h : s ∈ S) : S.idxOf s < S.length ∧ S.getD (S.idxOf s) 0 = s := by
  have h1 := List.idxOf_lt_length_iff.2 h
  refine ⟨h1, ?_⟩
  rw [List.getD, List.getElem?_eq_getElem h1, Option.getD_some]; exact List.getElem_idxOf h1
theorem nxt_can {m : Mc} (R : Right m) {s : Int} (hs : s ∈ (rchV m).1) {x : Nat} (hx : (x : Int) < m.k) : nxt (canM m) (((rchV m).1.idxOf s : Nat) : Int) x = (((rchV m).1.idxOf (nxt m s x) : Nat) : Int) := by
  obtain ⟨h1, h2⟩ := idx_get hs
  unfold canM
  rw [nxt_pick R.k0 h1 hx, h2]

theorem goV_can {m : Mc} (R : Right m) : ∀ (w : List Int) (s : Int) (acc : List Int), s ∈ (rchV m).1 → (∀ x ∈ w, 0 ≤ x ∧ x < m.k) →
    goV (canM m) (((rchV m).1.idxOf s : Nat) : Int) w acc = ((((rchV m).1.idxOf (goV m s w acc).1 : Nat) : Int), (goV m s w acc).2)
  | [], s, acc, hs, _ => by
    obtain ⟨h1, h2⟩ := idx_get hs
    by_cases hk : m.kind = 1
    · have hpp : pp m = 1 := by unfold pp; rw [if_pos hk]
      have h3 := out_pick (m := m) (S := (rchV m).1) (f := fun t => (((rchV m).1.idxOf t : Nat) : Int)) (x := 0) h1 (by omega)
      rw [hpp, h2] at h3
      have e1 : (((((rchV m).1.idxOf s : Nat) : Int) * ((1 : Nat) : Int) + ((0 : Nat) : Int)).toNat) = ((((rchV m).1.idxOf s : Nat) : Int)).toNat := by omega
      have e2 : ((s * ((1 : Nat) : Int) + ((0 : Nat) : Int)).toNat) = s.toNat := by omega
      rw [e1, e2] at h3
      rw [goV_nil1 (m := m) hk, goV_nil1 (m := canM m) hk]
      show (_, [(canM m).out.getD _ 0]) = _
      rw [← h3]; rfl
    · rw [goV_nil2 (m := m) hk, goV_nil2 (m := canM m) hk]
  | x :: w, s, acc, hs, hw => by
    have hx := hw x (by simp)
    obtain ⟨y, rfl⟩ := Int.eq_ofNat_of_zero_le hx.1
    have hc := rch_closed R hs hx.2
    have hn := nxt_can R hs hx.2
    have hw' : ∀ z ∈ w, 0 ≤ z ∧ z < m.k := fun z hz => hw z (by simp [hz])
    have hn' : (canM m).nx.getD ((((rchV m).1.idxOf s : Nat) : Int) * (canM m).k + (y : Int)).toNat 0 = (((rchV m).1.idxOf (nxt m s y) : Nat) : Int) := hn
    simp only [goV]
    rw [hn']
    have hkk : (canM m).kind = m.kind := rfl
    rw [hkk]
    by_cases hk : m.kind = 2
    · have hpp : pp m = m.k.toNat := by unfold pp; rw [if_neg (by omega)]
      have k0 := R.k0
      have hkc : ((pp m : Nat) : Int) = m.k := by rw [hpp, Int.toNat_of_nonneg (by omega)]
      obtain ⟨h1, h2⟩ := idx_get hs
      have h3 := out_pick (m := m) (S := (rchV m).1) (f := fun t => (((rchV m).1.idxOf t : Nat) : Int)) (x := y) h1 (by omega)
      rw [hkc, h2] at h3
      have h3' : (canM m).out.getD ((((rchV m).1.idxOf s : Nat) : Int) * (canM m).k + (y : Int)).toNat 0 = m.out.getD (s * m.k + (y : Int)).toNat 0 := h3
      rw [if_pos hk, if_pos hk, h3']
      exact goV_can R w (nxt m s y) _ hc hw'
    · rw [if_neg hk, if_neg hk]
      exact goV_can R w (nxt m s y) _ hc hw'

theorem fromV_can {m : Mc} (h : (mchV m).2 = 0) (w : List Int) : (fromV (canM m) 0 w).2 = (fromV m 0 w).2 := by
  have F := full_of h
  have Fc := full_can F
  have hc := mch_full Fc
  have n0 := F.r.n0
  have n1 := Fc.r.n0
  by_cases hw : (wchV w m.k).2 = 0
  · rw [fromV_ok h (Int.le_refl _) (by omega) hw, fromV_ok hc (Int.le_refl _) (by omega) hw]
    have I := rchV_inv F.r
    have h0 : (0 : Int) ∈ (rchV m).1 := by have := gd_mem I.ne; rwa [I.s0] at this
    have i0 : (rchV m).1.idxOf 0 = 0 := by have := idx_at I.nd I.ne; rwa [I.s0] at this
    obtain ⟨_, _, _, hwd⟩ := word_of_chk hw
    have := goV_can F.r w 0 [] h0 fun x hx => by
      obtain ⟨p, hp, rfl⟩ := mem_gd hx
      exact hwd p hp
    rw [i0] at this
    show ((goV (canM m) (((0 : Nat) : Int)) w []).2, _) = _
    rw [this]
  · rw [fromV_word h (Int.le_refl _) (by omega) hw, fromV_word hc (Int.le_refl _) (by omega) hw]; rfl

/-- Fuel that is enough is enough. -/
theorem rch_more {m : Mc} (R : Right m) : ∀ (f g i x : Nat) (S : List Int) (V : List (List Int)), RInv m i x S V → need m i x ≤ f → need m i x ≤ g → rch m f i x S V = rch m g i x S V
  | 0, g, i, x, S, V, h, hf, hg => by
    have hs := h.size R
    have hi : ¬ i < S.length := fun hi => by
      by_cases hx : (x : Int) < m.k
      · obtain ⟨g, e, _⟩ := need_sym (by omega) hx hf
        omega
      · have := h.xl
        obtain ⟨g, e, _⟩ := need_row (by omega) (by omega) hf
        omega
    rw [rch_end hi, rch_end hi]
  | f + 1, g, i, x, S, V, h, hf, hg => by
    have hs := h.size R
    by_cases hi : i < S.length
    · by_cases hx : (x : Int) < m.k
      · obtain ⟨f', e, hf'⟩ := need_sym (by omega) hx hf
        obtain rfl : f' = f := by omega
        obtain ⟨g', rfl, hg'⟩ := need_sym (by omega) hx hg
        by_cases ht : nxt m (S.getD i 0) x ∈ S
        · rw [rch_old hi hx ht, rch_old hi hx ht]
          exact rch_more R _ _ _ _ _ _ (h.old hi hx ht) hf' hg'
        · rw [rch_new hi hx ht, rch_new hi hx ht]
          exact rch_more R _ _ _ _ _ _ (h.new R hi hx ht) hf' hg'
      · have := h.xl
        obtain ⟨f', e, hf'⟩ := need_row (by omega) (by omega) hf
        obtain rfl : f' = f := by omega
        obtain ⟨g', rfl, hg'⟩ := need_row (by omega) (by omega) hg
        rw [rch_row hi hx, rch_row hi hx]
        exact rch_more R _ _ _ _ _ _ (h.row hi hx R.k0) hf' hg'
    · rw [rch_end hi, rch_end hi]
theorem rchV_of {m : Mc} (R : Right m) {f : Nat} (hf : need m 0 0 ≤ f) : rchV m = rch m f 0 0 [0] [[]] := rch_more R _ _ _ _ _ _ (RInv.start R) (Nat.le_refl _) hf

theorem gd_map {S : List Int} {f : Int → Int} {i : Nat} (h : i < S.length) : (S.map f).getD i 0 = f (S.getD i 0) := by
  simp [List.getD, h]
/-- A machine by other numbers is gone through alike. -/
theorem rch_map {m m' : Mc} {f : Int → Int} {T : List Int} (hk : m'.k = m.k) (hT : ∀ s ∈ T, ∀ x : Nat, (x : Int) < m.k → nxt m s x ∈ T ∧ nxt m' (f s) x = f (nxt m s x)) (hf : ∀ s ∈ T, ∀ t ∈ T, f s = f t → s = t) :
    ∀ (F i x : Nat) (S : List Int) (V : List (List Int)), (∀ s ∈ S, s ∈ T) → rch m' F i x (S.map f) V = ((rch m F i x S V).1.map f, (rch m F i x S V).2)
  | 0, i, x, S, V, _ => rfl
  | F + 1, i, x, S, V, hS => by
    by_cases hi : i < S.length
    · have hi' : i < (S.map f).length := by rw [List.length_map]; exact hi
      by_cases hx : (x : Int) < m.k
      · have hx' : (x : Int) < m'.k := by rw [hk]; exact hx
        have hs := hS _ (gd_mem hi)
        obtain ⟨h1, h2⟩ := hT _ hs x hx
        have h3 : nxt m' ((S.map f).getD i 0) x = f (nxt m (S.getD i 0) x) := by rw [gd_map hi]; exact h2
        by_cases ht : nxt m (S.getD i 0) x ∈ S
        · rw [rch_old hi hx ht, rch_old hi' hx' (by rw [h3]; exact List.mem_map_of_mem ht)]
          exact rch_map hk hT hf F i (x + 1) S V hS
        · have ht' : ¬ nxt m' ((S.map f).getD i 0) x ∈ S.map f := by
            rw [h3, List.mem_map]
            rintro ⟨t, ht1, ht2⟩
            exact ht (hf _ (hS t ht1) _ h1 ht2 ▸ ht1)
          rw [rch_new hi hx ht, rch_new hi' hx' ht', h3]
          have := rch_map hk hT hf F i (x + 1) (S ++ [nxt m (S.getD i 0) x]) (V ++ [V.getD i [] ++ [(x : Int)]]) fun s hs2 => by
            rw [List.mem_append, List.mem_singleton] at hs2
            rcases hs2 with hs2 | rfl
            · exact hS s hs2
            · exact h1
          rw [List.map_append] at this
          exact this
      · rw [rch_row hi hx, rch_row hi' (by rw [hk]; exact hx)]
        exact rch_map hk hT hf F (i + 1) 0 S V hS
    · rw [rch_end hi, rch_end (by rw [List.length_map]; exact hi)]
theorem rchV_map {m m' : Mc} {f : Int → Int} (R : Right m) (R' : Right m') (hk : m'.k = m.k) (h0 : f 0 = 0) (hn : ∀ s ∈ (rchV m).1, ∀ x : Nat, (x : Int) < m.k → nxt m' (f s) x = f (nxt m s x)) (hf : ∀ s ∈ (rchV m).1, ∀ t ∈ (rchV m).1, f s = f t → s = t) :
    rchV m' = ((rchV m).1.map f, (rchV m).2) := by
  have I := rchV_inv R
  have h0m : (0 : Int) ∈ (rchV m).1 := by have := gd_mem I.ne; rwa [I.s0] at this
  have e1 := rchV_of R (f := max (need m 0 0) (need m' 0 0)) (Nat.le_max_left _ _)
  have e2 := rchV_of R' (f := max (need m 0 0) (need m' 0 0)) (Nat.le_max_right _ _)
  have := rch_map (T := (rchV m).1) hk (fun s hs x hx => ⟨rch_closed R hs hx, hn s hs x hx⟩) hf (max (need m 0 0) (need m' 0 0)) 0 0 [0] [[]] fun s hs => by
    rw [List.mem_singleton] at hs; rw [hs]; exact h0m
  rw [List.map_singleton, h0] at this
  rw [e2, this, ← e1]

theorem idx_map {f : Int → Int} : ∀ (S : List Int) (t : Int), t ∈ S → (∀ s ∈ S, f s = f t → s = t) → (S.map f).idxOf (f t) = S.idxOf t
  | [], t, h, _ => by simp at h
  | s :: S, t, h, hf => by
    by_cases e : s = t
    · subst e; simp
    · have e2 : f s ≠ f t := fun e3 => e (hf s (by simp) e3)
      have h' : t ∈ S := by rcases List.mem_cons.1 h with h | h; { exact absurd h.symm e }; exact h
      have := idx_map S t h' fun s hs => hf s (by simp [hs])
      simp only [List.map_cons, List.idxOf_cons]
      rw [beq_false_of_ne e, beq_false_of_ne e2]
      simp only [cond_false]
      rw [this]
/-- Numbers play no part. -/
theorem canM_ren {m m' : Mc} {f : Int → Int} (R : Right m) (R' : Right m') (hkd : m'.kind = m.kind) (hk : m'.k = m.k) (ho : m'.o = m.o) (h0 : f 0 = 0) (hn : ∀ s ∈ (rchV m).1, ∀ x : Nat, (x : Int) < m.k → nxt m' (f s) x = f (nxt m s x))
    (hO : ∀ s ∈ (rchV m).1, rowO m' (f s) (pp m') = rowO m s (pp m)) (hf : ∀ s ∈ (rchV m).1, ∀ t ∈ (rchV m).1, f s = f t → s = t) : canM m' = canM m := by
  have e := rchV_map R R' hk h0 hn hf
  have e1 : (rchV m').1 = (rchV m).1.map f := by rw [e]
  have hcl := fun s hs x hx => rch_closed R (s := s) hs (x := x) hx
  generalize hS : (rchV m).1 = S at *
  have N : nxR m' (fun t => ((S.map f).idxOf t : Nat)) (S.map f) = nxR m (fun t => (S.idxOf t : Nat)) S := by
    unfold nxR
    rw [List.flatMap_map]
    have hr : ∀ s ∈ S, rowN m' (fun t => ((S.map f).idxOf t : Nat)) (f s) m'.k.toNat = rowN m (fun t => (S.idxOf t : Nat)) s m.k.toNat := fun s hs => by
      rw [hk]
      unfold rowN
      apply List.map_congr_left
      intro y hy
      rw [List.mem_range] at hy
      have hy' : (y : Int) < m.k := by omega
      show (((S.map f).idxOf (nxt m' (f s) y) : Nat) : Int) = ((S.idxOf (nxt m s y) : Nat) : Int)
      rw [hn s hs y hy', idx_map S _ (hcl s hs y hy') fun t ht e => hf t ht _ (hcl s hs y hy') e]
    have hg : ∀ (L : List Int), (∀ s ∈ L, s ∈ S) → L.flatMap (fun s => rowN m' (fun t => ((S.map f).idxOf t : Nat)) (f s) m'.k.toNat) = L.flatMap (fun s => rowN m (fun t => (S.idxOf t : Nat)) s m.k.toNat) := fun L hL => by
      induction L with
      | nil => rfl
      | cons s L ih => rw [List.flatMap_cons, List.flatMap_cons, hr s (hL s (by simp)), ih fun t ht => hL t (by simp [ht])]
    exact hg S fun s hs => hs
  have O : ouR m' (S.map f) = ouR m S := by
    unfold ouR
    rw [List.flatMap_map]
    have hg : ∀ (L : List Int), (∀ s ∈ L, s ∈ S) → L.flatMap (fun s => rowO m' (f s) (pp m')) = L.flatMap (fun s => rowO m s (pp m)) := fun L hL => by
      induction L with
      | nil => rfl
      | cons s L ih => rw [List.flatMap_cons, List.flatMap_cons, hO s (hL s (by simp)), ih fun t ht => hL t (by simp [ht])]
    exact hg S fun s hs => hs
  unfold canM
  rw [e1, hS]
  unfold pickV
  rw [N, O, hkd, hk, ho, List.length_map]
theorem can_can {m : Mc} (F : Full m) : canM (canM m) = canM m := by
  have R := F.r
  have I := rchV_inv R
  refine canM_ren (f := fun t => ((rchV m).1.idxOf t : Nat)) R (full_can F).r rfl rfl rfl ?_ (fun s hs x hx => nxt_can R hs hx) (fun s hs => ?_) fun s hs t ht e => ?_
  · have := idx_at I.nd I.ne
    rw [I.s0] at this
    show (((rchV m).1.idxOf 0 : Nat) : Int) = 0
    rw [this]; rfl
  · obtain ⟨h1, h2⟩ := idx_get hs
    have := rowO_pick (m := m) (S := (rchV m).1) (f := fun t => (((rchV m).1.idxOf t : Nat) : Int)) h1
    rw [h2] at this
    exact this
  · have e2 : (rchV m).1.idxOf s = (rchV m).1.idxOf t := by
      have : (((rchV m).1.idxOf s : Nat) : Int) = (((rchV m).1.idxOf t : Nat) : Int) := e
      omega
    have h1 := (idx_get hs).2
    rw [e2, (idx_get ht).2] at h1
    exact h1.symm
theorem can_tur {m : Mc} (F : Full m) {p : List Int} (hp : IsP p m.n) : canM (turM m p) = canM m := by
  have R := F.r
  have I := rchV_inv R
  have n0 := R.n0
  have hrg : ∀ s ∈ (rchV m).1, 0 ≤ s ∧ s < m.n := fun s hs => by
    obtain ⟨q, hq, rfl⟩ := mem_gd hs
    exact I.rng q hq
  have hl := hp.1
  have hid : ∀ s ∈ (rchV m).1, ∃ i : Nat, p.getD s.toNat 0 = (i : Int) ∧ i < (ordP p).length ∧ (ordP p).getD i 0 = s := fun s hs => by
    have h1 := hrg s hs
    obtain ⟨h2, h3⟩ := ordP_idx hp h1.1 h1.2
    obtain ⟨h4, h5⟩ := idx_get h3
    exact ⟨_, h2.symm, h4, h5⟩
  refine canM_ren (f := fun t => p.getD t.toNat 0) R (full_tur F hp).r rfl rfl rfl hp.2.1 (fun s hs x hx => ?_) (fun s hs => ?_) fun s hs t ht e => ?_
  · obtain ⟨i, e1, h2, h3⟩ := hid s hs
    have h4 := nxt_range R (hrg s hs).1 (hrg s hs).2 hx
    show nxt (turM m p) (p.getD s.toNat 0) x = p.getD (nxt m s x).toNat 0
    rw [e1]
    unfold turM
    rw [nxt_pick R.k0 h2 hx, h3]
    exact (ordP_idx hp h4.1 h4.2).1
  · obtain ⟨i, e1, h2, h3⟩ := hid s hs
    have := rowO_pick (m := m) (S := ordP p) (f := fun t => (((ordP p).idxOf t : Nat) : Int)) h2
    rw [h3] at this
    show rowO (turM m p) (p.getD s.toNat 0) _ = _
    rw [e1]; exact this
  · have h1 := hrg s hs
    have h2 := hrg t ht
    have h3 := hp.inj (a := s.toNat) (b := t.toNat) (by omega) (by omega) e
    omega

end Go.Proofs.Ytlcablkhomnieaa

/-
  What Reach leaves, in plain words; slices of lists in memory of their own.
-/
namespace Go.Proofs.Ytlcablkhomnieaa
open Go.RowKit Go.Maps

/-- Reach, as the document has it: the states, the words, the error. -/
def rcV (m : Mc) : List Int × List (List Int) × Int := if (mchV m).2 ≠ 0 then ([], [], (mchV m).2) else ((rchV m).1, (rchV m).2, 0)
theorem rcV_err {m : Mc} (h : (mchV m).2 ≠ 0) : rcV m = ([], [], (mchV m).2) := by unfold rcV; rw [if_pos h]
theorem rcV_ok {m : Mc} (h : (mchV m).2 = 0) : rcV m = ((rchV m).1, (rchV m).2, 0) := by unfold rcV; rw [if_neg (by simp [h])]

/-- What Reach leaves. -/
def RcPost (m : Mc) (w : World) (e : Ending) (w' : World) : Prop :=
  ∃ v vv vs, e = .returned (.tuple #[v, vv, .int .i64 (rcV m).2.2]) ∧ OwnL .i64 3 w' w.heap.size v (rcV m).1 ∧ LLs w' w.heap.size vv vs (rcV m).2.1 ∧ (∀ b, v.ownBlock = some b → vv.ownBlock ≠ some b ∧ ∀ i, i < (rcV m).2.1.length → (vs i).ownBlock ≠ some b) ∧ Below w.heap.size w w'

end Go.Proofs.Ytlcablkhomnieaa

/-
  A row of Booleans of the call's own: which numbers are in a list; and what holds on the way of the reference's Reach.
-/
namespace Go.Proofs.Ytlcablkhomnieaa
open Go.RowKit

theorem rinv_len {m : Mc} {i x : Nat} {S : List Int} {V : List (List Int)} (h : RInv m i x S V) : ∀ p, p < S.length → (V.getD p []).length ≤ p
  | 0, _ => by rw [h.v0]; simp
  | p + 1, hp => by
    obtain ⟨j, y, hj, _, _, e⟩ := h.par (p + 1) (by omega) hp
    rw [e, List.length_append, List.length_singleton]
    have := rinv_len h j (by omega)
    omega
  termination_by p => p
/-- What holds on the way. -/
structure KInv (m : Mc) (w w1 wr : World) (vk vs vw : Value) (us : Nat → Value) (i x : Nat) (S : List Int) (V : List (List Int)) : Prop where
  kn : Kn wr w1.heap.size vk m.n.toNat S
  st : OwnL .i64 3 wr w1.heap.size vs S
  wd : LLs wr w1.heap.size vw us V
  ks : ∀ b, vk.ownBlock = some b → vs.ownBlock ≠ some b ∧ vw.ownBlock ≠ some b ∧ ∀ j, j < V.length → (us j).ownBlock ≠ some b
  sw : ∀ b, vs.ownBlock = some b → vw.ownBlock ≠ some b ∧ ∀ j, j < V.length → (us j).ownBlock ≠ some b
  inv : RInv m i x S V
  fuel : Fuel m i x S V
  b1 : Below w.heap.size w wr
  d1 : Below w1.heap.size w1 wr
  ww : w.heap.size ≤ w1.heap.size

theorem KInv.old {m : Mc} {w w1 wr : World} {vk vs vw : Value} {us : Nat → Value} {i x : Nat} {S : List Int} {V : List (List Int)} (R : Right m) (h : KInv m w w1 wr vk vs vw us i x S V) (hi : i < S.length) (hx : (x : Int) < m.k) (ht : nxt m (S.getD i 0) x ∈ S) (q : Nat) :
    KInv m w w1 (wr.drewN q) vk vs vw us i (x + 1) S V :=
  ⟨h.kn, h.st, h.wd.draws q, h.ks, h.sw, h.inv.old hi hx ht, h.fuel.old (h.inv.size R) hi hx ht, below_drewN h.b1 q, below_drewN h.d1 q, h.ww⟩
theorem KInv.row {m : Mc} {w w1 wr : World} {vk vs vw : Value} {us : Nat → Value} {i x : Nat} {S : List Int} {V : List (List Int)} (R : Right m) (h : KInv m w w1 wr vk vs vw us i x S V) (hi : i < S.length) (hx : (x : Int) = m.k) :
    KInv m w w1 wr vk vs vw us (i + 1) 0 S V :=
  ⟨h.kn, h.st, h.wd, h.ks, h.sw, h.inv.row hi (by omega) R.k0, h.fuel.row (h.inv.size R) hi hx, h.b1, h.d1, h.ww⟩

/-- A new state: known is written (wa), the state goes behind the states (wc), its word is made (we), and goes behind the words (wg). -/
theorem KInv.new {m : Mc} {w w1 wr : World} {vk vs vw : Value} {us : Nat → Value} {i x : Nat} {S : List Int} {V : List (List Int)} (R : Right m) (h : KInv m w w1 wr vk vs vw us i x S V) (hi : i < S.length) (hx : (x : Int) < m.k) {t : Nat} (et : nxt m (S.getD i 0) x = (t : Int)) (ht : ¬ (t : Int) ∈ S)
    {q gk ck : Nat} (ek : vk = .slice (some ⟨gk, 0, none⟩) m.n.toNat ck) {o1 : Obj} {wc : World} {vs' : Value} (hs : OwnL .i64 3 wc w1.heap.size vs' (S ++ [(t : Int)])) (hgs : (((wr.drewN q).setCell ⟨gk, t, none⟩ (.bool true)).alloc o1).grownBy wc vs.ownBlock) (hbs : Below w1.heap.size (((wr.drewN q).setCell ⟨gk, t, none⟩ (.bool true)).alloc o1) wc) (has : ∀ j, vs'.ownBlock = some j → vs.ownBlock = some j ∨ j = (((wr.drewN q).setCell ⟨gk, t, none⟩ (.bool true)).alloc o1).heap.size)
    {o2 : Obj} {we : World} {u : Value} (hu : OwnL .i64 3 we (wc.alloc o2).heap.size u (V.getD i [] ++ [(x : Int)])) (hbu : Below (wc.alloc o2).heap.size (wc.alloc o2) we)
    {o3 : Obj} {wg : World} {vw' : Value} (hw : OwnV wg w1.heap.size vw' (V.length + 1) (joinV V.length us fun _ => u)) (hgw : (we.alloc o3).grownBy wg vw.ownBlock) (haw : ∀ b, vw'.ownBlock = some b → vw.ownBlock = some b ∨ (we.alloc o3).heap.size ≤ b) :
    KInv m w w1 wg vk vs' vw' (joinV V.length us fun _ => u) i (x + 1) (S ++ [(t : Int)]) (V ++ [V.getD i [] ++ [(x : Int)]]) := by
  have zg : gk < wr.heap.size ∧ w1.heap.size ≤ gk := by have := h.kn.lt (b := gk) (by rw [ek]; rfl); omega
  have hvk : vk.ownBlock = some gk := by rw [ek]; rfl
  have zs : ∀ b, vs.ownBlock = some b → b < wr.heap.size := fun b e => (h.st.lt e).2
  have zw : ∀ b, vw.ownBlock = some b → b < wr.heap.size := fun b e => (h.wd.out.lt e).2
  have zu : ∀ j, j < V.length → ∀ b, (us j).ownBlock = some b → b < wr.heap.size := fun j hj b e => ((h.wd.fam.own j hj).lt e).2
  have z1 : wr.heap.size + 1 ≤ wc.heap.size := by have := hgs.size; simp at this; exact this
  have z2 : (wc.alloc o2).heap.size = wc.heap.size + 1 := by simp
  have z3 := hbu.size
  have z4 : we.heap.size + 1 ≤ wg.heap.size := by have := hgw.size; simp at this; exact this
  rw [z2] at z3 hu
  have zo : (((wr.drewN q).setCell ⟨gk, t, none⟩ (.bool true)).alloc o1).heap.size = wr.heap.size + 1 := by simp
  rw [zo] at has
  have zo3 : (we.alloc o3).heap.size = we.heap.size + 1 := by simp
  rw [zo3] at haw
  -- from the world where known is written on
  have A1 : ∀ j, j < wr.heap.size → vs.ownBlock ≠ some j → wc.heap[j]? = ((wr.drewN q).setCell ⟨gk, t, none⟩ (.bool true)).heap[j]? := fun j hj hne => by
    rw [hgs.block j (by rw [zo]; omega) (fun e => hne e.symm), Below.heap_alloc _ _ _ (by simp; omega)]
  have A2 : ∀ j, j < wc.heap.size → we.heap[j]? = wc.heap[j]? := fun j hj => by
    rw [hbu.block j (by rw [z2]; omega), Below.heap_alloc _ _ _ hj]
  have A3 : ∀ j, j < we.heap.size → vw.ownBlock ≠ some j → wg.heap[j]? = we.heap[j]? := fun j hj hne => by
    rw [hgw.block j (by rw [zo3]; omega) (fun e => hne e.symm), Below.heap_alloc _ _ _ hj]
  have A : ∀ j, j < wr.heap.size → vs.ownBlock ≠ some j → vw.ownBlock ≠ some j → wg.heap[j]? = ((wr.drewN q).setCell ⟨gk, t, none⟩ (.bool true)).heap[j]? := fun j hj h1 h2 => by
    rw [A3 j (by omega) h2, A2 j (by omega), A1 j hj h1]
  have K : ∀ j, j < wr.heap.size → j ≠ gk → vs.ownBlock ≠ some j → vw.ownBlock ≠ some j → wg.heap[j]? = wr.heap[j]? := fun j hj h0 h1 h2 => by
    rw [A j hj h1 h2, Below.heap_setCell _ _ _ _ (by simpa using h0)]; rfl
  have ks := h.ks gk hvk
  have hk2 : Kn wg w1.heap.size vk m.n.toNat (S ++ [(t : Int)]) := by
    have h2 : Kn (wr.drewN q) w1.heap.size (.slice (some ⟨gk, 0, none⟩) m.n.toNat ck) m.n.toNat S := ek ▸ h.kn
    have h3 := h2.store t
    rw [ek]
    refine h3.keep fun b e => ?_
    have : b = gk := by cases e; rfl
    subst this
    exact A b zg.1 ks.1 ks.2.1
  have hs' : ∀ b, vs'.ownBlock = some b → b < wc.heap.size := fun b e => (hs.lt e).2
  have hsw : ∀ b, vs'.ownBlock = some b → vw.ownBlock ≠ some b := fun b e e2 => by
    rcases has b e with e3 | e3
    · exact (h.sw b e3).1 e2
    · have := zw b e2; omega
  have hs2 : OwnL .i64 3 wg w1.heap.size vs' (S ++ [(t : Int)]) := hs.keep fun b e => by
    rw [A3 b (by have := hs' b e; omega) (hsw b e), A2 b (hs' b e)]
  have hu' : ∀ b, u.ownBlock = some b → wc.heap.size + 1 ≤ b ∧ b < we.heap.size := fun b e => by have := hu.lt e; omega
  have hu2 : OwnL .i64 3 wg (wc.heap.size + 1) u (V.getD i [] ++ [(x : Int)]) := hu.keep fun b e => A3 b (hu' b e).2 fun e2 => by have := zw b e2; have := hu' b e; omega
  have hd : Below w1.heap.size wr wg := by
    have e1 : Below w1.heap.size wr ((wr.drewN q).setCell ⟨gk, t, none⟩ (.bool true)) := (below_drewN (Below.refl _ wr) q).setCell (p := ⟨gk, t, none⟩) zg.2 _
    have e2 := (e1.alloc (by have := h.d1.size; simp; omega) o1).trans hbs
    have e3 := (e2.alloc (by have := h.d1.size; omega) o2).trans (hbu.mono (by rw [z2]; have := h.d1.size; omega))
    have e4 := e3.alloc (by have := h.d1.size; omega) o3
    exact e4.grown hgw (by rw [zo3]; have := h.d1.size; omega) fun k e => (h.wd.out.lt e).1
  have hlen := h.inv.len
  have hL : (V ++ [V.getD i [] ++ [(x : Int)]]).length = V.length + 1 := by simp
  have gV : ∀ j, j < V.length → (V ++ [V.getD i [] ++ [(x : Int)]]).getD j [] = V.getD j [] := fun j hj => gd_left [] hj
  have gE : (V ++ [V.getD i [] ++ [(x : Int)]]).getD V.length [] = V.getD i [] ++ [(x : Int)] := gd_mid _ _ _
  have jl : ∀ j, j < V.length → joinV V.length us (fun _ => u) j = us j := fun j hj => joinV_lt hj
  have je : joinV V.length us (fun _ => u) V.length = u := joinV_ge (Nat.le_refl _)
  have hz := h.d1.size
  have F2 : LLs wg w1.heap.size vw' (joinV V.length us fun _ => u) (V ++ [V.getD i [] ++ [(x : Int)]]) := by
    refine ⟨by rw [hL]; exact hw, ⟨fun j hj => ?_, fun j k hj hk hne b e e2 => ?_⟩, fun b e j hj e2 => ?_⟩
    · rw [hL] at hj
      by_cases c : j = V.length
      · subst c
        rw [je]
        unfold nsV
        have h9 := own_of_list (hu2.mono (B' := w1.heap.size) (by omega))
        have e5 : fsV (V ++ [V.getD i [] ++ [(x : Int)]]) V.length = fun j => (V.getD i [] ++ [(x : Int)]).getD j 0 := by
          funext j; unfold fsV; rw [gE]
        rw [gE, e5]
        exact h9
      · have hj' : j < V.length := by omega
        rw [jl j hj']
        have h9 := (h.wd.fam.own j hj').keep (w' := wg) fun b e => K b (zu j hj' b e) (fun e2 => (h.ks gk hvk).2.2 j hj' (e2 ▸ e)) (fun e2 => (h.sw b e2).2 j hj' e) (fun e2 => h.wd.ap b e2 j hj' e)
        have e5 : nsV (V ++ [V.getD i [] ++ [(x : Int)]]) j = nsV V j := by unfold nsV; rw [gV j hj']
        have e6 : fsV (V ++ [V.getD i [] ++ [(x : Int)]]) j = fsV V j := by funext y; unfold fsV; rw [gV j hj']
        rw [e5, e6]; exact h9
    · rw [hL] at hj hk
      by_cases c : j = V.length
      · subst c
        rw [je] at e
        rw [jl k (by omega)] at e2
        have := hu' b e
        have := zu k (by omega) b e2
        omega
      · rw [jl j (by omega)] at e
        by_cases c2 : k = V.length
        · subst c2
          rw [je] at e2
          have := hu' b e2
          have := zu j (by omega) b e
          omega
        · rw [jl k (by omega)] at e2
          exact h.wd.fam.apart j k (by omega) (by omega) hne b e e2
    · rw [hL] at hj
      by_cases c : j = V.length
      · subst c
        rw [je] at e2
        have := hu' b e2
        rcases haw b e with e3 | e3
        · have := zw b e3; omega
        · omega
      · rw [jl j (by omega)] at e2
        have := zu j (by omega) b e2
        rcases haw b e with e3 | e3
        · exact h.wd.ap b e3 j (by omega) e2
        · omega
  have hI : RInv m i (x + 1) (S ++ [(t : Int)]) (V ++ [V.getD i [] ++ [(x : Int)]]) := by
    have := h.inv.new R hi hx (by rw [et]; exact ht)
    rwa [et] at this
  have hF : Fuel m i (x + 1) (S ++ [(t : Int)]) (V ++ [V.getD i [] ++ [(x : Int)]]) := by
    have := h.fuel.new (h.inv.size R) hi hx (by rw [et]; exact ht)
    rwa [et] at this
  refine ⟨hk2, hs2, F2, fun b e => ⟨fun e2 => ?_, fun e2 => ?_, fun j hj e2 => ?_⟩, fun b e => ⟨fun e2 => ?_, fun j hj e2 => ?_⟩, hI, hF, h.b1.trans (hd.mono h.ww), h.d1.trans hd, h.ww⟩
  · have hb : b = gk := by rw [hvk] at e; cases e; rfl
    rcases has b e2 with e3 | e3
    · exact (h.ks b e).1 e3
    · omega
  · have hb : b = gk := by rw [hvk] at e; cases e; rfl
    rcases haw b e2 with e3 | e3
    · exact (h.ks b e).2.1 e3
    · omega
  · have hb : b = gk := by rw [hvk] at e; cases e; rfl
    rw [hL] at hj
    by_cases c : j = V.length
    · subst c
      rw [je] at e2
      have := hu' b e2; omega
    · rw [jl j (by omega)] at e2
      exact (h.ks b e).2.2 j (by omega) e2
  · rcases haw b e2 with e3 | e3
    · exact hsw b e e3
    · have := hs' b e; omega
  · rw [hL] at hj
    by_cases c : j = V.length
    · subst c
      rw [je] at e2
      have := hu' b e2
      have := hs' b e; omega
    · rw [jl j (by omega)] at e2
      have := zu j (by omega) b e2
      rcases has b e with e3 | e3
      · exact (h.sw b e3).2 j (by omega) e2
      · omega

end Go.Proofs.Ytlcablkhomnieaa
