/-
  What the program's Canon and Turn return, for every table and list.
-/
import Derived.Test.YtdnmabemollbeaaDoorTRen
import Derived.Test.YtdnmabemollbeaaDoorK7
namespace Go.Proofs.YtdnmabemollbeaaDoor
open Go.RowKit Go.Maps

/-- Canon, as the document has it: the machine and the error. -/
def cnV (m : Mc) : Mc × Int := if (mchV m).2 ≠ 0 then (mc0, (mchV m).2) else (canM m, 0)
theorem cnV_err {m : Mc} (h : (mchV m).2 ≠ 0) : cnV m = (mc0, (mchV m).2) := by unfold cnV; rw [if_pos h]
theorem cnV_ok {m : Mc} (h : (mchV m).2 = 0) : cnV m = (canM m, 0) := by unfold cnV; rw [if_neg (by simp [h])]

/-- What Canon and Turn leave. -/
def CPost (r : Mc × Int) (w : World) (e : Ending) (w' : World) : Prop :=
  ∃ a1 c1 a2 c2, e = .returned (.tuple #[mval r.1 a1 c1 a2 c2, .int .i64 r.2]) ∧ OwnL .i64 3 w' w.heap.size (.slice a1 r.1.nx.length c1) r.1.nx ∧ OwnL .i64 3 w' w.heap.size (.slice a2 r.1.out.length c2) r.1.out ∧ (∀ j, (Value.slice a1 r.1.nx.length c1).ownBlock = some j → (Value.slice a2 r.1.out.length c2).ownBlock ≠ some j) ∧ Below w.heap.size w w'

theorem zero_post (x : Int) {w w' : World} (h : Below w.heap.size w w') : CPost (mc0, x) w (.returned (.tuple #[mval mc0 none 0 none 0, .int .i64 x])) w' :=
  ⟨none, 0, none, 0, rfl, OwnL.nil _ _ _ _, OwnL.nil _ _ _ _, (fun j e => by cases e), h⟩

/-- The world in which block b's six cells were written. -/
def six (w : World) (b : Nat) (m : Mc) (d1 : Option Addr) (e1 : Nat) (d2 : Option Addr) (e2 : Nat) : World :=
  ((((((w.setCell ⟨b, 0, none⟩ (.int .i64 m.kind)).setCell ⟨b, 1, none⟩ (.int .i64 m.k)).setCell ⟨b, 2, none⟩ (.int .i64 m.o)).setCell ⟨b, 3, none⟩ (.int .i64 m.n)).setCell ⟨b, 4, none⟩ (.slice d1 m.nx.length e1)).setCell ⟨b, 5, none⟩ (.slice d2 m.out.length e2))
theorem six_heap (w : World) {b : Nat} (m : Mc) (d1 : Option Addr) (e1 : Nat) (d2 : Option Addr) (e2 : Nat) {j : Nat} (hj : j ≠ b) : (six w b m d1 e1 d2 e2).heap[j]? = w.heap[j]? := by
  unfold six
  rw [Below.heap_setCell _ _ _ _ (by simpa using hj), Below.heap_setCell _ _ _ _ (by simpa using hj), Below.heap_setCell _ _ _ _ (by simpa using hj), Below.heap_setCell _ _ _ _ (by simpa using hj), Below.heap_setCell _ _ _ _ (by simpa using hj), Below.heap_setCell _ _ _ _ (by simpa using hj)]
theorem six_below {w w1 : World} {B b : Nat} (h : Below B w w1) (hb : B ≤ b) (m : Mc) (d1 : Option Addr) (e1 : Nat) (d2 : Option Addr) (e2 : Nat) : Below B w (six w1 b m d1 e1 d2 e2) :=
  (((((h.setCell (p := ⟨b, 0, none⟩) hb _).setCell (p := ⟨b, 1, none⟩) hb _).setCell (p := ⟨b, 2, none⟩) hb _).setCell (p := ⟨b, 3, none⟩) hb _).setCell (p := ⟨b, 4, none⟩) hb _).setCell (p := ⟨b, 5, none⟩) hb _

end Go.Proofs.YtdnmabemollbeaaDoor
