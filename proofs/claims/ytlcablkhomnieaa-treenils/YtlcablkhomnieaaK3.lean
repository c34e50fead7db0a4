/-
  Some texts of this seat, one behind the other.
-/
import Derived.Test.YtlcablkhomnieaaK1
import Derived.Test.YtlcablkhomnieaaK2
/-
  What the program's Check of machines returns, and the functions that it calls, for every table.
-/
namespace Go.Proofs.Ytlcablkhomnieaa
open Go.RowKit

def witB (x lo hi : Int) : Bool := decide (lo ≤ x ∧ x ≤ hi)
theorem wit_yes {x lo hi : Int} (h1 : lo ≤ x) (h2 : x ≤ hi) : witB x lo hi = true := by unfold witB; simp [h1, h2]
theorem wit_no {x lo hi : Int} (h : x < lo ∨ hi < x) : witB x lo hi = false := by unfold witB; simp; omega

/-- A machine as a value: its table, and where its lists lie. -/
def mval (m : Mc) (a1 : Option Addr) (c1 : Nat) (a2 : Option Addr) (c2 : Nat) : Value :=
  .agg #[.int .i64 m.kind, .int .i64 m.k, .int .i64 m.o, .int .i64 m.n, .slice a1 m.nx.length c1, .slice a2 m.out.length c2]

/-- The block b holds the machine's six parts. -/
structure Box (w : World) (b : Nat) (m : Mc) (a1 : Option Addr) (c1 : Nat) (a2 : Option Addr) (c2 : Nat) : Prop where
  p0 : w.cell? ⟨b, 0, none⟩ = some (.int .i64 m.kind)
  p1 : w.cell? ⟨b, 1, none⟩ = some (.int .i64 m.k)
  p2 : w.cell? ⟨b, 2, none⟩ = some (.int .i64 m.o)
  p3 : w.cell? ⟨b, 3, none⟩ = some (.int .i64 m.n)
  p4 : w.cell? ⟨b, 4, none⟩ = some (.slice a1 m.nx.length c1)
  p5 : w.cell? ⟨b, 5, none⟩ = some (.slice a2 m.out.length c2)
theorem Box.alloc (w : World) (m : Mc) (a1 : Option Addr) (c1 : Nat) (a2 : Option Addr) (c2 : Nat) (t : TypeId) :
    Box (w.alloc (.cells #[.int .i64 m.kind, .int .i64 m.k, .int .i64 m.o, .int .i64 m.n, .slice a1 m.nx.length c1, .slice a2 m.out.length c2] t)) w.heap.size m a1 c1 a2 c2 := by
  constructor <;> simp
theorem Box.below {w w' : World} {b : Nat} {m : Mc} {a1 : Option Addr} {c1 : Nat} {a2 : Option Addr} {c2 : Nat} (h : Box w b m a1 c1 a2 c2) (hb : Below w.heap.size w w') : Box w' b m a1 c1 a2 c2 := by
  have hlt := World.block_lt_of_cell? w _ h.p0
  exact ⟨by rw [hb.cell (by exact hlt)]; exact h.p0, by rw [hb.cell (by exact hlt)]; exact h.p1, by rw [hb.cell (by exact hlt)]; exact h.p2, by rw [hb.cell (by exact hlt)]; exact h.p3, by rw [hb.cell (by exact hlt)]; exact h.p4, by rw [hb.cell (by exact hlt)]; exact h.p5⟩
theorem bstep {w w1 w2 : World} (h : Below w.heap.size w w1) (hb : Below w1.heap.size w1 w2) : Below w.heap.size w w2 := h.trans (hb.mono h.size)
theorem balloc {w w1 : World} (h : Below w.heap.size w w1) (o : Obj) : Below w.heap.size w (w1.alloc o) := h.alloc h.size o
theorem ballo (w : World) (o : Obj) : Below w.heap.size w (w.alloc o) := (Below.refl _ _).alloc (Nat.le_refl _) o

end Go.Proofs.Ytlcablkhomnieaa

/-
  What the program's Check of machines returns, for every table.
-/
namespace Go.Proofs.Ytlcablkhomnieaa
open Go.RowKit

theorem bdrew (w : World) (n : Nat) : Below w.heap.size w (w.drewN n) := below_drewN (Below.refl _ _) n
theorem ne_bne {x : Int} (h : x ≠ 0) : (x != 0) = true := by simpa using h
theorem mchV_d0 {m : Mc} (h : m.kind = 1) (hz : szV m 2 2 1 = 0) : mchV m = enV m := by unfold mchV; rw [if_pos h, if_pos hz]
theorem mchV_d1 {m : Mc} (h : m.kind = 1) (hz : szV m 2 2 1 ≠ 0) : mchV m = (0, szV m 2 2 1) := by unfold mchV; rw [if_pos h, if_neg hz]
theorem mchV_m0 {m : Mc} (h : m.kind = 2) (hz : szV m 1 64 m.k = 0) : mchV m = enV m := by unfold mchV; rw [if_neg (by omega), if_pos h, if_pos hz]
theorem mchV_m1 {m : Mc} (h : m.kind = 2) (hz : szV m 1 64 m.k ≠ 0) : mchV m = (0, szV m 1 64 m.k) := by unfold mchV; rw [if_neg (by omega), if_pos h, if_neg hz]
theorem mchV_no {m : Mc} (h : m.kind ≠ 1) (h2 : m.kind ≠ 2) : mchV m = (0, 30) := by unfold mchV; rw [if_neg h, if_neg h2]
end Go.Proofs.Ytlcablkhomnieaa
