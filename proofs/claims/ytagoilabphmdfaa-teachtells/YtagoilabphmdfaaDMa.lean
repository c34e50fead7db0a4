/-
  A machine that can be read.
-/
import Derived.Test.YtagoilabphmdfaaK17
import Derived.Test.YtagoilabphmdfaaLwB
namespace Go.Proofs.Ytagoilabphmdfaa
open Go.RowKit

/-- A machine that can be read. -/
structure MA (w : World) (m : Mc) (a1 : Option Addr) (c1 : Nat) (a2 : Option Addr) (c2 : Nat) : Prop where
  r1 : RdL .i64 w a1 m.nx
  r2 : RdL .i64 w a2 m.out
  l1 : m.nx.length ≤ c1
  l2 : m.out.length ≤ c2
  b1 : m.nx.length ≤ 70000
  b2 : m.out.length ≤ 70000
  b3 : m.n ≤ 512
theorem MA.below {w w' : World} {m : Mc} {a1 : Option Addr} {c1 : Nat} {a2 : Option Addr} {c2 : Nat} (h : MA w m a1 c1 a2 c2) (hb : Below w.heap.size w w') : MA w' m a1 c1 a2 c2 := ⟨h.r1.below hb, h.r2.below hb, h.l1, h.l2, h.b1, h.b2, h.b3⟩
theorem MA.m1 {w : World} {m : Mc} {a1 : Option Addr} {c1 : Nat} {a2 : Option Addr} {c2 : Nat} (h : MA w m a1 c1 a2 c2) : m.nx.length ≤ maxLen := by have := h.b1; unfold maxLen; omega
theorem MA.m2 {w : World} {m : Mc} {a1 : Option Addr} {c1 : Nat} {a2 : Option Addr} {c2 : Nat} (h : MA w m a1 c1 a2 c2) : m.out.length ≤ maxLen := by have := h.b2; unfold maxLen; omega
end Go.Proofs.Ytagoilabphmdfaa
