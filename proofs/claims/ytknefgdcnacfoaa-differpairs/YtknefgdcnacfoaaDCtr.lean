/-
  What is asked of the program's functions of layer 7, of every input: the laws' walks lean on it.
-/
import Derived.Test.YtknefgdcnacfoaaK18
import Derived.Test.YtknefgdcnacfoaaLwB
namespace Go.Proofs.Ytknefgdcnacfoaa
open Go.RowKit

/-- A machine that can be read. -/
structure MA (w : World) (m : Mc) (a1 : Option Addr) (c1 : Nat) (a2 : Option Addr) (c2 : Nat) : Prop where
  r1 : RdL .i64 w a1 m.nx
  r2 : RdL .i64 w a2 m.out
  l1 : m.nx.length ≤ c1
  l2 : m.out.length ≤ c2
  b1 : m.nx.length ≤ 70000
  b2 : m.out.length ≤ 70000
  b3 : m.n ≤ 512
theorem MA.below {w w' : World} {m : Mc} {a1 : Option Addr} {c1 : Nat} {a2 : Option Addr} {c2 : Nat} (h : MA w m a1 c1 a2 c2) (hb : Below w.heap.size w w') : MA w' m a1 c1 a2 c2 := ⟨h.r1.below hb, h.r2.below hb, h.l1, h.l2, h.b1, h.b2, h.b3⟩
theorem MA.m1 {w : World} {m : Mc} {a1 : Option Addr} {c1 : Nat} {a2 : Option Addr} {c2 : Nat} (h : MA w m a1 c1 a2 c2) : m.nx.length ≤ maxLen := by have := h.b1; unfold maxLen; omega
theorem MA.m2 {w : World} {m : Mc} {a1 : Option Addr} {c1 : Nat} {a2 : Option Addr} {c2 : Nat} (h : MA w m a1 c1 a2 c2) : m.out.length ≤ maxLen := by have := h.b2; unfold maxLen; omega
/-- What Equal leaves. -/
def EqPost (a b : Mc) (o : Option (List Int)) (w : World) (e : Ending) (w' : World) : Prop :=
  e = .returned (.tuple #[.bool (decide (seE a b = 0) && !o.isSome), .int .i64 (seE a b)]) ∧ Below w.heap.size w w'

structure DCtr : Prop where
  sep : ∀ (a b : Mc) (a1 : Option Addr) (c1 : Nat) (a2 : Option Addr) (c2 : Nat) (d1 : Option Addr) (e1 : Nat) (d2 : Option Addr) (e2 : Nat) (w : World) (o : Option (List Int)), MA w a a1 c1 a2 c2 → MA w b d1 e1 d2 e2 → SeR a b o → Calls Try.prog 11 #[mval a a1 c1 a2 c2, mval b d1 e1 d2 e2] w fun e w' => SePost o (seE a b) w e w'
  eq : ∀ (a b : Mc) (a1 : Option Addr) (c1 : Nat) (a2 : Option Addr) (c2 : Nat) (d1 : Option Addr) (e1 : Nat) (d2 : Option Addr) (e2 : Nat) (w : World) (o : Option (List Int)), MA w a a1 c1 a2 c2 → MA w b d1 e1 d2 e2 → SeR a b o → Calls Try.prog 13 #[mval a a1 c1 a2 c2, mval b d1 e1 d2 e2] w fun e w' => EqPost a b o w e w'
  ap : ∀ (m : Mc) (a1 : Option Addr) (c1 : Nat) (a2 : Option Addr) (c2 : Nat) (s t : Int) (w : World) (o : Option (List Int)), MA w m a1 c1 a2 c2 → ApR m s t o → Calls Try.prog 17 #[mval m a1 c1 a2 c2, .int .i64 s, .int .i64 t] w fun e w' => SePost o (apE m s t) w e w'
def PrsC : Prop := ∀ (m : Mc) (a1 : Option Addr) (c1 : Nat) (a2 : Option Addr) (c2 : Nat) (w : World) (f : Nat → Nat → Option (List Int)), MA w m a1 c1 a2 c2 → PrF m f → Calls Try.prog 19 #[mval m a1 c1 a2 c2] w fun e w' => PrPost m f w e w'
end Go.Proofs.Ytknefgdcnacfoaa
