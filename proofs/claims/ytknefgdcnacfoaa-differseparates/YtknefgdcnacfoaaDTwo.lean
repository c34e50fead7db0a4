/-
  Two machines copied in one statement: boxes that are made ahead of a call.
-/
import Derived.Test.YtknefgdcnacfoaaDCopy
import Derived.Test.YtknefgdcnacfoaaDCtr
import Derived.Test.YtknefgdcnacfoaaTCanon
import Derived.Test.YtknefgdcnacfoaaZFacts
namespace Go.Proofs.Ytknefgdcnacfoaa
open Go.RowKit

/-- What two copies leave, ahead of the stores. -/
structure T2 (w2 wl : World) (a b : Mc) (x y : Nat) (f1 : Option Addr) (g1 : Nat) (f2 : Option Addr) (g2 : Nat) (r1 : Option Addr) (s1 : Nat) (r2 : Option Addr) (s2 : Nat) : Prop where
  bl : Below w2.heap.size w2 wl
  zx : wl.heap[x]? = some zO
  zy : wl.heap[y]? = some zO
  ne : x ≠ y
  lx : w2.heap.size ≤ x
  ly : w2.heap.size ≤ y
  o1 : OwnL .i64 3 wl w2.heap.size (.slice f1 a.nx.length g1) a.nx
  o2 : OwnL .i64 3 wl w2.heap.size (.slice f2 a.out.length g2) a.out
  o3 : OwnL .i64 3 wl w2.heap.size (.slice r1 b.nx.length s1) b.nx
  o4 : OwnL .i64 3 wl w2.heap.size (.slice r2 b.out.length s2) b.out
  n1 : ∀ j, (Value.slice f1 a.nx.length g1).ownBlock = some j → j ≠ x ∧ j ≠ y
  n2 : ∀ j, (Value.slice f2 a.out.length g2).ownBlock = some j → j ≠ x ∧ j ≠ y
  n3 : ∀ j, (Value.slice r1 b.nx.length s1).ownBlock = some j → j ≠ x ∧ j ≠ y
  n4 : ∀ j, (Value.slice r2 b.out.length s2).ownBlock = some j → j ≠ x ∧ j ≠ y
theorem own_ma {w : World} {B : Nat} {m : Mc} {f1 : Option Addr} {g1 : Nat} {f2 : Option Addr} {g2 : Nat} (h1 : OwnL .i64 3 w B (.slice f1 m.nx.length g1) m.nx) (h2 : OwnL .i64 3 w B (.slice f2 m.out.length g2) m.out) (l1 : m.nx.length ≤ 70000) (l2 : m.out.length ≤ 70000) (l3 : m.n ≤ 512) : MA w m f1 g1 f2 g2 := by
  obtain ⟨_, _, e1, -, k1, -, r1, -⟩ := h1.shape
  cases e1
  obtain ⟨_, _, e2, -, k2, -, r2, -⟩ := h2.shape
  cases e2
  exact ⟨r1, r2, k1, k2, l1, l2, l3⟩
theorem T2.done {w2 wl : World} {a b : Mc} {x y : Nat} {f1 : Option Addr} {g1 : Nat} {f2 : Option Addr} {g2 : Nat} {r1 : Option Addr} {s1 : Nat} {r2 : Option Addr} {s2 : Nat} (h : T2 w2 wl a b x y f1 g1 f2 g2 r1 s1 r2 s2) (ln : a.nx.length ≤ 70000) (lo : a.out.length ≤ 70000) (kn : b.nx.length ≤ 70000) (ko : b.out.length ≤ 70000) (na : a.n ≤ 512) (nb : b.n ≤ 512) :
    Box (six (six wl x a f1 g1 f2 g2) y b r1 s1 r2 s2) x a f1 g1 f2 g2 ∧ Box (six (six wl x a f1 g1 f2 g2) y b r1 s1 r2 s2) y b r1 s1 r2 s2 ∧ MA (six (six wl x a f1 g1 f2 g2) y b r1 s1 r2 s2) a f1 g1 f2 g2 ∧ MA (six (six wl x a f1 g1 f2 g2) y b r1 s1 r2 s2) b r1 s1 r2 s2 ∧ Below w2.heap.size w2 (six (six wl x a f1 g1 f2 g2) y b r1 s1 r2 s2) := by
  have K : ∀ j, j ≠ x → j ≠ y → (six (six wl x a f1 g1 f2 g2) y b r1 s1 r2 s2).heap[j]? = wl.heap[j]? := fun j hx hy => by rw [six_heap _ _ _ _ _ _ hy, six_heap _ _ _ _ _ _ hx]
  have Bx : Box (six wl x a f1 g1 f2 g2) x a f1 g1 f2 g2 := (zbox h.zx).six a f1 g1 f2 g2
  have zy : (six wl x a f1 g1 f2 g2).heap[y]? = some zO := (six_heap _ _ _ _ _ _ h.ne.symm).trans h.zy
  have By : Box (six (six wl x a f1 g1 f2 g2) y b r1 s1 r2 s2) y b r1 s1 r2 s2 := (zbox zy).six b r1 s1 r2 s2
  refine ⟨Bx.keep (six_heap _ _ _ _ _ _ h.ne), By, own_ma (h.o1.keep fun j e => K j (h.n1 j e).1 (h.n1 j e).2) (h.o2.keep fun j e => K j (h.n2 j e).1 (h.n2 j e).2) ln lo na, own_ma (h.o3.keep fun j e => K j (h.n3 j e).1 (h.n3 j e).2) (h.o4.keep fun j e => K j (h.n4 j e).1 (h.n4 j e).2) kn ko nb, six_below (six_below h.bl h.lx _ _ _ _ _) h.ly _ _ _ _ _⟩
end Go.Proofs.Ytknefgdcnacfoaa
