/-
  What a cache keeps, in plain words: the document's answer of layer 11.
-/
import Derived.Test.YtemalidanjfmkaaK28
namespace Go.Proofs.Ytemalidanjfmkaa

/-- What is kept: the words and what was said of them, all beginnings, how often was told. -/
structure Cs where
  kind : Int
  k : Int
  o : Int
  most : Int
  ws : List (List Int)
  os : List (List Int)
  bg : List (List Int)
  hits : Int
  miss : Int
/-- Is v a beginning of w? -/
def begV (w v : List Int) : Bool := decide (v.length ≤ w.length ∧ w.take v.length = v)
/-- The first entry that tells. (P11.2) -/
def fndL (kd : Int) (w : List Int) : List (List Int) → List (List Int) → Option (List Int)
  | x :: xs, y :: ys => if kd = 1 ∧ x = w then some y else if kd = 2 ∧ begV x w = true then some (y.take w.length) else fndL kd w xs ys
  | _, _ => none
def findV (c : Cs) (w : List Int) : Option (List Int) := if c.kind = 2 ∧ w.length = 0 then some [] else fndL c.kind w c.ws c.os
/-- New's error. (P11.1) -/
def newE (kind k o most : Int) : Int :=
  if kind ≠ 1 ∧ kind ≠ 2 then 30 else if k < 1 ∨ 64 < k then 1 else if (kind = 1 ∧ o ≠ 2) ∨ o < 1 ∨ 64 < o then 33 else if most < 1 ∨ 1048576 < most then 3 else 0
def newV (kind k o most : Int) : Cs := ⟨kind, k, o, most, [], [], [[]], 0, 0⟩
/-- Is otherwise kept of the beginning of so many symbols? -/
def clsA (c : Cs) (w out : List Int) (i : Nat) : Bool := match findV c (w.take i) with
  | some y => (decide (c.kind = 1) && decide (i = w.length) && !decide (y = out)) || (decide (c.kind = 2) && !decide (y = out.take i))
  | none => false
def clsV (c : Cs) (w out : List Int) : Bool := (List.range (w.length + 1)).any (clsA c w out)
/-- All beginnings, with those of w. -/
def frs (w : List Int) : Nat → List (List Int) → List (List Int)
  | 0, f => f
  | n + 1, f => (fun g => if w.take n ∈ g then g else g ++ [w.take n]) (frs w n f)
def frsV (c : Cs) (w : List Int) : List (List Int) := frs w (w.length + 1) c.bg
/-- Put. (P11.3) -/
def putV (c : Cs) (w out : List Int) : Cs × Int :=
  if wdE w c.k ≠ 0 then (c, wdE w c.k)
  else if chkA ⟨1, w, ⟨c.kind, c.k, c.o, 0, [], []⟩⟩ ⟨1, out, []⟩ ≠ 0 then (c, chkA ⟨1, w, ⟨c.kind, c.k, c.o, 0, [], []⟩⟩ ⟨1, out, []⟩)
  else if clsV c w out = true then (c, 111)
  else if c.most < ((frsV c w).length : Int) then (c, 110)
  else ({ c with ws := c.ws ++ [w], os := c.os ++ [out], bg := frsV c w }, 0)
theorem fndL_step {kd : Int} {w : List Int} {xs ys : List (List Int)} {i : Nat} (hx : i < xs.length) (hy : i < ys.length) : fndL kd w (xs.drop i) (ys.drop i) = if kd = 1 ∧ xs[i] = w then some ys[i] else if kd = 2 ∧ begV xs[i] w = true then some (ys[i].take w.length) else fndL kd w (xs.drop (i + 1)) (ys.drop (i + 1)) := by
  rw [List.drop_eq_getElem_cons hx, List.drop_eq_getElem_cons hy, fndL]
theorem fndL_end {kd : Int} {w : List Int} {xs ys : List (List Int)} {i : Nat} (h : ¬ i < xs.length) : fndL kd w (xs.drop i) (ys.drop i) = none := by
  rw [List.drop_eq_nil_of_le (by omega)]; rfl

end Go.Proofs.Ytemalidanjfmkaa
