/-
  The reference's line of layer 10: the answer at a place of a text.
-/
import Derived.Test.YtlcablkhomnieaaK28
import Derived.Test.YtlcablkhomnieaaK1
import Derived.Test.YtlcablkhomnieaaTNum
namespace Go.Proofs.Ytlcablkhomnieaa
open Go.RowKit

/-- The numbers of a line from a place on: the list, the place behind it; or the place and the error. -/
def nmsV (kd : Int) (b : List UInt8) : Nat → List Int → Nat → List Int × Int × Int
  | 0, l, i => (l, (i : Int), 0)
  | f + 1, l, i =>
    if i < b.length ∧ bt8 b i ≠ 10 then
      if kd = 2 ∨ bt8 b i ≠ 32 then ([], (i : Int), 6)
      else if l.length = 4096 then ([], (i : Int), 2)
      else if (numV b (i + 1)).2.2 ≠ 0 then ([], ((numV b (i + 1)).2.1 : Int), (numV b (i + 1)).2.2)
      else nmsV kd b f (l ++ [((numV b (i + 1)).1 : Int)]) (numV b (i + 1)).2.1
    else (l, (i : Int), 0)
/-- The kind that a byte says. -/
def kdB (z : Int) : Int := if z = 110 then 3 else if z = 121 then 2 else if z = 111 then 1 else 0
/-- What a line's numbers make. -/
def mkL (kd : Int) (n : Nat) (r : List Int × Int × Int) : An × Int × Int :=
  if r.2.2 ≠ 0 then (an0, r.2.1, r.2.2)
  else if (n : Int) ≤ r.2.1 then (an0, (n : Int), 6)
  else (⟨kd, if kd = 1 then r.1 else [], if kd = 1 then [] else r.1⟩, r.2.1 + 1, 0)
def lineV (b : List UInt8) (x : Nat) : An × Int × Int :=
  if kdB (bt8 b x) = 0 then (an0, (x : Int), 6) else mkL (kdB (bt8 b x)) b.length (nmsV (kdB (bt8 b x)) b b.length [] (x + 1))
theorem nmsV_end {kd : Int} {b : List UInt8} {f : Nat} {l : List Int} {i : Nat} (h : ¬ (i < b.length ∧ bt8 b i ≠ 10)) : nmsV kd b f l i = (l, (i : Int), 0) := by
  cases f
  · rfl
  · unfold nmsV; rw [if_neg h]
theorem nmsV_form {kd : Int} {b : List UInt8} {f : Nat} {l : List Int} {i : Nat} (hf : b.length ≤ i + f) (h1 : i < b.length) (h2 : bt8 b i ≠ 10) (h3 : kd = 2 ∨ bt8 b i ≠ 32) : nmsV kd b f l i = ([], (i : Int), 6) := by
  cases f
  · omega
  · unfold nmsV; rw [if_pos ⟨h1, h2⟩, if_pos h3]
theorem nmsV_long {kd : Int} {b : List UInt8} {f : Nat} {l : List Int} {i : Nat} (hf : b.length ≤ i + f) (h1 : i < b.length) (h2 : bt8 b i = 32) (h3 : kd ≠ 2) (h4 : l.length = 4096) : nmsV kd b f l i = ([], (i : Int), 2) := by
  cases f
  · omega
  · unfold nmsV; rw [if_pos ⟨h1, by omega⟩, if_neg (by omega), if_pos h4]
theorem nmsV_num {kd : Int} {b : List UInt8} {f : Nat} {l : List Int} {i : Nat} (hf : b.length ≤ i + f) (h1 : i < b.length) (h2 : bt8 b i = 32) (h3 : kd ≠ 2) (h4 : l.length ≠ 4096) (h5 : (numV b (i + 1)).2.2 ≠ 0) : nmsV kd b f l i = ([], ((numV b (i + 1)).2.1 : Int), (numV b (i + 1)).2.2) := by
  cases f
  · omega
  · unfold nmsV; rw [if_pos ⟨h1, by omega⟩, if_neg (by omega), if_neg h4, if_pos h5]
theorem nmsV_step {kd : Int} {b : List UInt8} {f : Nat} {l : List Int} {i : Nat} (hf : b.length ≤ i + f) (h1 : i < b.length) (h2 : bt8 b i = 32) (h3 : kd ≠ 2) (h4 : l.length ≠ 4096) (h5 : (numV b (i + 1)).2.2 = 0) : ∃ g, f = g + 1 ∧ nmsV kd b f l i = nmsV kd b g (l ++ [((numV b (i + 1)).1 : Int)]) (numV b (i + 1)).2.1 := by
  cases f
  · omega
  · refine ⟨_, rfl, ?_⟩
    rw [nmsV, if_pos ⟨h1, by omega⟩, if_neg (by omega), if_neg h4, if_neg (by rw [h5]; simp)]

def LnPost (w : World) (r : An × Int × Int) (e : Ending) (w' : World) : Prop :=
  ∃ vo vw, e = .returned (.tuple #[.agg #[.int .i64 r.1.kind, vo, vw], .int .i64 r.2.1, .int .i64 r.2.2]) ∧ OwnL .i64 3 w' w.heap.size vo r.1.out ∧ OwnL .i64 3 w' w.heap.size vw r.1.word ∧ Below w.heap.size w w'
theorem line_kd {b : List UInt8} {x : Nat} {kd : Int} (h : kdB (bt8 b x) = kd) (h0 : kd ≠ 0) : lineV b x = mkL kd b.length (nmsV kd b b.length [] (x + 1)) := by
  unfold lineV; rw [h, if_neg h0]
theorem mkL_bad {kd : Int} {n : Nat} {i e : Int} (h : e ≠ 0) : mkL kd n ([], i, e) = (an0, i, e) := by unfold mkL; rw [if_pos h]
theorem mkL_end {kd : Int} {n : Nat} {l : List Int} : mkL kd n (l, (n : Int), 0) = (an0, (n : Int), 6) := by unfold mkL; rw [if_neg (by simp), if_pos (Int.le_refl _)]
theorem mkL_ok {kd : Int} {n i : Nat} {l : List Int} (h : i < n) : mkL kd n (l, (i : Int), 0) = (⟨kd, if kd = 1 then l else [], if kd = 1 then [] else l⟩, (i : Int) + 1, 0) := by
  unfold mkL; rw [if_neg (by simp), if_neg (by simp only; omega)]

end Go.Proofs.Ytlcablkhomnieaa
