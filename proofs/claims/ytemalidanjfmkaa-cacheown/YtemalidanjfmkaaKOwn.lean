/-
  The law CacheOwn, walked: it returns true, whatever comes in.
-/
import Derived.Test.YtemalidanjfmkaaNLive
import Derived.Test.YtemalidanjfmkaaKOwnM
import Derived.Test.YtemalidanjfmkaaK5
namespace Go.Proofs.Ytemalidanjfmkaa
open Go.RowKit

theorem told_get {c : Cs} {u y : List Int} (H : Int) (h : findV c u = some y) : getV { c with hits := H } u = { c with hits := H + 1 } := by
  have e : findV { c with hits := H } u = some y := h
  unfold getV; rw [e]
theorem told_find {c : Cs} {u y : List Int} (H : Int) (h : findV c u = some y) : findV { c with hits := H } u = some y := h
theorem Bx.more {X : Nat → Prop} {a b c : World} (h : Bx X a b) (k : Below a.heap.size b c) : Bx X a c :=
  ⟨k.os.trans h.os, k.tape.trans h.tape, k.output.trans h.output, Nat.le_trans h.size k.size, fun j hj hx => (k.block j hj).trans (h.block j hj hx)⟩
theorem Wds.hits {c : Cs} {L : List (List Int)} (H : Int) (h : Wds c L) : Wds { c with hits := H } L := h.like rfl rfl rfl rfl

end Go.Proofs.Ytemalidanjfmkaa
