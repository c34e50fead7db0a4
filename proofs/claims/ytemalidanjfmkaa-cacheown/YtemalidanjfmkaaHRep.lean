/-
  The program's answers of layer 10: each kind a type behind an interface.
-/
import Derived.Test.YtemalidanjfmkaaK28
import Derived.Test.YtemalidanjfmkaaELine
namespace Go.Proofs.Ytemalidanjfmkaa
open Go.RowKit

/-- A type assertion to a struct's type: the value's own, another's, nil's. -/
theorem as_own {P : Program} {t xT : TypeId} {fs : Array Field} (hu : P.underlying t = some (.struct fs)) (v : Value) (w : World) : (Instr.typeAssert (.iface t v) xT t true).run P w = .ok (.tuple #[v, .bool true]) w := by
  simp [Instr.typeAssert, run_underlying hu]
theorem as_oth {P : Program} {t u xT : TypeId} {fs : Array Field} {z : Value} (hu : P.underlying u = some (.struct fs)) (hne : t ≠ u) (hz : (P.info? u).map (·.zero) = some (some z)) (v : Value) (w : World) : (Instr.typeAssert (.iface t v) xT u true).run P w = .ok (.tuple #[z, .bool false]) w := by
  obtain ⟨j, hj, hz'⟩ := Option.map_eq_some_iff.1 hz
  simp [Instr.typeAssert, run_underlying hu, hne, zeroValue, typeInfo, hj, hz']
theorem as_nil {P : Program} {u xT : TypeId} {fs : Array Field} {z : Value} (hu : P.underlying u = some (.struct fs)) (hz : (P.info? u).map (·.zero) = some (some z)) (w : World) : (Instr.typeAssert .nilIface xT u true).run P w = .ok (.tuple #[z, .bool false]) w := by
  obtain ⟨j, hj, hz'⟩ := Option.map_eq_some_iff.1 hz
  simp [Instr.typeAssert, run_underlying hu, zeroValue, typeInfo, hj, hz']
theorem as_ss (v : Value) (w : World) : (Instr.typeAssert (.iface 107 v) 104 107 true).run Try.prog w = .ok (.tuple #[v, .bool true]) w := as_own Try.underlying107 v w
theorem as_yy (v : Value) (w : World) : (Instr.typeAssert (.iface 110 v) 104 110 true).run Try.prog w = .ok (.tuple #[v, .bool true]) w := as_own Try.underlying110 v w
theorem as_nn (v : Value) (w : World) : (Instr.typeAssert (.iface 112 v) 104 112 true).run Try.prog w = .ok (.tuple #[v, .bool true]) w := as_own Try.underlying112 v w
theorem as_ys (v : Value) (w : World) : (Instr.typeAssert (.iface 110 v) 104 107 true).run Try.prog w = .ok (.tuple #[.agg #[.slice none 0 0], .bool false]) w := as_oth Try.underlying107 (by decide) (by kernel_rfl) v w
theorem as_ns (v : Value) (w : World) : (Instr.typeAssert (.iface 112 v) 104 107 true).run Try.prog w = .ok (.tuple #[.agg #[.slice none 0 0], .bool false]) w := as_oth Try.underlying107 (by decide) (by kernel_rfl) v w
theorem as_ny (v : Value) (w : World) : (Instr.typeAssert (.iface 112 v) 104 110 true).run Try.prog w = .ok (.tuple #[.agg #[], .bool false]) w := as_oth Try.underlying110 (by decide) (by kernel_rfl) v w
theorem as_0s (w : World) : (Instr.typeAssert .nilIface 104 107 true).run Try.prog w = .ok (.tuple #[.agg #[.slice none 0 0], .bool false]) w := as_nil Try.underlying107 (by kernel_rfl) w
theorem as_0y (w : World) : (Instr.typeAssert .nilIface 104 110 true).run Try.prog w = .ok (.tuple #[.agg #[], .bool false]) w := as_nil Try.underlying110 (by kernel_rfl) w
theorem as_0n (w : World) : (Instr.typeAssert .nilIface 104 112 true).run Try.prog w = .ok (.tuple #[.agg #[.slice none 0 0], .bool false]) w := as_nil Try.underlying112 (by kernel_rfl) w

/-- An answer by its kind: what replyOf makes of it. -/
def rpV (p : Pa) : Value :=
  if p.an.kind = 1 then .iface 107 (.agg #[.slice p.a1 p.an.out.length p.c1])
  else if p.an.kind = 2 then .iface 110 (.agg #[])
  else if p.an.kind = 3 then .iface 112 (.agg #[.slice p.a2 p.an.word.length p.c2])
  else .nilIface

set_option maxRecDepth 100000 in
set_option maxHeartbeats 2000000 in
theorem replyOf_any (p : Pa) (w : World) :
    Calls Try.prog 64 #[paV p] w fun e w' => e = .returned (rpV p) ∧ Below w.heap.size w w' := by
  have b0 := ballo w (.cells #[.int .i64 p.an.kind, .slice p.a1 p.an.out.length p.c1, .slice p.a2 p.an.word.length p.c2] 79)
  have HB := hide b0
  unfold paV
  clear b0
  by_cases h1 : p.an.kind = 1
  · have t1 : (p.an.kind == 1) = true := by simpa using h1
    have HE := hide (show rpV p = _ by unfold rpV; rw [if_pos h1])
    clear h1
    go_enter Try.func64, Try.ntmps64
    go_wp2
    go_ret
    exact ⟨by rw [unhide HE]; rfl, unhide HB⟩
  have t1 : (p.an.kind == 1) = false := by simpa using h1
  by_cases h2 : p.an.kind = 2
  · have t2 : (p.an.kind == 2) = true := by simpa using h2
    have HE := hide (show rpV p = _ by unfold rpV; rw [if_neg h1, if_pos h2])
    clear h1 h2
    go_enter Try.func64, Try.ntmps64
    go_wp2
    go_ret
    exact ⟨by rw [unhide HE]; rfl, unhide HB⟩
  have t2 : (p.an.kind == 2) = false := by simpa using h2
  by_cases h3 : p.an.kind = 3
  · have t3 : (p.an.kind == 3) = true := by simpa using h3
    have HE := hide (show rpV p = _ by unfold rpV; rw [if_neg h1, if_neg h2, if_pos h3])
    clear h1 h2 h3
    go_enter Try.func64, Try.ntmps64
    go_wp2
    go_ret
    exact ⟨by rw [unhide HE]; rfl, unhide HB⟩
  have t3 : (p.an.kind == 3) = false := by simpa using h3
  have HE := hide (show rpV p = _ by unfold rpV; rw [if_neg h1, if_neg h2, if_neg h3])
  clear h1 h2 h3
  go_enter Try.func64, Try.ntmps64
  go_wp2
  go_ret
  exact ⟨by rw [unhide HE]; rfl, unhide HB⟩

end Go.Proofs.Ytemalidanjfmkaa
