/-
  No cell of these rows narrows 'for every input' (looked for: loops, veiled, ifaces, maps, wideKeys, modest, calm, conditions, laid).
  DERIVED. THE GIVEN ROWS OF THIS SEAT. 6 by the template 'for every input the law returns true; each argument reads behind the call as it read before'; 0 by the template 'total and deterministic' (their statements: YtdlcbjbcehpooaaTotals.lean).
  GIVEN WITH THE SEED: the statements are not yours to turn. If you find one false, say at which input.
  Laid BY PROGRAM, IN A SANDBOX (cutbox-rows.mjs): the forced cells as the released guide's own fill.sh prints them over the translation 9a5e67e0ebd9324b… (all of the seat's roots in one cut). By AI agents, Wed Nov 11 2026. No macro, syntax, notation, axiom, sorry.
-/
import Derived.Test.YtdlcbjbcehpooaaChecked
import GoSem.Claim
import GoSem.ClaimJoined
import GoSem.ClaimMapViews
import Derived.JoinedTies
import Derived.KernelRfl
namespace Go.Proofs.Ytdlcbjbcehpooaa
/- THE CELL 'sum', in the pinned program and in every row, IS THE sha256 OF THE DUMP (.gsa) THAT YtdlcbjbcehpooaaProg.lean LOADS. Nothing in Lean hashes anything: it is a label: what it is worth is what the hold of that sum in a sandbox is worth. -/
noncomputable def Try.pinned : Pinned := { name := "ytdlcbjbcehpooaa", sum := "9a5e67e0ebd9324b7f0527fdd3ad1d29733ebb430ca8b705c9aaa55df6b3f669", checked := Try.checked }
namespace Rows
def none {H : Type} : Left H := { results := [], args := [] }

/-- 'tutorlaw04.TrimReaches': WHATEVER THE INPUT: true; the input reads as it did. -/
def trimReachesSpec : ChangeSpec := { name := "trimReaches", fn := fun _ => fun
  | [d] => { results := [.lit (.bool true)], args := [d] }
  | _ => none }
def trimReachesRow : OpenClaim := { program := "ytdlcbjbcehpooaa", sum := "9a5e67e0ebd9324b7f0527fdd3ad1d29733ebb430ca8b705c9aaa55df6b3f669", func := "tutor/tutorlaw04.TrimReaches", spec := "trimReaches", apart := false }
def TrimReachesSaid : Prop := trimReachesRow.holds Try.pinned (OpenSpec.ofChange trimReachesSpec)

/-- ITS FALSE NEIGHBOUR: 'it returns false'. Refute it at one input. -/
def trimReachesWrong : ChangeSpec := { name := "trimReaches", fn := fun _ => fun
  | [d] => { results := [.lit (.bool false)], args := [d] }
  | _ => none }
def TrimReachesWrongFalsely : Prop := trimReachesRow.holds Try.pinned (OpenSpec.ofChange trimReachesWrong)

/-- 'tutorlaw04.TrimCanons': WHATEVER THE INPUT: true; the input reads as it did. -/
def trimCanonsSpec : ChangeSpec := { name := "trimCanons", fn := fun _ => fun
  | [d] => { results := [.lit (.bool true)], args := [d] }
  | _ => none }
def trimCanonsRow : OpenClaim := { program := "ytdlcbjbcehpooaa", sum := "9a5e67e0ebd9324b7f0527fdd3ad1d29733ebb430ca8b705c9aaa55df6b3f669", func := "tutor/tutorlaw04.TrimCanons", spec := "trimCanons", apart := false }
def TrimCanonsSaid : Prop := trimCanonsRow.holds Try.pinned (OpenSpec.ofChange trimCanonsSpec)

/-- ITS FALSE NEIGHBOUR: 'it returns false'. Refute it at one input. -/
def trimCanonsWrong : ChangeSpec := { name := "trimCanons", fn := fun _ => fun
  | [d] => { results := [.lit (.bool false)], args := [d] }
  | _ => none }
def TrimCanonsWrongFalsely : Prop := trimCanonsRow.holds Try.pinned (OpenSpec.ofChange trimCanonsWrong)

/-- 'tutorlaw04.TrimTurns': WHATEVER THE INPUT: true; the input reads as it did. -/
def trimTurnsSpec : ChangeSpec := { name := "trimTurns", fn := fun _ => fun
  | [d1, d2] => { results := [.lit (.bool true)], args := [d1, d2] }
  | _ => none }
def trimTurnsRow : OpenClaim := { program := "ytdlcbjbcehpooaa", sum := "9a5e67e0ebd9324b7f0527fdd3ad1d29733ebb430ca8b705c9aaa55df6b3f669", func := "tutor/tutorlaw04.TrimTurns", spec := "trimTurns", apart := false }
def TrimTurnsSaid : Prop := trimTurnsRow.holds Try.pinned (OpenSpec.ofChange trimTurnsSpec)

/-- ITS FALSE NEIGHBOUR: 'it returns false'. Refute it at one input. -/
def trimTurnsWrong : ChangeSpec := { name := "trimTurns", fn := fun _ => fun
  | [d1, d2] => { results := [.lit (.bool false)], args := [d1, d2] }
  | _ => none }
def TrimTurnsWrongFalsely : Prop := trimTurnsRow.holds Try.pinned (OpenSpec.ofChange trimTurnsWrong)

/-- 'tutorlaw04.TrimSame': WHATEVER THE INPUT: true; the input reads as it did. -/
def trimSameSpec : ChangeSpec := { name := "trimSame", fn := fun _ => fun
  | [d1, d2] => { results := [.lit (.bool true)], args := [d1, d2] }
  | _ => none }
def trimSameRow : OpenClaim := { program := "ytdlcbjbcehpooaa", sum := "9a5e67e0ebd9324b7f0527fdd3ad1d29733ebb430ca8b705c9aaa55df6b3f669", func := "tutor/tutorlaw04.TrimSame", spec := "trimSame", apart := false }
def TrimSameSaid : Prop := trimSameRow.holds Try.pinned (OpenSpec.ofChange trimSameSpec)

/-- ITS FALSE NEIGHBOUR: 'it returns false'. Refute it at one input. -/
def trimSameWrong : ChangeSpec := { name := "trimSame", fn := fun _ => fun
  | [d1, d2] => { results := [.lit (.bool false)], args := [d1, d2] }
  | _ => none }
def TrimSameWrongFalsely : Prop := trimSameRow.holds Try.pinned (OpenSpec.ofChange trimSameWrong)

/-- 'tutorlaw04.TrimAgain': WHATEVER THE INPUT: true; the input reads as it did. -/
def trimAgainSpec : ChangeSpec := { name := "trimAgain", fn := fun _ => fun
  | [d1, d2] => { results := [.lit (.bool true)], args := [d1, d2] }
  | _ => none }
def trimAgainRow : OpenClaim := { program := "ytdlcbjbcehpooaa", sum := "9a5e67e0ebd9324b7f0527fdd3ad1d29733ebb430ca8b705c9aaa55df6b3f669", func := "tutor/tutorlaw04.TrimAgain", spec := "trimAgain", apart := false }
def TrimAgainSaid : Prop := trimAgainRow.holds Try.pinned (OpenSpec.ofChange trimAgainSpec)

/-- ITS FALSE NEIGHBOUR: 'it returns false'. Refute it at one input. -/
def trimAgainWrong : ChangeSpec := { name := "trimAgain", fn := fun _ => fun
  | [d1, d2] => { results := [.lit (.bool false)], args := [d1, d2] }
  | _ => none }
def TrimAgainWrongFalsely : Prop := trimAgainRow.holds Try.pinned (OpenSpec.ofChange trimAgainWrong)

/-- 'tutorlaw04.TrimLeast': WHATEVER THE INPUT: true; the input reads as it did. -/
def trimLeastSpec : ChangeSpec := { name := "trimLeast", fn := fun _ => fun
  | [d1, d2] => { results := [.lit (.bool true)], args := [d1, d2] }
  | _ => none }
def trimLeastRow : OpenClaim := { program := "ytdlcbjbcehpooaa", sum := "9a5e67e0ebd9324b7f0527fdd3ad1d29733ebb430ca8b705c9aaa55df6b3f669", func := "tutor/tutorlaw04.TrimLeast", spec := "trimLeast", apart := false }
def TrimLeastSaid : Prop := trimLeastRow.holds Try.pinned (OpenSpec.ofChange trimLeastSpec)

/-- ITS FALSE NEIGHBOUR: 'it returns false'. Refute it at one input. -/
def trimLeastWrong : ChangeSpec := { name := "trimLeast", fn := fun _ => fun
  | [d1, d2] => { results := [.lit (.bool false)], args := [d1, d2] }
  | _ => none }
def TrimLeastWrongFalsely : Prop := trimLeastRow.holds Try.pinned (OpenSpec.ofChange trimLeastWrong)

/- THE SECOND FORM. 'bulk': how many values and letters a reading holds, each counted each time it is reached (what is shared counts as often as it is met; a slice's spare places count too). A statement '..UptoSaid' is the law's where the arguments, and the package variables that the reading takes, are together of bulk at most 1048576: NARROWER than '..Said'. Prove '..Said' where nothing that the law and all that it calls make is longer than what came in: it says more and counts as full. Else prove '..UptoSaid'. A law counts once. -/
mutual
def uptoBulk {H : Type} : DataW H → Nat
  | .lit (.string bytes) => bytes.length + 1
  | .lit _ => 1
  | .nil => 1
  | .ptr d => uptoBulk d + 1
  | .slice elems spare => uptoBulkAll elems + uptoBulkAll spare + 1
  | .agg parts => uptoBulkAll parts + 1
  | .iface _ d => uptoBulk d + 1
  | .map entries => uptoBulkEntries entries + 1
  | .held _ => 1
def uptoBulkAll {H : Type} : List (DataW H) → Nat
  | [] => 0
  | d :: r => uptoBulk d + uptoBulkAll r
def uptoBulkEntries {H : Type} : List (Lit × DataW H) → Nat
  | [] => 0
  | x :: r => uptoBulkEntry x + uptoBulkEntries r
def uptoBulkEntry {H : Type} : Lit × DataW H → Nat
  | (.string bytes, d) => bytes.length + uptoBulk d + 1
  | (_, d) => uptoBulk d + 1
 end
def uptoSmall : (H : Type) → List (DataW H) → Bool := fun _ ds => decide (uptoBulkAll ds ≤ 1048576)
def OpenSpec.upto (s : _root_.Go.ChangeSpec) : _root_.Go.OpenSpec := { _root_.Go.OpenSpec.ofChange s with cond := some uptoSmall }

/-- 'tutorlaw04.TrimReaches', WHERE WHAT IT READS IS OF BULK AT MOST 1048576: true; the input reads as it did. -/
def trimReachesUptoRow : OpenClaim := { program := "ytdlcbjbcehpooaa", sum := "9a5e67e0ebd9324b7f0527fdd3ad1d29733ebb430ca8b705c9aaa55df6b3f669", func := "tutor/tutorlaw04.TrimReaches", spec := "trimReaches", apart := false, narrowed := true }
def TrimReachesUptoSaid : Prop := trimReachesUptoRow.holds Try.pinned (OpenSpec.upto trimReachesSpec)

/-- 'tutorlaw04.TrimCanons', WHERE WHAT IT READS IS OF BULK AT MOST 1048576: true; the input reads as it did. -/
def trimCanonsUptoRow : OpenClaim := { program := "ytdlcbjbcehpooaa", sum := "9a5e67e0ebd9324b7f0527fdd3ad1d29733ebb430ca8b705c9aaa55df6b3f669", func := "tutor/tutorlaw04.TrimCanons", spec := "trimCanons", apart := false, narrowed := true }
def TrimCanonsUptoSaid : Prop := trimCanonsUptoRow.holds Try.pinned (OpenSpec.upto trimCanonsSpec)

/-- 'tutorlaw04.TrimTurns', WHERE WHAT IT READS IS OF BULK AT MOST 1048576: true; the input reads as it did. -/
def trimTurnsUptoRow : OpenClaim := { program := "ytdlcbjbcehpooaa", sum := "9a5e67e0ebd9324b7f0527fdd3ad1d29733ebb430ca8b705c9aaa55df6b3f669", func := "tutor/tutorlaw04.TrimTurns", spec := "trimTurns", apart := false, narrowed := true }
def TrimTurnsUptoSaid : Prop := trimTurnsUptoRow.holds Try.pinned (OpenSpec.upto trimTurnsSpec)

/-- 'tutorlaw04.TrimSame', WHERE WHAT IT READS IS OF BULK AT MOST 1048576: true; the input reads as it did. -/
def trimSameUptoRow : OpenClaim := { program := "ytdlcbjbcehpooaa", sum := "9a5e67e0ebd9324b7f0527fdd3ad1d29733ebb430ca8b705c9aaa55df6b3f669", func := "tutor/tutorlaw04.TrimSame", spec := "trimSame", apart := false, narrowed := true }
def TrimSameUptoSaid : Prop := trimSameUptoRow.holds Try.pinned (OpenSpec.upto trimSameSpec)

/-- 'tutorlaw04.TrimAgain', WHERE WHAT IT READS IS OF BULK AT MOST 1048576: true; the input reads as it did. -/
def trimAgainUptoRow : OpenClaim := { program := "ytdlcbjbcehpooaa", sum := "9a5e67e0ebd9324b7f0527fdd3ad1d29733ebb430ca8b705c9aaa55df6b3f669", func := "tutor/tutorlaw04.TrimAgain", spec := "trimAgain", apart := false, narrowed := true }
def TrimAgainUptoSaid : Prop := trimAgainUptoRow.holds Try.pinned (OpenSpec.upto trimAgainSpec)

/-- 'tutorlaw04.TrimLeast', WHERE WHAT IT READS IS OF BULK AT MOST 1048576: true; the input reads as it did. -/
def trimLeastUptoRow : OpenClaim := { program := "ytdlcbjbcehpooaa", sum := "9a5e67e0ebd9324b7f0527fdd3ad1d29733ebb430ca8b705c9aaa55df6b3f669", func := "tutor/tutorlaw04.TrimLeast", spec := "trimLeast", apart := false, narrowed := true }
def TrimLeastUptoSaid : Prop := trimLeastUptoRow.holds Try.pinned (OpenSpec.upto trimLeastSpec)

end Rows
end Go.Proofs.Ytdlcbjbcehpooaa
