/-
  No cell of these rows narrows 'for every input' (looked for: loops, veiled, ifaces, maps, wideKeys, modest, calm, conditions, laid).
  DERIVED. THE GIVEN ROWS OF THIS SEAT. 6 by the template 'for every input the law returns true; each argument reads behind the call as it read before'; 0 by the template 'total and deterministic' (their statements: YtoiogggibfmncaaTotals.lean).
  GIVEN WITH THE SEED: the statements are not yours to turn. If you find one false, say at which input.
  Laid BY PROGRAM, IN A SANDBOX (cutbox-rows.mjs): the forced cells as the released guide's own fill.sh prints them over the translation 05cd87f094f1c3ea… (all of the seat's roots in one cut). By AI agents, Wed Nov 11 2026. No macro, syntax, notation, axiom, sorry.
-/
import Derived.Test.YtoiogggibfmncaaChecked
import GoSem.Claim
import GoSem.ClaimJoined
import GoSem.ClaimMapViews
import Derived.JoinedTies
import Derived.KernelRfl
namespace Go.Proofs.Ytoiogggibfmncaa
/- THE CELL 'sum', in the pinned program and in every row, IS THE sha256 OF THE DUMP (.gsa) THAT YtoiogggibfmncaaProg.lean LOADS. Nothing in Lean hashes anything: it is a label: what it is worth is what the hold of that sum in a sandbox is worth. -/
noncomputable def Try.pinned : Pinned := { name := "ytoiogggibfmncaa", sum := "05cd87f094f1c3ea377e61578ea0ed57eeb4a02ec15ac3eac09f1f81a74cf3a0", checked := Try.checked }
namespace Rows
def none {H : Type} : Left H := { results := [], args := [] }

/-- 'tutorlaw05.MooreAfters': WHATEVER THE INPUT: true; the input reads as it did. -/
def mooreAftersSpec : ChangeSpec := { name := "mooreAfters", fn := fun _ => fun
  | [d1, d2] => { results := [.lit (.bool true)], args := [d1, d2] }
  | _ => none }
def mooreAftersRow : OpenClaim := { program := "ytoiogggibfmncaa", sum := "05cd87f094f1c3ea377e61578ea0ed57eeb4a02ec15ac3eac09f1f81a74cf3a0", func := "tutor/tutorlaw05.MooreAfters", spec := "mooreAfters", plainKeys := false, apart := false }
def MooreAftersSaid : Prop := mooreAftersRow.holds Try.pinned (OpenSpec.ofChange mooreAftersSpec)

/-- ITS FALSE NEIGHBOUR: 'it returns false'. Refute it at one input. -/
def mooreAftersWrong : ChangeSpec := { name := "mooreAfters", fn := fun _ => fun
  | [d1, d2] => { results := [.lit (.bool false)], args := [d1, d2] }
  | _ => none }
def MooreAftersWrongFalsely : Prop := mooreAftersRow.holds Try.pinned (OpenSpec.ofChange mooreAftersWrong)

/-- 'tutorlaw05.MooreClasses': WHATEVER THE INPUT: true; the input reads as it did. -/
def mooreClassesSpec : ChangeSpec := { name := "mooreClasses", fn := fun _ => fun
  | [d] => { results := [.lit (.bool true)], args := [d] }
  | _ => none }
def mooreClassesRow : OpenClaim := { program := "ytoiogggibfmncaa", sum := "05cd87f094f1c3ea377e61578ea0ed57eeb4a02ec15ac3eac09f1f81a74cf3a0", func := "tutor/tutorlaw05.MooreClasses", spec := "mooreClasses", plainKeys := false, apart := false }
def MooreClassesSaid : Prop := mooreClassesRow.holds Try.pinned (OpenSpec.ofChange mooreClassesSpec)

/-- ITS FALSE NEIGHBOUR: 'it returns false'. Refute it at one input. -/
def mooreClassesWrong : ChangeSpec := { name := "mooreClasses", fn := fun _ => fun
  | [d] => { results := [.lit (.bool false)], args := [d] }
  | _ => none }
def MooreClassesWrongFalsely : Prop := mooreClassesRow.holds Try.pinned (OpenSpec.ofChange mooreClassesWrong)

/-- 'tutorlaw05.MooreMinimises': WHATEVER THE INPUT: true; the input reads as it did. -/
def mooreMinimisesSpec : ChangeSpec := { name := "mooreMinimises", fn := fun _ => fun
  | [d] => { results := [.lit (.bool true)], args := [d] }
  | _ => none }
def mooreMinimisesRow : OpenClaim := { program := "ytoiogggibfmncaa", sum := "05cd87f094f1c3ea377e61578ea0ed57eeb4a02ec15ac3eac09f1f81a74cf3a0", func := "tutor/tutorlaw05.MooreMinimises", spec := "mooreMinimises", plainKeys := false, apart := false }
def MooreMinimisesSaid : Prop := mooreMinimisesRow.holds Try.pinned (OpenSpec.ofChange mooreMinimisesSpec)

/-- ITS FALSE NEIGHBOUR: 'it returns false'. Refute it at one input. -/
def mooreMinimisesWrong : ChangeSpec := { name := "mooreMinimises", fn := fun _ => fun
  | [d] => { results := [.lit (.bool false)], args := [d] }
  | _ => none }
def MooreMinimisesWrongFalsely : Prop := mooreMinimisesRow.holds Try.pinned (OpenSpec.ofChange mooreMinimisesWrong)

/-- 'tutorlaw05.MooreSame': WHATEVER THE INPUT: true; the input reads as it did. -/
def mooreSameSpec : ChangeSpec := { name := "mooreSame", fn := fun _ => fun
  | [d1, d2] => { results := [.lit (.bool true)], args := [d1, d2] }
  | _ => none }
def mooreSameRow : OpenClaim := { program := "ytoiogggibfmncaa", sum := "05cd87f094f1c3ea377e61578ea0ed57eeb4a02ec15ac3eac09f1f81a74cf3a0", func := "tutor/tutorlaw05.MooreSame", spec := "mooreSame", plainKeys := false, apart := false }
def MooreSameSaid : Prop := mooreSameRow.holds Try.pinned (OpenSpec.ofChange mooreSameSpec)

/-- ITS FALSE NEIGHBOUR: 'it returns false'. Refute it at one input. -/
def mooreSameWrong : ChangeSpec := { name := "mooreSame", fn := fun _ => fun
  | [d1, d2] => { results := [.lit (.bool false)], args := [d1, d2] }
  | _ => none }
def MooreSameWrongFalsely : Prop := mooreSameRow.holds Try.pinned (OpenSpec.ofChange mooreSameWrong)

/-- 'tutorlaw05.MooreOne': WHATEVER THE INPUT: true; the input reads as it did. -/
def mooreOneSpec : ChangeSpec := { name := "mooreOne", fn := fun _ => fun
  | [d1, d2] => { results := [.lit (.bool true)], args := [d1, d2] }
  | _ => none }
def mooreOneRow : OpenClaim := { program := "ytoiogggibfmncaa", sum := "05cd87f094f1c3ea377e61578ea0ed57eeb4a02ec15ac3eac09f1f81a74cf3a0", func := "tutor/tutorlaw05.MooreOne", spec := "mooreOne", plainKeys := false, apart := false }
def MooreOneSaid : Prop := mooreOneRow.holds Try.pinned (OpenSpec.ofChange mooreOneSpec)

/-- ITS FALSE NEIGHBOUR: 'it returns false'. Refute it at one input. -/
def mooreOneWrong : ChangeSpec := { name := "mooreOne", fn := fun _ => fun
  | [d1, d2] => { results := [.lit (.bool false)], args := [d1, d2] }
  | _ => none }
def MooreOneWrongFalsely : Prop := mooreOneRow.holds Try.pinned (OpenSpec.ofChange mooreOneWrong)

/-- 'tutorlaw05.MooreRounds': WHATEVER THE INPUT: true; the input reads as it did. -/
def mooreRoundsSpec : ChangeSpec := { name := "mooreRounds", fn := fun _ => fun
  | [d1, d2, d3, d4] => { results := [.lit (.bool true)], args := [d1, d2, d3, d4] }
  | _ => none }
def mooreRoundsRow : OpenClaim := { program := "ytoiogggibfmncaa", sum := "05cd87f094f1c3ea377e61578ea0ed57eeb4a02ec15ac3eac09f1f81a74cf3a0", func := "tutor/tutorlaw05.MooreRounds", spec := "mooreRounds", plainKeys := false, apart := false }
def MooreRoundsSaid : Prop := mooreRoundsRow.holds Try.pinned (OpenSpec.ofChange mooreRoundsSpec)

/-- ITS FALSE NEIGHBOUR: 'it returns false'. Refute it at one input. -/
def mooreRoundsWrong : ChangeSpec := { name := "mooreRounds", fn := fun _ => fun
  | [d1, d2, d3, d4] => { results := [.lit (.bool false)], args := [d1, d2, d3, d4] }
  | _ => none }
def MooreRoundsWrongFalsely : Prop := mooreRoundsRow.holds Try.pinned (OpenSpec.ofChange mooreRoundsWrong)

/- THE SECOND FORM. 'bulk': how many values and letters a reading holds, each counted each time it is reached (what is shared counts as often as it is met; a slice's spare places count too). A statement '..UptoSaid' is the law's where the arguments, and the package variables that the reading takes, are together of bulk at most 1048576: NARROWER than '..Said'. Prove '..Said' where nothing that the law and all that it calls make is longer than what came in: it says more and counts as full. Else prove '..UptoSaid'. A law counts once. -/
mutual
def uptoBulk {H : Type} : DataW H → Nat
  | .lit (.string bytes) => bytes.length + 1
  | .lit _ => 1
  | .nil => 1
  | .ptr d => uptoBulk d + 1
  | .slice elems spare => uptoBulkAll elems + uptoBulkAll spare + 1
  | .agg parts => uptoBulkAll parts + 1
  | .iface _ d => uptoBulk d + 1
  | .map entries => uptoBulkEntries entries + 1
  | .held _ => 1
def uptoBulkAll {H : Type} : List (DataW H) → Nat
  | [] => 0
  | d :: r => uptoBulk d + uptoBulkAll r
def uptoBulkEntries {H : Type} : List (Lit × DataW H) → Nat
  | [] => 0
  | x :: r => uptoBulkEntry x + uptoBulkEntries r
def uptoBulkEntry {H : Type} : Lit × DataW H → Nat
  | (.string bytes, d) => bytes.length + uptoBulk d + 1
  | (_, d) => uptoBulk d + 1
 end
def uptoSmall : (H : Type) → List (DataW H) → Bool := fun _ ds => decide (uptoBulkAll ds ≤ 1048576)
def OpenSpec.upto (s : _root_.Go.ChangeSpec) : _root_.Go.OpenSpec := { _root_.Go.OpenSpec.ofChange s with cond := some uptoSmall }

/-- 'tutorlaw05.MooreAfters', WHERE WHAT IT READS IS OF BULK AT MOST 1048576: true; the input reads as it did. -/
def mooreAftersUptoRow : OpenClaim := { program := "ytoiogggibfmncaa", sum := "05cd87f094f1c3ea377e61578ea0ed57eeb4a02ec15ac3eac09f1f81a74cf3a0", func := "tutor/tutorlaw05.MooreAfters", spec := "mooreAfters", plainKeys := false, apart := false, narrowed := true }
def MooreAftersUptoSaid : Prop := mooreAftersUptoRow.holds Try.pinned (OpenSpec.upto mooreAftersSpec)

/-- 'tutorlaw05.MooreClasses', WHERE WHAT IT READS IS OF BULK AT MOST 1048576: true; the input reads as it did. -/
def mooreClassesUptoRow : OpenClaim := { program := "ytoiogggibfmncaa", sum := "05cd87f094f1c3ea377e61578ea0ed57eeb4a02ec15ac3eac09f1f81a74cf3a0", func := "tutor/tutorlaw05.MooreClasses", spec := "mooreClasses", plainKeys := false, apart := false, narrowed := true }
def MooreClassesUptoSaid : Prop := mooreClassesUptoRow.holds Try.pinned (OpenSpec.upto mooreClassesSpec)

/-- 'tutorlaw05.MooreMinimises', WHERE WHAT IT READS IS OF BULK AT MOST 1048576: true; the input reads as it did. -/
def mooreMinimisesUptoRow : OpenClaim := { program := "ytoiogggibfmncaa", sum := "05cd87f094f1c3ea377e61578ea0ed57eeb4a02ec15ac3eac09f1f81a74cf3a0", func := "tutor/tutorlaw05.MooreMinimises", spec := "mooreMinimises", plainKeys := false, apart := false, narrowed := true }
def MooreMinimisesUptoSaid : Prop := mooreMinimisesUptoRow.holds Try.pinned (OpenSpec.upto mooreMinimisesSpec)

/-- 'tutorlaw05.MooreSame', WHERE WHAT IT READS IS OF BULK AT MOST 1048576: true; the input reads as it did. -/
def mooreSameUptoRow : OpenClaim := { program := "ytoiogggibfmncaa", sum := "05cd87f094f1c3ea377e61578ea0ed57eeb4a02ec15ac3eac09f1f81a74cf3a0", func := "tutor/tutorlaw05.MooreSame", spec := "mooreSame", plainKeys := false, apart := false, narrowed := true }
def MooreSameUptoSaid : Prop := mooreSameUptoRow.holds Try.pinned (OpenSpec.upto mooreSameSpec)

/-- 'tutorlaw05.MooreOne', WHERE WHAT IT READS IS OF BULK AT MOST 1048576: true; the input reads as it did. -/
def mooreOneUptoRow : OpenClaim := { program := "ytoiogggibfmncaa", sum := "05cd87f094f1c3ea377e61578ea0ed57eeb4a02ec15ac3eac09f1f81a74cf3a0", func := "tutor/tutorlaw05.MooreOne", spec := "mooreOne", plainKeys := false, apart := false, narrowed := true }
def MooreOneUptoSaid : Prop := mooreOneUptoRow.holds Try.pinned (OpenSpec.upto mooreOneSpec)

/-- 'tutorlaw05.MooreRounds', WHERE WHAT IT READS IS OF BULK AT MOST 1048576: true; the input reads as it did. -/
def mooreRoundsUptoRow : OpenClaim := { program := "ytoiogggibfmncaa", sum := "05cd87f094f1c3ea377e61578ea0ed57eeb4a02ec15ac3eac09f1f81a74cf3a0", func := "tutor/tutorlaw05.MooreRounds", spec := "mooreRounds", plainKeys := false, apart := false, narrowed := true }
def MooreRoundsUptoSaid : Prop := mooreRoundsUptoRow.holds Try.pinned (OpenSpec.upto mooreRoundsSpec)

end Rows
end Go.Proofs.Ytoiogggibfmncaa
