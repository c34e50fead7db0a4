/-
  No cell of these rows narrows 'for every input' (looked for: loops, veiled, ifaces, maps, wideKeys, modest, calm, conditions, laid).
  DERIVED. THE GIVEN ROWS OF THIS SEAT. 4 by the template 'for every input the law returns true; each argument reads behind the call as it read before'; 0 by the template 'total and deterministic' (their statements: YtagoilabphmdfaaTotals.lean).
  GIVEN WITH THE SEED: the statements are not yours to turn. If you find one false, say at which input.
  Laid BY PROGRAM, IN A SANDBOX (cutbox-rows.mjs): the forced cells as the released guide's own fill.sh prints them over the translation 4282a51cee018220… (all of the seat's roots in one cut). By AI agents, Wed Nov 11 2026. No macro, syntax, notation, axiom, sorry.
-/
import Derived.Test.YtagoilabphmdfaaChecked
import GoSem.Claim
import GoSem.ClaimJoined
import GoSem.ClaimMapViews
import Derived.JoinedTies
import Derived.KernelRfl
namespace Go.Proofs.Ytagoilabphmdfaa
/- THE CELL 'sum', in the pinned program and in every row, IS THE sha256 OF THE DUMP (.gsa) THAT YtagoilabphmdfaaProg.lean LOADS. Nothing in Lean hashes anything: it is a label: what it is worth is what the hold of that sum in a sandbox is worth. -/
noncomputable def Try.pinned : Pinned := { name := "ytagoilabphmdfaa", sum := "4282a51cee01822021e50cc903e51ad16fa2b053ab175ec64cf79e4744e11188", checked := Try.checked }
namespace Rows
def none {H : Type} : Left H := { results := [], args := [] }

/-- 'tutorlaw10.TeachChecks': WHATEVER THE INPUT: true; the input reads as it did. -/
def teachChecksSpec : ChangeSpec := { name := "teachChecks", fn := fun _ => fun
  | [d1, d2] => { results := [.lit (.bool true)], args := [d1, d2] }
  | _ => none }
def teachChecksRow : OpenClaim := { program := "ytagoilabphmdfaa", sum := "4282a51cee01822021e50cc903e51ad16fa2b053ab175ec64cf79e4744e11188", func := "tutor/tutorlaw10.TeachChecks", spec := "teachChecks", unfollowed := true, recurses := true, plainKeys := false, apart := false }
def TeachChecksSaid : Prop := teachChecksRow.holds Try.pinned (OpenSpec.ofChange teachChecksSpec)

/-- ITS FALSE NEIGHBOUR: 'it returns false'. Refute it at one input. -/
def teachChecksWrong : ChangeSpec := { name := "teachChecks", fn := fun _ => fun
  | [d1, d2] => { results := [.lit (.bool false)], args := [d1, d2] }
  | _ => none }
def TeachChecksWrongFalsely : Prop := teachChecksRow.holds Try.pinned (OpenSpec.ofChange teachChecksWrong)

/-- 'tutorlaw10.TeachParses': WHATEVER THE INPUT: true; the input reads as it did. -/
def teachParsesSpec : ChangeSpec := { name := "teachParses", fn := fun _ => fun
  | [d] => { results := [.lit (.bool true)], args := [d] }
  | _ => none }
def teachParsesRow : OpenClaim := { program := "ytagoilabphmdfaa", sum := "4282a51cee01822021e50cc903e51ad16fa2b053ab175ec64cf79e4744e11188", func := "tutor/tutorlaw10.TeachParses", spec := "teachParses", unfollowed := true, recurses := true, plainKeys := false, apart := false }
def TeachParsesSaid : Prop := teachParsesRow.holds Try.pinned (OpenSpec.ofChange teachParsesSpec)

/-- ITS FALSE NEIGHBOUR: 'it returns false'. Refute it at one input. -/
def teachParsesWrong : ChangeSpec := { name := "teachParses", fn := fun _ => fun
  | [d] => { results := [.lit (.bool false)], args := [d] }
  | _ => none }
def TeachParsesWrongFalsely : Prop := teachParsesRow.holds Try.pinned (OpenSpec.ofChange teachParsesWrong)

/-- 'tutorlaw10.TeachTells': WHATEVER THE INPUT: true; the input reads as it did. -/
def teachTellsSpec : ChangeSpec := { name := "teachTells", fn := fun _ => fun
  | [d1, d2] => { results := [.lit (.bool true)], args := [d1, d2] }
  | _ => none }
def teachTellsRow : OpenClaim := { program := "ytagoilabphmdfaa", sum := "4282a51cee01822021e50cc903e51ad16fa2b053ab175ec64cf79e4744e11188", func := "tutor/tutorlaw10.TeachTells", spec := "teachTells", unfollowed := true, recurses := true, plainKeys := false, apart := false }
def TeachTellsSaid : Prop := teachTellsRow.holds Try.pinned (OpenSpec.ofChange teachTellsSpec)

/-- ITS FALSE NEIGHBOUR: 'it returns false'. Refute it at one input. -/
def teachTellsWrong : ChangeSpec := { name := "teachTells", fn := fun _ => fun
  | [d1, d2] => { results := [.lit (.bool false)], args := [d1, d2] }
  | _ => none }
def TeachTellsWrongFalsely : Prop := teachTellsRow.holds Try.pinned (OpenSpec.ofChange teachTellsWrong)

/-- 'tutorlaw10.TeachTrue': WHATEVER THE INPUT: true; the input reads as it did. -/
def teachTrueSpec : ChangeSpec := { name := "teachTrue", fn := fun _ => fun
  | [d1, d2, d3] => { results := [.lit (.bool true)], args := [d1, d2, d3] }
  | _ => none }
def teachTrueRow : OpenClaim := { program := "ytagoilabphmdfaa", sum := "4282a51cee01822021e50cc903e51ad16fa2b053ab175ec64cf79e4744e11188", func := "tutor/tutorlaw10.TeachTrue", spec := "teachTrue", unfollowed := true, recurses := true, plainKeys := false, apart := false }
def TeachTrueSaid : Prop := teachTrueRow.holds Try.pinned (OpenSpec.ofChange teachTrueSpec)

/-- ITS FALSE NEIGHBOUR: 'it returns false'. Refute it at one input. -/
def teachTrueWrong : ChangeSpec := { name := "teachTrue", fn := fun _ => fun
  | [d1, d2, d3] => { results := [.lit (.bool false)], args := [d1, d2, d3] }
  | _ => none }
def TeachTrueWrongFalsely : Prop := teachTrueRow.holds Try.pinned (OpenSpec.ofChange teachTrueWrong)

/- THE SECOND FORM. 'bulk': how many values and letters a reading holds, each counted each time it is reached (what is shared counts as often as it is met; a slice's spare places count too). A statement '..UptoSaid' is the law's where the arguments, and the package variables that the reading takes, are together of bulk at most 1048576: NARROWER than '..Said'. Prove '..Said' where nothing that the law and all that it calls make is longer than what came in: it says more and counts as full. Else prove '..UptoSaid'. A law counts once. -/
mutual
def uptoBulk {H : Type} : DataW H → Nat
  | .lit (.string bytes) => bytes.length + 1
  | .lit _ => 1
  | .nil => 1
  | .ptr d => uptoBulk d + 1
  | .slice elems spare => uptoBulkAll elems + uptoBulkAll spare + 1
  | .agg parts => uptoBulkAll parts + 1
  | .iface _ d => uptoBulk d + 1
  | .map entries => uptoBulkEntries entries + 1
  | .held _ => 1
def uptoBulkAll {H : Type} : List (DataW H) → Nat
  | [] => 0
  | d :: r => uptoBulk d + uptoBulkAll r
def uptoBulkEntries {H : Type} : List (Lit × DataW H) → Nat
  | [] => 0
  | x :: r => uptoBulkEntry x + uptoBulkEntries r
def uptoBulkEntry {H : Type} : Lit × DataW H → Nat
  | (.string bytes, d) => bytes.length + uptoBulk d + 1
  | (_, d) => uptoBulk d + 1
 end
def uptoSmall : (H : Type) → List (DataW H) → Bool := fun _ ds => decide (uptoBulkAll ds ≤ 1048576)
def OpenSpec.upto (s : _root_.Go.ChangeSpec) : _root_.Go.OpenSpec := { _root_.Go.OpenSpec.ofChange s with cond := some uptoSmall }

/-- 'tutorlaw10.TeachChecks', WHERE WHAT IT READS IS OF BULK AT MOST 1048576: true; the input reads as it did. -/
def teachChecksUptoRow : OpenClaim := { program := "ytagoilabphmdfaa", sum := "4282a51cee01822021e50cc903e51ad16fa2b053ab175ec64cf79e4744e11188", func := "tutor/tutorlaw10.TeachChecks", spec := "teachChecks", unfollowed := true, recurses := true, plainKeys := false, apart := false, narrowed := true }
def TeachChecksUptoSaid : Prop := teachChecksUptoRow.holds Try.pinned (OpenSpec.upto teachChecksSpec)

/-- 'tutorlaw10.TeachParses', WHERE WHAT IT READS IS OF BULK AT MOST 1048576: true; the input reads as it did. -/
def teachParsesUptoRow : OpenClaim := { program := "ytagoilabphmdfaa", sum := "4282a51cee01822021e50cc903e51ad16fa2b053ab175ec64cf79e4744e11188", func := "tutor/tutorlaw10.TeachParses", spec := "teachParses", unfollowed := true, recurses := true, plainKeys := false, apart := false, narrowed := true }
def TeachParsesUptoSaid : Prop := teachParsesUptoRow.holds Try.pinned (OpenSpec.upto teachParsesSpec)

/-- 'tutorlaw10.TeachTells', WHERE WHAT IT READS IS OF BULK AT MOST 1048576: true; the input reads as it did. -/
def teachTellsUptoRow : OpenClaim := { program := "ytagoilabphmdfaa", sum := "4282a51cee01822021e50cc903e51ad16fa2b053ab175ec64cf79e4744e11188", func := "tutor/tutorlaw10.TeachTells", spec := "teachTells", unfollowed := true, recurses := true, plainKeys := false, apart := false, narrowed := true }
def TeachTellsUptoSaid : Prop := teachTellsUptoRow.holds Try.pinned (OpenSpec.upto teachTellsSpec)

/-- 'tutorlaw10.TeachTrue', WHERE WHAT IT READS IS OF BULK AT MOST 1048576: true; the input reads as it did. -/
def teachTrueUptoRow : OpenClaim := { program := "ytagoilabphmdfaa", sum := "4282a51cee01822021e50cc903e51ad16fa2b053ab175ec64cf79e4744e11188", func := "tutor/tutorlaw10.TeachTrue", spec := "teachTrue", unfollowed := true, recurses := true, plainKeys := false, apart := false, narrowed := true }
def TeachTrueUptoSaid : Prop := teachTrueUptoRow.holds Try.pinned (OpenSpec.upto teachTrueSpec)

end Rows
end Go.Proofs.Ytagoilabphmdfaa
