/-
  No cell of these rows narrows 'for every input' (looked for: loops, veiled, ifaces, maps, wideKeys, modest, calm, conditions, laid).
  DERIVED. THE GIVEN ROWS OF THIS SEAT. 6 by the template 'for every input the law returns true; each argument reads behind the call as it read before'; 0 by the template 'total and deterministic' (their statements: YtlgkoeolojkhgaaTotals.lean).
  GIVEN WITH THE SEED: the statements are not yours to turn. If you find one false, say at which input.
  Laid BY PROGRAM, IN A SANDBOX (cutbox-rows.mjs): the forced cells as the released guide's own fill.sh prints them over the translation 1f5d84371751dcab… (all of the seat's roots in one cut). By AI agents, Wed Nov 11 2026. No macro, syntax, notation, axiom, sorry.
-/
import Derived.Test.YtlgkoeolojkhgaaChecked
import GoSem.Claim
import GoSem.ClaimJoined
import GoSem.ClaimMapViews
import Derived.JoinedTies
import Derived.KernelRfl
namespace Go.Proofs.Ytlgkoeolojkhgaa
/- THE CELL 'sum', in the pinned program and in every row, IS THE sha256 OF THE DUMP (.gsa) THAT YtlgkoeolojkhgaaProg.lean LOADS. Nothing in Lean hashes anything: it is a label: what it is worth is what the hold of that sum in a sandbox is worth. -/
noncomputable def Try.pinned : Pinned := { name := "ytlgkoeolojkhgaa", sum := "1f5d84371751dcab80bec6286e5fe19f118af88171b377c1e7792c87df9efc6b", checked := Try.checked }
namespace Rows
def none {H : Type} : Left H := { results := [], args := [] }

/-- 'tutorlaw02.GlyphParses': WHATEVER THE INPUT: true; the input reads as it did. -/
def glyphParsesSpec : ChangeSpec := { name := "glyphParses", fn := fun _ => fun
  | [d] => { results := [.lit (.bool true)], args := [d] }
  | _ => none }
def glyphParsesRow : OpenClaim := { program := "ytlgkoeolojkhgaa", sum := "1f5d84371751dcab80bec6286e5fe19f118af88171b377c1e7792c87df9efc6b", func := "tutor/tutorlaw02.GlyphParses", spec := "glyphParses", inPlace := ["internal/abi.NoEscape"], apart := false }
def GlyphParsesSaid : Prop := glyphParsesRow.holds Try.pinned (OpenSpec.ofChange glyphParsesSpec)

/-- ITS FALSE NEIGHBOUR: 'it returns false'. Refute it at one input. -/
def glyphParsesWrong : ChangeSpec := { name := "glyphParses", fn := fun _ => fun
  | [d] => { results := [.lit (.bool false)], args := [d] }
  | _ => none }
def GlyphParsesWrongFalsely : Prop := glyphParsesRow.holds Try.pinned (OpenSpec.ofChange glyphParsesWrong)

/-- 'tutorlaw02.GlyphReads': WHATEVER THE INPUT: true; the input reads as it did. -/
def glyphReadsSpec : ChangeSpec := { name := "glyphReads", fn := fun _ => fun
  | [d1, d2] => { results := [.lit (.bool true)], args := [d1, d2] }
  | _ => none }
def glyphReadsRow : OpenClaim := { program := "ytlgkoeolojkhgaa", sum := "1f5d84371751dcab80bec6286e5fe19f118af88171b377c1e7792c87df9efc6b", func := "tutor/tutorlaw02.GlyphReads", spec := "glyphReads", inPlace := ["internal/abi.NoEscape"], apart := false }
def GlyphReadsSaid : Prop := glyphReadsRow.holds Try.pinned (OpenSpec.ofChange glyphReadsSpec)

/-- ITS FALSE NEIGHBOUR: 'it returns false'. Refute it at one input. -/
def glyphReadsWrong : ChangeSpec := { name := "glyphReads", fn := fun _ => fun
  | [d1, d2] => { results := [.lit (.bool false)], args := [d1, d2] }
  | _ => none }
def GlyphReadsWrongFalsely : Prop := glyphReadsRow.holds Try.pinned (OpenSpec.ofChange glyphReadsWrong)

/-- 'tutorlaw02.GlyphShows': WHATEVER THE INPUT: true; the input reads as it did. -/
def glyphShowsSpec : ChangeSpec := { name := "glyphShows", fn := fun _ => fun
  | [d1, d2] => { results := [.lit (.bool true)], args := [d1, d2] }
  | _ => none }
def glyphShowsRow : OpenClaim := { program := "ytlgkoeolojkhgaa", sum := "1f5d84371751dcab80bec6286e5fe19f118af88171b377c1e7792c87df9efc6b", func := "tutor/tutorlaw02.GlyphShows", spec := "glyphShows", inPlace := ["internal/abi.NoEscape"], apart := false }
def GlyphShowsSaid : Prop := glyphShowsRow.holds Try.pinned (OpenSpec.ofChange glyphShowsSpec)

/-- ITS FALSE NEIGHBOUR: 'it returns false'. Refute it at one input. -/
def glyphShowsWrong : ChangeSpec := { name := "glyphShows", fn := fun _ => fun
  | [d1, d2] => { results := [.lit (.bool false)], args := [d1, d2] }
  | _ => none }
def GlyphShowsWrongFalsely : Prop := glyphShowsRow.holds Try.pinned (OpenSpec.ofChange glyphShowsWrong)

/-- 'tutorlaw02.GlyphDefaults': WHATEVER THE INPUT: true; the input reads as it did. -/
def glyphDefaultsSpec : ChangeSpec := { name := "glyphDefaults", fn := fun _ => fun
  | [d] => { results := [.lit (.bool true)], args := [d] }
  | _ => none }
def glyphDefaultsRow : OpenClaim := { program := "ytlgkoeolojkhgaa", sum := "1f5d84371751dcab80bec6286e5fe19f118af88171b377c1e7792c87df9efc6b", func := "tutor/tutorlaw02.GlyphDefaults", spec := "glyphDefaults", inPlace := ["internal/abi.NoEscape"], apart := false }
def GlyphDefaultsSaid : Prop := glyphDefaultsRow.holds Try.pinned (OpenSpec.ofChange glyphDefaultsSpec)

/-- ITS FALSE NEIGHBOUR: 'it returns false'. Refute it at one input. -/
def glyphDefaultsWrong : ChangeSpec := { name := "glyphDefaults", fn := fun _ => fun
  | [d] => { results := [.lit (.bool false)], args := [d] }
  | _ => none }
def GlyphDefaultsWrongFalsely : Prop := glyphDefaultsRow.holds Try.pinned (OpenSpec.ofChange glyphDefaultsWrong)

/-- 'tutorlaw02.GlyphBack': WHATEVER THE INPUT: true; the input reads as it did. -/
def glyphBackSpec : ChangeSpec := { name := "glyphBack", fn := fun _ => fun
  | [d1, d2, d3] => { results := [.lit (.bool true)], args := [d1, d2, d3] }
  | _ => none }
def glyphBackRow : OpenClaim := { program := "ytlgkoeolojkhgaa", sum := "1f5d84371751dcab80bec6286e5fe19f118af88171b377c1e7792c87df9efc6b", func := "tutor/tutorlaw02.GlyphBack", spec := "glyphBack", inPlace := ["internal/abi.NoEscape"], apart := false }
def GlyphBackSaid : Prop := glyphBackRow.holds Try.pinned (OpenSpec.ofChange glyphBackSpec)

/-- ITS FALSE NEIGHBOUR: 'it returns false'. Refute it at one input. -/
def glyphBackWrong : ChangeSpec := { name := "glyphBack", fn := fun _ => fun
  | [d1, d2, d3] => { results := [.lit (.bool false)], args := [d1, d2, d3] }
  | _ => none }
def GlyphBackWrongFalsely : Prop := glyphBackRow.holds Try.pinned (OpenSpec.ofChange glyphBackWrong)

/-- 'tutorlaw02.GlyphWhole': WHATEVER THE INPUT: true; the input reads as it did. -/
def glyphWholeSpec : ChangeSpec := { name := "glyphWhole", fn := fun _ => fun
  | [d1, d2] => { results := [.lit (.bool true)], args := [d1, d2] }
  | _ => none }
def glyphWholeRow : OpenClaim := { program := "ytlgkoeolojkhgaa", sum := "1f5d84371751dcab80bec6286e5fe19f118af88171b377c1e7792c87df9efc6b", func := "tutor/tutorlaw02.GlyphWhole", spec := "glyphWhole", inPlace := ["internal/abi.NoEscape"], apart := false }
def GlyphWholeSaid : Prop := glyphWholeRow.holds Try.pinned (OpenSpec.ofChange glyphWholeSpec)

/-- ITS FALSE NEIGHBOUR: 'it returns false'. Refute it at one input. -/
def glyphWholeWrong : ChangeSpec := { name := "glyphWhole", fn := fun _ => fun
  | [d1, d2] => { results := [.lit (.bool false)], args := [d1, d2] }
  | _ => none }
def GlyphWholeWrongFalsely : Prop := glyphWholeRow.holds Try.pinned (OpenSpec.ofChange glyphWholeWrong)

/- THE SECOND FORM. 'bulk': how many values and letters a reading holds, each counted each time it is reached (what is shared counts as often as it is met; a slice's spare places count too). A statement '..UptoSaid' is the law's where the arguments, and the package variables that the reading takes, are together of bulk at most 1048576: NARROWER than '..Said'. Prove '..Said' where nothing that the law and all that it calls make is longer than what came in: it says more and counts as full. Else prove '..UptoSaid'. A law counts once. -/
mutual
def uptoBulk {H : Type} : DataW H → Nat
  | .lit (.string bytes) => bytes.length + 1
  | .lit _ => 1
  | .nil => 1
  | .ptr d => uptoBulk d + 1
  | .slice elems spare => uptoBulkAll elems + uptoBulkAll spare + 1
  | .agg parts => uptoBulkAll parts + 1
  | .iface _ d => uptoBulk d + 1
  | .map entries => uptoBulkEntries entries + 1
  | .held _ => 1
def uptoBulkAll {H : Type} : List (DataW H) → Nat
  | [] => 0
  | d :: r => uptoBulk d + uptoBulkAll r
def uptoBulkEntries {H : Type} : List (Lit × DataW H) → Nat
  | [] => 0
  | x :: r => uptoBulkEntry x + uptoBulkEntries r
def uptoBulkEntry {H : Type} : Lit × DataW H → Nat
  | (.string bytes, d) => bytes.length + uptoBulk d + 1
  | (_, d) => uptoBulk d + 1
 end
def uptoSmall : (H : Type) → List (DataW H) → Bool := fun _ ds => decide (uptoBulkAll ds ≤ 1048576)
def OpenSpec.upto (s : _root_.Go.ChangeSpec) : _root_.Go.OpenSpec := { _root_.Go.OpenSpec.ofChange s with cond := some uptoSmall }

/-- 'tutorlaw02.GlyphParses', WHERE WHAT IT READS IS OF BULK AT MOST 1048576: true; the input reads as it did. -/
def glyphParsesUptoRow : OpenClaim := { program := "ytlgkoeolojkhgaa", sum := "1f5d84371751dcab80bec6286e5fe19f118af88171b377c1e7792c87df9efc6b", func := "tutor/tutorlaw02.GlyphParses", spec := "glyphParses", inPlace := ["internal/abi.NoEscape"], apart := false, narrowed := true }
def GlyphParsesUptoSaid : Prop := glyphParsesUptoRow.holds Try.pinned (OpenSpec.upto glyphParsesSpec)

/-- 'tutorlaw02.GlyphReads', WHERE WHAT IT READS IS OF BULK AT MOST 1048576: true; the input reads as it did. -/
def glyphReadsUptoRow : OpenClaim := { program := "ytlgkoeolojkhgaa", sum := "1f5d84371751dcab80bec6286e5fe19f118af88171b377c1e7792c87df9efc6b", func := "tutor/tutorlaw02.GlyphReads", spec := "glyphReads", inPlace := ["internal/abi.NoEscape"], apart := false, narrowed := true }
def GlyphReadsUptoSaid : Prop := glyphReadsUptoRow.holds Try.pinned (OpenSpec.upto glyphReadsSpec)

/-- 'tutorlaw02.GlyphShows', WHERE WHAT IT READS IS OF BULK AT MOST 1048576: true; the input reads as it did. -/
def glyphShowsUptoRow : OpenClaim := { program := "ytlgkoeolojkhgaa", sum := "1f5d84371751dcab80bec6286e5fe19f118af88171b377c1e7792c87df9efc6b", func := "tutor/tutorlaw02.GlyphShows", spec := "glyphShows", inPlace := ["internal/abi.NoEscape"], apart := false, narrowed := true }
def GlyphShowsUptoSaid : Prop := glyphShowsUptoRow.holds Try.pinned (OpenSpec.upto glyphShowsSpec)

/-- 'tutorlaw02.GlyphDefaults', WHERE WHAT IT READS IS OF BULK AT MOST 1048576: true; the input reads as it did. -/
def glyphDefaultsUptoRow : OpenClaim := { program := "ytlgkoeolojkhgaa", sum := "1f5d84371751dcab80bec6286e5fe19f118af88171b377c1e7792c87df9efc6b", func := "tutor/tutorlaw02.GlyphDefaults", spec := "glyphDefaults", inPlace := ["internal/abi.NoEscape"], apart := false, narrowed := true }
def GlyphDefaultsUptoSaid : Prop := glyphDefaultsUptoRow.holds Try.pinned (OpenSpec.upto glyphDefaultsSpec)

/-- 'tutorlaw02.GlyphBack', WHERE WHAT IT READS IS OF BULK AT MOST 1048576: true; the input reads as it did. -/
def glyphBackUptoRow : OpenClaim := { program := "ytlgkoeolojkhgaa", sum := "1f5d84371751dcab80bec6286e5fe19f118af88171b377c1e7792c87df9efc6b", func := "tutor/tutorlaw02.GlyphBack", spec := "glyphBack", inPlace := ["internal/abi.NoEscape"], apart := false, narrowed := true }
def GlyphBackUptoSaid : Prop := glyphBackUptoRow.holds Try.pinned (OpenSpec.upto glyphBackSpec)

/-- 'tutorlaw02.GlyphWhole', WHERE WHAT IT READS IS OF BULK AT MOST 1048576: true; the input reads as it did. -/
def glyphWholeUptoRow : OpenClaim := { program := "ytlgkoeolojkhgaa", sum := "1f5d84371751dcab80bec6286e5fe19f118af88171b377c1e7792c87df9efc6b", func := "tutor/tutorlaw02.GlyphWhole", spec := "glyphWhole", inPlace := ["internal/abi.NoEscape"], apart := false, narrowed := true }
def GlyphWholeUptoSaid : Prop := glyphWholeUptoRow.holds Try.pinned (OpenSpec.upto glyphWholeSpec)

end Rows
end Go.Proofs.Ytlgkoeolojkhgaa
