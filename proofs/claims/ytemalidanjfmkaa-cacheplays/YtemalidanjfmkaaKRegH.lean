/-
  Statements of the law CachePlays whose order is open.
-/
import Derived.Test.YtemalidanjfmkaaK27
import Derived.Test.YtemalidanjfmkaaESReg
import Derived.Test.YtemalidanjfmkaaCFndS
import Derived.Test.YtemalidanjfmkaaCLst
import Derived.Test.YtemalidanjfmkaaK30
import Derived.Test.YtemalidanjfmkaaLentL
import Derived.Test.YtemalidanjfmkaaLsts
namespace Go.Proofs.Ytemalidanjfmkaa
set_option linter.unusedVariables false
open Go.RowKit

theorem ldC {w : World} {b : Nat} {p : Cv} (h : Cb w b p) : (Instr.loadAt 34 (.pointer (some ⟨b, 0, none⟩))).run Try.prog w = .ok (cvV p) w := by
  obtain ⟨p0, p1, p2, p3, p4, p5, p6, p7, p8, p9, p10, p11⟩ := h
  unfold cvV
  go_simp
theorem ldLL {w : World} {b k : Nat} {v : Value} (h : w.cell? ⟨b, k, none⟩ = some v) : (Instr.loadAt 32 (.pointer (some ⟨b, k, none⟩))).run Try.prog w = .ok v w := by
  go_simp
theorem idxC {w : World} {b off i L c : Nat} (h : i < L) : (Instr.indexAt 22 (.slice (some ⟨b, off, none⟩) L c) (.int .i64 (i : Int))).run Try.prog w = .ok (.pointer (some ⟨b, off + i * 3, none⟩)) w := by
  have h1 : (i : Int) < (L : Int) := by omega
  go_simp
theorem fldC1 {w : World} {b k : Nat} : (Instr.fieldAt 40 (.pointer (some ⟨b, k, none⟩)) 1).run Try.prog w = .ok (.pointer (some ⟨b, k + 1, none⟩)) w := by go_simp
theorem fldC2 {w : World} {b k : Nat} : (Instr.fieldAt 40 (.pointer (some ⟨b, k, none⟩)) 2).run Try.prog w = .ok (.pointer (some ⟨b, k + 2, none⟩)) w := by go_simp
theorem fldR4 {w : World} {b : Nat} : (Instr.fieldAt 34 (.pointer (some ⟨b, 0, none⟩)) 4).run Try.prog w = .ok (.pointer (some ⟨b, 9, none⟩)) w := by go_simp
theorem fldR5 {w : World} {b : Nat} : (Instr.fieldAt 34 (.pointer (some ⟨b, 0, none⟩)) 5).run Try.prog w = .ok (.pointer (some ⟨b, 10, none⟩)) w := by go_simp
theorem fldR6 {w : World} {b : Nat} : (Instr.fieldAt 34 (.pointer (some ⟨b, 0, none⟩)) 6).run Try.prog w = .ok (.pointer (some ⟨b, 11, none⟩)) w := by go_simp


end Go.Proofs.Ytemalidanjfmkaa
