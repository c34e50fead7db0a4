/-
  Beginnings and Ends; Apart of no list at all.
-/
import Derived.ArgAppend
import Derived.Test.YtaldjpjlggnhhaaJLive
import Derived.Test.YtaldjpjlggnhhaaRParts
import Derived.Test.YtaldjpjlggnhhaaLsts
import Derived.Test.YtaldjpjlggnhhaaLent
import Derived.Test.YtaldjpjlggnhhaaK1
namespace Go.Proofs.Ytaldjpjlggnhhaa
set_option linter.unusedVariables false
open Go.RowKit

/-- What Beginnings and Ends leave: n lists, without room for more. -/
def BgPost (w : World) (n : Nat) (fs : Nat → Nat → Int) (e : Ending) (w' : World) : Prop :=
  ∃ g off vs, e = .returned (.slice (some ⟨g, off, none⟩) n n) ∧ RdV w' (some ⟨g, off, none⟩) n vs ∧ Fam w' w.heap.size n vs (fun i => i + 1) fs ∧ Below w.heap.size w w'
theorem Fam.tail {w : World} {B n : Nat} {vs : Nat → Value} {fs : Nat → Nat → Int} (h : Fam w B (n + 1) vs (fun i => i) fs) : Fam w B n (fun i => vs (i + 1)) (fun i => i + 1) (fun i => fs (i + 1)) :=
  ⟨fun i hi => h.own (i + 1) (by omega), fun i j hi hj hne => h.apart (i + 1) (j + 1) (by omega) (by omega) (by omega)⟩

theorem begs_any (a : Option Addr) (n c : Nat) (f : Nat → Int) (w : World) (hr : Rd w a n f) (hc : n ≤ c) (hn : n ≤ 100000) :
    Calls Try.prog 21 #[.slice a n c] w (BgPost w n (fun _ => f)) := by
  have hp := prefixes_cap a n c f w hr hc hn
  clear hr hc
  by_cases h0 : n = 0
  · subst h0
    go_enter Try.func21, Try.ntmps21
    go_wp2_with fail
    refine hp.mono ?_
    rintro e w1 ⟨g, vs, rfl, O, F, A, B⟩
    go_wp2
    go_ret
    exact ⟨g, 0, vs, rfl, .inl rfl, Fam.zero _ _ _ _ _, B⟩
  · go_enter Try.func21, Try.ntmps21
    go_wp2_with fail
    refine hp.mono ?_
    rintro e w1 ⟨g, vs, rfl, O, F, A, B⟩
    have hO := hide O
    clear O
    go_wp2
    go_ret
    obtain ⟨g', cap, e', -, -, -, -, hcl, -⟩ := (unhide hO).pos (by omega)
    cases e'
    exact ⟨g, 1, fun i => vs (i + 1), rfl, .inr ⟨g, 1, rfl, fun i hi => by rw [Nat.add_comm]; exact hcl (i + 1) (by omega)⟩, F.tail, B⟩
theorem ends_any (a : Option Addr) (n c : Nat) (f : Nat → Int) (w : World) (hr : Rd w a n f) (hc : n ≤ c) (hn : n ≤ 100000) :
    Calls Try.prog 22 #[.slice a n c] w (BgPost w n (fun i j => f (n - (i + 1) + j))) := by
  have hp := suffixes_cap a n c f w hr hc hn
  clear hr hc
  by_cases h0 : n = 0
  · subst h0
    go_enter Try.func22, Try.ntmps22
    go_wp2_with fail
    refine hp.mono ?_
    rintro e w1 ⟨g, vs, rfl, O, F, A, B⟩
    go_wp2
    go_ret
    exact ⟨g, 0, vs, rfl, .inl rfl, Fam.zero _ _ _ _ _, B⟩
  · go_enter Try.func22, Try.ntmps22
    go_wp2_with fail
    refine hp.mono ?_
    rintro e w1 ⟨g, vs, rfl, O, F, A, B⟩
    have hO := hide O
    clear O
    go_wp2
    go_ret
    obtain ⟨g', cap, e', -, -, -, -, hcl, -⟩ := (unhide hO).pos (by omega)
    cases e'
    exact ⟨g, 1, fun i => vs (i + 1), rfl, .inr ⟨g, 1, rfl, fun i hi => by rw [Nat.add_comm]; exact hcl (i + 1) (by omega)⟩, F.tail, B⟩

set_option maxRecDepth 100000 in
theorem apart_zero (a : Option Addr) (c : Nat) (w : World) : Calls Try.prog 26 #[.slice a 0 c] w fun e w' => e = .returned (.bool true) ∧ Below w.heap.size w w' := by
  go_enter Try.func26, Try.ntmps26
  go_wp2
  go_loopw [3] (fun i wr => i = .int .i64 0 ∧ Below w.heap.size w wr) (fun i _ => 1)
  case atStart => exact ⟨rfl, Below.refl _ _⟩
  case round =>
    obtain ⟨rfl, b1⟩ := hrel
    go_wp2
    go_loopw [5] (fun i wr => i = .int .i64 0 ∧ Below w.heap.size w wr) (fun i _ => 1)
    case atStart => exact ⟨rfl, b1⟩
    case round =>
      obtain ⟨rfl, b2⟩ := hrel
      go_wp2
      go_loopw [8] (fun i wr => i = .int .i64 0 ∧ Below w.heap.size w wr) (fun i _ => 1)
      case atStart => exact ⟨rfl, b2⟩
      case round =>
        obtain ⟨rfl, b3⟩ := hrel
        go_wp2
        go_ret
        exact ⟨rfl, b3⟩

end Go.Proofs.Ytaldjpjlggnhhaa
