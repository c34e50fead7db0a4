/-
  The program's test whether an answer fits a word.
-/
import Derived.Test.YtemalidanjfmkaaNObj
import Derived.Test.YtemalidanjfmkaaHFit
namespace Go.Proofs.Ytemalidanjfmkaa
open Go.RowKit

def qOf (c : Cs) (a1 : Option Addr) (c1 : Nat) (wd : List Int) : Pq := ⟨⟨1, wd, ⟨c.kind, c.k, c.o, 0, [], []⟩⟩, a1, c1, none, 0, none, 0⟩
def aOf (a2 : Option Addr) (c2 : Nat) (out : List Int) : Pa := ⟨⟨1, out, []⟩, a2, c2, none, 0⟩
/-- Does the answer fit? -/
def fitC (c : Cs) (wd out : List Int) : Int := chkA ⟨1, wd, ⟨c.kind, c.k, c.o, 0, [], []⟩⟩ ⟨1, out, []⟩

set_option maxRecDepth 100000 in
set_option maxHeartbeats 2000000 in
theorem cfits_any {B : Nat} {w : World} {b g cap : Nat} {c : Cs} {R : List En} (a1 : Option Addr) (c1 : Nat) (wd : List Int) (a2 : Option Addr) (c2 : Nat) (out : List Int) (h : Co B w b g cap c R) (h2 : RdL .i64 w a2 out) (hl : out.length ≤ maxLen) :
    Calls Try.prog 37 #[.pointer (some ⟨b, 0, none⟩), .slice a1 wd.length c1, .slice a2 out.length c2] w fun e w' => e = .returned (.bool (fitC c wd out == 0)) ∧ Below w.heap.size w w' := by
  have k0 := h.c0
  have k1 := h.c1
  have k2 := h.c2
  have hlt := h.blt
  have H2 := hide h2
  clear h h2
  go_enter Try.func37, Try.ntmps37
  go_wp2
  go_region
  have hQ := (Qb.alloc w (qOf c a1 c1 wd) 77).below (Below.refl _ _).drew
  have hbq := (ballo w (.cells #[.int .i64 1, .slice a1 wd.length c1, .int .i64 c.kind, .int .i64 c.k, .int .i64 c.o, .int .i64 0, .slice none 0 0, .slice none 0 0] 77)).drew
  change Qb (w.alloc (.cells #[.int .i64 1, .slice a1 wd.length c1, .int .i64 c.kind, .int .i64 c.k, .int .i64 c.o, .int .i64 0, .slice none 0 0, .slice none 0 0] 77)).drew _ _ at hQ
  generalize (w.alloc (.cells #[.int .i64 1, .slice a1 wd.length c1, .int .i64 c.kind, .int .i64 c.k, .int .i64 c.o, .int .i64 0, .slice none 0 0, .slice none 0 0] 77)).drew = W at *
  obtain ⟨p0, p1, p2, p3, p4, p5, p6, p7⟩ := hQ
  have ht := tcheck_any (qOf c a1 c1 wd) (aOf a2 c2 out) W ⟨(unhide H2).below hbq, RdL.nil _ _ _⟩ hl (by unfold maxLen; exact Nat.zero_le _)
  change Calls _ _ #[.agg #[.int .i64 1, .slice a1 wd.length c1, .int .i64 c.kind, .int .i64 c.k, .int .i64 c.o, .int .i64 0, .slice none 0 0, .slice none 0 0], .agg #[.int .i64 1, .slice a2 out.length c2, .slice none 0 0]] _ (fun e w' => e = .returned (.int .i64 (fitC c wd out)) ∧ Below W.heap.size W w') at ht
  change W.cell? _ = some (.int .i64 1) at p0
  change W.cell? _ = some (.slice a1 wd.length c1) at p1
  change W.cell? _ = some (.int .i64 c.kind) at p2
  change W.cell? _ = some (.int .i64 c.k) at p3
  change W.cell? _ = some (.int .i64 c.o) at p4
  change W.cell? _ = some (.int .i64 0) at p5
  change W.cell? _ = some (.slice none 0 0) at p6
  change W.cell? _ = some (.slice none 0 0) at p7
  clear k0 k1 k2 hlt
  go_wp2_with fail
  refine ht.mono ?_
  rintro e w1 ⟨rfl, hb1⟩
  obtain ⟨F, hF⟩ : ∃ F, fitC c wd out = F := ⟨_, rfl⟩
  have HF := hide hF
  rw [hF]
  clear hF
  go_wp2
  go_ret
  exact ⟨by rw [unhide HF]; rfl, bstep hbq hb1⟩

end Go.Proofs.Ytemalidanjfmkaa
