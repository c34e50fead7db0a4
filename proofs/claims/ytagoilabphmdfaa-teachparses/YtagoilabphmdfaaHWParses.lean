/-
  TeachParses, walked: for every input the call returns true.
-/
import Derived.Test.YtagoilabphmdfaaHLive
import Derived.Test.YtagoilabphmdfaaHWB
import Derived.Test.YtagoilabphmdfaaESameW
import Derived.Test.YtagoilabphmdfaaTCv
import Derived.Test.YtagoilabphmdfaaUPar
namespace Go.Proofs.Ytagoilabphmdfaa
set_option linter.unusedVariables false
open Go.RowKit

set_option maxRecDepth 100000 in
set_option maxHeartbeats 4000000 in
theorem teachParses_walk (a : Option Addr) (c : Nat) (l : List Int) (w : World) (hA : ArgL .u8 1 w a c l) :
    Calls Try.prog 4 #[.slice a l.length c] w fun e w' => e = .returned (.bool true) ∧ Below w.heap.size w w' := by
  obtain ⟨b, rfl⟩ := zs_of hA.fits
  have hrd := hA.rd
  have hnA := hA.nil
  rw [zs_len] at hnA ⊢
  by_cases hl : 20000 < b.length
  · have hl' : (b.length : Int) > 20000 := by omega
    go_enter Try.func4, Try.ntmps4
    go_wp2_with (go_at_call 8; refine (live_any w).mono ?_; rintro e w1 ⟨rfl, hb1⟩)
    go_ret
    exact ⟨rfl, hb1⟩
  have hl' : ¬ ((b.length : Int) > 20000) := by omega
  have hlb : b.length ≤ 20000 := by omega
  clear hA
  have r0 : OwnL .u8 5 (w.alloc (.cells #[] 5)) w.heap.size (.slice (some ⟨w.heap.size, 0, none⟩) 0 0) [] := OwnL.lit w _ [] #[] (Nat.le_refl _) (by unfold maxLen; simp) rfl
  have hrd1 : RdL .u8 (w.alloc (.cells #[] 5)) a (zs b) := hrd.below (ballo _ _)
  go_enter Try.func4, Try.ntmps4
  go_wp2_with (at_builtin; refine wpl_pushL e8 rfl (.tmp 14) (.tmp 15) rfl w.heap.size _ [] rfl r0 a c (zs b) (by rw [zs_len]; rfl) hrd1 (by rw [zs_len]; exact hnA) (by rw [zs_len]; simp only [List.length_nil]; omega) (by simp) ?_; rw [List.nil_append]; intro v3 w3 ho3 hb3 _)
  have b3 : Below w.heap.size w w3 := ((Below.refl _ _).alloc (Nat.le_refl _) _).trans hb3
  obtain ⟨x3, y3, rfl, hn3, -, -, rd3, -⟩ := ho3.shape
  rw [zs_len] at hn3 ⊢
  have hp := tparse_any x3 y3 b w3 rd3 (by unfold maxLen; omega)
  have hq := fun wz (h : Below w3.heap.size w3 wz) => rparse_any a c b wz (hrd.below (bstep b3 h)) (by unfold maxLen; omega)
  unfold PaPost at hp hq
  have hpl := parV_len b
  generalize parV b = R at *
  obtain ⟨A, er, at9⟩ := R
  dsimp only at hp hq hpl
  clear r0 hrd1 hb3 hl ho3
  refine hp.mono ?_
  rintro e w4 ⟨a4, c4, l4, rfl, rd4, al4, ml4, hb4⟩
  clear hp
  go_wp2_with fail
  refine (hq w4 hb4).mono ?_
  rintro e w5 ⟨a5, c5, l5, rfl, rd5, al5, ml5, hb5⟩
  clear hq
  have hll : l4.length ≤ maxLen := by
    rw [← al4] at hpl
    have : (anL l4).length = l4.length := by simp [anL]
    unfold maxLen; omega
  have hsm := rsameA_any a4 c4 l4 a5 c5 l5 w5 (rd4.below hb5) rd5 ml4 hll
  rw [al4, al5, smL_self] at hsm
  have te : (er == er) = true := by simp
  have ta : (at9 == at9) = true := by simp
  have B5 := hide (bstep b3 (bstep hb4 hb5))
  have HR3 := hide (rd3.below (bstep hb4 hb5))
  have HR0 := hide (hrd.below (bstep b3 (bstep hb4 hb5)))
  clear hpl rd4 rd5 al4 al5 ml4 ml5 hb4 hb5 rd3 hrd b3
  go_wp2_with fail
  refine hsm.mono ?_
  rintro e w6 ⟨rfl, hb6⟩
  clear hsm
  go_wp2_with fail
  refine (num_any er w6).mono ?_
  rintro e wn ⟨rfl, hwn⟩
  rw [hwn]
  clear hwn wn
  have hs := bsame_any x3 a y3 c b b w6 ((unhide HR3).below hb6) ((unhide HR0).below hb6) hn3 hnA
  rw [show decide (b = b) = true by simp] at hs
  go_wp2_with fail
  refine hs.mono ?_
  rintro e wn ⟨rfl, hwn⟩
  rw [hwn]
  clear hwn wn
  go_wp2_with fail
  refine (live_any w6).mono ?_
  rintro e w7 ⟨rfl, hb7⟩
  go_wp2
  go_ret
  exact ⟨rfl, bstep (unhide B5) (bstep hb6 hb7)⟩

end Go.Proofs.Ytagoilabphmdfaa
