/-
  TextImports, walked: for every input the call returns true.
-/
import Derived.Test.YtdnmabemollbeaaDoorTLive
import Derived.Test.YtdnmabemollbeaaDoorTRImB
import Derived.Test.YtdnmabemollbeaaDoorK5
import Derived.Test.YtdnmabemollbeaaDoorK6
namespace Go.Proofs.YtdnmabemollbeaaDoor
set_option linter.unusedVariables false
open Go.RowKit

set_option maxRecDepth 100000 in
set_option maxHeartbeats 4000000 in
theorem textImports_walk (a : Option Addr) (c : Nat) (l : List Int) (w : World) (hA : ArgL .u8 1 w a c l) (g : Gl w) :
    Calls Tryd.prog 4 #[.slice a l.length c] w fun e w' => e = .returned (.bool true) ∧ Below w.heap.size w w' := by
  obtain ⟨b, rfl⟩ := zs_of hA.fits
  have hrd := hA.rd
  have hnA := hA.nil
  rw [zs_len] at hnA ⊢
  by_cases hl : 20000 < b.length
  · have hl' : (b.length : Int) > 20000 := by omega
    go_enter Tryd.func4, Tryd.ntmps4
    go_wp2_with (go_at_call 12; refine (live_any w g).mono ?_; rintro e w1 ⟨rfl, hb1⟩)
    go_ret
    exact ⟨rfl, hb1⟩
  have hl' : ¬ ((b.length : Int) > 20000) := by omega
  have hlb : b.length ≤ 20000 := by omega
  clear hA
  have r0 : OwnL .u8 5 (w.alloc (.cells #[] 5)) w.heap.size (.slice (some ⟨w.heap.size, 0, none⟩) 0 0) [] := OwnL.lit w _ [] #[] (Nat.le_refl _) (by unfold maxLen; simp) rfl
  have hrd1 : RdL .u8 (w.alloc (.cells #[] 5)) a (zs b) := hrd.below (ballo _ _)
  go_enter Tryd.func4, Tryd.ntmps4
  go_wp2_with (at_builtin; refine wpl_pushL e8 rfl (.tmp 14) (.tmp 15) rfl w.heap.size _ [] rfl r0 a c (zs b) (by rw [zs_len]; rfl) hrd1 (by rw [zs_len]; exact hnA) (by rw [zs_len]; simp only [List.length_nil]; omega) (by simp) ?_; rw [List.nil_append]; intro v3 w3 ho3 hb3 _)
  have b3 : Below w.heap.size w w3 := ((Below.refl _ _).alloc (Nat.le_refl _) _).trans hb3
  obtain ⟨x3, y3, rfl, hn3, -, -, rd3, -⟩ := ho3.shape
  rw [zs_len] at hn3 ⊢
  have him := import_any x3 y3 b w3 rd3 (g.below b3)
  unfold ImPost at him
  have hri := fun wz (h : Below w3.heap.size w3 wz) => rimport_any a c b wz (hrd.below (bstep b3 h)) hlb
  unfold RiPost at hri
  rw [rf_im] at hri
  generalize imV b (imP b) = r at *
  obtain ⟨m, er, p⟩ := r
  unfold mval at him hri
  dsimp only at him hri
  clear r0 hrd1 hb3 hl ho3
  refine him.mono ?_
  rintro e w4 ⟨d1, e1, d2, e2, rfl, ⟨o1, o2, -⟩, hb4⟩
  obtain ⟨_, _, E1, -, q1, q1', k1, -⟩ := o1.shape
  cases E1
  obtain ⟨_, _, E1, -, q2, q2', k2, -⟩ := o2.shape
  cases E1
  have ba : Below w4.heap.size w4 (w4.alloc (.cells #[.int .i64 m.kind, .int .i64 m.k, .int .i64 m.o, .int .i64 m.n, .slice d1 m.nx.length e1, .slice d2 m.out.length e2] 24)) := ballo _ _
  have C4 := Box.alloc w4 m d1 e1 d2 e2 24
  have b35 := bstep hb4 ba
  have k15 := k1.below ba
  have k25 := k2.below ba
  generalize hw5 : (w4.alloc (.cells #[.int .i64 m.kind, .int .i64 m.k, .int .i64 m.o, .int .i64 m.n, .slice d1 m.nx.length e1, .slice d2 m.out.length e2] 24)) = w5 at *
  have mn : m.nx.length ≤ maxLen := Nat.le_trans q1 q1'
  have mo : m.out.length ≤ maxLen := Nat.le_trans q2 q2'
  clear him o1 o2 k1 k2 q1 q1' q2 q2'
  go_wp2_with fail
  refine (hri w5 b35).mono ?_
  rintro e w6 ⟨t1, u1, t2, u2, rfl, ⟨o1, o2, -⟩, hb6⟩
  obtain ⟨_, _, E1, -, -, -, j1, -⟩ := o1.shape
  cases E1
  obtain ⟨_, _, E1, -, -, -, j2, -⟩ := o2.shape
  cases E1
  have bb : Below w6.heap.size w6 (w6.alloc (.cells #[.int .i64 m.kind, .int .i64 m.k, .int .i64 m.o, .int .i64 m.n, .slice t1 m.nx.length u1, .slice t2 m.out.length u2] 24)) := ballo _ _
  have D6 := Box.alloc w6 m t1 u1 t2 u2 24
  have b57 := bstep hb6 bb
  have C7 := C4.below b57
  have k17 := k15.below b57
  have k27 := k25.below b57
  have j17 := j1.below bb
  have j27 := j2.below bb
  have b37 := bstep b35 b57
  generalize hw7 : (w6.alloc (.cells #[.int .i64 m.kind, .int .i64 m.k, .int .i64 m.o, .int .i64 m.n, .slice t1 m.nx.length u1, .slice t2 m.out.length u2] 24)) = w7 at *
  have hsm := msame_any m d1 e1 d2 e2 t1 u1 t2 u2 w7 k17 k27 j17 j27 mn mo
  unfold mval at hsm
  obtain ⟨p0, p1, p2, p3, p4, p5⟩ := id C7
  obtain ⟨q0, q1, q2, q3, q4, q5⟩ := id D6
  clear hri o1 o2 j1 j2 k15 k25 C4
  go_wp2_with fail
  refine hsm.mono ?_
  rintro e w8 ⟨rfl, hb8⟩
  have b38 := bstep b37 hb8
  have b8 := bstep b3 b38
  have hs := bsame_any x3 a y3 c b b w8 (rd3.below b38) (hrd.below b8) hn3 hnA
  rw [decide_eq_true rfl] at hs
  clear p0 p1 p2 p3 p4 p5 q0 q1 q2 q3 q4 q5 hsm
  go_wp2_with (first | (go_at_call 17; refine (num_any _ _).mono ?_; rintro e wz ⟨rfl, hwz⟩; subst wz) | (go_at_call 16; refine hs.mono ?_; rintro e wz ⟨rfl, hwz⟩; subst wz) | (go_at_call 12; refine (live_any _ (g.below b8)).mono ?_; rintro e wl ⟨rfl, hbl⟩))
  go_ret
  exact ⟨rfl, bstep b8 hbl⟩

end Go.Proofs.YtdnmabemollbeaaDoor
