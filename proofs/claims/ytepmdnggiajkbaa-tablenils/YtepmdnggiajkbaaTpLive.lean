/-
  The document's example: live returns true; the law TableNils.
-/
import Derived.Test.YtepmdnggiajkbaaK42
import Derived.Test.YtepmdnggiajkbaaK1
import Derived.Test.YtepmdnggiajkbaaK5
namespace Go.Proofs.Ytepmdnggiajkbaa
set_option linter.unusedVariables false
open Go.RowKit

theorem lit2 (w : World) (x y : Int) : RdL .i64 (w.alloc (.cells #[.int .i64 x, .int .i64 y] 3)) (some ⟨w.heap.size, 0, none⟩) [x, y] := RdL.lit w [x, y] _ (by unfold maxLen; simp) rfl
theorem lit1 (w : World) (x : Int) : RdL .i64 (w.alloc (.cells #[.int .i64 x] 3)) (some ⟨w.heap.size, 0, none⟩) [x] := RdL.lit w [x] _ (by unfold maxLen; simp) rfl
theorem tnum_any (x : Int) (w : World) : Calls Try.prog 9 #[.int .i64 x] w fun e w' => e = .returned (.int .i64 x) ∧ w' = w := by
  go_enter Try.func9, Try.ntmps9
  go_wp2
  go_ret
  exact ⟨by first | rfl | simp, rfl⟩
def lvT1 : Tb := (ptT (tnV 1 1 2) [] [0]).1
def lvT2 : Tb := (ptT lvT1 [0] [1]).1
def lvT3 : Tb := (adR lvT2 [0]).1
def lvT4 : Tb := (ptT lvT3 [0, 0] [0]).1
theorem tlv1 : misT (tnV 1 1 2) = some [] := by decide
theorem tlv2 : misT lvT1 = some [0] := by decide
theorem tlv3 : opnT lvT2 = some [0] := by decide
theorem tlv4 : (adR lvT2 [0]).2 = 0 := by decide
theorem tlv5 : (hyT lvT4).2 = 0 ∧ (hyT lvT4).1.n = 2 ∧ (hyT lvT4).1.nx = [1, 0] ∧ (hyT lvT4).1.out = [0, 1] := by decide +kernel
theorem tlv6 : (tnV 1 1 2).ws.length ≤ 100000000 ∧ lvT1.ws.length ≤ 100000000 ∧ lvT3.ws.length ≤ 100000000 := by decide
set_option maxRecDepth 100000 in
set_option maxHeartbeats 8000000 in
theorem tlive_any (w : World) : Calls Try.prog 15 #[] w fun e w' => e = .returned (.bool true) ∧ Below w.heap.size w w' := by
  have hn := Tq.new (kind := 1) (k := 1) (o := 2) (by decide) w
  go_enter Try.func15, Try.ntmps15
  go_wp2_with fail
  refine hn.mono ?_
  rintro e w1 ⟨b, p, rfl, Q1⟩
  clear hn
  have h1 := Q1.mis
  rw [tlv1] at h1
  have HQ1 := hide Q1
  clear Q1
  go_wp2_with (first | (go_at_call 9; refine (tnum_any _ _).mono ?_; rintro e w' ⟨rfl, hw'⟩; subst w') | fail)
  refine h1.mono ?_
  rintro e w2 ⟨a1, c1, rfl, -, Q2, -⟩
  have hp := (Q2.below (bstep (ballo w2 (.cells #[] 3)) (ballo _ (.cells #[.int .i64 0] 3)))).put tlv6.1 (some ⟨w2.heap.size, 0, none⟩) 0 [] (.inl rfl) (by simp [maxLen]) (some ⟨w2.heap.size + 1, 0, none⟩) 1 [0] (by have := lit1 (w2.alloc (.cells #[] 3)) 0; rwa [World.size_alloc] at this) (by simp [maxLen])
  clear h1 HQ1 Q2
  go_wp2_with fail
  refine hp.mono ?_
  rintro e w3 ⟨p3, rfl, Q3, -, -⟩
  change Tq w w3 b p3 lvT1 at Q3
  have h3 := Q3.mis
  rw [tlv2] at h3
  generalize (ptT (tnV 1 1 2) [] [0]).2 = z3 at *
  clear hp Q3
  go_wp2_with fail
  refine h3.mono ?_
  rintro e w4 ⟨a4, c4, rfl, R4, Q4, -⟩
  have hb4 := bstep (ballo w4 (.cells #[.int .i64 0] 3)) (ballo _ (.cells #[.int .i64 1] 3))
  have hp := (Q4.below hb4).put tlv6.2.1 (some ⟨w4.heap.size, 0, none⟩) 1 [0] ((lit1 w4 0).below (ballo _ _)) (by simp [maxLen]) (some ⟨w4.heap.size + 1, 0, none⟩) 1 [1] (by have := lit1 (w4.alloc (.cells #[.int .i64 0] 3)) 1; rwa [World.size_alloc] at this) (by simp [maxLen])
  have HR4 := hide (R4.below hb4)
  clear h3 hb4 Q4 R4
  go_wp2_with fail
  refine hp.mono ?_
  rintro e w5 ⟨p5, rfl, Q5, B5, G5⟩
  have HR5 := hide ((unhide HR4).chg B5 G5)
  change Tq w w5 b p5 lvT2 at Q5
  have h5 := Q5.opn
  rw [tlv3] at h5
  generalize (ptT lvT1 [0] [1]).2 = z5 at *
  clear hp Q5 HR4 B5 G5
  go_wp2_with fail
  refine h5.mono ?_
  rintro e w6 ⟨a6, c6, rfl, R6, Q6, B6⟩
  have HR6 := hide ((unhide HR5).bx B6)
  have hb6 := ballo w6 (.cells #[.int .i64 0] 3)
  have hp := (Q6.below hb6).row (some ⟨w6.heap.size, 0, none⟩) 1 [0] (lit1 w6 0) (by simp [maxLen])
  have HR7 := hide ((unhide HR6).below hb6)
  have HS7 := hide (R6.below hb6)
  clear h5 HR5 HR6 R6 Q6 B6 hb6
  go_wp2_with fail
  refine hp.mono ?_
  rintro e w7 ⟨p7, rfl, Q7, B7, G7⟩
  rw [tlv4]
  have HR8 := hide ((unhide HR7).chg B7 G7)
  have HS8 := hide ((unhide HS7).chg B7 G7)
  have hb7 := bstep (ballo w7 (.cells #[.int .i64 0, .int .i64 0] 3)) (ballo _ (.cells #[.int .i64 0] 3))
  have hp2 := (Q7.below hb7).put tlv6.2.2 (some ⟨w7.heap.size, 0, none⟩) 2 [0, 0] ((lit2 w7 0 0).below (ballo _ _)) (by simp [maxLen]) (some ⟨w7.heap.size + 1, 0, none⟩) 1 [0] (by have := lit1 (w7.alloc (.cells #[.int .i64 0, .int .i64 0] 3)) 0; rwa [World.size_alloc] at this) (by simp [maxLen])
  have HR9 := hide ((unhide HR8).below hb7)
  have HS9 := hide ((unhide HS8).below hb7)
  clear hp HR7 HS7 HR8 HS8 B7 G7 Q7 hb7
  go_wp2_with fail
  refine hp2.mono ?_
  rintro e w8 ⟨p8, rfl, Q8, B8, G8⟩
  change Tq w w8 b p8 lvT4 at Q8
  have HRa := hide ((unhide HR9).chg B8 G8)
  have HSa := hide ((unhide HS9).chg B8 G8)
  have h8 := Q8.hyp
  unfold QhP mval at h8
  rw [tlv5.1, tlv5.2.1, tlv5.2.2.1, tlv5.2.2.2] at h8
  have HKK := hide (show True from trivial)
  generalize (hyT lvT4).1.kind = zk at *
  generalize (hyT lvT4).1.k = zq at *
  generalize (hyT lvT4).1.o = zo at *
  generalize (ptT lvT3 [0, 0] [0]).2 = z8 at *
  clear hp2 HR9 HS9 B8 G8 Q8
  go_wp2_with fail
  refine h8.mono ?_
  rintro e w9 ⟨x1, y1, x2, y2, rfl, X1, X2, Q9, B9⟩
  have hbA := ballo w9 (.cells #[.int .i64 zk, .int .i64 zq, .int .i64 zo, .int .i64 2, .slice x1 2 y1, .slice x2 2 y2] 27)
  have ZB : Box (w9.alloc (.cells #[.int .i64 zk, .int .i64 zq, .int .i64 zo, .int .i64 2, .slice x1 2 y1, .slice x2 2 y2] 27)) w9.heap.size ⟨zk, zq, zo, 2, [1, 0], [0, 1]⟩ x1 y1 x2 y2 := Box.alloc w9 ⟨zk, zq, zo, 2, [1, 0], [0, 1]⟩ x1 y1 x2 y2 27
  have HR := hide ((unhide HRa).bx B9)
  have HS := hide ((unhide HSa).bx B9)
  have HX1 := hide X1
  have HX2 := hide X2
  have HB := hide (bstep Q9.bl hbA)
  have HZB := hide ZB
  have HBA := hide hbA
  have s1 := same_list a4 (some ⟨(w9.alloc (.cells #[.int .i64 zk, .int .i64 zq, .int .i64 zo, .int .i64 2, .slice x1 2 y1, .slice x2 2 y2] 27)).heap.size, 0, none⟩) c4 1 [0] [0] _ (((unhide HR).below hbA).below (ballo _ (.cells #[.int .i64 0] 3))).1 (lit1 _ 0) (by simp [maxLen])
  rw [World.size_alloc] at s1
  clear h8 HRa HSa B9 Q9 X1 X2 hbA ZB
  go_wp2_with fail
  refine s1.mono ?_
  rintro e wA ⟨rfl, hA⟩
  have HZ1 := hide (((unhide HZB).below (ballo _ (.cells #[.int .i64 0] 3))).below hA)
  have HA := hide (bstep (bstep (unhide HBA) (ballo _ (.cells #[.int .i64 0] 3))) hA)
  have s2 := same_list a6 (some ⟨wA.heap.size, 0, none⟩) c6 1 [0] [0] _ (((unhide HS).below (unhide HA)).below (ballo wA (.cells #[.int .i64 0] 3))).1 (lit1 wA 0) (by simp [maxLen])
  have HB1 := hide (bstep (bstep (unhide HB) (ballo _ (.cells #[.int .i64 0] 3))) hA)
  clear s1 hA
  go_wp2_with fail
  refine s2.mono ?_
  rintro e wB ⟨rfl, hB⟩
  have HA2 := hide (bstep (bstep (unhide HA) (ballo _ (.cells #[.int .i64 0] 3))) hB)
  have HB2 := hide (bstep (bstep (unhide HB1) (ballo _ (.cells #[.int .i64 0] 3))) hB)
  obtain ⟨z0, z1, z2, z3, z4, z5⟩ := ((unhide HZ1).below (ballo _ (.cells #[.int .i64 0] 3))).below hB
  have z3 : wB.cell? ⟨w9.heap.size, 3, none⟩ = some (.int .i64 2) := z3
  have z4 : wB.cell? ⟨w9.heap.size, 4, none⟩ = some (.slice x1 2 y1) := z4
  have z5 : wB.cell? ⟨w9.heap.size, 5, none⟩ = some (.slice x2 2 y2) := z5
  have s3 := same_list x1 (some ⟨wB.heap.size, 0, none⟩) y1 2 [1, 0] [1, 0] _ (((unhide HX1).below (unhide HA2)).below (ballo wB (.cells #[.int .i64 1, .int .i64 0] 3))).1 (lit2 wB 1 0) (by simp [maxLen])
  have HZ5 := hide z5
  clear s2 hB z0 z1 z2
  go_wp2_with (first | (go_at_call 9; refine (tnum_any _ _).mono ?_; rintro e w' ⟨rfl, hw'⟩; subst w') | fail)
  refine s3.mono ?_
  rintro e wC ⟨rfl, hC⟩
  have HA3 := hide (bstep (bstep (unhide HA2) (ballo _ (.cells #[.int .i64 1, .int .i64 0] 3))) hC)
  have HB3 := hide (bstep (bstep (unhide HB2) (ballo _ (.cells #[.int .i64 1, .int .i64 0] 3))) hC)
  have z5 := (bstep (ballo wB (.cells #[.int .i64 1, .int .i64 0] 3)) hC).cell (World.block_lt_of_cell? _ _ (unhide HZ5))
  rw [unhide HZ5] at z5
  have s4 := same_list x2 (some ⟨wC.heap.size, 0, none⟩) y2 2 [0, 1] [0, 1] _ (((unhide HX2).below (unhide HA3)).below (ballo wC (.cells #[.int .i64 0, .int .i64 1] 3))).1 (lit2 wC 0 1) (by simp [maxLen])
  clear s3 hC z3 z4
  go_wp2_with fail
  refine s4.mono ?_
  rintro e wD ⟨rfl, hD⟩
  have HB4 := hide (bstep (bstep (unhide HB3) (ballo _ (.cells #[.int .i64 0, .int .i64 1] 3))) hD)
  clear s4 hD z5
  go_wp2
  go_ret
  exact ⟨by rfl, unhide HB4⟩
set_option maxRecDepth 100000 in
set_option maxHeartbeats 2000000 in
theorem tb_nil_hyp (w : World) : Calls Try.prog 8 #[.pointer none] w fun e w' => e = .returned (.tuple #[mval mc0 none 0 none 0, .int .i64 5]) ∧ Below w.heap.size w w' := by
  have hbA := ballo w (.cells #[.int .i64 0, .int .i64 0, .int .i64 0, .int .i64 0, .slice none 0 0, .slice none 0 0] 27)
  have ZA := Box.alloc w mc0 none 0 none 0 27
  have zf : ∀ i, (w.alloc (.cells #[.int .i64 0, .int .i64 0, .int .i64 0, .int .i64 0, .slice none 0 0, .slice none 0 0] 27)).frozen? ⟨w.heap.size, i, none⟩ = false := fun i => by rw [frozen?_alloc_cells]; exact frz_new w (Nat.le_refl _)
  change Box (w.alloc (.cells #[.int .i64 0, .int .i64 0, .int .i64 0, .int .i64 0, .slice none 0 0, .slice none 0 0] 27)) _ _ _ _ _ _ at ZA
  have HBA := hide hbA
  have HZA := hide ZA
  have HZF := hide zf
  clear hbA ZA zf
  go_enter Try.func8, Try.ntmps8
  go_wp2_with fail
  generalize w.alloc (.cells #[.int .i64 0, .int .i64 0, .int .i64 0, .int .i64 0, .slice none 0 0, .slice none 0 0] 27) = w1 at *
  obtain ⟨q0, q1, q2, q3, q4, q5⟩ := unhide HZA
  refine bodyPost_ret (v := .tuple #[mval mc0 none 0 none 0, .int .i64 5]) ?_ rfl ⟨rfl, unhide HBA⟩
  unfold mval
  simp [results, Try.results8, go_sem, q0, q1, q2, q3, q4, q5]
set_option maxRecDepth 100000 in
set_option maxHeartbeats 2000000 in
theorem tableNils_walk (a1 : Option Addr) (c1 : Nat) (l1 : List Int) (a2 : Option Addr) (c2 : Nat) (l2 : List Int) (w : World) (_ : ArgL .i64 8 w a1 c1 l1) (_ : ArgL .i64 8 w a2 c2 l2) :
    Calls Try.prog 3 #[.slice a1 l1.length c1, .slice a2 l2.length c2] w fun e w' => e = .returned (.bool true) ∧ Below w.heap.size w w' := by
  have hh := tb_nil_hyp w
  unfold mval at hh
  go_enter Try.func3, Try.ntmps3
  go_wp2_with (first
    | (go_at_call 5; refine (tb_nil_mis _).mono ?_; rintro e w' ⟨rfl, hw'⟩; subst w')
    | (go_at_call 6; refine (tb_nil_opn _).mono ?_; rintro e w' ⟨rfl, hw'⟩; subst w')
    | (go_at_call 7; refine (tb_nil_trn _).mono ?_; rintro e w' ⟨rfl, hw'⟩; subst w')
    | fail)
  refine hh.mono ?_
  clear hh
  rintro e w1 ⟨rfl, hb1⟩
  have ZB := Box.alloc w1 mc0 none 0 none 0 27
  change Box (w1.alloc (.cells #[.int .i64 0, .int .i64 0, .int .i64 0, .int .i64 0, .slice none 0 0, .slice none 0 0] 27)) _ _ _ _ _ _ at ZB
  have HB := hide (bstep hb1 (ballo w1 (.cells #[.int .i64 0, .int .i64 0, .int .i64 0, .int .i64 0, .slice none 0 0, .slice none 0 0] 27)))
  have z3 : _ = some (Value.int .i64 0) := ZB.p3
  clear ZB
  go_wp2_with (first
    | (go_at_call 9; refine (tnum_any _ _).mono ?_; rintro e w' ⟨rfl, hw'⟩; subst w')
    | (go_at_call 10; refine (tb_nil_row _ _).mono ?_; rintro e w' ⟨rfl, hw'⟩; subst w')
    | (go_at_call 11; refine (tb_nil_col _ _).mono ?_; rintro e w' ⟨rfl, hw'⟩; subst w')
    | (go_at_call 12; refine (tb_nil_put _ _ _).mono ?_; rintro e w' ⟨rfl, hw'⟩; subst w')
    | (go_at_call 13; refine (tb_nil_rows _).mono ?_; rintro e w' ⟨rfl, hw'⟩; subst w')
    | (go_at_call 14; refine (tb_nil_cols _).mono ?_; rintro e w' ⟨rfl, hw'⟩; subst w')
    | (go_at_call 15; refine (tlive_any _).mono ?_; rintro e w9 ⟨rfl, hb9⟩))
  go_ret
  exact ⟨by rfl, bstep (unhide HB) hb9⟩

end Go.Proofs.Ytepmdnggiajkbaa
