/-
  The page's examples of layer 8: live returns true in every world, and turns nothing that was there; bytes compared.
-/
import Derived.Test.YtdnmabemollbeaaDoorTExp
import Derived.Test.YtdnmabemollbeaaDoorTImp
import Derived.Test.YtdnmabemollbeaaDoorTFul
import Derived.Test.YtdnmabemollbeaaDoorK6
namespace Go.Proofs.YtdnmabemollbeaaDoor
open Go.RowKit

theorem num_any (e : Int) (w : World) : Calls Tryd.prog 17 #[.int .i64 e] w fun x w' => x = .returned (.int .i64 e) ∧ w' = w := by
  go_enter Tryd.func17, Tryd.ntmps17
  go_wp2
  go_ret
  exact ⟨rfl, rfl⟩
/-- string(b), b anywhere. -/
theorem conv_rd {w : World} {a : Option Addr} {c : Nat} {l : List UInt8} (h : RdL .u8 w a (zs l)) (hnil : a = none → l.length = 0 ∧ c = 0) : (convert 28 9 (.slice a l.length c)).run Tryd.prog w = .ok (.string ⟨l.toArray⟩) w := by
  cases a with
  | none =>
    obtain ⟨h0, rfl⟩ := hnil rfl
    obtain rfl := List.length_eq_zero_iff.1 h0
    exact conv_nil w
  | some ad =>
    refine run_convert_bytes_back w 28 9 5 ad c l Tryd.underlying28 Tryd.underlying5 Tryd.underlying9 fun j hj => ?_
    obtain ⟨b, off, e, hc⟩ := h.at (i := j) (by rw [zs_len]; exact hj)
    cases e
    rw [add_at, hc j (by rw [zs_len]; exact hj)]
    simp [zs, hj]
theorem beq_dec (l m : List UInt8) : (l == m) = decide (l = m) := by
  by_cases h : l = m
  · subst h; simp
  · rw [decide_eq_false h]; simpa using h
/-- The reference's Same of bytes. -/
theorem bsame_any (a a' : Option Addr) (c c' : Nat) (l m : List UInt8) (w : World) (h : RdL .u8 w a (zs l)) (h' : RdL .u8 w a' (zs m)) (hnil : a = none → l.length = 0 ∧ c = 0) (hnil' : a' = none → m.length = 0 ∧ c' = 0) :
    Calls Tryd.prog 16 #[.slice a l.length c, .slice a' m.length c'] w fun e w' => e = .returned (.bool (decide (l = m))) ∧ w' = w := by
  have k1 := conv_rd h hnil
  have k2 := conv_rd h' hnil'
  have HE := hide (beq_dec l m)
  go_enter Tryd.func16, Tryd.ntmps16
  go_wp2
  go_ret
  exact ⟨ret_bool (unhide HE), rfl⟩
def lA : Mc := ⟨1, 1, 2, 2, [1, 0], [0, 1]⟩
theorem itoa_dg {n : Nat} (h : n < 10) : Lib.itoa (n : Int) = [UInt8.ofNat (48 + n)] := by
  unfold Lib.itoa
  rw [if_neg (by omega), Int.toNat_natCast, Lib.decDigits, dif_pos h]
theorem lA_text : expV lA = ([100, 102, 97, 32, 49, 32, 50, 10, 48, 32, 49, 10, 49, 32, 48, 10], 0) := by
  have h0 : Lib.itoa 0 = [48] := itoa_dg (n := 0) (by decide)
  have h1 : Lib.itoa 1 = [49] := itoa_dg (n := 1) (by decide)
  have h2 : Lib.itoa 2 = [50] := itoa_dg (n := 2) (by decide)
  rw [expV_ok (by decide)]
  simp [expT, expP, szT, stT, dfaP, nN, kN, lA, List.range_succ, h0, h1, h2]
theorem lA_back : imP [100, 102, 97, 32, 49, 32, 50, 10, 48, 32, 49, 10, 49, 32, 48, 10] = .ok lA := by rfl
theorem lB_bad : imP [100, 102, 97, 32, 49, 32, 49, 10, 50, 32, 48, 10] = .error (8, 33) := by rfl
theorem lC_num : nmV [48, 52, 50] 0 = (0, 1, 6) := by rfl


set_option maxRecDepth 100000 in
set_option maxHeartbeats 4000000 in
theorem live_any (w : World) (g : Gl w) : Calls Tryd.prog 12 #[] w fun e w' => e = .returned (.bool true) ∧ Below w.heap.size w w' := by
  have ba : Below w.heap.size w (((w.alloc (.cells #[.int .i64 1, .int .i64 0] 3)).alloc (.cells #[.int .i64 0, .int .i64 1] 3)).alloc (.cells #[.int .i64 1, .int .i64 1, .int .i64 2, .int .i64 2, .slice (some ⟨w.heap.size, 0, none⟩) 2 2, .slice (some ⟨w.heap.size + 1, 0, none⟩) 2 2] 24)) := bstep (bstep (ballo _ _) (ballo _ _)) (ballo _ _)
  have ra1 : RdL .i64 (((w.alloc (.cells #[.int .i64 1, .int .i64 0] 3)).alloc (.cells #[.int .i64 0, .int .i64 1] 3)).alloc (.cells #[.int .i64 1, .int .i64 1, .int .i64 2, .int .i64 2, .slice (some ⟨w.heap.size, 0, none⟩) 2 2, .slice (some ⟨w.heap.size + 1, 0, none⟩) 2 2] 24)) (some ⟨w.heap.size, 0, none⟩) [1, 0] := (RdL.lit (q := .i64) (t := 3) w [1, 0] #[.int .i64 1, .int .i64 0] (by decide) rfl).below (bstep (ballo _ _) (ballo _ _))
  have ra2 : RdL .i64 (((w.alloc (.cells #[.int .i64 1, .int .i64 0] 3)).alloc (.cells #[.int .i64 0, .int .i64 1] 3)).alloc (.cells #[.int .i64 1, .int .i64 1, .int .i64 2, .int .i64 2, .slice (some ⟨w.heap.size, 0, none⟩) 2 2, .slice (some ⟨w.heap.size + 1, 0, none⟩) 2 2] 24)) (some ⟨w.heap.size + 1, 0, none⟩) [0, 1] := by
    have := (RdL.lit (q := .i64) (t := 3) (w.alloc (.cells #[.int .i64 1, .int .i64 0] 3)) [0, 1] #[.int .i64 0, .int .i64 1] (by decide) rfl).below (ballo _ (.cells #[.int .i64 1, .int .i64 1, .int .i64 2, .int .i64 2, .slice (some ⟨w.heap.size, 0, none⟩) 2 2, .slice (some ⟨w.heap.size + 1, 0, none⟩) 2 2] 24))
    rw [World.size_alloc] at this
    exact this
  have BA : Box (((w.alloc (.cells #[.int .i64 1, .int .i64 0] 3)).alloc (.cells #[.int .i64 0, .int .i64 1] 3)).alloc (.cells #[.int .i64 1, .int .i64 1, .int .i64 2, .int .i64 2, .slice (some ⟨w.heap.size, 0, none⟩) 2 2, .slice (some ⟨w.heap.size + 1, 0, none⟩) 2 2] 24)) (w.heap.size + 1 + 1) lA (some ⟨w.heap.size, 0, none⟩) 2 (some ⟨w.heap.size + 1, 0, none⟩) 2 := by
    have := Box.alloc ((w.alloc (.cells #[.int .i64 1, .int .i64 0] 3)).alloc (.cells #[.int .i64 0, .int .i64 1] 3)) lA (some ⟨w.heap.size, 0, none⟩) 2 (some ⟨w.heap.size + 1, 0, none⟩) 2 24
    simp only [World.size_alloc] at this
    exact this
  have ga := g.below ba
  have hex := export_any lA (some ⟨w.heap.size, 0, none⟩) 2 (some ⟨w.heap.size + 1, 0, none⟩) 2 _ ra1 ra2 (by decide) (by decide) ga
  rw [lA_text] at hex
  unfold mval at hex
  go_enter Tryd.func12, Tryd.ntmps12
  go_wp2_with fail
  refine hex.mono ?_
  rintro e w1 ⟨v1, rfl, hown1, hb1⟩
  have b1 := bstep ba hb1
  have g1 := g.below b1
  obtain ⟨a1, c1, rfl, hnil1, -, -, hrd1, -⟩ := hown1.shape
  have him := import_any a1 c1 [100, 102, 97, 32, 49, 32, 50, 10, 48, 32, 49, 10, 49, 32, 48, 10] w1 hrd1 g1
  unfold ImPost at him
  rw [lA_back] at him
  have B1 := BA.below hb1
  have r11 := ra1.below hb1
  have r12 := ra2.below hb1
  generalize ((w.alloc (.cells #[.int .i64 1, .int .i64 0] 3)).alloc (.cells #[.int .i64 0, .int .i64 1] 3)).alloc (.cells #[.int .i64 1, .int .i64 1, .int .i64 2, .int .i64 2, .slice (some ⟨w.heap.size, 0, none⟩) 2 2, .slice (some ⟨w.heap.size + 1, 0, none⟩) 2 2] 24) = wa at *
  rw [show (imV [100, 102, 97, 32, 49, 32, 50, 10, 48, 32, 49, 10, 49, 32, 48, 10] (.ok lA)) = (lA, 0, 16) from rfl] at him
  unfold mval at him
  clear hex
  rw [show (zs [100, 102, 97, 32, 49, 32, 50, 10, 48, 32, 49, 10, 49, 32, 48, 10]).length = 16 from rfl]
  go_wp2_with fail
  refine him.mono ?_
  rintro e w2 ⟨a2, c2, a3, c3, rfl, ⟨ho2, ho3, -⟩, hb2⟩
  rw [show lA.kind = 1 from rfl, show lA.k = 1 from rfl, show lA.o = 2 from rfl, show lA.n = 2 from rfl, show lA.nx.length = 2 from rfl, show lA.out.length = 2 from rfl]
  have b2 := bstep b1 hb2
  have g2 := g.below b2
  have B2 := B1.below hb2
  have r21 := r11.below hb2
  have r22 := r12.below hb2
  have hrd2 := hrd1.below hb2
  have C2 : Box (w2.alloc (.cells #[.int .i64 1, .int .i64 1, .int .i64 2, .int .i64 2, .slice a2 2 c2, .slice a3 2 c3] 24)) w2.heap.size lA a2 c2 a3 c3 := Box.alloc w2 lA a2 c2 a3 c3 24
  have ba3 : Below w2.heap.size w2 (w2.alloc (.cells #[.int .i64 1, .int .i64 1, .int .i64 2, .int .i64 2, .slice a2 2 c2, .slice a3 2 c3] 24)) := ballo _ _
  have b3 := bstep b2 ba3
  have ba4 : Below w2.heap.size w2 ((w2.alloc (.cells #[.int .i64 1, .int .i64 1, .int .i64 2, .int .i64 2, .slice a2 2 c2, .slice a3 2 c3] 24)).alloc (.cells #[.int .u8 100, .int .u8 102, .int .u8 97, .int .u8 32, .int .u8 49, .int .u8 32, .int .u8 49, .int .u8 10, .int .u8 50, .int .u8 32, .int .u8 48, .int .u8 10] 5 (12, 13))) := balloc ba3 _
  have b4 := bstep b2 ba4
  have g4 := g.below b4
  have kc : (convert 28 28 (.slice (some ⟨w2.heap.size + 1, 0, none⟩) 12 12)).run Tryd.prog ((w2.alloc (.cells #[.int .i64 1, .int .i64 1, .int .i64 2, .int .i64 2, .slice a2 2 c2, .slice a3 2 c3] 24)).alloc (.cells #[.int .u8 100, .int .u8 102, .int .u8 97, .int .u8 32, .int .u8 49, .int .u8 32, .int .u8 49, .int .u8 10, .int .u8 50, .int .u8 32, .int .u8 48, .int .u8 10] 5)) = .ok (.slice (some ⟨w2.heap.size + 1, 0, none⟩) 12 12) ((w2.alloc (.cells #[.int .i64 1, .int .i64 1, .int .i64 2, .int .i64 2, .slice a2 2 c2, .slice a3 2 c3] 24)).alloc (.cells #[.int .u8 100, .int .u8 102, .int .u8 97, .int .u8 32, .int .u8 49, .int .u8 32, .int .u8 49, .int .u8 10, .int .u8 50, .int .u8 32, .int .u8 48, .int .u8 10] 5 (12, 13))) := by
    have := conv_const (w2.alloc (.cells #[.int .i64 1, .int .i64 1, .int .i64 2, .int .i64 2, .slice a2 2 c2, .slice a3 2 c3] 24)) #[.int .u8 100, .int .u8 102, .int .u8 97, .int .u8 32, .int .u8 49, .int .u8 32, .int .u8 49, .int .u8 10, .int .u8 50, .int .u8 32, .int .u8 48, .int .u8 10] 12 12
    simpa using this
  have hr4 : RdL .u8 ((w2.alloc (.cells #[.int .i64 1, .int .i64 1, .int .i64 2, .int .i64 2, .slice a2 2 c2, .slice a3 2 c3] 24)).alloc (.cells #[.int .u8 100, .int .u8 102, .int .u8 97, .int .u8 32, .int .u8 49, .int .u8 32, .int .u8 49, .int .u8 10, .int .u8 50, .int .u8 32, .int .u8 48, .int .u8 10] 5 (12, 13))) (some ⟨w2.heap.size + 1, 0, none⟩) (zs [100, 102, 97, 32, 49, 32, 49, 10, 50, 32, 48, 10]) := by simpa using RdL.const (w2.alloc (.cells #[.int .i64 1, .int .i64 1, .int .i64 2, .int .i64 2, .slice a2 2 c2, .slice a3 2 c3] 24)) [100, 102, 97, 32, 49, 32, 49, 10, 50, 32, 48, 10] #[.int .u8 100, .int .u8 102, .int .u8 97, .int .u8 32, .int .u8 49, .int .u8 32, .int .u8 49, .int .u8 10, .int .u8 50, .int .u8 32, .int .u8 48, .int .u8 10] (12, 13) rfl
  have him4 := import_any (some ⟨w2.heap.size + 1, 0, none⟩) 12 [100, 102, 97, 32, 49, 32, 49, 10, 50, 32, 48, 10] _ hr4 g4
  unfold ImPost at him4
  rw [lB_bad, show (imV [100, 102, 97, 32, 49, 32, 49, 10, 50, 32, 48, 10] (.error (8, 33))) = (mcZ, 33, 8) from rfl] at him4
  unfold mval at him4
  have C4 : Box ((w2.alloc (.cells #[.int .i64 1, .int .i64 1, .int .i64 2, .int .i64 2, .slice a2 2 c2, .slice a3 2 c3] 24)).alloc (.cells #[.int .u8 100, .int .u8 102, .int .u8 97, .int .u8 32, .int .u8 49, .int .u8 32, .int .u8 49, .int .u8 10, .int .u8 50, .int .u8 32, .int .u8 48, .int .u8 10] 5 (12, 13))) w2.heap.size lA a2 c2 a3 c3 := C2.below (ballo _ (.cells #[.int .u8 100, .int .u8 102, .int .u8 97, .int .u8 32, .int .u8 49, .int .u8 32, .int .u8 49, .int .u8 10, .int .u8 50, .int .u8 32, .int .u8 48, .int .u8 10] 5 (12, 13)))
  have B4 := B2.below ba4
  have r41 := r21.below ba4
  have r42 := r22.below ba4
  have hrd4 := hrd2.below ba4
  have o42 := (ho2.grown ba4)
  have o43 := (ho3.grown ba4)
  clear him
  go_wp2_with fail
  clear kc C2 B2 r21 r22 hrd2 ho2 ho3 ba3 b3 hr4
  generalize (w2.alloc (.cells #[.int .i64 1, .int .i64 1, .int .i64 2, .int .i64 2, .slice a2 2 c2, .slice a3 2 c3] 24)).alloc (.cells #[.int .u8 100, .int .u8 102, .int .u8 97, .int .u8 32, .int .u8 49, .int .u8 32, .int .u8 49, .int .u8 10, .int .u8 50, .int .u8 32, .int .u8 48, .int .u8 10] 5 (12, 13)) = w4 at *
  refine him4.mono ?_
  rintro e w5 ⟨a5, c5, a6, c6, rfl, -, hb5⟩
  have b5 := bstep b4 hb5
  have ba6 : Below w5.heap.size w5 ((w5.alloc (.cells #[.int .i64 0, .int .i64 0, .int .i64 0, .int .i64 0, .slice a5 0 c5, .slice a6 0 c6] 24)).alloc (.cells #[.int .u8 48, .int .u8 52, .int .u8 50] 5 (3, 4))) := balloc (ballo _ _) _
  have hbx := bstep hb5 ba6
  have b6 := bstep b4 hbx
  have C6 := C4.below hbx
  have B6 := B4.below hbx
  have r61 := r41.below hbx
  have r62 := r42.below hbx
  have hrd6 := hrd4.below hbx
  have o62 := (o42.grown hbx)
  have o63 := (o43.grown hbx)
  have kc : (convert 28 28 (.slice (some ⟨w5.heap.size + 1, 0, none⟩) 3 3)).run Tryd.prog ((w5.alloc (.cells #[.int .i64 0, .int .i64 0, .int .i64 0, .int .i64 0, .slice a5 0 c5, .slice a6 0 c6] 24)).alloc (.cells #[.int .u8 48, .int .u8 52, .int .u8 50] 5)) = .ok (.slice (some ⟨w5.heap.size + 1, 0, none⟩) 3 3) ((w5.alloc (.cells #[.int .i64 0, .int .i64 0, .int .i64 0, .int .i64 0, .slice a5 0 c5, .slice a6 0 c6] 24)).alloc (.cells #[.int .u8 48, .int .u8 52, .int .u8 50] 5 (3, 4))) := by
    have := conv_const (w5.alloc (.cells #[.int .i64 0, .int .i64 0, .int .i64 0, .int .i64 0, .slice a5 0 c5, .slice a6 0 c6] 24)) #[.int .u8 48, .int .u8 52, .int .u8 50] 3 3
    simpa using this
  have hr6 : RdL .u8 ((w5.alloc (.cells #[.int .i64 0, .int .i64 0, .int .i64 0, .int .i64 0, .slice a5 0 c5, .slice a6 0 c6] 24)).alloc (.cells #[.int .u8 48, .int .u8 52, .int .u8 50] 5 (3, 4))) (some ⟨w5.heap.size + 1, 0, none⟩) (zs [48, 52, 50]) := by simpa using RdL.const (w5.alloc (.cells #[.int .i64 0, .int .i64 0, .int .i64 0, .int .i64 0, .slice a5 0 c5, .slice a6 0 c6] 24)) [48, 52, 50] #[.int .u8 48, .int .u8 52, .int .u8 50] (3, 4) rfl
  have hnu := number_any (some ⟨w5.heap.size + 1, 0, none⟩) 3 [48, 52, 50] 0 _ hr6 (by decide)
  rw [lC_num] at hnu
  clear him4
  rw [show mcZ.kind = 0 from rfl, show mcZ.k = 0 from rfl, show mcZ.o = 0 from rfl, show mcZ.n = 0 from rfl, show mcZ.nx.length = 0 from rfl, show mcZ.out.length = 0 from rfl]
  go_wp2_with fail
  clear kc C4 B4 r41 r42 hrd4 o42 o43 hr6
  generalize (w5.alloc (.cells #[.int .i64 0, .int .i64 0, .int .i64 0, .int .i64 0, .slice a5 0 c5, .slice a6 0 c6] 24)).alloc (.cells #[.int .u8 48, .int .u8 52, .int .u8 50] 5 (3, 4)) = w6 at *
  refine hnu.mono ?_
  rintro e w' ⟨rfl, hw'⟩
  subst w'
  obtain ⟨s2, t2, e2, -, -, -, rs2, -⟩ := o62.shape
  obtain ⟨s3, t3, e3, -, -, -, rs3, -⟩ := o63.shape
  cases e2
  cases e3
  have hcv : (convert 28 9 (.slice a1 16 c1)).run Tryd.prog w6 = .ok (.string ⟨#[100, 102, 97, 32, 49, 32, 50, 10, 48, 32, 49, 10, 49, 32, 48, 10]⟩) w6 := conv_rd hrd6 hnil1
  have hsm := msame_any lA a2 c2 a3 c3 (some ⟨w.heap.size, 0, none⟩) 2 (some ⟨w.heap.size + 1, 0, none⟩) 2 w6 rs2 rs3 r61 r62 (by decide) (by decide)
  unfold mval at hsm
  obtain ⟨p0, p1, p2, p3, p4, p5⟩ := C6
  obtain ⟨q0, q1, q2, q3, q4, q5⟩ := B6
  clear hnu
  go_wp2_with (first | (go_at_call 17; refine (num_any _ _).mono ?_; rintro e wz ⟨rfl, hwz⟩; subst wz) | (go_at_call 18; refine hsm.mono ?_; rintro e w7 ⟨rfl, hb7⟩))
  go_ret
  exact ⟨rfl, bstep b6 hb7⟩

end Go.Proofs.YtdnmabemollbeaaDoor
