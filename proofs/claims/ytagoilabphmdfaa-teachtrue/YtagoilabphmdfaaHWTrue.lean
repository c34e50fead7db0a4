/-
  TeachTrue, walked: for every input the call returns true.
-/
import Derived.Test.YtagoilabphmdfaaHLive
import Derived.Test.YtagoilabphmdfaaHWB
import Derived.Test.YtagoilabphmdfaaHTell
import Derived.Test.YtagoilabphmdfaaHTt
import Derived.Test.YtagoilabphmdfaaUTel
import Derived.Test.YtagoilabphmdfaaK6
namespace Go.Proofs.Ytagoilabphmdfaa
set_option linter.unusedVariables false
open Go.RowKit

set_option maxRecDepth 100000 in
set_option maxHeartbeats 4000000 in
theorem teachTrue_walk (m : Mc) (a1 : Option Addr) (c1 : Nat) (a2 : Option Addr) (c2 : Nat) (aw : Option Addr) (cw : Nat) (wd : List Int) (h : Mc) (d1 : Option Addr) (e1 : Nat) (d2 : Option Addr) (e2 : Nat) (w : World) (h0 : ArgM w m a1 c1 a2 c2) (hw : ArgL .i64 8 w aw cw wd) (g0 : ArgM w h d1 e1 d2 e2) :
    Calls Try.prog 6 #[mval m a1 c1 a2 c2, .slice aw wd.length cw, mval h d1 e1 d2 e2] w fun e w' => e = .returned (.bool true) ∧ Below w.heap.size w w' := by
  have B0 : Below w.heap.size w ((w.alloc (.cells #[.int .i64 m.kind, .int .i64 m.k, .int .i64 m.o, .int .i64 m.n, .slice a1 m.nx.length c1, .slice a2 m.out.length c2] 24)).alloc (.cells #[.int .i64 h.kind, .int .i64 h.k, .int .i64 h.o, .int .i64 h.n, .slice d1 h.nx.length e1, .slice d2 h.out.length e2] 24)) := bstep (ballo _ _) (ballo _ _)
  have X0 : Box ((w.alloc (.cells #[.int .i64 m.kind, .int .i64 m.k, .int .i64 m.o, .int .i64 m.n, .slice a1 m.nx.length c1, .slice a2 m.out.length c2] 24)).alloc (.cells #[.int .i64 h.kind, .int .i64 h.k, .int .i64 h.o, .int .i64 h.n, .slice d1 h.nx.length e1, .slice d2 h.out.length e2] 24)) w.heap.size m a1 c1 a2 c2 := (Box.alloc w m a1 c1 a2 c2 24).below (ballo _ _)
  have Y0 : Box ((w.alloc (.cells #[.int .i64 m.kind, .int .i64 m.k, .int .i64 m.o, .int .i64 m.n, .slice a1 m.nx.length c1, .slice a2 m.out.length c2] 24)).alloc (.cells #[.int .i64 h.kind, .int .i64 h.k, .int .i64 h.o, .int .i64 h.n, .slice d1 h.nx.length e1, .slice d2 h.out.length e2] 24)) (w.heap.size + 1) h d1 e1 d2 e2 := by
    have := Box.alloc (w.alloc (.cells #[.int .i64 m.kind, .int .i64 m.k, .int .i64 m.o, .int .i64 m.n, .slice a1 m.nx.length c1, .slice a2 m.out.length c2] 24)) h d1 e1 d2 e2 24
    rw [World.size_alloc] at this
    exact this
  have hbg := big_any 60 m a1 c1 a2 c2 ((w.alloc (.cells #[.int .i64 m.kind, .int .i64 m.k, .int .i64 m.o, .int .i64 m.n, .slice a1 m.nx.length c1, .slice a2 m.out.length c2] 24)).alloc (.cells #[.int .i64 h.kind, .int .i64 h.k, .int .i64 h.o, .int .i64 h.n, .slice d1 h.nx.length e1, .slice d2 h.out.length e2] 24))
  unfold mval at hbg ⊢
  have HB0 := hide B0
  have HX0 := hide X0
  have HY0 := hide Y0
  clear B0 X0 Y0
  go_enter Try.func6, Try.ntmps6
  go_wp2_with fail
  refine hbg.mono ?_
  rintro e w1 ⟨rfl, hb1⟩
  have HB1 := hide (bstep (unhide HB0) hb1)
  have HX1 := hide ((unhide HX0).below hb1)
  have HY1 := hide ((unhide HY0).below hb1)
  clear hbg HB0 HX0 HY0 hb1
  cases hbig : bigB 60 m
  rotate_left
  · clear hbig
    go_wp2_with fail
    refine (live_any _).mono ?_
    rintro e wl ⟨rfl, hbl⟩
    go_wp2
    go_ret
    exact ⟨rfl, bstep (unhide HB1) hbl⟩
  obtain ⟨na, ln, lo⟩ := big_bounds hbig
  have HM := hide (show MA w m a1 c1 a2 c2 from ⟨h0.nx.rd, h0.out.rd, h0.nx.le, h0.out.le, ln, lo, by omega⟩)
  have HN1 := hide na
  clear hbig ln lo na h0
  have hbg := big_any 60 h d1 e1 d2 e2 w1
  unfold mval at hbg
  obtain ⟨n0, n1, n2, n3, n4, n5⟩ := unhide HY1
  go_wp2_with fail
  refine hbg.mono ?_
  rintro e w2 ⟨rfl, hb2⟩
  have HB2 := hide (bstep (unhide HB1) hb2)
  have HX2 := hide ((unhide HX1).below hb2)
  have HY2 := hide ((unhide HY1).below hb2)
  clear hbg HB1 HX1 HY1 hb2 n0 n1 n2 n3 n4 n5
  cases hbig : bigB 60 h
  rotate_left
  · clear hbig
    go_wp2_with fail
    refine (live_any _).mono ?_
    rintro e wl ⟨rfl, hbl⟩
    go_wp2
    go_ret
    exact ⟨rfl, bstep (unhide HB2) hbl⟩
  obtain ⟨nb, kn, ko⟩ := big_bounds hbig
  have HH := hide (show MA w h d1 e1 d2 e2 from ⟨g0.nx.rd, g0.out.rd, g0.nx.le, g0.out.le, kn, ko, by omega⟩)
  have HN2 := hide nb
  have HG := hide hw.rd
  clear hbig nb kn ko g0 hw
  by_cases c9 : (wd.length : Int) > 2000
  · go_wp2_with fail
    refine (live_any _).mono ?_
    rintro e wl ⟨rfl, hbl⟩
    go_wp2
    go_ret
    exact ⟨rfl, bstep (unhide HB2) hbl⟩
  have kw : wd.length ≤ maxLen := by unfold maxLen; omega
  have bq := ballo w2 (.cells #[.int .i64 1, .slice aw wd.length cw, .int .i64 m.kind, .int .i64 m.k, .int .i64 m.o, .int .i64 0, .slice none 0 0, .slice none 0 0] 26)
  have Q3 : Qb (w2.alloc (.cells #[.int .i64 1, .slice aw wd.length cw, .int .i64 m.kind, .int .i64 m.k, .int .i64 m.o, .int .i64 0, .slice none 0 0, .slice none 0 0] 26)) w2.heap.size ⟨⟨1, wd, ⟨m.kind, m.k, m.o, 0, [], []⟩⟩, aw, cw, none, 0, none, 0⟩ := Qb.alloc w2 ⟨⟨1, wd, ⟨m.kind, m.k, m.o, 0, [], []⟩⟩, aw, cw, none, 0, none, 0⟩ 26
  have QF3 : ∀ i, (w2.alloc (.cells #[.int .i64 1, .slice aw wd.length cw, .int .i64 m.kind, .int .i64 m.k, .int .i64 m.o, .int .i64 0, .slice none 0 0, .slice none 0 0] 26)).frozen? ⟨w2.heap.size, i, none⟩ = false := fun i => by rw [frozen?_alloc_cells]; exact frzN _ (Nat.le_refl _)
  have z2 : w.heap.size + 1 < w2.heap.size := World.block_lt_of_cell? _ _ (unhide HY2).p0
  have HB3 := hide (bstep (unhide HB2) bq)
  have HX3 := hide ((unhide HX2).below bq)
  have HY3 := hide ((unhide HY2).below bq)
  have HQ3 := hide Q3
  have HQF3 := hide QF3
  obtain ⟨m0, m1, m2, m3, m4, m5⟩ := unhide HX2
  clear HB2 HX2 HY2 bq Q3 QF3
  go_upto_region 4 with fail
  clear m0 m1 m2 m3 m4 m5
  generalize (w2.alloc (.cells #[.int .i64 1, .slice aw wd.length cw, .int .i64 m.kind, .int .i64 m.k, .int .i64 m.o, .int .i64 0, .slice none 0 0, .slice none 0 0] 26)) = W3 at *
  generalize w2.heap.size = qb at *
  obtain ⟨o1, ho1⟩ := se_ex m ⟨m.kind, m.k, m.o, 0, [], []⟩
  have htl := ttell_any m a1 c1 a2 c2 ⟨⟨1, wd, ⟨m.kind, m.k, m.o, 0, [], []⟩⟩, aw, cw, none, 0, none, 0⟩ W3 o1 ((unhide HM).below (unhide HB3)) ⟨.inl rfl, .inl rfl, Nat.le_refl _, Nat.le_refl _, Nat.zero_le _, Nat.zero_le _, show (0 : Int) ≤ 512 by decide⟩ ((unhide HG).below (unhide HB3)) kw ho1
  have hTS := fun hz => tell_said (o := o1) (m := m) (q := ⟨1, wd, ⟨m.kind, m.k, m.o, 0, [], []⟩⟩) hz rfl rfl rfl
  have HTS := hide hTS
  unfold mval pqV at htl
  dsimp only [List.length_nil] at htl HTS
  clear ho1 hTS
  generalize tellV o1 m ⟨1, wd, ⟨m.kind, m.k, m.o, 0, [], []⟩⟩ = R1 at *
  obtain ⟨m0, m1, m2, m3, m4, m5⟩ := unhide HX3
  obtain ⟨q0, q1, q2, q3, q4, q5, q6, q7⟩ := unhide HQ3
  dsimp only [List.length_nil] at q0 q1 q2 q3 q4 q5 q6 q7
  go_wp2_with fail
  refine htl.mono ?_
  rintro e w3 ⟨vo, vw, rfl, oo, ow, hb3⟩
  obtain ⟨s1, t1, rfl, -, k1, k2, rd1, -⟩ := oo.shape
  obtain ⟨s2, t2, rfl, -, k3, k4, rd2, -⟩ := ow.shape
  clear htl m0 m1 m2 m3 m4 m5 q0 q1 q2 q3 q4 q5 q6 q7 oo ow
  have z3 : qb < w3.heap.size := by
    have hq : qb < W3.heap.size := World.block_lt_of_cell? _ _ (unhide HQ3).p0
    have := hb3.size
    omega
  have ba := ballo w3 (.cells #[.int .i64 R1.1.kind, .slice s1 R1.1.out.length t1, .slice s2 R1.1.word.length t2] 28)
  have hbb := bstep hb3 ba
  have T4 : Tt w (w3.alloc (.cells #[.int .i64 R1.1.kind, .slice s1 R1.1.out.length t1, .slice s2 R1.1.word.length t2] 28)) m a1 c1 a2 c2 h d1 e1 d2 e2 qb ⟨⟨1, wd, ⟨m.kind, m.k, m.o, 0, [], []⟩⟩, aw, cw, none, 0, none, 0⟩ w3.heap.size ⟨R1.1, s1, t1, s2, t2⟩ :=
    ⟨(unhide HX3).below hbb, (unhide HY3).below hbb, (unhide HQ3).below hbb, ⟨by simp, by simp, by simp⟩, fun i => frzO (unhide HQF3 i) hbb (World.block_lt_of_cell? _ _ (unhide HQ3).p0), fun i => by rw [frozen?_alloc_cells]; exact frzN _ (Nat.le_refl _), z2, z3, bstep (unhide HB3) hbb⟩
  have ra1 := rd1.below ba
  have ra2 := rd2.below ba
  have HT4 := hide T4
  clear hb3 hbb ba rd1 rd2 HX3 HY3 HQ3 HQF3 HB3 T4
  go_upto_region 5 with fail
  generalize (w3.alloc (.cells #[.int .i64 R1.1.kind, .slice s1 R1.1.out.length t1, .slice s2 R1.1.word.length t2] 28)) = W4 at *
  generalize w3.heap.size = ab at *
  go_wp2_with fail
  refine (num_any R1.2 W4).mono ?_
  rintro e wn ⟨rfl, hwn⟩
  rw [hwn]
  clear hwn wn
  by_cases zz : R1.2 = 0
  · have tz : (R1.2 == 0) = true := by simpa using zz
    have hck := unhide HTS zz
    have htc := tcheck_any ⟨⟨1, wd, ⟨m.kind, m.k, m.o, 0, [], []⟩⟩, aw, cw, none, 0, none, 0⟩ ⟨R1.1, s1, t1, s2, t2⟩ W4 ⟨ra1, ra2⟩ (Nat.le_trans k1 k2) (Nat.le_trans k3 k4)
    dsimp only at htc
    rw [hck] at htc
    unfold pqV paV at htc
    dsimp only [List.length_nil] at htc
    obtain ⟨q0, q1, q2, q3, q4, q5, q6, q7⟩ := (unhide HT4).q
    obtain ⟨x0, x1, x2⟩ := (unhide HT4).a
    dsimp only [List.length_nil] at q0 q1 q2 q3 q4 q5 q6 q7 x0 x1 x2
    clear hck zz
    go_wp2_with fail
    refine htc.mono ?_
    rintro e W4' ⟨rfl, hb4⟩
    have HT4' := hide ((unhide HT4).below hb4)
    clear htc q0 q1 q2 q3 q4 q5 q6 q7 x0 x1 x2 HT4 hb4 ra1 ra2 HTS
    have HT4 := HT4'
    clear HT4'
    go_wp2_with fail
    refine (num_any 0 W4').mono ?_
    rintro e wn ⟨rfl, hwn⟩
    rw [hwn]
    clear hwn wn k1 k2 k3 k4
    have f0 := (unhide HT4).qf 0
    have f1 := (unhide HT4).qf 1
    have f2 := (unhide HT4).qf 2
    have f3 := (unhide HT4).qf 3
    have f4 := (unhide HT4).qf 4
    have f5 := (unhide HT4).qf 5
    have f6 := (unhide HT4).qf 6
    have f7 := (unhide HT4).qf 7
    obtain ⟨m0, m1, m2, m3, m4, m5⟩ := (unhide HT4).m
    obtain ⟨n0, n1, n2, n3, n4, n5⟩ := (unhide HT4).h
    obtain ⟨q0, q1, q2, q3, q4, q5, q6, q7⟩ := (unhide HT4).q
    obtain ⟨x0, x1, x2⟩ := (unhide HT4).a
    dsimp only [List.length_nil] at q0 q1 q2 q3 q4 q5 q6 q7 x0 x1 x2
    go_upto_region 8 with fail
    change Code.wp _ _ _ _ (octo W4' qb ⟨⟨2, [], h⟩, none, 0, d1, e1, d2, e2⟩)
    have T5 := (unhide HT4).setQ ⟨⟨2, [], h⟩, none, 0, d1, e1, d2, e2⟩
    clear HT4 m0 m1 m2 m3 m4 m5 n0 n1 n2 n3 n4 n5 q0 q1 q2 q3 q4 q5 q6 q7 f0 f1 f2 f3 f4 f5 f6 f7 x0 x1 x2
    generalize octo W4' qb ⟨⟨2, [], h⟩, none, 0, d1, e1, d2, e2⟩ = W5 at *
    have HT5 := hide T5
    obtain ⟨o, ho⟩ := se_ex m h
    have htl := ttell_any m a1 c1 a2 c2 ⟨⟨2, [], h⟩, none, 0, d1, e1, d2, e2⟩ W5 o ((unhide HM).below T5.b) ((unhide HH).below T5.b) (.inl rfl) (Nat.zero_le _) ho
    have hTH := fun hz => tell_hypo (o := o) (m := m) (q := ⟨2, [], h⟩) hz rfl ho (unhide HN1) (unhide HN2)
    have HTH := hide hTH
    have hsp := fun wz (hz : Below w.heap.size w wz) => rseparate_any m h a1 c1 a2 c2 d1 e1 d2 e2 wz o ((unhide HM).below hz).r1 ((unhide HM).below hz).r2 ((unhide HH).below hz).r1 ((unhide HH).below hz).r2 (unhide HM).m1 (unhide HM).m2 (unhide HH).m1 (unhide HH).m2 ho
    have HSP := hide hsp
    unfold mval pqV at htl
    unfold mval SePost at HSP
    dsimp only at htl HTH HSP
    clear ho hTH hsp
    obtain ⟨m0, m1, m2, m3, m4, m5⟩ := T5.m
    obtain ⟨q0, q1, q2, q3, q4, q5, q6, q7⟩ := T5.q
    generalize tellV o m ⟨2, [], h⟩ = R at *
    clear T5
    go_wp2_with fail
    refine htl.mono ?_
    rintro e W6 ⟨vo, vw, rfl, oo, ow, hb6⟩
    have T6 := (unhide HT5).below hb6
    have hl6 := T6.lt
    have hlt5 := (unhide HT5).lt
    obtain ⟨s1, t1, rfl, -, k1, k2, -, -⟩ := oo.shape
    obtain ⟨s2, t2, rfl, -, k3, k4, -, -⟩ := ow.shape
    clear htl HT5 m0 m1 m2 m3 m4 m5 q0 q1 q2 q3 q4 q5 q6 q7
    have f0 := T6.af 0
    have f1 := T6.af 1
    have f2 := T6.af 2
    obtain ⟨x0, x1, x2⟩ := T6.a
    go_upto_region 9 with fail
    change Code.wp _ _ _ _ (three W6 ab (.int .i64 R.1.kind) (.slice s1 R.1.out.length t1) (.slice s2 R.1.word.length t2))
    have T7 := T6.setA ⟨R.1, s1, t1, s2, t2⟩
    have O1 := ownKeep2 (B' := w.heap.size) oo (b := ab) hlt5 (by have := T6.b.size; have := hb6.size; omega) (.int .i64 R.1.kind) (.slice s1 R.1.out.length t1) (.slice s2 R.1.word.length t2)
    have O2 := ownKeep2 (B' := w.heap.size) ow (b := ab) hlt5 (by have := T6.b.size; have := hb6.size; omega) (.int .i64 R.1.kind) (.slice s1 R.1.out.length t1) (.slice s2 R.1.word.length t2)
    clear x0 x1 x2 f0 f1 f2 T6 oo ow hb6
    dsimp only at T7
    generalize three W6 ab (.int .i64 R.1.kind) (.slice s1 R.1.out.length t1) (.slice s2 R.1.word.length t2) = W7 at *
    obtain ⟨g1, u1, E1, -, -, -, rd1, -⟩ := O1.shape
    cases E1
    obtain ⟨g2, u2, E2, -, -, -, rd2, -⟩ := O2.shape
    cases E2
    clear O1 O2
    have HT7 := hide T7
    have HR1 := hide rd1
    have HR2 := hide rd2
    clear T7 rd1 rd2
    go_wp2_with fail
    refine (num_any R.2 W7).mono ?_
    rintro e wn ⟨rfl, hwn⟩
    rw [hwn]
    clear hwn wn
    by_cases z9 : R.2 = 0
    rotate_left
    · have t9 : (R.2 != 0) = true := by simpa using z9
      have HB := hide (unhide HT7).b
      go_wp2_with fail
      refine (live_any _).mono ?_
      rintro e wl ⟨rfl, hbl⟩
      go_wp2
      go_ret
      exact ⟨rfl, bstep (unhide HB) hbl⟩
    have t9 : (R.2 != 0) = false := by simp [z9]
    obtain ⟨hck, hyes, hno⟩ := unhide HTH z9
    have HCK := hide hck
    have HYES := hide hyes
    have HNO := hide hno
    clear z9 HTH hck hyes hno
    have hsp := unhide HSP W7 (unhide HT7).b
    obtain ⟨m0, m1, m2, m3, m4, m5⟩ := (unhide HT7).m
    obtain ⟨n0, n1, n2, n3, n4, n5⟩ := (unhide HT7).h
    go_wp2_with fail
    refine hsp.mono ?_
    rintro e W8 ⟨v8, rfl, -, hb8⟩
    have T8 := (unhide HT7).below hb8
    have r18 := (unhide HR1).below hb8
    have r28 := (unhide HR2).below hb8
    have htc := tcheck_any ⟨⟨2, [], h⟩, none, 0, d1, e1, d2, e2⟩ ⟨R.1, s1, t1, s2, t2⟩ W8 ⟨r18, r28⟩ (Nat.le_trans k1 k2) (Nat.le_trans k3 k4)
    dsimp only at htc
    rw [unhide HCK] at htc
    unfold pqV paV at htc
    dsimp only at htc
    clear hsp HSP m0 m1 m2 m3 m4 m5 n0 n1 n2 n3 n4 n5 HT7 HR1 HR2
    have HT8 := hide T8
    have HR1 := hide r18
    have HR2 := hide r28
    obtain ⟨q0, q1, q2, q3, q4, q5, q6, q7⟩ := T8.q
    obtain ⟨x0, x1, x2⟩ := T8.a
    dsimp only at q0 q1 q2 q3 q4 q5 q6 q7 x0 x1 x2
    clear T8 r18 r28
    go_wp2_with fail
    refine htc.mono ?_
    rintro e W9 ⟨rfl, hb9⟩
    have T9 := (unhide HT8).below hb9
    have r19 := (unhide HR1).below hb9
    have r29 := (unhide HR2).below hb9
    clear htc q0 q1 q2 q3 q4 q5 q6 q7 x0 x1 x2 HT8 HR1 HR2 hb9
    have HT9 := hide T9
    have HR1 := hide r19
    have HR2 := hide r29
    clear r19 r29
    go_wp2_with fail
    refine (num_any 0 W9).mono ?_
    rintro e wn ⟨rfl, hwn⟩
    rw [hwn]
    clear hwn wn
    obtain ⟨x0, x1, x2⟩ := T9.a
    dsimp only at x0 x1 x2
    have HB9 := hide T9.b
    clear T9
    cases hi : o.isSome
    · rw [unhide HNO hi] at x0
      clear HYES HNO
      dsimp only at x0
      go_wp2_with fail
      refine (live_any _).mono ?_
      rintro e wl ⟨rfl, hbl⟩
      go_wp2
      go_ret
      exact ⟨rfl, bstep (unhide HB9) hbl⟩
    · obtain ⟨hR, hne⟩ := unhide HYES hi
      have hR' := hR
      rw [hR] at x0 x2
      have HNE := hide hne
      have HR2' : Hid (RdL .i64 W9 s2 (o.getD [])) := by
        have := unhide HR2
        rw [hR] at this
        exact this
      have kk4 : (o.getD []).length ≤ maxLen := by rw [hR] at k3; exact Nat.le_trans k3 k4
      rw [hR]
      clear HYES HNO hne hi hR hR' HR1 HR2 x1
      dsimp only at x0 x2
      generalize o.getD [] = L at *
      have hr1 := rrun_any m a1 c1 a2 c2 s2 t2 L W9 ((unhide HM).below (unhide HB9)).r1 ((unhide HM).below (unhide HB9)).r2 (unhide HR2') (unhide HM).m1 (unhide HM).m2 kk4
      unfold mval at hr1
      obtain ⟨m0, m1, m2, m3, m4, m5⟩ := (unhide HT9).m
      go_wp2_with fail
      refine hr1.mono ?_
      rintro e Wa ⟨va, rfl, oa, hba⟩
      have Ta := (unhide HT9).below hba
      have ra := (unhide HR2').below hba
      have xa0 : Wa.cell? ⟨ab, 2, none⟩ = some (.slice s2 L.length t2) := (hba.cell (World.block_lt_of_cell? _ _ x2)).trans x2
      have hr2 := rrun_any h d1 e1 d2 e2 s2 t2 L Wa ((unhide HH).below Ta.b).r1 ((unhide HH).below Ta.b).r2 ra (unhide HH).m1 (unhide HH).m2 kk4
      unfold mval at hr2
      clear hr1 m0 m1 m2 m3 m4 m5 x0 x2 HT9
      obtain ⟨n0, n1, n2, n3, n4, n5⟩ := Ta.h
      have HBa := hide Ta.b
      clear Ta
      obtain ⟨g5, u5, rfl, -, k5, k6, rd5, -⟩ := oa.shape
      go_wp2_with fail
      refine hr2.mono ?_
      rintro e Wb ⟨vb, rfl, ob, hbb⟩
      obtain ⟨g6, u6, rfl, -, -, -, rd6, -⟩ := ob.shape
      have HBb := hide (bstep (unhide HBa) hbb)
      have hsm := same_list g5 g6 u5 u6 _ _ Wb (rd5.below hbb) rd6 (Nat.le_trans k5 k6)
      rw [show decide ((fromV m 0 L).2.1 = (fromV h 0 L).2.1) = false from decide_eq_false (unhide HNE)] at hsm
      clear hr2 n0 n1 n2 n3 n4 n5 xa0 oa ob rd5 rd6 ra HNE k5 k6 hbb
      go_wp2_with fail
      refine hsm.mono ?_
      rintro e Wc ⟨rfl, hbc⟩
      clear hsm
      go_wp2_with fail
      refine (live_any _).mono ?_
      rintro e wl ⟨rfl, hbl⟩
      go_wp2
      go_ret
      exact ⟨rfl, bstep (unhide HBb) (bstep hbc hbl)⟩
  · have tz : (R1.2 == 0) = false := by simpa using zz
    clear zz ra1 ra2 HTS k1 k2 k3 k4
    have f0 := (unhide HT4).qf 0
    have f1 := (unhide HT4).qf 1
    have f2 := (unhide HT4).qf 2
    have f3 := (unhide HT4).qf 3
    have f4 := (unhide HT4).qf 4
    have f5 := (unhide HT4).qf 5
    have f6 := (unhide HT4).qf 6
    have f7 := (unhide HT4).qf 7
    obtain ⟨m0, m1, m2, m3, m4, m5⟩ := (unhide HT4).m
    obtain ⟨n0, n1, n2, n3, n4, n5⟩ := (unhide HT4).h
    obtain ⟨q0, q1, q2, q3, q4, q5, q6, q7⟩ := (unhide HT4).q
    obtain ⟨x0, x1, x2⟩ := (unhide HT4).a
    dsimp only [List.length_nil] at q0 q1 q2 q3 q4 q5 q6 q7 x0 x1 x2
    go_upto_region 8 with fail
    change Code.wp _ _ _ _ (octo W4 qb ⟨⟨2, [], h⟩, none, 0, d1, e1, d2, e2⟩)
    have T5 := (unhide HT4).setQ ⟨⟨2, [], h⟩, none, 0, d1, e1, d2, e2⟩
    clear HT4 m0 m1 m2 m3 m4 m5 n0 n1 n2 n3 n4 n5 q0 q1 q2 q3 q4 q5 q6 q7 f0 f1 f2 f3 f4 f5 f6 f7 x0 x1 x2
    generalize octo W4 qb ⟨⟨2, [], h⟩, none, 0, d1, e1, d2, e2⟩ = W5 at *
    have HT5 := hide T5
    obtain ⟨o, ho⟩ := se_ex m h
    have htl := ttell_any m a1 c1 a2 c2 ⟨⟨2, [], h⟩, none, 0, d1, e1, d2, e2⟩ W5 o ((unhide HM).below T5.b) ((unhide HH).below T5.b) (.inl rfl) (Nat.zero_le _) ho
    have hTH := fun hz => tell_hypo (o := o) (m := m) (q := ⟨2, [], h⟩) hz rfl ho (unhide HN1) (unhide HN2)
    have HTH := hide hTH
    have hsp := fun wz (hz : Below w.heap.size w wz) => rseparate_any m h a1 c1 a2 c2 d1 e1 d2 e2 wz o ((unhide HM).below hz).r1 ((unhide HM).below hz).r2 ((unhide HH).below hz).r1 ((unhide HH).below hz).r2 (unhide HM).m1 (unhide HM).m2 (unhide HH).m1 (unhide HH).m2 ho
    have HSP := hide hsp
    unfold mval pqV at htl
    unfold mval SePost at HSP
    dsimp only at htl HTH HSP
    clear ho hTH hsp
    obtain ⟨m0, m1, m2, m3, m4, m5⟩ := T5.m
    obtain ⟨q0, q1, q2, q3, q4, q5, q6, q7⟩ := T5.q
    generalize tellV o m ⟨2, [], h⟩ = R at *
    clear T5
    go_wp2_with fail
    refine htl.mono ?_
    rintro e W6 ⟨vo, vw, rfl, oo, ow, hb6⟩
    have T6 := (unhide HT5).below hb6
    have hl6 := T6.lt
    have hlt5 := (unhide HT5).lt
    obtain ⟨s1, t1, rfl, -, k1, k2, -, -⟩ := oo.shape
    obtain ⟨s2, t2, rfl, -, k3, k4, -, -⟩ := ow.shape
    clear htl HT5 m0 m1 m2 m3 m4 m5 q0 q1 q2 q3 q4 q5 q6 q7
    have f0 := T6.af 0
    have f1 := T6.af 1
    have f2 := T6.af 2
    obtain ⟨x0, x1, x2⟩ := T6.a
    go_upto_region 9 with fail
    change Code.wp _ _ _ _ (three W6 ab (.int .i64 R.1.kind) (.slice s1 R.1.out.length t1) (.slice s2 R.1.word.length t2))
    have T7 := T6.setA ⟨R.1, s1, t1, s2, t2⟩
    have O1 := ownKeep2 (B' := w.heap.size) oo (b := ab) hlt5 (by have := T6.b.size; have := hb6.size; omega) (.int .i64 R.1.kind) (.slice s1 R.1.out.length t1) (.slice s2 R.1.word.length t2)
    have O2 := ownKeep2 (B' := w.heap.size) ow (b := ab) hlt5 (by have := T6.b.size; have := hb6.size; omega) (.int .i64 R.1.kind) (.slice s1 R.1.out.length t1) (.slice s2 R.1.word.length t2)
    clear x0 x1 x2 f0 f1 f2 T6 oo ow hb6
    dsimp only at T7
    generalize three W6 ab (.int .i64 R.1.kind) (.slice s1 R.1.out.length t1) (.slice s2 R.1.word.length t2) = W7 at *
    obtain ⟨g1, u1, E1, -, -, -, rd1, -⟩ := O1.shape
    cases E1
    obtain ⟨g2, u2, E2, -, -, -, rd2, -⟩ := O2.shape
    cases E2
    clear O1 O2
    have HT7 := hide T7
    have HR1 := hide rd1
    have HR2 := hide rd2
    clear T7 rd1 rd2
    go_wp2_with fail
    refine (num_any R.2 W7).mono ?_
    rintro e wn ⟨rfl, hwn⟩
    rw [hwn]
    clear hwn wn
    by_cases z9 : R.2 = 0
    rotate_left
    · have t9 : (R.2 != 0) = true := by simpa using z9
      have HB := hide (unhide HT7).b
      go_wp2_with fail
      refine (live_any _).mono ?_
      rintro e wl ⟨rfl, hbl⟩
      go_wp2
      go_ret
      exact ⟨rfl, bstep (unhide HB) hbl⟩
    have t9 : (R.2 != 0) = false := by simp [z9]
    obtain ⟨hck, hyes, hno⟩ := unhide HTH z9
    have HCK := hide hck
    have HYES := hide hyes
    have HNO := hide hno
    clear z9 HTH hck hyes hno
    have hsp := unhide HSP W7 (unhide HT7).b
    obtain ⟨m0, m1, m2, m3, m4, m5⟩ := (unhide HT7).m
    obtain ⟨n0, n1, n2, n3, n4, n5⟩ := (unhide HT7).h
    go_wp2_with fail
    refine hsp.mono ?_
    rintro e W8 ⟨v8, rfl, -, hb8⟩
    have T8 := (unhide HT7).below hb8
    have r18 := (unhide HR1).below hb8
    have r28 := (unhide HR2).below hb8
    have htc := tcheck_any ⟨⟨2, [], h⟩, none, 0, d1, e1, d2, e2⟩ ⟨R.1, s1, t1, s2, t2⟩ W8 ⟨r18, r28⟩ (Nat.le_trans k1 k2) (Nat.le_trans k3 k4)
    dsimp only at htc
    rw [unhide HCK] at htc
    unfold pqV paV at htc
    dsimp only at htc
    clear hsp HSP m0 m1 m2 m3 m4 m5 n0 n1 n2 n3 n4 n5 HT7 HR1 HR2
    have HT8 := hide T8
    have HR1 := hide r18
    have HR2 := hide r28
    obtain ⟨q0, q1, q2, q3, q4, q5, q6, q7⟩ := T8.q
    obtain ⟨x0, x1, x2⟩ := T8.a
    dsimp only at q0 q1 q2 q3 q4 q5 q6 q7 x0 x1 x2
    clear T8 r18 r28
    go_wp2_with fail
    refine htc.mono ?_
    rintro e W9 ⟨rfl, hb9⟩
    have T9 := (unhide HT8).below hb9
    have r19 := (unhide HR1).below hb9
    have r29 := (unhide HR2).below hb9
    clear htc q0 q1 q2 q3 q4 q5 q6 q7 x0 x1 x2 HT8 HR1 HR2 hb9
    have HT9 := hide T9
    have HR1 := hide r19
    have HR2 := hide r29
    clear r19 r29
    go_wp2_with fail
    refine (num_any 0 W9).mono ?_
    rintro e wn ⟨rfl, hwn⟩
    rw [hwn]
    clear hwn wn
    obtain ⟨x0, x1, x2⟩ := T9.a
    dsimp only at x0 x1 x2
    have HB9 := hide T9.b
    clear T9
    cases hi : o.isSome
    · rw [unhide HNO hi] at x0
      clear HYES HNO
      dsimp only at x0
      go_wp2_with fail
      refine (live_any _).mono ?_
      rintro e wl ⟨rfl, hbl⟩
      go_wp2
      go_ret
      exact ⟨rfl, bstep (unhide HB9) hbl⟩
    · obtain ⟨hR, hne⟩ := unhide HYES hi
      have hR' := hR
      rw [hR] at x0 x2
      have HNE := hide hne
      have HR2' : Hid (RdL .i64 W9 s2 (o.getD [])) := by
        have := unhide HR2
        rw [hR] at this
        exact this
      have kk4 : (o.getD []).length ≤ maxLen := by rw [hR] at k3; exact Nat.le_trans k3 k4
      rw [hR]
      clear HYES HNO hne hi hR hR' HR1 HR2 x1
      dsimp only at x0 x2
      generalize o.getD [] = L at *
      have hr1 := rrun_any m a1 c1 a2 c2 s2 t2 L W9 ((unhide HM).below (unhide HB9)).r1 ((unhide HM).below (unhide HB9)).r2 (unhide HR2') (unhide HM).m1 (unhide HM).m2 kk4
      unfold mval at hr1
      obtain ⟨m0, m1, m2, m3, m4, m5⟩ := (unhide HT9).m
      go_wp2_with fail
      refine hr1.mono ?_
      rintro e Wa ⟨va, rfl, oa, hba⟩
      have Ta := (unhide HT9).below hba
      have ra := (unhide HR2').below hba
      have xa0 : Wa.cell? ⟨ab, 2, none⟩ = some (.slice s2 L.length t2) := (hba.cell (World.block_lt_of_cell? _ _ x2)).trans x2
      have hr2 := rrun_any h d1 e1 d2 e2 s2 t2 L Wa ((unhide HH).below Ta.b).r1 ((unhide HH).below Ta.b).r2 ra (unhide HH).m1 (unhide HH).m2 kk4
      unfold mval at hr2
      clear hr1 m0 m1 m2 m3 m4 m5 x0 x2 HT9
      obtain ⟨n0, n1, n2, n3, n4, n5⟩ := Ta.h
      have HBa := hide Ta.b
      clear Ta
      obtain ⟨g5, u5, rfl, -, k5, k6, rd5, -⟩ := oa.shape
      go_wp2_with fail
      refine hr2.mono ?_
      rintro e Wb ⟨vb, rfl, ob, hbb⟩
      obtain ⟨g6, u6, rfl, -, -, -, rd6, -⟩ := ob.shape
      have HBb := hide (bstep (unhide HBa) hbb)
      have hsm := same_list g5 g6 u5 u6 _ _ Wb (rd5.below hbb) rd6 (Nat.le_trans k5 k6)
      rw [show decide ((fromV m 0 L).2.1 = (fromV h 0 L).2.1) = false from decide_eq_false (unhide HNE)] at hsm
      clear hr2 n0 n1 n2 n3 n4 n5 xa0 oa ob rd5 rd6 ra HNE k5 k6 hbb
      go_wp2_with fail
      refine hsm.mono ?_
      rintro e Wc ⟨rfl, hbc⟩
      clear hsm
      go_wp2_with fail
      refine (live_any _).mono ?_
      rintro e wl ⟨rfl, hbl⟩
      go_wp2
      go_ret
      exact ⟨rfl, bstep (unhide HBb) (bstep hbc hbl)⟩

end Go.Proofs.Ytagoilabphmdfaa
