/-
  TeachTells, walked: for every input the call returns true.
-/
import Derived.Test.YtagoilabphmdfaaHLive
import Derived.Test.YtagoilabphmdfaaHWB
import Derived.Test.YtagoilabphmdfaaHTell
import Derived.Test.YtagoilabphmdfaaESameW
namespace Go.Proofs.Ytagoilabphmdfaa
set_option linter.unusedVariables false
open Go.RowKit

/-- A machine and a query in two blocks. -/
structure Mq (w W : World) (m : Mc) (a1 : Option Addr) (c1 : Nat) (a2 : Option Addr) (c2 : Nat) (p : Pq) : Prop where
  m : Box W w.heap.size m a1 c1 a2 c2
  q : Qb W (w.heap.size + 1) p
  b : Below w.heap.size w W
theorem Mq.below {w W W' : World} {m : Mc} {a1 : Option Addr} {c1 : Nat} {a2 : Option Addr} {c2 : Nat} {p : Pq} (h : Mq w W m a1 c1 a2 c2 p) (hb : Below W.heap.size W W') : Mq w W' m a1 c1 a2 c2 p := ⟨h.m.below hb, h.q.below hb, bstep h.b hb⟩
theorem Mq.start (w : World) (m : Mc) (a1 : Option Addr) (c1 : Nat) (a2 : Option Addr) (c2 : Nat) (p : Pq) : Mq w ((w.alloc (.cells #[.int .i64 m.kind, .int .i64 m.k, .int .i64 m.o, .int .i64 m.n, .slice a1 m.nx.length c1, .slice a2 m.out.length c2] 24)).alloc (.cells #[.int .i64 p.q.kind, .slice p.aw p.q.word.length p.cw, .int .i64 p.q.hyp.kind, .int .i64 p.q.hyp.k, .int .i64 p.q.hyp.o, .int .i64 p.q.hyp.n, .slice p.a1 p.q.hyp.nx.length p.c1, .slice p.a2 p.q.hyp.out.length p.c2] 26)) m a1 c1 a2 c2 p := by
  refine ⟨(Box.alloc w m a1 c1 a2 c2 24).below (ballo _ _), ?_, bstep (ballo _ _) (ballo _ _)⟩
  have := Qb.alloc (w.alloc (.cells #[.int .i64 m.kind, .int .i64 m.k, .int .i64 m.o, .int .i64 m.n, .slice a1 m.nx.length c1, .slice a2 m.out.length c2] 24)) p 26
  rw [World.size_alloc] at this
  exact this

set_option maxRecDepth 100000 in
set_option maxHeartbeats 4000000 in
theorem teachTells_walk (m : Mc) (a1 : Option Addr) (c1 : Nat) (a2 : Option Addr) (c2 : Nat) (p : Pq) (w : World) (h0 : ArgM w m a1 c1 a2 c2) (h1 : ArgPq w p) :
    Calls Try.prog 5 #[mval m a1 c1 a2 c2, pqV p] w fun e w' => e = .returned (.bool true) ∧ Below w.heap.size w w' := by
  have HQ0 := hide (Mq.start w m a1 c1 a2 c2 p)
  have hbg := big_any 60 m a1 c1 a2 c2 ((w.alloc (.cells #[.int .i64 m.kind, .int .i64 m.k, .int .i64 m.o, .int .i64 m.n, .slice a1 m.nx.length c1, .slice a2 m.out.length c2] 24)).alloc (.cells #[.int .i64 p.q.kind, .slice p.aw p.q.word.length p.cw, .int .i64 p.q.hyp.kind, .int .i64 p.q.hyp.k, .int .i64 p.q.hyp.o, .int .i64 p.q.hyp.n, .slice p.a1 p.q.hyp.nx.length p.c1, .slice p.a2 p.q.hyp.out.length p.c2] 26))
  unfold mval at hbg ⊢
  unfold pqV
  go_enter Try.func5, Try.ntmps5
  go_wp2_with fail
  refine hbg.mono ?_
  rintro e w1 ⟨rfl, hb1⟩
  have Q1 := (unhide HQ0).below hb1
  clear hbg HQ0 hb1
  cases hbig : bigB 60 m
  rotate_left
  · have HB := hide Q1.b
    clear hbig Q1
    go_wp2_with fail
    refine (live_any _).mono ?_
    rintro e wl ⟨rfl, hbl⟩
    go_wp2
    go_ret
    exact ⟨rfl, bstep (unhide HB) hbl⟩
  obtain ⟨na, ln, lo⟩ := big_bounds hbig
  have HM := hide (show MA w m a1 c1 a2 c2 from ⟨h0.nx.rd, h0.out.rd, h0.nx.le, h0.out.le, ln, lo, by omega⟩)
  clear hbig ln lo na h0
  have hbg := big_any 60 p.q.hyp p.a1 p.c1 p.a2 p.c2 w1
  unfold mval at hbg
  have HQ1 := hide Q1
  obtain ⟨q0, q1, q2, q3, q4, q5, q6, q7⟩ := Q1.q
  clear Q1
  go_wp2_with fail
  refine hbg.mono ?_
  rintro e w2 ⟨rfl, hb2⟩
  have Q2 := (unhide HQ1).below hb2
  clear hbg HQ1 hb2 q0 q1 q2 q3 q4 q5 q6 q7
  cases hbig : bigB 60 p.q.hyp
  rotate_left
  · have HB := hide Q2.b
    clear hbig Q2
    go_wp2_with fail
    refine (live_any _).mono ?_
    rintro e wl ⟨rfl, hbl⟩
    go_wp2
    go_ret
    exact ⟨rfl, bstep (unhide HB) hbl⟩
  obtain ⟨nb, kn, ko⟩ := big_bounds hbig
  have HH := hide (show MA w p.q.hyp p.a1 p.c1 p.a2 p.c2 from ⟨h1.nx.rd, h1.out.rd, h1.nx.le, h1.out.le, kn, ko, by omega⟩)
  have HG := hide h1.word.rd
  clear hbig nb kn ko h1
  have HQ2 := hide Q2
  obtain ⟨q0, q1, q2, q3, q4, q5, q6, q7⟩ := Q2.q
  obtain ⟨m0, m1, m2, m3, m4, m5⟩ := Q2.m
  clear Q2
  by_cases c9 : (p.q.word.length : Int) > 20000
  · have HB := hide (unhide HQ2).b
    clear HQ2
    go_wp2_with fail
    refine (live_any _).mono ?_
    rintro e wl ⟨rfl, hbl⟩
    go_wp2
    go_ret
    exact ⟨rfl, bstep (unhide HB) hbl⟩
  have kw : p.q.word.length ≤ maxLen := by unfold maxLen; omega
  obtain ⟨o, ho⟩ := se_ex m p.q.hyp
  have htl := ttell_any m a1 c1 a2 c2 p w2 o ((unhide HM).below (unhide HQ2).b) ((unhide HH).below (unhide HQ2).b) ((unhide HG).below (unhide HQ2).b) kw ho
  have hrt := fun wz (hz : Below w.heap.size w wz) => rtell_any m a1 c1 a2 c2 p wz o ((unhide HM).below hz).r1 ((unhide HM).below hz).r2 ((unhide HG).below hz) ((unhide HH).below hz).r1 ((unhide HH).below hz).r2 (unhide HM).m1 (unhide HM).m2 kw (unhide HH).m1 (unhide HH).m2 ho
  have HT := hide hrt
  unfold mval pqV at htl HT
  clear hrt ho
  generalize tellV o m p.q = R at *
  go_wp2_with fail
  refine htl.mono ?_
  rintro e w3 ⟨vo, vw, rfl, oo, ow, hb3⟩
  obtain ⟨x1, y1, rfl, -, k1, k2, rd1, -⟩ := oo.shape
  obtain ⟨x2, y2, rfl, -, k3, k4, rd2, -⟩ := ow.shape
  clear htl oo ow q0 q1 q2 q3 q4 q5 q6 q7 m0 m1 m2 m3 m4 m5
  have ba := ballo w3 (.cells #[.int .i64 R.1.kind, .slice x1 R.1.out.length y1, .slice x2 R.1.word.length y2] 28)
  have Q3 := ((unhide HQ2).below hb3).below ba
  have P3 := Bk.new w3 [.int .i64 R.1.kind, .slice x1 R.1.out.length y1, .slice x2 R.1.word.length y2] 28
  have rd13 := rd1.below ba
  have rd23 := rd2.below ba
  clear HQ2 hb3 rd1 rd2 ba
  have hrt := unhide HT _ Q3.b
  obtain ⟨q0, q1, q2, q3, q4, q5, q6, q7⟩ := Q3.q
  obtain ⟨m0, m1, m2, m3, m4, m5⟩ := Q3.m
  go_wp2_with fail
  refine hrt.mono ?_
  rintro e w4 ⟨vo, vw, rfl, oo, ow, hb4⟩
  obtain ⟨x3, y3, rfl, -, k5, k6, rd3, -⟩ := oo.shape
  obtain ⟨x4, y4, rfl, -, k7, k8, rd4, -⟩ := ow.shape
  have ba := ballo w4 (.cells #[.int .i64 R.1.kind, .slice x3 R.1.out.length y3, .slice x4 R.1.word.length y4] 28)
  have hb5 := bstep hb4 ba
  have HB5 := hide (Q3.below hb5).b
  have P5 := P3.below hb5
  have P5' := Bk.new w4 [.int .i64 R.1.kind, .slice x3 R.1.out.length y3, .slice x4 R.1.word.length y4] 28
  have r1 := rd13.below hb5
  have r2 := rd23.below hb5
  have r3 := rd3.below ba
  have r4 := rd4.below ba
  clear hrt HT oo ow hb4 hb5 Q3 P3 rd13 rd23 rd3 rd4 ba q0 q1 q2 q3 q4 q5 q6 q7 m0 m1 m2 m3 m4 m5
  have b6 := ballo (w4.alloc (.cells #[.int .i64 R.1.kind, .slice x3 R.1.out.length y3, .slice x4 R.1.word.length y4] 28)) (.cells #[.int .i64 R.1.kind, .slice x1 R.1.out.length y1, .slice x2 R.1.word.length y2] 28)
  have b7 := ballo ((w4.alloc (.cells #[.int .i64 R.1.kind, .slice x3 R.1.out.length y3, .slice x4 R.1.word.length y4] 28)).alloc (.cells #[.int .i64 R.1.kind, .slice x1 R.1.out.length y1, .slice x2 R.1.word.length y2] 28)) (.cells #[.int .i64 R.1.kind, .slice x3 R.1.out.length y3, .slice x4 R.1.word.length y4] 28)
  have b67 := bstep b6 b7
  have S1 := (RdPs.one (w4.alloc (.cells #[.int .i64 R.1.kind, .slice x3 R.1.out.length y3, .slice x4 R.1.word.length y4] 28)) ⟨R.1, x1, y1, x2, y2⟩ 28 ⟨r1.below b6, r2.below b6⟩).below b7
  have S2 := RdPs.one ((w4.alloc (.cells #[.int .i64 R.1.kind, .slice x3 R.1.out.length y3, .slice x4 R.1.word.length y4] 28)).alloc (.cells #[.int .i64 R.1.kind, .slice x1 R.1.out.length y1, .slice x2 R.1.word.length y2] 28)) ⟨R.1, x3, y3, x4, y4⟩ 28 ⟨r3.below b67, r4.below b67⟩
  have hsm := rsameA_any (some ⟨w4.heap.size + 1, 0, none⟩) 1 [⟨R.1, x1, y1, x2, y2⟩] (some ⟨w4.heap.size + 1 + 1, 0, none⟩) 1 [⟨R.1, x3, y3, x4, y4⟩] _ (by simpa using S1) (by simpa using S2) (fun p hp => by rw [List.mem_singleton] at hp; subst hp; exact ⟨Nat.le_trans k1 k2, Nat.le_trans k3 k4⟩) (show 1 ≤ maxLen by decide)
  rw [show smL (anL [⟨R.1, x1, y1, x2, y2⟩]) (anL [⟨R.1, x3, y3, x4, y4⟩]) = true from smL_self [R.1]] at hsm
  have p0 := P5.cell 0
  have p1 := P5.cell 1
  have p2 := P5.cell 2
  have p3 := P5'.cell 0
  have p4 := P5'.cell 1
  have p5 := P5'.cell 2
  have p36 := (P5'.below b6).cell 0
  have p46 := (P5'.below b6).cell 1
  have p56 := (P5'.below b6).cell 2
  simp only [List.getElem?_cons_zero, List.getElem?_cons_succ] at p0 p1 p2 p3 p4 p5 p36 p46 p56
  have te : (R.2 == R.2) = true := by simp
  have HB7 := hide (bstep (unhide HB5) b67)
  clear S1 S2 b6 b7 b67 P5 P5' r1 r2 r3 r4
  go_wp2_with fail
  refine hsm.mono ?_
  rintro e w8 ⟨rfl, hb8⟩
  clear hsm p0 p1 p2 p3 p4 p5 p36 p46 p56
  go_wp2_with fail
  refine (num_any R.2 w8).mono ?_
  rintro e wn ⟨rfl, hwn⟩
  rw [hwn]
  clear hwn wn
  go_wp2_with fail
  refine (live_any _).mono ?_
  rintro e wl ⟨rfl, hbl⟩
  go_wp2
  go_ret
  exact ⟨rfl, bstep (unhide HB7) (bstep hb8 hbl)⟩

end Go.Proofs.Ytagoilabphmdfaa
