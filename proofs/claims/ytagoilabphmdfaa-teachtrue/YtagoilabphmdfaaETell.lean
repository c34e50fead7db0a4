/-
  The reference's Tell of layer 10: what a teacher that holds a machine answers.
-/
import Derived.Test.YtagoilabphmdfaaELine
import Derived.Test.YtagoilabphmdfaaRMCheck
import Derived.Test.YtagoilabphmdfaaK6
import Derived.Test.YtagoilabphmdfaaK17
namespace Go.Proofs.Ytagoilabphmdfaa
open Go.RowKit

/-- P10.4. -/
def tellV (o : Option (List Int)) (m : Mc) (q : Qy) : An × Int :=
  if (mchV m).2 ≠ 0 then (an0, (mchV m).2)
  else if q.kind = 1 then (if (fromV m 0 q.word).2.2 ≠ 0 then (an0, (fromV m 0 q.word).2.2) else (⟨1, (fromV m 0 q.word).2.1, []⟩, 0))
  else if q.kind ≠ 2 then (an0, 30)
  else if seE m q.hyp ≠ 0 then (an0, seE m q.hyp)
  else if o.isSome = true then (⟨3, [], o.getD []⟩, 0) else (⟨2, [], []⟩, 0)
def TlPost (w : World) (r : An × Int) (e : Ending) (w' : World) : Prop :=
  ∃ vo vw, e = .returned (.tuple #[.agg #[.int .i64 r.1.kind, vo, vw], .int .i64 r.2]) ∧ OwnL .i64 3 w' w.heap.size vo r.1.out ∧ OwnL .i64 3 w' w.heap.size vw r.1.word ∧ Below w.heap.size w w'
/-- What Tell holds: the machine, the query, the answer that it will give. -/
structure Th (w : World) (w1 : World) (m : Mc) (a1 : Option Addr) (c1 : Nat) (a2 : Option Addr) (c2 : Nat) (p : Pq) : Prop where
  m : Box w1 w.heap.size m a1 c1 a2 c2
  q : Qb w1 (w.heap.size + 1) p
  t : Tri w1 (w.heap.size + 1 + 1) (.int .i64 0) (.slice none 0 0) (.slice none 0 0)
  f : ∀ i, w1.frozen? ⟨w.heap.size + 1 + 1, i, none⟩ = false
  b : Below w.heap.size w w1
theorem Th.below {w w1 w2 : World} {m : Mc} {a1 : Option Addr} {c1 : Nat} {a2 : Option Addr} {c2 : Nat} {p : Pq} (h : Th w w1 m a1 c1 a2 c2 p) (hb : Below w1.heap.size w1 w2) : Th w w2 m a1 c1 a2 c2 p :=
  ⟨h.m.below hb, h.q.below hb, h.t.below hb, fun i => frzO (h.f i) hb (World.block_lt_of_cell? w1 _ h.t.p0), h.b.trans (hb.mono h.b.size)⟩


set_option maxRecDepth 100000 in
set_option maxHeartbeats 4000000 in
theorem rtell_any (m : Mc) (a1 : Option Addr) (c1 : Nat) (a2 : Option Addr) (c2 : Nat) (p : Pq) (w : World) (o : Option (List Int)) (h1 : RdL .i64 w a1 m.nx) (h2 : RdL .i64 w a2 m.out) (g0 : RdL .i64 w p.aw p.q.word) (g1 : RdL .i64 w p.a1 p.q.hyp.nx) (g2 : RdL .i64 w p.a2 p.q.hyp.out) (ln : m.nx.length ≤ maxLen) (lo : m.out.length ≤ maxLen) (kw : p.q.word.length ≤ maxLen) (kn : p.q.hyp.nx.length ≤ maxLen) (ko : p.q.hyp.out.length ≤ maxLen) (hse : SeR m p.q.hyp o) :
    Calls Try.prog 18 #[mval m a1 c1 a2 c2, pqV p] w (TlPost w (tellV o m p.q)) := by
  have T0 : Th w (((w.alloc (.cells #[.int .i64 m.kind, .int .i64 m.k, .int .i64 m.o, .int .i64 m.n, .slice a1 m.nx.length c1, .slice a2 m.out.length c2] 24)).alloc (.cells #[.int .i64 p.q.kind, .slice p.aw p.q.word.length p.cw, .int .i64 p.q.hyp.kind, .int .i64 p.q.hyp.k, .int .i64 p.q.hyp.o, .int .i64 p.q.hyp.n, .slice p.a1 p.q.hyp.nx.length p.c1, .slice p.a2 p.q.hyp.out.length p.c2] 26)).alloc (.cells #[.int .i64 0, .slice none 0 0, .slice none 0 0] 28)) m a1 c1 a2 c2 p := by
    have b1 := ballo w (.cells #[.int .i64 m.kind, .int .i64 m.k, .int .i64 m.o, .int .i64 m.n, .slice a1 m.nx.length c1, .slice a2 m.out.length c2] 24)
    have b2 := ballo (w.alloc (.cells #[.int .i64 m.kind, .int .i64 m.k, .int .i64 m.o, .int .i64 m.n, .slice a1 m.nx.length c1, .slice a2 m.out.length c2] 24)) (.cells #[.int .i64 p.q.kind, .slice p.aw p.q.word.length p.cw, .int .i64 p.q.hyp.kind, .int .i64 p.q.hyp.k, .int .i64 p.q.hyp.o, .int .i64 p.q.hyp.n, .slice p.a1 p.q.hyp.nx.length p.c1, .slice p.a2 p.q.hyp.out.length p.c2] 26)
    have b3 := ballo ((w.alloc (.cells #[.int .i64 m.kind, .int .i64 m.k, .int .i64 m.o, .int .i64 m.n, .slice a1 m.nx.length c1, .slice a2 m.out.length c2] 24)).alloc (.cells #[.int .i64 p.q.kind, .slice p.aw p.q.word.length p.cw, .int .i64 p.q.hyp.kind, .int .i64 p.q.hyp.k, .int .i64 p.q.hyp.o, .int .i64 p.q.hyp.n, .slice p.a1 p.q.hyp.nx.length p.c1, .slice p.a2 p.q.hyp.out.length p.c2] 26)) (.cells #[.int .i64 0, .slice none 0 0, .slice none 0 0] 28)
    refine ⟨((Box.alloc w m a1 c1 a2 c2 24).below b2).below b3, ?_, by have := Tri.alloc ((w.alloc (.cells #[.int .i64 m.kind, .int .i64 m.k, .int .i64 m.o, .int .i64 m.n, .slice a1 m.nx.length c1, .slice a2 m.out.length c2] 24)).alloc (.cells #[.int .i64 p.q.kind, .slice p.aw p.q.word.length p.cw, .int .i64 p.q.hyp.kind, .int .i64 p.q.hyp.k, .int .i64 p.q.hyp.o, .int .i64 p.q.hyp.n, .slice p.a1 p.q.hyp.nx.length p.c1, .slice p.a2 p.q.hyp.out.length p.c2] 26)) 28; simpa using this, fun i => ?_, bstep (bstep b1 b2) b3⟩
    · have := (Qb.alloc (w.alloc (.cells #[.int .i64 m.kind, .int .i64 m.k, .int .i64 m.o, .int .i64 m.n, .slice a1 m.nx.length c1, .slice a2 m.out.length c2] 24)) p 26).below b3
      simpa using this
    · rw [frozen?_alloc_cells]; exact frzN _ (by simp)
  have hc := rmcheck_any m a1 c1 a2 c2 (((w.alloc (.cells #[.int .i64 m.kind, .int .i64 m.k, .int .i64 m.o, .int .i64 m.n, .slice a1 m.nx.length c1, .slice a2 m.out.length c2] 24)).alloc (.cells #[.int .i64 p.q.kind, .slice p.aw p.q.word.length p.cw, .int .i64 p.q.hyp.kind, .int .i64 p.q.hyp.k, .int .i64 p.q.hyp.o, .int .i64 p.q.hyp.n, .slice p.a1 p.q.hyp.nx.length p.c1, .slice p.a2 p.q.hyp.out.length p.c2] 26)).alloc (.cells #[.int .i64 0, .slice none 0 0, .slice none 0 0] 28)) (h1.below T0.b) (h2.below T0.b) ln lo
  have TH := hide T0
  unfold mval at hc ⊢
  unfold pqV
  clear T0
  go_enter Try.func18, Try.ntmps18
  go_wp2_with fail
  refine hc.mono ?_
  rintro e w1 ⟨rfl, hb1⟩
  have T1 := (unhide TH).below hb1
  have hs1 := T1.b.size
  have hlt1 := World.block_lt_of_cell? w1 _ T1.t.p0
  clear TH hc hb1
  by_cases e1 : (mchV m).2 = 0
  rotate_left
  · have t1 : ((mchV m).2 != 0) = true := by simpa using e1
    have HE := hide (show tellV o m p.q = (an0, (mchV m).2) by unfold tellV; rw [if_pos e1])
    clear e1
    generalize (mchV m).2 = x2 at *
    have f0 := T1.f 0
    have f1 := T1.f 1
    have f2 := T1.f 2
    obtain ⟨y0, y1, y2⟩ := T1.t
    obtain ⟨m0, m1, m2, m3, m4, m5⟩ := T1.m
    obtain ⟨q0, q1, q2, q3, q4, q5, q6, q7⟩ := T1.q
    go_wp2
    clear f0 f1 f2 y0 y1 y2 m0 m1 m2 m3 m4 m5 q0 q1 q2 q3 q4 q5 q6 q7
    change bodyPost _ _ _ _ _ (three w1 (w.heap.size + 1 + 1) (.int .i64 0) (.slice none 0 0) (.slice none 0 0))
    have Z3 := T1.t.set (.int .i64 0) (.slice none 0 0) (.slice none 0 0)
    have b3 := three_below T1.b (b := (w.heap.size + 1 + 1)) (by omega) (.int .i64 0) (.slice none 0 0) (.slice none 0 0)
    generalize three w1 (w.heap.size + 1 + 1) (.int .i64 0) (.slice none 0 0) (.slice none 0 0) = w9 at *
    obtain ⟨q0, q1, q2⟩ := Z3
    refine bodyPost_ret (v := .tuple #[.agg #[.int .i64 0, .slice none 0 0, .slice none 0 0], .int .i64 (x2)]) ?_ rfl ⟨.slice none 0 0, .slice none 0 0, by rw [unhide HE]; try rfl, by rw [unhide HE]; exact OwnL.nil _ _ _ _, by rw [unhide HE]; exact OwnL.nil _ _ _ _, b3⟩
    simp [results, Try.results18, go_sem, q0, q1, q2]
  have t1 : ((mchV m).2 != 0) = false := by simp [e1]
  by_cases k1 : p.q.kind = 1
  · have t2 : (p.q.kind == 1) = true := by simpa using k1
    have hru := rrun_any m a1 c1 a2 c2 p.aw p.cw p.q.word w1 (h1.below T1.b) (h2.below T1.b) (g0.below T1.b) ln lo kw
    unfold mval at hru
    by_cases e2 : (fromV m 0 p.q.word).2.2 = 0
    · have HE := hide (show tellV o m p.q = (⟨1, (fromV m 0 p.q.word).2.1, []⟩, 0) by unfold tellV; rw [if_neg (by simp [e1]), if_pos k1, if_neg (by simp [e2])])
      have t3 : ((fromV m 0 p.q.word).2.2 != 0) = false := by simp [e2]
      clear e1 e2 k1
      generalize (fromV m 0 p.q.word).2.2 = x3 at *
      generalize (fromV m 0 p.q.word).2.1 = L at *
      generalize (mchV m).2 = x2 at *
      have f0 := T1.f 0
      have f1 := T1.f 1
      have f2 := T1.f 2
      obtain ⟨y0, y1, y2⟩ := T1.t
      obtain ⟨m0, m1, m2, m3, m4, m5⟩ := T1.m
      obtain ⟨q0, q1, q2, q3, q4, q5, q6, q7⟩ := T1.q
      go_wp2_with fail
      refine hru.mono ?_
      rintro e w2 ⟨v, rfl, ho, hb2⟩
      clear f0 f1 f2 y0 y1 y2 m0 m1 m2 m3 m4 m5 q0 q1 q2 q3 q4 q5 q6 q7
      have T2 := T1.below hb2
      have hs2 := hb2.size
      obtain ⟨a8, c8, rfl, -⟩ := ho.shape
      have f0 := T2.f 0
      have f1 := T2.f 1
      have f2 := T2.f 2
      obtain ⟨y0, y1, y2⟩ := T2.t
      obtain ⟨m0, m1, m2, m3, m4, m5⟩ := T2.m
      obtain ⟨q0, q1, q2, q3, q4, q5, q6, q7⟩ := T2.q
      go_wp2
      clear f0 f1 f2 y0 y1 y2 m0 m1 m2 m3 m4 m5 q0 q1 q2 q3 q4 q5 q6 q7
      change bodyPost _ _ _ _ _ (three w2 (w.heap.size + 1 + 1) (.int .i64 1) (.slice a8 L.length c8) (.slice none 0 0))
      have Z3 := T2.t.set (.int .i64 1) (.slice a8 L.length c8) (.slice none 0 0)
      have b3 := three_below T2.b (b := (w.heap.size + 1 + 1)) (by omega) (.int .i64 1) (.slice a8 L.length c8) (.slice none 0 0)
      have O3 := ownKeep2 (B' := w.heap.size) ho (b := (w.heap.size + 1 + 1)) (by omega) (by omega) (.int .i64 1) (.slice a8 L.length c8) (.slice none 0 0)
      generalize three w2 (w.heap.size + 1 + 1) (.int .i64 1) (.slice a8 L.length c8) (.slice none 0 0) = w9 at *
      obtain ⟨q0, q1, q2⟩ := Z3
      refine bodyPost_ret (v := .tuple #[.agg #[.int .i64 1, .slice a8 L.length c8, .slice none 0 0], .int .i64 (0)]) ?_ rfl ⟨.slice a8 L.length c8, .slice none 0 0, by rw [unhide HE]; try rfl, by rw [unhide HE]; exact O3, by rw [unhide HE]; exact OwnL.nil _ _ _ _, b3⟩
      simp [results, Try.results18, go_sem, q0, q1, q2]
    · have HE := hide (show tellV o m p.q = (an0, (fromV m 0 p.q.word).2.2) by unfold tellV; rw [if_neg (by simp [e1]), if_pos k1, if_pos e2])
      have t3 : ((fromV m 0 p.q.word).2.2 != 0) = true := by simpa using e2
      clear e1 e2 k1
      generalize (fromV m 0 p.q.word).2.2 = x3 at *
      generalize (fromV m 0 p.q.word).2.1 = L at *
      generalize (mchV m).2 = x2 at *
      have f0 := T1.f 0
      have f1 := T1.f 1
      have f2 := T1.f 2
      obtain ⟨y0, y1, y2⟩ := T1.t
      obtain ⟨m0, m1, m2, m3, m4, m5⟩ := T1.m
      obtain ⟨q0, q1, q2, q3, q4, q5, q6, q7⟩ := T1.q
      go_wp2_with fail
      refine hru.mono ?_
      rintro e w2 ⟨v, rfl, ho, hb2⟩
      clear f0 f1 f2 y0 y1 y2 m0 m1 m2 m3 m4 m5 q0 q1 q2 q3 q4 q5 q6 q7
      have T2 := T1.below hb2
      have hs2 := hb2.size
      obtain ⟨a8, c8, rfl, -⟩ := ho.shape
      have f0 := T2.f 0
      have f1 := T2.f 1
      have f2 := T2.f 2
      obtain ⟨y0, y1, y2⟩ := T2.t
      obtain ⟨m0, m1, m2, m3, m4, m5⟩ := T2.m
      obtain ⟨q0, q1, q2, q3, q4, q5, q6, q7⟩ := T2.q
      go_wp2
      clear f0 f1 f2 y0 y1 y2 m0 m1 m2 m3 m4 m5 q0 q1 q2 q3 q4 q5 q6 q7
      change bodyPost _ _ _ _ _ (three w2 (w.heap.size + 1 + 1) (.int .i64 0) (.slice none 0 0) (.slice none 0 0))
      have Z3 := T2.t.set (.int .i64 0) (.slice none 0 0) (.slice none 0 0)
      have b3 := three_below T2.b (b := (w.heap.size + 1 + 1)) (by omega) (.int .i64 0) (.slice none 0 0) (.slice none 0 0)
      generalize three w2 (w.heap.size + 1 + 1) (.int .i64 0) (.slice none 0 0) (.slice none 0 0) = w9 at *
      obtain ⟨q0, q1, q2⟩ := Z3
      refine bodyPost_ret (v := .tuple #[.agg #[.int .i64 0, .slice none 0 0, .slice none 0 0], .int .i64 (x3)]) ?_ rfl ⟨.slice none 0 0, .slice none 0 0, by rw [unhide HE]; try rfl, by rw [unhide HE]; exact OwnL.nil _ _ _ _, by rw [unhide HE]; exact OwnL.nil _ _ _ _, b3⟩
      simp [results, Try.results18, go_sem, q0, q1, q2]
  have t2 : (p.q.kind == 1) = false := by simpa using k1
  by_cases k2 : p.q.kind = 2
  rotate_left
  · have t3 : (p.q.kind != 2) = true := by simpa using k2
    have HE := hide (show tellV o m p.q = (an0, 30) by unfold tellV; rw [if_neg (by simp [e1]), if_neg k1, if_pos k2])
    clear e1 k1 k2
    generalize (mchV m).2 = x2 at *
    have f0 := T1.f 0
    have f1 := T1.f 1
    have f2 := T1.f 2
    obtain ⟨y0, y1, y2⟩ := T1.t
    obtain ⟨m0, m1, m2, m3, m4, m5⟩ := T1.m
    obtain ⟨q0, q1, q2, q3, q4, q5, q6, q7⟩ := T1.q
    go_wp2
    clear f0 f1 f2 y0 y1 y2 m0 m1 m2 m3 m4 m5 q0 q1 q2 q3 q4 q5 q6 q7
    change bodyPost _ _ _ _ _ (three w1 (w.heap.size + 1 + 1) (.int .i64 0) (.slice none 0 0) (.slice none 0 0))
    have Z3 := T1.t.set (.int .i64 0) (.slice none 0 0) (.slice none 0 0)
    have b3 := three_below T1.b (b := (w.heap.size + 1 + 1)) (by omega) (.int .i64 0) (.slice none 0 0) (.slice none 0 0)
    generalize three w1 (w.heap.size + 1 + 1) (.int .i64 0) (.slice none 0 0) (.slice none 0 0) = w9 at *
    obtain ⟨q0, q1, q2⟩ := Z3
    refine bodyPost_ret (v := .tuple #[.agg #[.int .i64 0, .slice none 0 0, .slice none 0 0], .int .i64 (30)]) ?_ rfl ⟨.slice none 0 0, .slice none 0 0, by rw [unhide HE]; try rfl, by rw [unhide HE]; exact OwnL.nil _ _ _ _, by rw [unhide HE]; exact OwnL.nil _ _ _ _, b3⟩
    simp [results, Try.results18, go_sem, q0, q1, q2]
  have t3 : (p.q.kind != 2) = false := by simp [k2]
  have hsp := rseparate_any m p.q.hyp a1 c1 a2 c2 p.a1 p.c1 p.a2 p.c2 w1 o (h1.below T1.b) (h2.below T1.b) (g1.below T1.b) (g2.below T1.b) ln lo kn ko hse
  unfold mval SePost at hsp
  by_cases e3 : seE m p.q.hyp = 0
  rotate_left
  · have t4 : (seE m p.q.hyp != 0) = true := by simpa using e3
    have HE := hide (show tellV o m p.q = (an0, seE m p.q.hyp) by unfold tellV; rw [if_neg (by simp [e1]), if_neg k1, if_neg (by simp [k2]), if_pos e3])
    clear e3
    clear e1 k1 k2 hse
    generalize seE m p.q.hyp = x3 at *
    generalize (mchV m).2 = x2 at *
    have f0 := T1.f 0
    have f1 := T1.f 1
    have f2 := T1.f 2
    obtain ⟨y0, y1, y2⟩ := T1.t
    obtain ⟨m0, m1, m2, m3, m4, m5⟩ := T1.m
    obtain ⟨q0, q1, q2, q3, q4, q5, q6, q7⟩ := T1.q
    go_wp2_with fail
    refine hsp.mono ?_
    rintro e w2 ⟨v, rfl, ho, hb2⟩
    clear f0 f1 f2 y0 y1 y2 m0 m1 m2 m3 m4 m5 q0 q1 q2 q3 q4 q5 q6 q7
    have T2 := T1.below hb2
    have hs2 := hb2.size
    obtain ⟨a8, c8, rfl, -⟩ := ho.shape
    have f0 := T2.f 0
    have f1 := T2.f 1
    have f2 := T2.f 2
    obtain ⟨y0, y1, y2⟩ := T2.t
    obtain ⟨m0, m1, m2, m3, m4, m5⟩ := T2.m
    obtain ⟨q0, q1, q2, q3, q4, q5, q6, q7⟩ := T2.q
    go_wp2
    clear f0 f1 f2 y0 y1 y2 m0 m1 m2 m3 m4 m5 q0 q1 q2 q3 q4 q5 q6 q7
    change bodyPost _ _ _ _ _ (three w2 (w.heap.size + 1 + 1) (.int .i64 0) (.slice none 0 0) (.slice none 0 0))
    have Z3 := T2.t.set (.int .i64 0) (.slice none 0 0) (.slice none 0 0)
    have b3 := three_below T2.b (b := (w.heap.size + 1 + 1)) (by omega) (.int .i64 0) (.slice none 0 0) (.slice none 0 0)
    generalize three w2 (w.heap.size + 1 + 1) (.int .i64 0) (.slice none 0 0) (.slice none 0 0) = w9 at *
    obtain ⟨q0, q1, q2⟩ := Z3
    refine bodyPost_ret (v := .tuple #[.agg #[.int .i64 0, .slice none 0 0, .slice none 0 0], .int .i64 (x3)]) ?_ rfl ⟨.slice none 0 0, .slice none 0 0, by rw [unhide HE]; try rfl, by rw [unhide HE]; exact OwnL.nil _ _ _ _, by rw [unhide HE]; exact OwnL.nil _ _ _ _, b3⟩
    simp [results, Try.results18, go_sem, q0, q1, q2]
  have t4 : (seE m p.q.hyp != 0) = false := by simp [e3]
  cases hi : o.isSome
  · have HE := hide (show tellV o m p.q = (⟨2, [], []⟩, 0) by unfold tellV; rw [if_neg (by simp [e1]), if_neg k1, if_neg (by simp [k2]), if_neg (by simp [e3]), if_neg (by simp [hi])])
    rw [hi] at hsp
    clear e3 hi
    clear e1 k1 k2 hse
    generalize seE m p.q.hyp = x3 at *
    generalize (mchV m).2 = x2 at *
    have f0 := T1.f 0
    have f1 := T1.f 1
    have f2 := T1.f 2
    obtain ⟨y0, y1, y2⟩ := T1.t
    obtain ⟨m0, m1, m2, m3, m4, m5⟩ := T1.m
    obtain ⟨q0, q1, q2, q3, q4, q5, q6, q7⟩ := T1.q
    go_wp2_with fail
    refine hsp.mono ?_
    rintro e w2 ⟨v, rfl, ho, hb2⟩
    clear f0 f1 f2 y0 y1 y2 m0 m1 m2 m3 m4 m5 q0 q1 q2 q3 q4 q5 q6 q7
    have T2 := T1.below hb2
    have hs2 := hb2.size
    obtain ⟨a8, c8, rfl, -⟩ := ho.shape
    have f0 := T2.f 0
    have f1 := T2.f 1
    have f2 := T2.f 2
    obtain ⟨y0, y1, y2⟩ := T2.t
    obtain ⟨m0, m1, m2, m3, m4, m5⟩ := T2.m
    obtain ⟨q0, q1, q2, q3, q4, q5, q6, q7⟩ := T2.q
    go_wp2
    clear f0 f1 f2 y0 y1 y2 m0 m1 m2 m3 m4 m5 q0 q1 q2 q3 q4 q5 q6 q7
    change bodyPost _ _ _ _ _ (three w2 (w.heap.size + 1 + 1) (.int .i64 2) (.slice none 0 0) (.slice none 0 0))
    have Z3 := T2.t.set (.int .i64 2) (.slice none 0 0) (.slice none 0 0)
    have b3 := three_below T2.b (b := (w.heap.size + 1 + 1)) (by omega) (.int .i64 2) (.slice none 0 0) (.slice none 0 0)
    generalize three w2 (w.heap.size + 1 + 1) (.int .i64 2) (.slice none 0 0) (.slice none 0 0) = w9 at *
    obtain ⟨q0, q1, q2⟩ := Z3
    refine bodyPost_ret (v := .tuple #[.agg #[.int .i64 2, .slice none 0 0, .slice none 0 0], .int .i64 (0)]) ?_ rfl ⟨.slice none 0 0, .slice none 0 0, by rw [unhide HE]; try rfl, by rw [unhide HE]; exact OwnL.nil _ _ _ _, by rw [unhide HE]; exact OwnL.nil _ _ _ _, b3⟩
    simp [results, Try.results18, go_sem, q0, q1, q2]
  · have HE := hide (show tellV o m p.q = (⟨3, [], o.getD []⟩, 0) by unfold tellV; rw [if_neg (by simp [e1]), if_neg k1, if_neg (by simp [k2]), if_neg (by simp [e3]), if_pos hi])
    rw [hi] at hsp
    clear e3 hi
    clear e1 k1 k2 hse
    generalize seE m p.q.hyp = x3 at *
    generalize (mchV m).2 = x2 at *
    have f0 := T1.f 0
    have f1 := T1.f 1
    have f2 := T1.f 2
    obtain ⟨y0, y1, y2⟩ := T1.t
    obtain ⟨m0, m1, m2, m3, m4, m5⟩ := T1.m
    obtain ⟨q0, q1, q2, q3, q4, q5, q6, q7⟩ := T1.q
    go_wp2_with fail
    refine hsp.mono ?_
    rintro e w2 ⟨v, rfl, ho, hb2⟩
    clear f0 f1 f2 y0 y1 y2 m0 m1 m2 m3 m4 m5 q0 q1 q2 q3 q4 q5 q6 q7
    have T2 := T1.below hb2
    have hs2 := hb2.size
    obtain ⟨a8, c8, rfl, -⟩ := ho.shape
    have f0 := T2.f 0
    have f1 := T2.f 1
    have f2 := T2.f 2
    obtain ⟨y0, y1, y2⟩ := T2.t
    obtain ⟨m0, m1, m2, m3, m4, m5⟩ := T2.m
    obtain ⟨q0, q1, q2, q3, q4, q5, q6, q7⟩ := T2.q
    go_wp2
    clear f0 f1 f2 y0 y1 y2 m0 m1 m2 m3 m4 m5 q0 q1 q2 q3 q4 q5 q6 q7
    change bodyPost _ _ _ _ _ (three w2 (w.heap.size + 1 + 1) (.int .i64 3) (.slice none 0 0) (.slice a8 (o.getD []).length c8))
    have Z3 := T2.t.set (.int .i64 3) (.slice none 0 0) (.slice a8 (o.getD []).length c8)
    have b3 := three_below T2.b (b := (w.heap.size + 1 + 1)) (by omega) (.int .i64 3) (.slice none 0 0) (.slice a8 (o.getD []).length c8)
    have O3 := ownKeep2 (B' := w.heap.size) ho (b := (w.heap.size + 1 + 1)) (by omega) (by omega) (.int .i64 3) (.slice none 0 0) (.slice a8 (o.getD []).length c8)
    generalize three w2 (w.heap.size + 1 + 1) (.int .i64 3) (.slice none 0 0) (.slice a8 (o.getD []).length c8) = w9 at *
    obtain ⟨q0, q1, q2⟩ := Z3
    refine bodyPost_ret (v := .tuple #[.agg #[.int .i64 3, .slice none 0 0, .slice a8 (o.getD []).length c8], .int .i64 (0)]) ?_ rfl ⟨.slice none 0 0, .slice a8 (o.getD []).length c8, by rw [unhide HE]; try rfl, by rw [unhide HE]; exact OwnL.nil _ _ _ _, by rw [unhide HE]; exact O3, b3⟩
    simp [results, Try.results18, go_sem, q0, q1, q2]

end Go.Proofs.Ytagoilabphmdfaa
