/-
  The program's Tell of layer 10: what a teacher that holds a machine answers.
-/
import Derived.Test.YtagoilabphmdfaaETell
import Derived.Test.YtagoilabphmdfaaHLin
import Derived.Test.YtagoilabphmdfaaMFrom
import Derived.Test.YtagoilabphmdfaaDApS
import Derived.Test.YtagoilabphmdfaaK3
namespace Go.Proofs.Ytagoilabphmdfaa
open Go.RowKit

/-- Of Member. -/
def saidV (m : Mc) (wd : List Int) : An × Int := if (fromV m 0 wd).2.2 ≠ 0 then (an0, (fromV m 0 wd).2.2) else (⟨1, (fromV m 0 wd).2.1, []⟩, 0)
/-- Of Hypo. -/
def apartV (o : Option (List Int)) (m h : Mc) : An × Int := if seE m h ≠ 0 then (an0, seE m h) else if o.isSome = true then (⟨3, [], o.getD []⟩, 0) else (⟨2, [], []⟩, 0)
theorem tellV_said {o : Option (List Int)} {m : Mc} {q : Qy} (h : (mchV m).2 = 0) (k : q.kind = 1) : tellV o m q = saidV m q.word := by
  unfold tellV saidV; rw [if_neg (by simp [h]), if_pos k]
theorem tellV_apart {o : Option (List Int)} {m : Mc} {q : Qy} (h : (mchV m).2 = 0) (k : q.kind = 2) : tellV o m q = apartV o m q.hyp := by
  unfold tellV apartV; rw [if_neg (by simp [h]), if_neg (by omega), if_neg (by simp [k])]

/-- The answer in the making, at block ab. -/
structure Tz (w w1 : World) (ab : Nat) : Prop where
  t : Tri w1 ab (.int .i64 0) (.slice none 0 0) (.slice none 0 0)
  f : ∀ i, w1.frozen? ⟨ab, i, none⟩ = false
  le : w.heap.size ≤ ab
  b : Below w.heap.size w w1
theorem Tz.below {w w1 w2 : World} {ab : Nat} (h : Tz w w1 ab) (hb : Below w1.heap.size w1 w2) : Tz w w2 ab :=
  ⟨h.t.below hb, fun i => frzO (h.f i) hb (World.block_lt_of_cell? w1 _ h.t.p0), h.le, bstep h.b hb⟩
theorem Tz.lt {w w1 : World} {ab : Nat} (h : Tz w w1 ab) : ab < w1.heap.size := World.block_lt_of_cell? w1 _ h.t.p0
theorem Tz.start {w w1 : World} (hb : Below w.heap.size w w1) : Tz w (w1.alloc (.cells #[.int .i64 0, .slice none 0 0, .slice none 0 0] 28)) w1.heap.size :=
  ⟨Tri.alloc w1 _, fun i => by rw [frozen?_alloc_cells]; exact frzN _ (Nat.le_refl _), hb.size, bstep hb (ballo _ _)⟩

set_option maxRecDepth 100000 in
set_option maxHeartbeats 4000000 in
theorem tellSaid_any (m : Mc) (a1 : Option Addr) (c1 : Nat) (a2 : Option Addr) (c2 : Nat) (aw : Option Addr) (cw : Nat) (wd : List Int) (w : World) (h1 : RdL .i64 w a1 m.nx) (h2 : RdL .i64 w a2 m.out) (g0 : RdL .i64 w aw wd) (ln : m.nx.length ≤ maxLen) (lo : m.out.length ≤ maxLen) (kw : wd.length ≤ maxLen) :
    Calls Try.prog 28 #[mval m a1 c1 a2 c2, .slice aw wd.length cw] w (TlPost w (saidV m wd)) := by
  have b0 := ballo w (.cells #[.int .i64 m.kind, .int .i64 m.k, .int .i64 m.o, .int .i64 m.n, .slice a1 m.nx.length c1, .slice a2 m.out.length c2] 24)
  have T0 := Tz.start b0
  have B0 := (Box.alloc w m a1 c1 a2 c2 24).below (ballo _ (.cells #[.int .i64 0, .slice none 0 0, .slice none 0 0] 28))
  have hz : (w.alloc (.cells #[.int .i64 m.kind, .int .i64 m.k, .int .i64 m.o, .int .i64 m.n, .slice a1 m.nx.length c1, .slice a2 m.out.length c2] 24)).heap.size = w.heap.size + 1 := by simp
  have hru := run_any m a1 c1 a2 c2 aw cw wd _ (h1.below T0.b) (h2.below T0.b) (g0.below T0.b) ln lo kw
  rw [hz] at T0
  unfold mval at hru ⊢
  have HT := hide T0
  have HBx := hide B0
  have hzz : ((w.alloc (.cells #[.int .i64 m.kind, .int .i64 m.k, .int .i64 m.o, .int .i64 m.n, .slice a1 m.nx.length c1, .slice a2 m.out.length c2] 24)).alloc (.cells #[.int .i64 0, .slice none 0 0, .slice none 0 0] 28)).heap.size = w.heap.size + 1 + 1 := by simp
  rw [hzz] at hru
  clear hz b0 T0 B0 hzz
  go_enter Try.func28, Try.ntmps28
  go_wp2_with fail
  refine hru.mono ?_
  rintro e w1 ⟨v, rfl, ho, hb1⟩
  have T1 : Tz w w1 (w.heap.size + 1) := by
    have hzz : ((w.alloc (.cells #[.int .i64 m.kind, .int .i64 m.k, .int .i64 m.o, .int .i64 m.n, .slice a1 m.nx.length c1, .slice a2 m.out.length c2] 24)).alloc (.cells #[.int .i64 0, .slice none 0 0, .slice none 0 0] 28)).heap.size = w.heap.size + 1 + 1 := by simp
    exact (unhide HT).below (hzz.symm ▸ hb1)
  have hl1 := T1.lt
  obtain ⟨a8, c8, rfl, -⟩ := ho.shape
  clear hru HT HBx hb1
  by_cases e2 : (fromV m 0 wd).2.2 = 0
  · have HE := hide (show saidV m wd = (⟨1, (fromV m 0 wd).2.1, []⟩, 0) by unfold saidV; rw [if_neg (by simp [e2])])
    have t3 : ((fromV m 0 wd).2.2 != 0) = false := by simp [e2]
    clear e2
    generalize (fromV m 0 wd).2.2 = x3 at *
    generalize (fromV m 0 wd).2.1 = L at *
    have han := ansS_any a8 L.length c8 w1
    go_wp2_with fail
    refine han.mono ?_
    rintro e w2 ⟨rfl, hb2⟩
    have T2 := T1.below hb2
    have hs2 := hb2.size
    have ho2 := ho.grown hb2
    have f0 := T2.f 0
    have f1 := T2.f 1
    have f2 := T2.f 2
    obtain ⟨y0, y1, y2⟩ := T2.t
    go_wp2
    clear f0 f1 f2 y0 y1 y2 
    change bodyPost _ _ _ _ _ (three w2 (w.heap.size + 1) (.int .i64 1) (.slice a8 L.length c8) (.slice none 0 0))
    have Z3 := T2.t.set (.int .i64 1) (.slice a8 L.length c8) (.slice none 0 0)
    have b3 := three_below T2.b (b := (w.heap.size + 1)) (by omega) (.int .i64 1) (.slice a8 L.length c8) (.slice none 0 0)
    have O1 := ownKeep2 (B' := w.heap.size) ho2 (b := (w.heap.size + 1)) (by omega) (by omega) (.int .i64 1) (.slice a8 L.length c8) (.slice none 0 0)
    generalize three w2 (w.heap.size + 1) (.int .i64 1) (.slice a8 L.length c8) (.slice none 0 0) = w9 at *
    obtain ⟨z0, z1, z2⟩ := Z3
    refine bodyPost_ret (v := .tuple #[.agg #[.int .i64 1, .slice a8 L.length c8, .slice none 0 0], .int .i64 (0)]) ?_ rfl ⟨.slice a8 L.length c8, .slice none 0 0, by rw [unhide HE]; try rfl, by rw [unhide HE]; exact O1, by rw [unhide HE]; exact OwnL.nil _ _ _ _, b3⟩
    simp [results, Try.results28, go_sem, z0, z1, z2]
  · have HE := hide (show saidV m wd = (an0, (fromV m 0 wd).2.2) by unfold saidV; rw [if_pos e2])
    have t3 : ((fromV m 0 wd).2.2 != 0) = true := by simpa using e2
    clear e2
    generalize (fromV m 0 wd).2.2 = x3 at *
    generalize (fromV m 0 wd).2.1 = L at *
    have f0 := T1.f 0
    have f1 := T1.f 1
    have f2 := T1.f 2
    obtain ⟨y0, y1, y2⟩ := T1.t
    go_wp2
    clear f0 f1 f2 y0 y1 y2 
    change bodyPost _ _ _ _ _ (three w1 (w.heap.size + 1) (.int .i64 0) (.slice none 0 0) (.slice none 0 0))
    have Z3 := T1.t.set (.int .i64 0) (.slice none 0 0) (.slice none 0 0)
    have b3 := three_below T1.b (b := (w.heap.size + 1)) (by omega) (.int .i64 0) (.slice none 0 0) (.slice none 0 0)
    generalize three w1 (w.heap.size + 1) (.int .i64 0) (.slice none 0 0) (.slice none 0 0) = w9 at *
    obtain ⟨z0, z1, z2⟩ := Z3
    refine bodyPost_ret (v := .tuple #[.agg #[.int .i64 0, .slice none 0 0, .slice none 0 0], .int .i64 (x3)]) ?_ rfl ⟨.slice none 0 0, .slice none 0 0, by rw [unhide HE]; try rfl, by rw [unhide HE]; exact OwnL.nil _ _ _ _, by rw [unhide HE]; exact OwnL.nil _ _ _ _, b3⟩
    simp [results, Try.results28, go_sem, z0, z1, z2]

set_option maxRecDepth 100000 in
set_option maxHeartbeats 4000000 in
theorem tellApart_any (m : Mc) (a1 : Option Addr) (c1 : Nat) (a2 : Option Addr) (c2 : Nat) (h : Mc) (d1 : Option Addr) (e1 : Nat) (d2 : Option Addr) (e2 : Nat) (w : World) (o : Option (List Int)) (hm : MA w m a1 c1 a2 c2) (hh : MA w h d1 e1 d2 e2) (hse : SeR m h o) :
    Calls Try.prog 29 #[mval m a1 c1 a2 c2, mval h d1 e1 d2 e2] w (TlPost w (apartV o m h)) := by
  have b0 : Below w.heap.size w ((w.alloc (.cells #[.int .i64 m.kind, .int .i64 m.k, .int .i64 m.o, .int .i64 m.n, .slice a1 m.nx.length c1, .slice a2 m.out.length c2] 24)).alloc (.cells #[.int .i64 h.kind, .int .i64 h.k, .int .i64 h.o, .int .i64 h.n, .slice d1 h.nx.length e1, .slice d2 h.out.length e2] 24)) := bstep (ballo _ _) (ballo _ _)
  have T0 := Tz.start b0
  have hz : ((w.alloc (.cells #[.int .i64 m.kind, .int .i64 m.k, .int .i64 m.o, .int .i64 m.n, .slice a1 m.nx.length c1, .slice a2 m.out.length c2] 24)).alloc (.cells #[.int .i64 h.kind, .int .i64 h.k, .int .i64 h.o, .int .i64 h.n, .slice d1 h.nx.length e1, .slice d2 h.out.length e2] 24)).heap.size = w.heap.size + 1 + 1 := by simp
  have hzz : (((w.alloc (.cells #[.int .i64 m.kind, .int .i64 m.k, .int .i64 m.o, .int .i64 m.n, .slice a1 m.nx.length c1, .slice a2 m.out.length c2] 24)).alloc (.cells #[.int .i64 h.kind, .int .i64 h.k, .int .i64 h.o, .int .i64 h.n, .slice d1 h.nx.length e1, .slice d2 h.out.length e2] 24)).alloc (.cells #[.int .i64 0, .slice none 0 0, .slice none 0 0] 28)).heap.size = w.heap.size + 1 + 1 + 1 := by simp
  have hsp := separate_any m h a1 c1 a2 c2 d1 e1 d2 e2 _ o (hm.below T0.b) (hh.below T0.b) hse
  rw [hz] at T0
  unfold mval SePost at hsp
  unfold mval
  have HT := hide T0
  rw [hzz] at hsp
  clear hz b0 T0 hm hh hse
  go_enter Try.func29, Try.ntmps29
  go_wp2_with fail
  refine hsp.mono ?_
  rintro e w1 ⟨v, rfl, ho, hb1⟩
  have T1 : Tz w w1 (w.heap.size + 1 + 1) := (unhide HT).below (hzz.symm ▸ hb1)
  have hl1 := T1.lt
  obtain ⟨a8, c8, rfl, -⟩ := ho.shape
  clear hsp HT hb1 hzz
  by_cases z : seE m h = 0
  rotate_left
  · have HE := hide (show apartV o m h = (an0, seE m h) by unfold apartV; rw [if_pos z])
    have t3 : (seE m h != 0) = true := by simpa using z
    clear z
    generalize seE m h = x3 at *
    generalize o.isSome = bs at *
    have f0 := T1.f 0
    have f1 := T1.f 1
    have f2 := T1.f 2
    obtain ⟨y0, y1, y2⟩ := T1.t
    go_wp2
    clear f0 f1 f2 y0 y1 y2 
    change bodyPost _ _ _ _ _ (three w1 (w.heap.size + 1 + 1) (.int .i64 0) (.slice none 0 0) (.slice none 0 0))
    have Z3 := T1.t.set (.int .i64 0) (.slice none 0 0) (.slice none 0 0)
    have b3 := three_below T1.b (b := (w.heap.size + 1 + 1)) (by omega) (.int .i64 0) (.slice none 0 0) (.slice none 0 0)
    generalize three w1 (w.heap.size + 1 + 1) (.int .i64 0) (.slice none 0 0) (.slice none 0 0) = w9 at *
    obtain ⟨z0, z1, z2⟩ := Z3
    refine bodyPost_ret (v := .tuple #[.agg #[.int .i64 0, .slice none 0 0, .slice none 0 0], .int .i64 (x3)]) ?_ rfl ⟨.slice none 0 0, .slice none 0 0, by rw [unhide HE]; try rfl, by rw [unhide HE]; exact OwnL.nil _ _ _ _, by rw [unhide HE]; exact OwnL.nil _ _ _ _, b3⟩
    simp [results, Try.results29, go_sem, z0, z1, z2]
  have t3 : (seE m h != 0) = false := by simp [z]
  cases hi : o.isSome
  · have HE := hide (show apartV o m h = (⟨2, [], []⟩, 0) by unfold apartV; rw [if_neg (by simp [z]), if_neg (by simp [hi])])
    clear z hi
    generalize seE m h = x3 at *
    have han := ansY_any w1
    go_wp2_with fail
    refine han.mono ?_
    rintro e w2 ⟨rfl, hb2⟩
    have T2 := T1.below hb2
    have hs2 := hb2.size
    have f0 := T2.f 0
    have f1 := T2.f 1
    have f2 := T2.f 2
    obtain ⟨y0, y1, y2⟩ := T2.t
    go_wp2
    clear f0 f1 f2 y0 y1 y2 
    change bodyPost _ _ _ _ _ (three w2 (w.heap.size + 1 + 1) (.int .i64 2) (.slice none 0 0) (.slice none 0 0))
    have Z3 := T2.t.set (.int .i64 2) (.slice none 0 0) (.slice none 0 0)
    have b3 := three_below T2.b (b := (w.heap.size + 1 + 1)) (by omega) (.int .i64 2) (.slice none 0 0) (.slice none 0 0)
    generalize three w2 (w.heap.size + 1 + 1) (.int .i64 2) (.slice none 0 0) (.slice none 0 0) = w9 at *
    obtain ⟨z0, z1, z2⟩ := Z3
    refine bodyPost_ret (v := .tuple #[.agg #[.int .i64 2, .slice none 0 0, .slice none 0 0], .int .i64 (0)]) ?_ rfl ⟨.slice none 0 0, .slice none 0 0, by rw [unhide HE]; try rfl, by rw [unhide HE]; exact OwnL.nil _ _ _ _, by rw [unhide HE]; exact OwnL.nil _ _ _ _, b3⟩
    simp [results, Try.results29, go_sem, z0, z1, z2]
  · have HE := hide (show apartV o m h = (⟨3, [], o.getD []⟩, 0) by unfold apartV; rw [if_neg (by simp [z]), if_pos hi])
    clear z hi
    generalize seE m h = x3 at *
    generalize o.getD [] = L at *
    have han := ansN_any a8 L.length c8 w1
    go_wp2_with fail
    refine han.mono ?_
    rintro e w2 ⟨rfl, hb2⟩
    have T2 := T1.below hb2
    have hs2 := hb2.size
    have ho2 := ho.grown hb2
    have f0 := T2.f 0
    have f1 := T2.f 1
    have f2 := T2.f 2
    obtain ⟨y0, y1, y2⟩ := T2.t
    go_wp2
    clear f0 f1 f2 y0 y1 y2 
    change bodyPost _ _ _ _ _ (three w2 (w.heap.size + 1 + 1) (.int .i64 3) (.slice none 0 0) (.slice a8 L.length c8))
    have Z3 := T2.t.set (.int .i64 3) (.slice none 0 0) (.slice a8 L.length c8)
    have b3 := three_below T2.b (b := (w.heap.size + 1 + 1)) (by omega) (.int .i64 3) (.slice none 0 0) (.slice a8 L.length c8)
    have O2 := ownKeep2 (B' := w.heap.size) ho2 (b := (w.heap.size + 1 + 1)) (by omega) (by omega) (.int .i64 3) (.slice none 0 0) (.slice a8 L.length c8)
    generalize three w2 (w.heap.size + 1 + 1) (.int .i64 3) (.slice none 0 0) (.slice a8 L.length c8) = w9 at *
    obtain ⟨z0, z1, z2⟩ := Z3
    refine bodyPost_ret (v := .tuple #[.agg #[.int .i64 3, .slice none 0 0, .slice a8 L.length c8], .int .i64 (0)]) ?_ rfl ⟨.slice none 0 0, .slice a8 L.length c8, by rw [unhide HE]; try rfl, by rw [unhide HE]; exact OwnL.nil _ _ _ _, by rw [unhide HE]; exact O2, b3⟩
    simp [results, Try.results29, go_sem, z0, z1, z2]

set_option maxRecDepth 100000 in
set_option maxHeartbeats 4000000 in
theorem ttell_any (m : Mc) (a1 : Option Addr) (c1 : Nat) (a2 : Option Addr) (c2 : Nat) (p : Pq) (w : World) (o : Option (List Int)) (hm : MA w m a1 c1 a2 c2) (hh : MA w p.q.hyp p.a1 p.c1 p.a2 p.c2) (g0 : RdL .i64 w p.aw p.q.word) (kw : p.q.word.length ≤ maxLen) (hse : SeR m p.q.hyp o) :
    Calls Try.prog 17 #[mval m a1 c1 a2 c2, pqV p] w (TlPost w (tellV o m p.q)) := by
  have b0 : Below w.heap.size w ((w.alloc (.cells #[.int .i64 m.kind, .int .i64 m.k, .int .i64 m.o, .int .i64 m.n, .slice a1 m.nx.length c1, .slice a2 m.out.length c2] 24)).alloc (.cells #[.int .i64 p.q.kind, .slice p.aw p.q.word.length p.cw, .int .i64 p.q.hyp.kind, .int .i64 p.q.hyp.k, .int .i64 p.q.hyp.o, .int .i64 p.q.hyp.n, .slice p.a1 p.q.hyp.nx.length p.c1, .slice p.a2 p.q.hyp.out.length p.c2] 26)) := bstep (ballo _ _) (ballo _ _)
  have T0 := Tz.start b0
  have B0 : Box (((w.alloc (.cells #[.int .i64 m.kind, .int .i64 m.k, .int .i64 m.o, .int .i64 m.n, .slice a1 m.nx.length c1, .slice a2 m.out.length c2] 24)).alloc (.cells #[.int .i64 p.q.kind, .slice p.aw p.q.word.length p.cw, .int .i64 p.q.hyp.kind, .int .i64 p.q.hyp.k, .int .i64 p.q.hyp.o, .int .i64 p.q.hyp.n, .slice p.a1 p.q.hyp.nx.length p.c1, .slice p.a2 p.q.hyp.out.length p.c2] 26)).alloc (.cells #[.int .i64 0, .slice none 0 0, .slice none 0 0] 28)) w.heap.size m a1 c1 a2 c2 := ((Box.alloc w m a1 c1 a2 c2 24).below (ballo _ _)).below (ballo _ _)
  have Q0 : Qb (((w.alloc (.cells #[.int .i64 m.kind, .int .i64 m.k, .int .i64 m.o, .int .i64 m.n, .slice a1 m.nx.length c1, .slice a2 m.out.length c2] 24)).alloc (.cells #[.int .i64 p.q.kind, .slice p.aw p.q.word.length p.cw, .int .i64 p.q.hyp.kind, .int .i64 p.q.hyp.k, .int .i64 p.q.hyp.o, .int .i64 p.q.hyp.n, .slice p.a1 p.q.hyp.nx.length p.c1, .slice p.a2 p.q.hyp.out.length p.c2] 26)).alloc (.cells #[.int .i64 0, .slice none 0 0, .slice none 0 0] 28)) (w.heap.size + 1) p := by
    have := (Qb.alloc (w.alloc (.cells #[.int .i64 m.kind, .int .i64 m.k, .int .i64 m.o, .int .i64 m.n, .slice a1 m.nx.length c1, .slice a2 m.out.length c2] 24)) p 26).below (ballo _ (.cells #[.int .i64 0, .slice none 0 0, .slice none 0 0] 28))
    rw [World.size_alloc] at this
    exact this
  have hz : ((w.alloc (.cells #[.int .i64 m.kind, .int .i64 m.k, .int .i64 m.o, .int .i64 m.n, .slice a1 m.nx.length c1, .slice a2 m.out.length c2] 24)).alloc (.cells #[.int .i64 p.q.kind, .slice p.aw p.q.word.length p.cw, .int .i64 p.q.hyp.kind, .int .i64 p.q.hyp.k, .int .i64 p.q.hyp.o, .int .i64 p.q.hyp.n, .slice p.a1 p.q.hyp.nx.length p.c1, .slice p.a2 p.q.hyp.out.length p.c2] 26)).heap.size = w.heap.size + 1 + 1 := by simp
  have hck := mcheck_any m a1 c1 a2 c2 _ (hm.r1.below T0.b) (hm.r2.below T0.b) hm.m1 hm.m2
  rw [hz] at T0
  unfold mval at hck ⊢
  unfold pqV
  have HT := hide T0
  have HBx := hide B0
  have HQx := hide Q0
  have HM := hide hm
  have HH := hide hh
  have HG := hide g0
  clear b0 T0 B0 Q0 hz hm hh g0
  go_enter Try.func17, Try.ntmps17
  go_wp2_with fail
  refine hck.mono ?_
  rintro e w1 ⟨rfl, hb1⟩
  have T1 := (unhide HT).below hb1
  have B1 := (unhide HBx).below hb1
  have Q1 := (unhide HQx).below hb1
  have hl1 := T1.lt
  clear hck HT HBx HQx hb1
  obtain ⟨q0, q1, q2, q3, q4, q5, q6, q7⟩ := Q1
  obtain ⟨m0, m1, m2, m3, m4, m5⟩ := B1
  by_cases e1 : (mchV m).2 = 0
  rotate_left
  · have t1 : ((mchV m).2 != 0) = true := by simpa using e1
    have HE := hide (show tellV o m p.q = (an0, (mchV m).2) by unfold tellV; rw [if_pos e1])
    clear e1
    generalize mchV m = X at *
    have f0 := T1.f 0
    have f1 := T1.f 1
    have f2 := T1.f 2
    obtain ⟨y0, y1, y2⟩ := T1.t
    go_wp2
    clear f0 f1 f2 y0 y1 y2 m0 m1 m2 m3 m4 m5 q0 q1 q2 q3 q4 q5 q6 q7
    change bodyPost _ _ _ _ _ (three w1 (w.heap.size + 1 + 1) (.int .i64 0) (.slice none 0 0) (.slice none 0 0))
    have Z3 := T1.t.set (.int .i64 0) (.slice none 0 0) (.slice none 0 0)
    have b3 := three_below T1.b (b := (w.heap.size + 1 + 1)) (by omega) (.int .i64 0) (.slice none 0 0) (.slice none 0 0)
    generalize three w1 (w.heap.size + 1 + 1) (.int .i64 0) (.slice none 0 0) (.slice none 0 0) = w9 at *
    obtain ⟨z0, z1, z2⟩ := Z3
    refine bodyPost_ret (v := .tuple #[.agg #[.int .i64 0, .slice none 0 0, .slice none 0 0], .int .i64 (X.2)]) ?_ rfl ⟨.slice none 0 0, .slice none 0 0, by rw [unhide HE]; try rfl, by rw [unhide HE]; exact OwnL.nil _ _ _ _, by rw [unhide HE]; exact OwnL.nil _ _ _ _, b3⟩
    simp [results, Try.results17, go_sem, z0, z1, z2]
  have t1 : ((mchV m).2 != 0) = false := by simp [e1]
  by_cases k1 : p.q.kind = 1
  · have t2 : (p.q.kind == 1) = true := by simpa using k1
    have HE := hide (tellV_said (o := o) e1 k1)
    have hsd := tellSaid_any m a1 c1 a2 c2 p.aw p.cw p.q.word w1 ((unhide HM).r1.below T1.b) ((unhide HM).r2.below T1.b) ((unhide HG).below T1.b) (unhide HM).m1 (unhide HM).m2 kw
    unfold mval at hsd
    clear e1 k1
    generalize mchV m = X at *
    generalize saidV m p.q.word = R at *
    go_wp2_with fail
    refine hsd.mono ?_
    rintro e w2 ⟨vo, vw, rfl, ho, hw, hb2⟩
    have T2 := T1.below hb2
    have hs2 := hb2.size
    obtain ⟨a8, c8, rfl, -⟩ := ho.shape
    obtain ⟨a9, c9, rfl, -⟩ := hw.shape
    clear hsd m0 m1 m2 m3 m4 m5 q0 q1 q2 q3 q4 q5 q6 q7
    have f0 := T2.f 0
    have f1 := T2.f 1
    have f2 := T2.f 2
    obtain ⟨y0, y1, y2⟩ := T2.t
    go_wp2
    clear f0 f1 f2 y0 y1 y2 
    change bodyPost _ _ _ _ _ (three w2 (w.heap.size + 1 + 1) (.int .i64 R.1.kind) (.slice a8 R.1.out.length c8) (.slice a9 R.1.word.length c9))
    have Z3 := T2.t.set (.int .i64 R.1.kind) (.slice a8 R.1.out.length c8) (.slice a9 R.1.word.length c9)
    have b3 := three_below T2.b (b := (w.heap.size + 1 + 1)) (by omega) (.int .i64 R.1.kind) (.slice a8 R.1.out.length c8) (.slice a9 R.1.word.length c9)
    have O1 := ownKeep2 (B' := w.heap.size) ho (b := (w.heap.size + 1 + 1)) (by omega) (by omega) (.int .i64 R.1.kind) (.slice a8 R.1.out.length c8) (.slice a9 R.1.word.length c9)
    have O2 := ownKeep2 (B' := w.heap.size) hw (b := (w.heap.size + 1 + 1)) (by omega) (by omega) (.int .i64 R.1.kind) (.slice a8 R.1.out.length c8) (.slice a9 R.1.word.length c9)
    generalize three w2 (w.heap.size + 1 + 1) (.int .i64 R.1.kind) (.slice a8 R.1.out.length c8) (.slice a9 R.1.word.length c9) = w9 at *
    obtain ⟨z0, z1, z2⟩ := Z3
    refine bodyPost_ret (v := .tuple #[.agg #[.int .i64 R.1.kind, .slice a8 R.1.out.length c8, .slice a9 R.1.word.length c9], .int .i64 (R.2)]) ?_ rfl ⟨.slice a8 R.1.out.length c8, .slice a9 R.1.word.length c9, by rw [unhide HE]; try rfl, by rw [unhide HE]; exact O1, by rw [unhide HE]; exact O2, b3⟩
    simp [results, Try.results17, go_sem, z0, z1, z2]
  have t2 : (p.q.kind == 1) = false := by simpa using k1
  by_cases k2 : p.q.kind = 2
  · have t3 : (p.q.kind == 2) = true := by simpa using k2
    have HE := hide (tellV_apart (o := o) e1 k2)
    have hsd := tellApart_any m a1 c1 a2 c2 p.q.hyp p.a1 p.c1 p.a2 p.c2 w1 o ((unhide HM).below T1.b) ((unhide HH).below T1.b) hse
    unfold mval at hsd
    clear e1 k1 k2 hse
    generalize mchV m = X at *
    generalize apartV o m p.q.hyp = R at *
    go_wp2_with fail
    refine hsd.mono ?_
    rintro e w2 ⟨vo, vw, rfl, ho, hw, hb2⟩
    have T2 := T1.below hb2
    have hs2 := hb2.size
    obtain ⟨a8, c8, rfl, -⟩ := ho.shape
    obtain ⟨a9, c9, rfl, -⟩ := hw.shape
    clear hsd m0 m1 m2 m3 m4 m5 q0 q1 q2 q3 q4 q5 q6 q7
    have f0 := T2.f 0
    have f1 := T2.f 1
    have f2 := T2.f 2
    obtain ⟨y0, y1, y2⟩ := T2.t
    go_wp2
    clear f0 f1 f2 y0 y1 y2 
    change bodyPost _ _ _ _ _ (three w2 (w.heap.size + 1 + 1) (.int .i64 R.1.kind) (.slice a8 R.1.out.length c8) (.slice a9 R.1.word.length c9))
    have Z3 := T2.t.set (.int .i64 R.1.kind) (.slice a8 R.1.out.length c8) (.slice a9 R.1.word.length c9)
    have b3 := three_below T2.b (b := (w.heap.size + 1 + 1)) (by omega) (.int .i64 R.1.kind) (.slice a8 R.1.out.length c8) (.slice a9 R.1.word.length c9)
    have O1 := ownKeep2 (B' := w.heap.size) ho (b := (w.heap.size + 1 + 1)) (by omega) (by omega) (.int .i64 R.1.kind) (.slice a8 R.1.out.length c8) (.slice a9 R.1.word.length c9)
    have O2 := ownKeep2 (B' := w.heap.size) hw (b := (w.heap.size + 1 + 1)) (by omega) (by omega) (.int .i64 R.1.kind) (.slice a8 R.1.out.length c8) (.slice a9 R.1.word.length c9)
    generalize three w2 (w.heap.size + 1 + 1) (.int .i64 R.1.kind) (.slice a8 R.1.out.length c8) (.slice a9 R.1.word.length c9) = w9 at *
    obtain ⟨z0, z1, z2⟩ := Z3
    refine bodyPost_ret (v := .tuple #[.agg #[.int .i64 R.1.kind, .slice a8 R.1.out.length c8, .slice a9 R.1.word.length c9], .int .i64 (R.2)]) ?_ rfl ⟨.slice a8 R.1.out.length c8, .slice a9 R.1.word.length c9, by rw [unhide HE]; try rfl, by rw [unhide HE]; exact O1, by rw [unhide HE]; exact O2, b3⟩
    simp [results, Try.results17, go_sem, z0, z1, z2]
  have t3 : (p.q.kind == 2) = false := by simpa using k2
  have HE := hide (show tellV o m p.q = (an0, 30) by unfold tellV; rw [if_neg (by simp [e1]), if_neg k1, if_pos k2])
  clear e1 k1 k2
  generalize mchV m = X at *
  have f0 := T1.f 0
  have f1 := T1.f 1
  have f2 := T1.f 2
  obtain ⟨y0, y1, y2⟩ := T1.t
  go_wp2
  clear f0 f1 f2 y0 y1 y2 m0 m1 m2 m3 m4 m5 q0 q1 q2 q3 q4 q5 q6 q7
  change bodyPost _ _ _ _ _ (three w1 (w.heap.size + 1 + 1) (.int .i64 0) (.slice none 0 0) (.slice none 0 0))
  have Z3 := T1.t.set (.int .i64 0) (.slice none 0 0) (.slice none 0 0)
  have b3 := three_below T1.b (b := (w.heap.size + 1 + 1)) (by omega) (.int .i64 0) (.slice none 0 0) (.slice none 0 0)
  generalize three w1 (w.heap.size + 1 + 1) (.int .i64 0) (.slice none 0 0) (.slice none 0 0) = w9 at *
  obtain ⟨z0, z1, z2⟩ := Z3
  refine bodyPost_ret (v := .tuple #[.agg #[.int .i64 0, .slice none 0 0, .slice none 0 0], .int .i64 (30)]) ?_ rfl ⟨.slice none 0 0, .slice none 0 0, by rw [unhide HE]; try rfl, by rw [unhide HE]; exact OwnL.nil _ _ _ _, by rw [unhide HE]; exact OwnL.nil _ _ _ _, b3⟩
  simp [results, Try.results17, go_sem, z0, z1, z2]

end Go.Proofs.Ytagoilabphmdfaa
