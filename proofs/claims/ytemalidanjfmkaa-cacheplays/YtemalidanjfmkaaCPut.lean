/-
  The reference's Put of layer 11, where it tells an error of the word, of what is said, or a clash.
-/
import Derived.Test.YtemalidanjfmkaaCOw
import Derived.Test.YtemalidanjfmkaaEChk
import Derived.Test.YtemalidanjfmkaaK1
import Derived.Deep.RegionHeld
namespace Go.Proofs.Ytemalidanjfmkaa
set_option linter.unusedVariables false
open Go.RowKit

/-- What Put leaves. -/
def PcPost (w : World) (p : Cv) (r : Cs × Int) (e : Ending) (w' : World) : Prop :=
  e = .returned (.tuple #[cvV p, .int .i64 r.2]) ∧ p.cs = r.1 ∧ RdC w' p ∧ Below w.heap.size w w'
theorem RdC.belowC {w w' : World} {p : Cv} (h : RdC w p) (hb : Below w.heap.size w w') : RdC w' p := h.below hb
/-- What Put holds: the cache, the cache that it will give. -/
structure Pt2 (w w1 : World) (p : Cv) : Prop where
  c : Cb w1 w.heap.size p
  z : Cb w1 (w.heap.size + 1) cv0
  f : ∀ i, w1.frozen? ⟨w.heap.size + 1, i, none⟩ = false
  b : Below w.heap.size w w1
theorem Pt2.below {w w1 w2 : World} {p : Cv} (h : Pt2 w w1 p) (hb : Below w1.heap.size w1 w2) : Pt2 w w2 p :=
  ⟨h.c.below hb, h.z.below hb, fun i => frzO (h.f i) hb (World.block_lt_of_cell? w1 _ h.z.p0), bstep h.b hb⟩
theorem Pt2.lt {w w1 : World} {p : Cv} (h : Pt2 w w1 p) : w.heap.size + 1 < w1.heap.size := World.block_lt_of_cell? w1 _ h.z.p0
theorem Pt2.start (w : World) (p : Cv) : Pt2 w ((w.alloc (.cells #[.int .i64 p.kind, .int .i64 p.k, .int .i64 p.o, .int .i64 0, .slice none 0 0, .slice none 0 0, .int .i64 p.most, .slice p.aw p.ws.length p.cw, .slice p.ao p.os.length p.co, .slice p.ab p.bg.length p.cb, .int .i64 p.hits, .int .i64 p.miss] 34)).alloc (.cells #[.int .i64 0, .int .i64 0, .int .i64 0, .int .i64 0, .slice none 0 0, .slice none 0 0, .int .i64 0, .slice none 0 0, .slice none 0 0, .slice none 0 0, .int .i64 0, .int .i64 0] 34)) p := by
  refine ⟨(Cb.alloc w p 34).below (ballo _ _), ?_, fun i => ?_, bstep (ballo _ _) (ballo _ _)⟩
  · have := Cb.alloc (w.alloc (.cells #[.int .i64 p.kind, .int .i64 p.k, .int .i64 p.o, .int .i64 0, .slice none 0 0, .slice none 0 0, .int .i64 p.most, .slice p.aw p.ws.length p.cw, .slice p.ao p.os.length p.co, .slice p.ab p.bg.length p.cb, .int .i64 p.hits, .int .i64 p.miss] 34)) cv0 34
    rw [World.size_alloc] at this
    exact this
  · rw [frozen?_alloc_cells]; exact frzN _ (by simp)

set_option maxRecDepth 100000 in
set_option maxHeartbeats 4000000 in
theorem rputC_word (p : Cv) (a : Option Addr) (c : Nat) (v : List Int) (a' : Option Addr) (c' : Nat) (out : List Int) (w : World) (hr : RdC w p) (hv : RdL .i64 w a v) (ho : RdL .i64 w a' out) (lv : v.length ≤ 5000) (lo : out.length ≤ 5000) (hca : v.length ≤ c) (hna : a = none → v.length = 0 ∧ c = 0) (hcb : out.length ≤ c') (hnb : a' = none → out.length = 0 ∧ c' = 0) (hcc : c ≤ maxLen) (hcd : c' ≤ maxLen) (h1 : wdE v p.k ≠ 0) :
    Calls Try.prog 16 #[cvV p, .slice a v.length c, .slice a' out.length c'] w (PcPost w p (putV p.cs v out)) := by
  have HT0 := hide (Pt2.start w p)
  have HR := hide hr
  have hck := rcheck_any a v.length c (fun i => v.getD i 0) p.k ((w.alloc (.cells #[.int .i64 p.kind, .int .i64 p.k, .int .i64 p.o, .int .i64 0, .slice none 0 0, .slice none 0 0, .int .i64 p.most, .slice p.aw p.ws.length p.cw, .slice p.ao p.os.length p.co, .slice p.ab p.bg.length p.cb, .int .i64 p.hits, .int .i64 p.miss] 34)).alloc (.cells #[.int .i64 0, .int .i64 0, .int .i64 0, .int .i64 0, .slice none 0 0, .slice none 0 0, .int .i64 0, .slice none 0 0, .slice none 0 0, .slice none 0 0, .int .i64 0, .int .i64 0] 34)) (hv.below (Pt2.start w p).b) (by unfold maxLen; omega)
  unfold cvV
  have HE := hide (show putV p.cs v out = (p.cs, wdE v p.k) by unfold putV; rw [if_pos (show wdE v p.cs.k ≠ 0 from h1)]; rfl)
  have t1 : (wdE v p.k != 0) = true := by simpa using h1
  unfold wdE at t1 HE
  clear h1 hv ho
  generalize chkV v.length (fun i => v.getD i 0) p.k = X at *
  obtain ⟨p0, p1, p2, p3, p4, p5, p6, p7, p8, p9, p10, p11⟩ := (unhide HT0).c
  go_enter Try.func16, Try.ntmps16
  go_wp2_with fail
  refine hck.mono ?_
  rintro e w1 ⟨rfl, hw1⟩
  have T1 : Pt2 w w1 p := hw1 ▸ unhide HT0
  have hl1 := T1.lt
  clear hw1 hck HT0 p0 p1 p2 p3 p4 p5 p6 p7 p8 p9 p10 p11
  obtain ⟨y0, y1, y2, y3, y4, y5, y6, y7, y8, y9, y10, y11⟩ := T1.z
  obtain ⟨p0, p1, p2, p3, p4, p5, p6, p7, p8, p9, p10, p11⟩ := T1.c
  have q0 := T1.f 0
  have q1 := T1.f 1
  have q2 := T1.f 2
  have q3 := T1.f 3
  have q4 := T1.f 4
  have q5 := T1.f 5
  have q6 := T1.f 6
  have q7 := T1.f 7
  have q8 := T1.f 8
  have q9 := T1.f 9
  have q10 := T1.f 10
  have q11 := T1.f 11
  dsimp only [cv0, List.length_nil] at y0 y1 y2 y3 y4 y5 y6 y7 y8 y9 y10 y11
  go_wp2
  clear y0 y1 y2 y3 y4 y5 y6 y7 y8 y9 y10 y11 p0 p1 p2 p3 p4 p5 p6 p7 p8 p9 p10 p11 q0 q1 q2 q3 q4 q5 q6 q7 q8 q9 q10 q11
  change bodyPost _ _ _ _ _ (dozen w1 (w.heap.size + 1) p)
  have Z3 := T1.z.set p
  have b3 := dozen_below T1.b (b := w.heap.size + 1) (by omega) p
  have R3 := (unhide HR).belowC b3
  generalize dozen w1 (w.heap.size + 1) p = w9 at *
  obtain ⟨z0, z1, z2, z3, z4, z5, z6, z7, z8, z9, z10, z11⟩ := Z3
  refine bodyPost_ret (v := .tuple #[cvV p, .int .i64 (X.2)]) ?_ rfl ⟨by rw [unhide HE], by rw [unhide HE], R3, b3⟩
  simp [results, Try.results16, go_sem, cvV, z0, z1, z2, z3, z4, z5, z6, z7, z8, z9, z10, z11]

set_option maxRecDepth 100000 in
set_option maxHeartbeats 4000000 in
theorem rputC_ans (p : Cv) (a : Option Addr) (c : Nat) (v : List Int) (a' : Option Addr) (c' : Nat) (out : List Int) (w : World) (hr : RdC w p) (hv : RdL .i64 w a v) (ho : RdL .i64 w a' out) (lv : v.length ≤ 5000) (lo : out.length ≤ 5000) (hca : v.length ≤ c) (hna : a = none → v.length = 0 ∧ c = 0) (hcb : out.length ≤ c') (hnb : a' = none → out.length = 0 ∧ c' = 0) (hcc : c ≤ maxLen) (hcd : c' ≤ maxLen) (h1 : wdE v p.k = 0) (h2 : chkA ⟨1, v, ⟨p.kind, p.k, p.o, 0, [], []⟩⟩ ⟨1, out, []⟩ ≠ 0) :
    Calls Try.prog 16 #[cvV p, .slice a v.length c, .slice a' out.length c'] w (PcPost w p (putV p.cs v out)) := by
  have HT0 := hide (Pt2.start w p)
  have HR := hide hr
  have hck := rcheck_any a v.length c (fun i => v.getD i 0) p.k ((w.alloc (.cells #[.int .i64 p.kind, .int .i64 p.k, .int .i64 p.o, .int .i64 0, .slice none 0 0, .slice none 0 0, .int .i64 p.most, .slice p.aw p.ws.length p.cw, .slice p.ao p.os.length p.co, .slice p.ab p.bg.length p.cb, .int .i64 p.hits, .int .i64 p.miss] 34)).alloc (.cells #[.int .i64 0, .int .i64 0, .int .i64 0, .int .i64 0, .slice none 0 0, .slice none 0 0, .int .i64 0, .slice none 0 0, .slice none 0 0, .slice none 0 0, .int .i64 0, .int .i64 0] 34)) (hv.below (Pt2.start w p).b) (by unfold maxLen; omega)
  unfold cvV
  have HE := hide (show putV p.cs v out = (p.cs, chkA ⟨1, v, ⟨p.kind, p.k, p.o, 0, [], []⟩⟩ ⟨1, out, []⟩) by unfold putV; rw [if_neg (show ¬ wdE v p.cs.k ≠ 0 from fun h => h h1), if_pos (show chkA ⟨1, v, ⟨p.cs.kind, p.cs.k, p.cs.o, 0, [], []⟩⟩ ⟨1, out, []⟩ ≠ 0 from h2)]; rfl)
  have t1 : (wdE v p.k != 0) = false := by simp [h1]
  have t2 : (chkA ⟨1, v, ⟨p.kind, p.k, p.o, 0, [], []⟩⟩ ⟨1, out, []⟩ != 0) = true := by simpa using h2
  have HCK := hide (fun wz (hz : Below w.heap.size w wz) => rchk_any ⟨⟨1, v, ⟨p.kind, p.k, p.o, 0, [], []⟩⟩, a, c, none, 0, none, 0⟩ ⟨⟨1, out, []⟩, a', c', none, 0⟩ wz ⟨ho.below hz, .inl rfl⟩ (show out.length ≤ 1000000 by omega) (Nat.zero_le _))
  unfold wdE at t1
  clear h1 h2 hv ho
  generalize chkV v.length (fun i => v.getD i 0) p.k = X at *
  obtain ⟨p0, p1, p2, p3, p4, p5, p6, p7, p8, p9, p10, p11⟩ := (unhide HT0).c
  go_enter Try.func16, Try.ntmps16
  go_wp2_with fail
  refine hck.mono ?_
  rintro e w1 ⟨rfl, hw1⟩
  have HT1 : Hid (Pt2 w w1 p) := hw1 ▸ unhide HT0
  clear hw1 hck HT0 p0 p1 p2 p3 p4 p5 p6 p7 p8 p9 p10 p11
  have hc2 := unhide HCK w1 (unhide HT1).b
  unfold pqV paV at hc2
  dsimp only [List.length_nil] at hc2
  obtain ⟨p0, p1, p2, p3, p4, p5, p6, p7, p8, p9, p10, p11⟩ := (unhide HT1).c
  go_wp2_with fail
  refine hc2.mono ?_
  rintro e w2 ⟨rfl, hb2⟩
  have T2 := (unhide HT1).below hb2
  have hl2 := T2.lt
  clear hc2 HCK HT1 hb2 p0 p1 p2 p3 p4 p5 p6 p7 p8 p9 p10 p11
  generalize chkA ⟨1, v, ⟨p.kind, p.k, p.o, 0, [], []⟩⟩ ⟨1, out, []⟩ = Y at *
  obtain ⟨y0, y1, y2, y3, y4, y5, y6, y7, y8, y9, y10, y11⟩ := T2.z
  obtain ⟨p0, p1, p2, p3, p4, p5, p6, p7, p8, p9, p10, p11⟩ := T2.c
  have q0 := T2.f 0
  have q1 := T2.f 1
  have q2 := T2.f 2
  have q3 := T2.f 3
  have q4 := T2.f 4
  have q5 := T2.f 5
  have q6 := T2.f 6
  have q7 := T2.f 7
  have q8 := T2.f 8
  have q9 := T2.f 9
  have q10 := T2.f 10
  have q11 := T2.f 11
  dsimp only [cv0, List.length_nil] at y0 y1 y2 y3 y4 y5 y6 y7 y8 y9 y10 y11
  go_wp2
  clear y0 y1 y2 y3 y4 y5 y6 y7 y8 y9 y10 y11 p0 p1 p2 p3 p4 p5 p6 p7 p8 p9 p10 p11 q0 q1 q2 q3 q4 q5 q6 q7 q8 q9 q10 q11
  change bodyPost _ _ _ _ _ (dozen w2 (w.heap.size + 1) p)
  have Z3 := T2.z.set p
  have b3 := dozen_below T2.b (b := w.heap.size + 1) (by omega) p
  have R3 := (unhide HR).belowC b3
  generalize dozen w2 (w.heap.size + 1) p = w9 at *
  obtain ⟨z0, z1, z2, z3, z4, z5, z6, z7, z8, z9, z10, z11⟩ := Z3
  refine bodyPost_ret (v := .tuple #[cvV p, .int .i64 (Y)]) ?_ rfl ⟨by rw [unhide HE], by rw [unhide HE], R3, b3⟩
  simp [results, Try.results16, go_sem, cvV, z0, z1, z2, z3, z4, z5, z6, z7, z8, z9, z10, z11]

theorem clsA_none {c : Cs} {w out : List Int} {i : Nat} (h : findV c (w.take i) = none) : clsA c w out i = false := by unfold clsA; rw [h]
theorem clsA_some {c : Cs} {w out y : List Int} {i : Nat} (h : findV c (w.take i) = some y) : clsA c w out i = ((decide (c.kind = 1) && decide (i = w.length) && !decide (y = out)) || (decide (c.kind = 2) && !decide (y = out.take i))) := by unfold clsA; rw [h]
theorem cls_all {c : Cs} {w out : List Int} (h : ∀ j, j < w.length + 1 → clsA c w out j = false) : clsV c w out = false := by
  unfold clsV
  rw [List.any_eq_false]
  intro x hx
  rw [h x (List.mem_range.1 hx)]
  decide
theorem cls_at {c : Cs} {w out : List Int} {j : Nat} (hj : j ≤ w.length) (h : clsA c w out j = true) : clsV c w out = true := by
  unfold clsV
  rw [List.any_eq_true]
  exact ⟨j, List.mem_range.2 (by omega), h⟩
/-- What Check lets pass. -/
theorem chk_kd {v out : List Int} {kind k o : Int} (h : chkA ⟨1, v, ⟨kind, k, o, 0, [], []⟩⟩ ⟨1, out, []⟩ = 0) : kind = 1 ∨ (kind = 2 ∧ out.length = v.length) := by
  unfold chkA at h
  rw [if_neg (by simp), if_neg (by simp)] at h
  refine Classical.byContradiction fun c => ?_
  rw [if_neg] at h
  · exact absurd h (by decide)
  · rintro ⟨-, -, ⟨h1, -⟩ | ⟨h1, h2, -⟩⟩
    · exact c (.inl h1)
    · exact c (.inr ⟨h1, h2⟩)

set_option maxRecDepth 100000 in
set_option maxHeartbeats 4000000 in
theorem rputC_clash (p : Cv) (a : Option Addr) (c : Nat) (v : List Int) (a' : Option Addr) (c' : Nat) (out : List Int) (w : World) (hr : RdC w p) (hv : RdL .i64 w a v) (ho : RdL .i64 w a' out) (lv : v.length ≤ 5000) (lo : out.length ≤ 5000) (hca : v.length ≤ c) (hna : a = none → v.length = 0 ∧ c = 0) (hcb : out.length ≤ c') (hnb : a' = none → out.length = 0 ∧ c' = 0) (hcc : c ≤ maxLen) (hcd : c' ≤ maxLen) (h1 : wdE v p.k = 0) (h2 : chkA ⟨1, v, ⟨p.kind, p.k, p.o, 0, [], []⟩⟩ ⟨1, out, []⟩ = 0) (h3 : clsV p.cs v out = true) :
    Calls Try.prog 16 #[cvV p, .slice a v.length c, .slice a' out.length c'] w (PcPost w p (putV p.cs v out)) := by
  have HT0 := hide (Pt2.start w p)
  have HR := hide hr
  have hck := rcheck_any a v.length c (fun i => v.getD i 0) p.k ((w.alloc (.cells #[.int .i64 p.kind, .int .i64 p.k, .int .i64 p.o, .int .i64 0, .slice none 0 0, .slice none 0 0, .int .i64 p.most, .slice p.aw p.ws.length p.cw, .slice p.ao p.os.length p.co, .slice p.ab p.bg.length p.cb, .int .i64 p.hits, .int .i64 p.miss] 34)).alloc (.cells #[.int .i64 0, .int .i64 0, .int .i64 0, .int .i64 0, .slice none 0 0, .slice none 0 0, .int .i64 0, .slice none 0 0, .slice none 0 0, .slice none 0 0, .int .i64 0, .int .i64 0] 34)) (hv.below (Pt2.start w p).b) (by unfold maxLen; omega)
  unfold cvV
  have HE := hide (show putV p.cs v out = (p.cs, 111) by unfold putV; rw [if_neg (show ¬ wdE v p.cs.k ≠ 0 from fun h => h h1), if_neg (show ¬ chkA ⟨1, v, ⟨p.cs.kind, p.cs.k, p.cs.o, 0, [], []⟩⟩ ⟨1, out, []⟩ ≠ 0 from fun h => h h2), if_pos h3])
  have t1 : (wdE v p.k != 0) = false := by simp [h1]
  have t2 : (chkA ⟨1, v, ⟨p.kind, p.k, p.o, 0, [], []⟩⟩ ⟨1, out, []⟩ != 0) = false := by simp [h2]
  have hkd := chk_kd h2
  have H3 := hide h3
  have HCK := hide (fun wz (hz : Below w.heap.size w wz) => rchk_any ⟨⟨1, v, ⟨p.kind, p.k, p.o, 0, [], []⟩⟩, a, c, none, 0, none, 0⟩ ⟨⟨1, out, []⟩, a', c', none, 0⟩ wz ⟨ho.below hz, .inl rfl⟩ (show out.length ≤ 1000000 by omega) (Nat.zero_le _))
  have HFD := hide (fun (wz : World) (hz : Below w.heap.size w wz) (I : Nat) => rfind_any p a c (v.take I) wz (hr.below hz) ((hv.below hz).take I) (by rw [List.length_take]; unfold maxLen; omega))
  have HV := hide hv
  have HO := hide ho
  unfold wdE at t1
  unfold maxLen at hcc hcd
  clear h1 h2 h3 hv ho
  generalize chkV v.length (fun i => v.getD i 0) p.k = X at *
  obtain ⟨p0, p1, p2, p3, p4, p5, p6, p7, p8, p9, p10, p11⟩ := (unhide HT0).c
  go_enter Try.func16, Try.ntmps16
  go_wp2_with fail
  refine hck.mono ?_
  rintro e w1 ⟨rfl, hw1⟩
  have HT1 : Hid (Pt2 w w1 p) := hw1 ▸ unhide HT0
  clear hw1 hck HT0 p0 p1 p2 p3 p4 p5 p6 p7 p8 p9 p10 p11
  have hc2 := unhide HCK w1 (unhide HT1).b
  unfold pqV paV at hc2
  dsimp only [List.length_nil] at hc2
  obtain ⟨p0, p1, p2, p3, p4, p5, p6, p7, p8, p9, p10, p11⟩ := (unhide HT1).c
  go_wp2_with fail
  refine hc2.mono ?_
  rintro e w2 ⟨rfl, hb2⟩
  have HT2 := hide ((unhide HT1).below hb2)
  clear hc2 HCK HT1 hb2 p0 p1 p2 p3 p4 p5 p6 p7 p8 p9 p10 p11
  generalize chkA ⟨1, v, ⟨p.kind, p.k, p.o, 0, [], []⟩⟩ ⟨1, out, []⟩ = Y at *
  go_wp2
  go_loopw [10] (fun iv wr => ∃ I : Nat, iv = .int .i64 (I : Int) ∧ I ≤ v.length + 1 ∧ Hid (Pt2 w wr p) ∧ Hid (∀ j, j < I → clsA p.cs v out j = false)) (fun iv _ => v.length + 1 - (intOf iv).toNat)
  case atStart => exact ⟨0, rfl, Nat.zero_le _, HT2, hide (fun j h => absurd h (Nat.not_lt_zero _))⟩
  case round =>
    obtain ⟨I, rfl, hI, HTr, HN⟩ := hrel
    by_cases hlt : I ≤ v.length
    rotate_left
    · have := cls_all (c := p.cs) (w := v) (out := out) (fun j hj => unhide HN j (by omega))
      rw [unhide H3] at this
      cases this
    have hlt' : (I : Int) ≤ (v.length : Int) := by omega
    have hIc : (I : Int) ≤ (c : Int) := by omega
    have HTL := hide (take_len hlt)
    have hbd : Below wr.heap.size wr wr.drew := (Below.refl _ _).drew
    have HBD := hide hbd
    have hfd := unhide HFD wr.drew (bstep (unhide HTr).b hbd) I
    rw [unhide HTL] at hfd
    unfold cvV FdPost laV at hfd
    have HKP : Hid (∀ wz, Below wr.heap.size wr wz → (wz.cell? ⟨w.heap.size, 0, none⟩ = some (.int .i64 p.kind) ∧ wz.cell? ⟨w.heap.size, 1, none⟩ = some (.int .i64 p.k) ∧ wz.cell? ⟨w.heap.size, 2, none⟩ = some (.int .i64 p.o) ∧ wz.cell? ⟨w.heap.size, 3, none⟩ = some (.int .i64 0) ∧ wz.cell? ⟨w.heap.size, 4, none⟩ = some (.slice none 0 0) ∧ wz.cell? ⟨w.heap.size, 5, none⟩ = some (.slice none 0 0) ∧ wz.cell? ⟨w.heap.size, 6, none⟩ = some (.int .i64 p.most) ∧ wz.cell? ⟨w.heap.size, 7, none⟩ = some (.slice p.aw p.ws.length p.cw) ∧ wz.cell? ⟨w.heap.size, 8, none⟩ = some (.slice p.ao p.os.length p.co) ∧ wz.cell? ⟨w.heap.size, 9, none⟩ = some (.slice p.ab p.bg.length p.cb) ∧ wz.cell? ⟨w.heap.size, 10, none⟩ = some (.int .i64 p.hits) ∧ wz.cell? ⟨w.heap.size, 11, none⟩ = some (.int .i64 p.miss))) := fun wz hz => by
      obtain ⟨p0, p1, p2, p3, p4, p5, p6, p7, p8, p9, p10, p11⟩ := ((unhide HTr).below hz).c
      exact ⟨p0, p1, p2, p3, p4, p5, p6, p7, p8, p9, p10, p11⟩
    have hs0 := unhide HKP wr.drew hbd
    clear hbd
    have HFN : Hid (∀ b : Bool, clsA p.cs v out I = b → b = false → ∀ j, j < I + 1 → clsA p.cs v out j = false) := fun b e eb j hj => by
      by_cases c : j = I
      · subst c; rw [e, eb]
      · exact unhide HN j (by omega)
    go_wp2
    go_region_held (fun wz => wz.cell? ⟨w.heap.size, 0, none⟩ = some (.int .i64 p.kind) ∧ wz.cell? ⟨w.heap.size, 1, none⟩ = some (.int .i64 p.k) ∧ wz.cell? ⟨w.heap.size, 2, none⟩ = some (.int .i64 p.o) ∧ wz.cell? ⟨w.heap.size, 3, none⟩ = some (.int .i64 0) ∧ wz.cell? ⟨w.heap.size, 4, none⟩ = some (.slice none 0 0) ∧ wz.cell? ⟨w.heap.size, 5, none⟩ = some (.slice none 0 0) ∧ wz.cell? ⟨w.heap.size, 6, none⟩ = some (.int .i64 p.most) ∧ wz.cell? ⟨w.heap.size, 7, none⟩ = some (.slice p.aw p.ws.length p.cw) ∧ wz.cell? ⟨w.heap.size, 8, none⟩ = some (.slice p.ao p.os.length p.co) ∧ wz.cell? ⟨w.heap.size, 9, none⟩ = some (.slice p.ab p.bg.length p.cb) ∧ wz.cell? ⟨w.heap.size, 10, none⟩ = some (.int .i64 p.hits) ∧ wz.cell? ⟨w.heap.size, 11, none⟩ = some (.int .i64 p.miss)) (first | exact hsA | exact hs0) (first | (go_at_call 18; refine hfd.mono ?_; rintro e wA ⟨x, rfl, hxl, hxo, hbA⟩; have hbA2 := bstep (unhide HBD) hbA; have hsA := unhide HKP wA hbA2))
    have HTA := hide ((unhide HTr).below hbA2)
    have HXO := hide hxo
    have HXL := hide hxl
    clear hfd HFD hs0 hsA hbA hbA2 HKP HTr hxl hxo HBD HT2
    generalize hff : findV p.cs (v.take I) = f at *
    have HFF := hide hff
    clear hff
    cases f with
    | none =>
      have HNN := hide (unhide HFN _ rfl (clsA_none (unhide HFF)))
      dsimp only [Option.getD_none, Option.isSome_none, List.length_nil]
      obtain ⟨p0, -, -, -, -, -, -, -, -, -, -, -⟩ := (unhide HTA).c
      rcases hkd with hk | ⟨hk, hol⟩
      · have q1 : (p.kind == 1) = true := by simpa using hk
        have q2 : (p.kind == 2) = false := by simp [hk]
        clear hk
        by_cases hIl : I = v.length
        · have q3 : ((I : Int) == (v.length : Int)) = true := by simp [hIl]
          clear hIl
          go_wp2
          go_roundw
          case rel => exact ⟨I + 1, by go_num, by omega, HTA, HNN⟩
          case measure => simp [intOf]; omega
        · have q3 : ((I : Int) == (v.length : Int)) = false := beq_eq_false_iff_ne.2 (by omega)
          go_wp2
          go_roundw
          case rel => exact ⟨I + 1, by go_num, by omega, HTA, HNN⟩
          case measure => simp [intOf]; omega
      · have q1 : (p.kind == 1) = false := by simp [hk]
        have q2 : (p.kind == 2) = true := by simpa using hk
        clear hk hol
        go_wp2
        go_roundw
        case rel => exact ⟨I + 1, by go_num, by omega, HTA, HNN⟩
        case measure => simp [intOf]; omega
    | some y =>
      dsimp only [Option.getD_some, Option.isSome_some] at HXL ⊢
      obtain ⟨p0, -, -, -, -, -, -, -, -, -, -, -⟩ := (unhide HTA).c
      have hyl : y.length ≤ maxLen := by rw [← unhide HXL]; exact (unhide HXO).len
      have HRX : Hid (RdL .i64 wA x.a y) := by rw [← unhide HXL]; exact (unhide HXO).rd
      rcases hkd with hk | ⟨hk, hol⟩
      · have HCA := hide ((clsA_some (out := out) (unhide HFF)).trans (by simp [show p.cs.kind = 1 from hk] : _ = (decide (I = v.length) && !decide (y = out))))
        have q1 : (p.kind == 1) = true := by simpa using hk
        have q2 : (p.kind == 2) = false := by simp [hk]
        clear hk
        by_cases hIl : I = v.length
        · have q3 : ((I : Int) == (v.length : Int)) = true := by simp [hIl]
          have hsm := same_list x.a a' x.c c' y out wA (unhide HRX) ((unhide HO).below (unhide HTA).b) hyl
          by_cases hyo : y = out
          · have HNN := hide (unhide HFN _ rfl ((unhide HCA).trans (by simp [hIl, hyo])))
            rw [decide_eq_true hyo] at hsm
            clear hyo hIl
            go_wp2_with fail
            refine hsm.mono ?_
            rintro e wB ⟨rfl, hbB⟩
            have HTB := hide ((unhide HTA).below hbB)
            clear p0 hsm
            obtain ⟨p0, -, -, -, -, -, -, -, -, -, -, -⟩ := (unhide HTB).c
            go_wp2
            go_roundw
            case rel => exact ⟨I + 1, by go_num, by omega, HTB, HNN⟩
            case measure => simp [intOf]; omega
          · rw [decide_eq_false hyo] at hsm
            clear hyo hIl
            go_wp2_with fail
            refine hsm.mono ?_
            rintro e wB ⟨rfl, hbB⟩
            have TB := (unhide HTA).below hbB
            have hlB := TB.lt
            clear p0 hsm
            obtain ⟨y0, y1, y2, y3, y4, y5, y6, y7, y8, y9, y10, y11⟩ := TB.z
            obtain ⟨p0, p1, p2, p3, p4, p5, p6, p7, p8, p9, p10, p11⟩ := TB.c
            have q0 := TB.f 0
            have q1 := TB.f 1
            have q2 := TB.f 2
            have q3 := TB.f 3
            have q4 := TB.f 4
            have q5 := TB.f 5
            have q6 := TB.f 6
            have q7 := TB.f 7
            have q8 := TB.f 8
            have q9 := TB.f 9
            have q10 := TB.f 10
            have q11 := TB.f 11
            dsimp only [cv0, List.length_nil] at y0 y1 y2 y3 y4 y5 y6 y7 y8 y9 y10 y11
            go_wp2
            clear y0 y1 y2 y3 y4 y5 y6 y7 y8 y9 y10 y11 p0 p1 p2 p3 p4 p5 p6 p7 p8 p9 p10 p11 q0 q1 q2 q3 q4 q5 q6 q7 q8 q9 q10 q11
            change bodyPost _ _ _ _ _ (dozen wB (w.heap.size + 1) p)
            have Z3 := TB.z.set p
            have b3 := dozen_below TB.b (b := w.heap.size + 1) (by omega) p
            have R3 := (unhide HR).belowC b3
            generalize dozen wB (w.heap.size + 1) p = w9 at *
            obtain ⟨z0, z1, z2, z3, z4, z5, z6, z7, z8, z9, z10, z11⟩ := Z3
            refine bodyPost_ret (v := .tuple #[cvV p, .int .i64 (111)]) ?_ rfl ⟨by rw [unhide HE], by rw [unhide HE], R3, b3⟩
            simp [results, Try.results16, go_sem, cvV, z0, z1, z2, z3, z4, z5, z6, z7, z8, z9, z10, z11]
        · have q3 : ((I : Int) == (v.length : Int)) = false := beq_eq_false_iff_ne.2 (by omega)
          have HNN := hide (unhide HFN _ rfl ((unhide HCA).trans (by simp [hIl])))
          go_wp2
          go_roundw
          case rel => exact ⟨I + 1, by go_num, by omega, HTA, HNN⟩
          case measure => simp [intOf]; omega
      · have HCA := hide ((clsA_some (out := out) (unhide HFF)).trans (by simp [show p.cs.kind = 2 from hk] : _ = !decide (y = out.take I)))
        have q1 : (p.kind == 1) = false := by simp [hk]
        have q2 : (p.kind == 2) = true := by simpa using hk
        clear hk
        have hIo : I ≤ out.length := by omega
        have hIo' : (I : Int) ≤ (c' : Int) := by omega
        have HTO := hide (take_len hIo)
        have hsm := same_list x.a a' x.c c' y (out.take I) wA (unhide HRX) (((unhide HO).below (unhide HTA).b).take I) hyl
        rw [unhide HTO] at hsm
        clear hol
        by_cases hyo : y = out.take I
        · have HNN := hide (unhide HFN _ rfl ((unhide HCA).trans (by simp [hyo])))
          rw [decide_eq_true hyo] at hsm
          clear hyo
          go_wp2_with fail
          refine hsm.mono ?_
          rintro e wB ⟨rfl, hbB⟩
          have HTB := hide ((unhide HTA).below hbB)
          clear p0 hsm
          go_wp2
          go_roundw
          case rel => exact ⟨I + 1, by go_num, by omega, HTB, HNN⟩
          case measure => simp [intOf]; omega
        · rw [decide_eq_false hyo] at hsm
          clear hyo
          go_wp2_with fail
          refine hsm.mono ?_
          rintro e wB ⟨rfl, hbB⟩
          have TB := (unhide HTA).below hbB
          have hlB := TB.lt
          clear p0 hsm
          obtain ⟨y0, y1, y2, y3, y4, y5, y6, y7, y8, y9, y10, y11⟩ := TB.z
          obtain ⟨p0, p1, p2, p3, p4, p5, p6, p7, p8, p9, p10, p11⟩ := TB.c
          have q0 := TB.f 0
          have q1 := TB.f 1
          have q2 := TB.f 2
          have q3 := TB.f 3
          have q4 := TB.f 4
          have q5 := TB.f 5
          have q6 := TB.f 6
          have q7 := TB.f 7
          have q8 := TB.f 8
          have q9 := TB.f 9
          have q10 := TB.f 10
          have q11 := TB.f 11
          dsimp only [cv0, List.length_nil] at y0 y1 y2 y3 y4 y5 y6 y7 y8 y9 y10 y11
          go_wp2
          clear y0 y1 y2 y3 y4 y5 y6 y7 y8 y9 y10 y11 p0 p1 p2 p3 p4 p5 p6 p7 p8 p9 p10 p11 q0 q1 q2 q3 q4 q5 q6 q7 q8 q9 q10 q11
          change bodyPost _ _ _ _ _ (dozen wB (w.heap.size + 1) p)
          have Z3 := TB.z.set p
          have b3 := dozen_below TB.b (b := w.heap.size + 1) (by omega) p
          have R3 := (unhide HR).belowC b3
          generalize dozen wB (w.heap.size + 1) p = w9 at *
          obtain ⟨z0, z1, z2, z3, z4, z5, z6, z7, z8, z9, z10, z11⟩ := Z3
          refine bodyPost_ret (v := .tuple #[cvV p, .int .i64 (111)]) ?_ rfl ⟨by rw [unhide HE], by rw [unhide HE], R3, b3⟩
          simp [results, Try.results16, go_sem, cvV, z0, z1, z2, z3, z4, z5, z6, z7, z8, z9, z10, z11]

end Go.Proofs.Ytemalidanjfmkaa
