/-
  The program's Check of layer 10: whether an answer fits.
-/
import Derived.Test.YtemalidanjfmkaaHChk
namespace Go.Proofs.Ytemalidanjfmkaa
open Go.RowKit

/-- A query and an answer in two blocks. -/
structure Ft (w W : World) (q : Pq) (p : Pa) : Prop where
  q : Qb W w.heap.size q
  p : Tri W (w.heap.size + 1) (.int .i64 p.an.kind) (.slice p.a1 p.an.out.length p.c1) (.slice p.a2 p.an.word.length p.c2)
  b : Below w.heap.size w W
theorem Ft.below {w W W' : World} {q : Pq} {p : Pa} (h : Ft w W q p) (hb : Below W.heap.size W W') : Ft w W' q p := ⟨h.q.below hb, h.p.below hb, bstep h.b hb⟩
theorem Ft.start (w : World) (q : Pq) (p : Pa) : Ft w ((w.alloc (.cells #[.int .i64 q.q.kind, .slice q.aw q.q.word.length q.cw, .int .i64 q.q.hyp.kind, .int .i64 q.q.hyp.k, .int .i64 q.q.hyp.o, .int .i64 q.q.hyp.n, .slice q.a1 q.q.hyp.nx.length q.c1, .slice q.a2 q.q.hyp.out.length q.c2] 77)).alloc (.cells #[.int .i64 p.an.kind, .slice p.a1 p.an.out.length p.c1, .slice p.a2 p.an.word.length p.c2] 79)) q p := by
  refine ⟨(Qb.alloc w q 77).below (ballo _ _), ?_, bstep (ballo _ _) (ballo _ _)⟩
  have e : (w.alloc (.cells #[.int .i64 q.q.kind, .slice q.aw q.q.word.length q.cw, .int .i64 q.q.hyp.kind, .int .i64 q.q.hyp.k, .int .i64 q.q.hyp.o, .int .i64 q.q.hyp.n, .slice q.a1 q.q.hyp.nx.length q.c1, .slice q.a2 q.q.hyp.out.length q.c2] 77)).heap.size = w.heap.size + 1 := by simp
  constructor
  · rw [← e]; simp
  · rw [← e]; simp
  · rw [← e]; simp
theorem Ft.lt {w W : World} {q : Pq} {p : Pa} (h : Ft w W q p) : w.heap.size + 1 < W.heap.size := World.block_lt_of_cell? W _ h.p.p0

theorem isQuery_any (q : Pq) (w : World) :
    Calls Try.prog 61 #[pqV q] w fun e w' => e = .returned (.bool ((q.q.kind == 1) || (q.q.kind == 2))) ∧ Below w.heap.size w w' := by
  have b0 := ballo w (.cells #[.int .i64 q.q.kind, .slice q.aw q.q.word.length q.cw, .int .i64 q.q.hyp.kind, .int .i64 q.q.hyp.k, .int .i64 q.q.hyp.o, .int .i64 q.q.hyp.n, .slice q.a1 q.q.hyp.nx.length q.c1, .slice q.a2 q.q.hyp.out.length q.c2] 77)
  unfold pqV
  have HB := hide b0
  clear b0
  by_cases k1 : (q.q.kind == 1) = true
  · have HE := hide (show ((q.q.kind == 1) || (q.q.kind == 2)) = true by rw [k1]; rfl)
    go_enter Try.func61, Try.ntmps61
    go_wp2
    go_ret
    exact ⟨by rw [unhide HE]; rfl, unhide HB⟩
  · have k1' : (q.q.kind == 1) = false := by simpa using k1
    clear k1
    have HE := hide (show ((q.q.kind == 1) || (q.q.kind == 2)) = (q.q.kind == 2) by rw [k1']; rfl)
    go_enter Try.func61, Try.ntmps61
    go_wp2
    go_ret
    exact ⟨by rw [unhide HE]; rfl, unhide HB⟩

set_option maxRecDepth 100000 in
set_option maxHeartbeats 4000000 in
theorem fits_k1 (q : Pq) (p : Pa) (w : World) (hk : p.an.kind = 1) (hr : RdL .i64 w p.a1 p.an.out) (hl : p.an.out.length ≤ maxLen) :
    Calls Try.prog 62 #[pqV q, paV p] w fun e w' => e = .returned (.bool (fitB q.q p.an)) ∧ Below w.heap.size w w' := by
  have HE := hide (show fitB q.q p.an = (((q.q.kind == 1) && ((p.an.word.length : Int) == 0)) && sayB q.q p.an.out) by unfold fitB; rw [if_pos hk])
  have HF := hide (Ft.start w q p)
  have hrp := replyOf_any p ((w.alloc (.cells #[.int .i64 q.q.kind, .slice q.aw q.q.word.length q.cw, .int .i64 q.q.hyp.kind, .int .i64 q.q.hyp.k, .int .i64 q.q.hyp.o, .int .i64 q.q.hyp.n, .slice q.a1 q.q.hyp.nx.length q.c1, .slice q.a2 q.q.hyp.out.length q.c2] 77)).alloc (.cells #[.int .i64 p.an.kind, .slice p.a1 p.an.out.length p.c1, .slice p.a2 p.an.word.length p.c2] 79))
  rw [show rpV p = _ by unfold rpV; rw [if_pos hk]] at hrp
  unfold paV at hrp
  unfold pqV paV
  have HR := hide hr
  clear hk hr
  go_enter Try.func62, Try.ntmps62
  go_wp2_with fail
  refine hrp.mono ?_
  rintro e w1 ⟨rfl, hb1⟩
  have F1 := (unhide HF).below hb1
  have F2 := F1.below (ballo w1 (.cells #[.slice p.a1 p.an.out.length p.c1] 107))
  have hlt := F1.lt
  have HB2 := hide F2.b
  obtain ⟨⟨q0, q1, q2, q3, q4, q5, q6, q7⟩, ⟨p0, p1, p2⟩, -⟩ := F2
  clear F1
  clear HF hrp hb1
  have as1 := as_ss (.agg #[.slice p.a1 p.an.out.length p.c1])
  by_cases c1 : (q.q.kind == 1) = true
  rotate_left
  · have c1' : (q.q.kind == 1) = false := by simpa using c1
    clear c1
    go_wp2
    go_ret
    exact ⟨by rw [unhide HE, c1']; rfl, unhide HB2⟩
  by_cases c2 : ((p.an.word.length : Int) == 0) = true
  rotate_left
  · have c2' : ((p.an.word.length : Int) == 0) = false := by simpa using c2
    clear c2
    go_wp2
    go_ret
    exact ⟨by rw [unhide HE, c1, c2']; rfl, unhide HB2⟩
  go_wp2_with fail
  have hm := mayBeSaid_any q p.a1 p.c1 p.an.out (w1.alloc (.cells #[.slice p.a1 p.an.out.length p.c1] 107)) ((unhide HR).below (unhide HB2)) hl
  refine hm.mono ?_
  rintro e w3 ⟨rfl, hb3⟩
  clear q0 q1 q2 q3 q4 q5 q6 q7 p0 p1 p2
  go_wp2
  go_ret
  exact ⟨by rw [unhide HE, c1, c2]; rfl, bstep (unhide HB2) hb3⟩

set_option maxRecDepth 100000 in
set_option maxHeartbeats 4000000 in
theorem fits_k2 (q : Pq) (p : Pa) (w : World) (hk : p.an.kind = 2) :
    Calls Try.prog 62 #[pqV q, paV p] w fun e w' => e = .returned (.bool (fitB q.q p.an)) ∧ Below w.heap.size w w' := by
  have HE := hide (show fitB q.q p.an = (((q.q.kind == 2) && ((p.an.out.length : Int) == 0)) && ((p.an.word.length : Int) == 0)) by unfold fitB; rw [if_neg (by omega), if_pos hk])
  have HF := hide (Ft.start w q p)
  have hrp := replyOf_any p ((w.alloc (.cells #[.int .i64 q.q.kind, .slice q.aw q.q.word.length q.cw, .int .i64 q.q.hyp.kind, .int .i64 q.q.hyp.k, .int .i64 q.q.hyp.o, .int .i64 q.q.hyp.n, .slice q.a1 q.q.hyp.nx.length q.c1, .slice q.a2 q.q.hyp.out.length q.c2] 77)).alloc (.cells #[.int .i64 p.an.kind, .slice p.a1 p.an.out.length p.c1, .slice p.a2 p.an.word.length p.c2] 79))
  rw [show rpV p = _ by unfold rpV; rw [if_neg (by omega), if_pos hk]] at hrp
  unfold paV at hrp
  unfold pqV paV
  clear hk
  go_enter Try.func62, Try.ntmps62
  go_wp2_with fail
  refine hrp.mono ?_
  rintro e w1 ⟨rfl, hb1⟩
  have F1 := (unhide HF).below hb1
  have F2 := F1.below (ballo w1 (.cells #[] 110))
  have hlt := F1.lt
  have HB2 := hide F2.b
  obtain ⟨⟨q0, q1, q2, q3, q4, q5, q6, q7⟩, ⟨p0, p1, p2⟩, -⟩ := F2
  clear F1
  clear HF hrp hb1
  have as1 := as_ys (.agg #[])
  have as2 := as_yy (.agg #[])
  by_cases c1 : (q.q.kind == 2) = true
  rotate_left
  · have c1' : (q.q.kind == 2) = false := by simpa using c1
    clear c1
    go_wp2
    go_ret
    exact ⟨by rw [unhide HE, c1']; rfl, unhide HB2⟩
  by_cases c2 : ((p.an.out.length : Int) == 0) = true
  rotate_left
  · have c2' : ((p.an.out.length : Int) == 0) = false := by simpa using c2
    clear c2
    go_wp2
    go_ret
    exact ⟨by rw [unhide HE, c1, c2']; rfl, unhide HB2⟩
  go_wp2
  go_ret
  exact ⟨by rw [unhide HE, c1, c2]; rfl, unhide HB2⟩

set_option maxRecDepth 100000 in
set_option maxHeartbeats 4000000 in
theorem fits_k3 (q : Pq) (p : Pa) (w : World) (hk : p.an.kind = 3) (hr : RdL .i64 w p.a2 p.an.word) (hl : p.an.word.length ≤ maxLen) :
    Calls Try.prog 62 #[pqV q, paV p] w fun e w' => e = .returned (.bool (fitB q.q p.an)) ∧ Below w.heap.size w w' := by
  have HE := hide (show fitB q.q p.an = (((q.q.kind == 2) && ((p.an.out.length : Int) == 0)) && (wdE p.an.word q.q.hyp.k == 0)) by unfold fitB; rw [if_neg (by omega), if_neg (by omega), if_pos hk])
  have HF := hide (Ft.start w q p)
  have hrp := replyOf_any p ((w.alloc (.cells #[.int .i64 q.q.kind, .slice q.aw q.q.word.length q.cw, .int .i64 q.q.hyp.kind, .int .i64 q.q.hyp.k, .int .i64 q.q.hyp.o, .int .i64 q.q.hyp.n, .slice q.a1 q.q.hyp.nx.length q.c1, .slice q.a2 q.q.hyp.out.length q.c2] 77)).alloc (.cells #[.int .i64 p.an.kind, .slice p.a1 p.an.out.length p.c1, .slice p.a2 p.an.word.length p.c2] 79))
  rw [show rpV p = _ by unfold rpV; rw [if_neg (by omega), if_neg (by omega), if_pos hk]] at hrp
  unfold paV at hrp
  unfold pqV paV
  have HR := hide hr
  clear hk hr
  go_enter Try.func62, Try.ntmps62
  go_wp2_with fail
  refine hrp.mono ?_
  rintro e w1 ⟨rfl, hb1⟩
  have F1 := (unhide HF).below hb1
  have F2 := F1.below (ballo w1 (.cells #[.slice p.a2 p.an.word.length p.c2] 112))
  have hlt := F1.lt
  have HB2 := hide F2.b
  obtain ⟨⟨q0, q1, q2, q3, q4, q5, q6, q7⟩, ⟨p0, p1, p2⟩, -⟩ := F2
  clear F1
  clear HF hrp hb1
  have as1 := as_ns (.agg #[.slice p.a2 p.an.word.length p.c2])
  have as2 := as_ny (.agg #[.slice p.a2 p.an.word.length p.c2])
  have as3 := as_nn (.agg #[.slice p.a2 p.an.word.length p.c2])
  by_cases c1 : (q.q.kind == 2) = true
  rotate_left
  · have c1' : (q.q.kind == 2) = false := by simpa using c1
    clear c1
    go_wp2
    go_ret
    exact ⟨by rw [unhide HE, c1']; rfl, unhide HB2⟩
  by_cases c2 : ((p.an.out.length : Int) == 0) = true
  rotate_left
  · have c2' : ((p.an.out.length : Int) == 0) = false := by simpa using c2
    clear c2
    go_wp2
    go_ret
    exact ⟨by rw [unhide HE, c1, c2']; rfl, unhide HB2⟩
  go_wp2_with fail
  have hm := isWord_any p.a2 p.c2 p.an.word q.q.hyp.k (w1.alloc (.cells #[.slice p.a2 p.an.word.length p.c2] 112)) ((unhide HR).below (unhide HB2)) hl
  refine hm.mono ?_
  rintro e w3 ⟨rfl, rfl⟩
  clear q0 q1 q2 q3 q4 q5 q6 q7 p0 p1 p2
  go_wp2
  go_ret
  exact ⟨by rw [unhide HE, c1, c2]; rfl, unhide HB2⟩

set_option maxRecDepth 100000 in
set_option maxHeartbeats 4000000 in
theorem fits_k0 (q : Pq) (p : Pa) (w : World) (h1 : p.an.kind ≠ 1) (h2 : p.an.kind ≠ 2) (h3 : p.an.kind ≠ 3) :
    Calls Try.prog 62 #[pqV q, paV p] w fun e w' => e = .returned (.bool (fitB q.q p.an)) ∧ Below w.heap.size w w' := by
  have HE := hide (show fitB q.q p.an = false by unfold fitB; rw [if_neg h1, if_neg h2, if_neg h3])
  have HF := hide (Ft.start w q p)
  have hrp := replyOf_any p ((w.alloc (.cells #[.int .i64 q.q.kind, .slice q.aw q.q.word.length q.cw, .int .i64 q.q.hyp.kind, .int .i64 q.q.hyp.k, .int .i64 q.q.hyp.o, .int .i64 q.q.hyp.n, .slice q.a1 q.q.hyp.nx.length q.c1, .slice q.a2 q.q.hyp.out.length q.c2] 77)).alloc (.cells #[.int .i64 p.an.kind, .slice p.a1 p.an.out.length p.c1, .slice p.a2 p.an.word.length p.c2] 79))
  rw [show rpV p = _ by unfold rpV; rw [if_neg h1, if_neg h2, if_neg h3]] at hrp
  unfold paV at hrp
  unfold pqV paV
  clear h1 h2 h3
  go_enter Try.func62, Try.ntmps62
  go_wp2_with fail
  refine hrp.mono ?_
  rintro e w1 ⟨rfl, hb1⟩
  have F1 := (unhide HF).below hb1
  have HB1 := hide F1.b
  clear HF hrp hb1
  have as1 := as_0s
  have as2 := as_0y
  have as3 := as_0n
  go_wp2
  go_ret
  exact ⟨by rw [unhide HE]; rfl, unhide HB1⟩

theorem fits_any (q : Pq) (p : Pa) (w : World) (h : RdPa w p) (hl : p.an.out.length ≤ maxLen) (hm : p.an.word.length ≤ maxLen) :
    Calls Try.prog 62 #[pqV q, paV p] w fun e w' => e = .returned (.bool (fitB q.q p.an)) ∧ Below w.heap.size w w' := by
  by_cases h1 : p.an.kind = 1
  · exact fits_k1 q p w h1 h.out hl
  by_cases h2 : p.an.kind = 2
  · exact fits_k2 q p w h2
  by_cases h3 : p.an.kind = 3
  · exact fits_k3 q p w h3 h.word hm
  exact fits_k0 q p w h1 h2 h3

theorem chkA_no {q : Qy} {a : An} (h : ((q.kind == 1) || (q.kind == 2)) = false) : chkA q a = 30 := by
  simp at h
  unfold chkA
  rw [if_pos h]
theorem chkA_fit {q : Qy} {a : An} (h : ((q.kind == 1) || (q.kind == 2)) = true) : chkA q a = if fitB q a = true then 0 else 100 := by
  simp at h
  unfold chkA
  rw [if_neg (by omega)]
  unfold fitB sayB
  rcases h with h | h
  · rw [if_neg (by omega)]
    by_cases k1 : a.kind = 1
    · by_cases c2 : a.word.length = 0
      · by_cases g1 : q.hyp.kind = 1
        · by_cases c3 : a.out.length = 1
          · simp [h, k1, c2, g1, c3]
          · have : ¬ ((a.out.length : Int) = 1) := by omega
            simp [h, k1, c2, g1, c3, this]
        · by_cases g2 : q.hyp.kind = 2
          · by_cases c3 : a.out.length = q.word.length
            · simp [h, k1, c2, g2, c3]
            · have : ¬ ((a.out.length : Int) = (q.word.length : Int)) := by omega
              simp [h, k1, c2, g2, c3, this]
          · simp [h, k1, c2, g1, g2]
      · have : ¬ ((a.word.length : Int) = 0) := by omega
        have c2' : ¬ (a.word = []) := fun e => c2 (by rw [e]; rfl)
        simp [h, k1, c2']
    · simp [h, k1]
  · rw [if_pos h]
    by_cases c1 : a.out = []
    · by_cases k2 : a.kind = 2
      · by_cases c2 : a.word = [] <;> simp [h, k2, c1, c2]
      · by_cases k3 : a.kind = 3
        · by_cases c3 : wdE a.word q.hyp.k = 0 <;> simp [h, k3, c1, c3]
        · by_cases k1 : a.kind = 1 <;> simp [h, k1, k2, k3, c1]
    · by_cases k1 : a.kind = 1
      · simp [h, k1, c1]
      · by_cases k2 : a.kind = 2
        · simp [h, k2, c1]
        · by_cases k3 : a.kind = 3 <;> simp [h, k1, k2, k3, c1]

set_option maxRecDepth 100000 in
set_option maxHeartbeats 4000000 in
theorem tcheck_any (q : Pq) (p : Pa) (w : World) (h : RdPa w p) (hl : p.an.out.length ≤ maxLen) (hm : p.an.word.length ≤ maxLen) :
    Calls Try.prog 55 #[pqV q, paV p] w fun e w' => e = .returned (.int .i64 (chkA q.q p.an)) ∧ Below w.heap.size w w' := by
  have HF := hide (Ft.start w q p)
  have hiq := isQuery_any q ((w.alloc (.cells #[.int .i64 q.q.kind, .slice q.aw q.q.word.length q.cw, .int .i64 q.q.hyp.kind, .int .i64 q.q.hyp.k, .int .i64 q.q.hyp.o, .int .i64 q.q.hyp.n, .slice q.a1 q.q.hyp.nx.length q.c1, .slice q.a2 q.q.hyp.out.length q.c2] 77)).alloc (.cells #[.int .i64 p.an.kind, .slice p.a1 p.an.out.length p.c1, .slice p.a2 p.an.word.length p.c2] 79))
  have HH := hide h
  unfold pqV at hiq
  unfold pqV paV
  clear h
  by_cases k : ((q.q.kind == 1) || (q.q.kind == 2)) = true
  rotate_left
  · have k' : ((q.q.kind == 1) || (q.q.kind == 2)) = false := by simpa using k
    have HE := hide (chkA_no (a := p.an) k')
    rw [k'] at hiq
    clear k k'
    go_enter Try.func55, Try.ntmps55
    go_wp2_with fail
    refine hiq.mono ?_
    rintro e w1 ⟨rfl, hb1⟩
    go_wp2
    go_ret
    exact ⟨by rw [unhide HE]; rfl, ((unhide HF).below hb1).b⟩
  have HE := hide (chkA_fit (a := p.an) k)
  rw [k] at hiq
  clear k
  go_enter Try.func55, Try.ntmps55
  go_wp2_with fail
  refine hiq.mono ?_
  rintro e w1 ⟨rfl, hb1⟩
  have F1 := (unhide HF).below hb1
  have hf := fits_any q p w1 ⟨(unhide HH).out.below F1.b, (unhide HH).word.below F1.b⟩ hl hm
  unfold pqV paV at hf
  have HB1 := hide F1.b
  obtain ⟨⟨q0, q1, q2, q3, q4, q5, q6, q7⟩, ⟨p0, p1, p2⟩, -⟩ := F1
  clear HF hiq hb1
  go_wp2_with fail
  refine hf.mono ?_
  rintro e w2 ⟨rfl, hb2⟩
  have HB2 := hide (bstep (unhide HB1) hb2)
  clear q0 q1 q2 q3 q4 q5 q6 q7 p0 p1 p2 hf hb2
  by_cases f : fitB q.q p.an = true
  · have HE' := hide ((unhide HE).trans (if_pos f))
    rw [f]
    go_wp2
    go_ret
    exact ⟨by rw [unhide HE']; rfl, unhide HB2⟩
  · have f' : fitB q.q p.an = false := by simpa using f
    have HE' := hide ((unhide HE).trans (if_neg f))
    rw [f']
    go_wp2
    go_ret
    exact ⟨by rw [unhide HE']; rfl, unhide HB2⟩

end Go.Proofs.Ytemalidanjfmkaa
