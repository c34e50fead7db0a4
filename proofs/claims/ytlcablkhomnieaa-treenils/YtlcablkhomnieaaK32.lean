/-
  Some texts of this seat, one behind the other.
-/
import Derived.Test.YtlcablkhomnieaaCheck
import Derived.Test.YtlcablkhomnieaaEChk
import Derived.Test.YtlcablkhomnieaaELine
import Derived.Test.YtlcablkhomnieaaHAs
import Derived.Test.YtlcablkhomnieaaK28
/-
  The program's answers of layer 10: each kind a type behind an interface.
-/
namespace Go.Proofs.Ytlcablkhomnieaa
open Go.RowKit

theorem as_ss (v : Value) (w : World) : (Instr.typeAssert (.iface 140 v) 137 140 true).run Try.prog w = .ok (.tuple #[v, .bool true]) w := as_own Try.underlying140 v w
theorem as_yy (v : Value) (w : World) : (Instr.typeAssert (.iface 143 v) 137 143 true).run Try.prog w = .ok (.tuple #[v, .bool true]) w := as_own Try.underlying143 v w
theorem as_nn (v : Value) (w : World) : (Instr.typeAssert (.iface 145 v) 137 145 true).run Try.prog w = .ok (.tuple #[v, .bool true]) w := as_own Try.underlying145 v w
theorem as_ys (v : Value) (w : World) : (Instr.typeAssert (.iface 143 v) 137 140 true).run Try.prog w = .ok (.tuple #[.agg #[.slice none 0 0], .bool false]) w := as_oth Try.underlying140 (by decide) (by kernel_rfl) v w
theorem as_ns (v : Value) (w : World) : (Instr.typeAssert (.iface 145 v) 137 140 true).run Try.prog w = .ok (.tuple #[.agg #[.slice none 0 0], .bool false]) w := as_oth Try.underlying140 (by decide) (by kernel_rfl) v w
theorem as_ny (v : Value) (w : World) : (Instr.typeAssert (.iface 145 v) 137 143 true).run Try.prog w = .ok (.tuple #[.agg #[], .bool false]) w := as_oth Try.underlying143 (by decide) (by kernel_rfl) v w
theorem as_0s (w : World) : (Instr.typeAssert .nilIface 137 140 true).run Try.prog w = .ok (.tuple #[.agg #[.slice none 0 0], .bool false]) w := as_nil Try.underlying140 (by kernel_rfl) w
theorem as_0y (w : World) : (Instr.typeAssert .nilIface 137 143 true).run Try.prog w = .ok (.tuple #[.agg #[], .bool false]) w := as_nil Try.underlying143 (by kernel_rfl) w
theorem as_0n (w : World) : (Instr.typeAssert .nilIface 137 145 true).run Try.prog w = .ok (.tuple #[.agg #[.slice none 0 0], .bool false]) w := as_nil Try.underlying145 (by kernel_rfl) w

/-- An answer by its kind: what replyOf makes of it. -/
def rpV (p : Pa) : Value :=
  if p.an.kind = 1 then .iface 140 (.agg #[.slice p.a1 p.an.out.length p.c1])
  else if p.an.kind = 2 then .iface 143 (.agg #[])
  else if p.an.kind = 3 then .iface 145 (.agg #[.slice p.a2 p.an.word.length p.c2])
  else .nilIface

set_option maxRecDepth 100000 in
set_option maxHeartbeats 2000000 in
theorem replyOf_any (p : Pa) (w : World) :
    Calls Try.prog 75 #[paV p] w fun e w' => e = .returned (rpV p) ∧ Below w.heap.size w w' := by
  have b0 := ballo w (.cells #[.int .i64 p.an.kind, .slice p.a1 p.an.out.length p.c1, .slice p.a2 p.an.word.length p.c2] 125)
  have HB := hide b0
  unfold paV
  clear b0
  by_cases h1 : p.an.kind = 1
  · have t1 : (p.an.kind == 1) = true := by simpa using h1
    have HE := hide (show rpV p = _ by unfold rpV; rw [if_pos h1])
    clear h1
    go_enter Try.func75, Try.ntmps75
    go_wp2
    go_ret
    exact ⟨by rw [unhide HE]; rfl, unhide HB⟩
  have t1 : (p.an.kind == 1) = false := by simpa using h1
  by_cases h2 : p.an.kind = 2
  · have t2 : (p.an.kind == 2) = true := by simpa using h2
    have HE := hide (show rpV p = _ by unfold rpV; rw [if_neg h1, if_pos h2])
    clear h1 h2
    go_enter Try.func75, Try.ntmps75
    go_wp2
    go_ret
    exact ⟨by rw [unhide HE]; rfl, unhide HB⟩
  have t2 : (p.an.kind == 2) = false := by simpa using h2
  by_cases h3 : p.an.kind = 3
  · have t3 : (p.an.kind == 3) = true := by simpa using h3
    have HE := hide (show rpV p = _ by unfold rpV; rw [if_neg h1, if_neg h2, if_pos h3])
    clear h1 h2 h3
    go_enter Try.func75, Try.ntmps75
    go_wp2
    go_ret
    exact ⟨by rw [unhide HE]; rfl, unhide HB⟩
  have t3 : (p.an.kind == 3) = false := by simpa using h3
  have HE := hide (show rpV p = _ by unfold rpV; rw [if_neg h1, if_neg h2, if_neg h3])
  clear h1 h2 h3
  go_enter Try.func75, Try.ntmps75
  go_wp2
  go_ret
  exact ⟨by rw [unhide HE]; rfl, unhide HB⟩

end Go.Proofs.Ytlcablkhomnieaa

/-
  The program's Check of layer 10.
-/
namespace Go.Proofs.Ytlcablkhomnieaa
open Go.RowKit

set_option maxRecDepth 100000 in
set_option maxHeartbeats 2000000 in
theorem allBelow_any (a : Option Addr) (c : Nat) (l : List Int) (n : Int) (w : World) (hr : RdL .i64 w a l) (hl : l.length ≤ maxLen) :
    Calls Try.prog 79 #[.slice a l.length c, .int .i64 n] w fun e w' => e = .returned (.bool (inB n l)) ∧ w' = w := by
  unfold maxLen at hl
  have HR := hide hr
  clear hr
  go_enter Try.func79, Try.ntmps79
  go_wp2
  go_loopw [9] (fun i wr => wr = w ∧ ∃ j : Nat, j ≤ l.length ∧ i = .int .i64 j ∧ Hid (∀ i, i < j → 0 ≤ l.getD i 0 ∧ l.getD i 0 < n)) (fun i _ => l.length - (intOf i).toNat)
  case atStart => exact ⟨rfl, 0, Nat.zero_le _, rfl, hide (fun i hi => by omega)⟩
  case round =>
    obtain ⟨rfl, j, hj, rfl, HG⟩ := hrel
    by_cases hlt : j < l.length
    · obtain ⟨b, off, rfl, hc⟩ := (unhide HR).at hlt
      have hcj := hc j hlt
      have hlt' : (j : Int) < (l.length : Int) := by omega
      have HY : Hid (¬ (0 ≤ l.getD j 0 ∧ l.getD j 0 < n) → inB n l = false) := fun h => inB_false hlt h
      have HN : Hid (0 ≤ l.getD j 0 ∧ l.getD j 0 < n → ∀ i, i < j + 1 → 0 ≤ l.getD i 0 ∧ l.getD i 0 < n) := fun h i hi => by
        by_cases e : i = j
        · subst e; exact h
        · exact unhide HG i (by omega)
      clear hc HG
      generalize l.getD j 0 = y at *
      by_cases h0 : y < 0
      · have HS := hide (unhide HY (by omega))
        clear HN HY
        go_wp2
        go_ret
        exact ⟨by rw [unhide HS]; rfl, rfl⟩
      · by_cases h1 : n ≤ y
        · have HS := hide (unhide HY (by omega))
          clear HN HY
          go_wp2
          go_ret
          exact ⟨by rw [unhide HS]; rfl, rfl⟩
        · have HS := hide (unhide HN ⟨by omega, by omega⟩)
          clear HN HY
          go_wp2
          go_roundw
          case rel => exact ⟨trivial, j + 1, by omega, by go_num, HS⟩
          case measure => simp [intOf]; omega
    · have HS := hide (inB_true (b := n) (l := l) (fun i hi => unhide HG i (by omega)))
      obtain rfl : j = l.length := by omega
      clear HG
      go_wp2
      go_ret
      exact ⟨by rw [unhide HS]; rfl, rfl⟩

theorem isWord_any (a : Option Addr) (c : Nat) (l : List Int) (k : Int) (w : World) (hr : RdL .i64 w a l) (hl : l.length ≤ maxLen) :
    Calls Try.prog 77 #[.slice a l.length c, .int .i64 k] w fun e w' => e = .returned (.bool (wdE l k == 0)) ∧ w' = w := by
  have hw := check_any a l.length c (fun i => l.getD i 0) k w hr hl
  unfold wdE
  generalize (chkV l.length (fun i => l.getD i 0) k) = r at *
  go_enter Try.func77, Try.ntmps77
  go_wp2_with fail
  refine hw.mono ?_
  rintro e w1 ⟨rfl, rfl⟩
  go_wp2
  go_ret
  exact ⟨rfl, rfl⟩

/-- May it be said? -/
def sayB (q : Qy) (l : List Int) : Bool :=
  if q.hyp.kind = 1 then ((l.length : Int) == 1) && inB 2 l
  else if q.hyp.kind = 2 then ((l.length : Int) == (q.word.length : Int)) && inB q.hyp.o l
  else false
/-- Does the answer fit? -/
def fitB (q : Qy) (a : An) : Bool :=
  if a.kind = 1 then ((q.kind == 1) && ((a.word.length : Int) == 0)) && sayB q a.out
  else if a.kind = 2 then ((q.kind == 2) && ((a.out.length : Int) == 0)) && ((a.word.length : Int) == 0)
  else if a.kind = 3 then ((q.kind == 2) && ((a.out.length : Int) == 0)) && (wdE a.word q.hyp.k == 0)
  else false

set_option maxRecDepth 100000 in
set_option maxHeartbeats 2000000 in
theorem mayBeSaid_any (q : Pq) (a : Option Addr) (c : Nat) (l : List Int) (w : World) (hr : RdL .i64 w a l) (hl : l.length ≤ maxLen) :
    Calls Try.prog 76 #[pqV q, .slice a l.length c] w fun e w' => e = .returned (.bool (sayB q.q l)) ∧ Below w.heap.size w w' := by
  have b0 := ballo w (.cells #[.int .i64 q.q.kind, .slice q.aw q.q.word.length q.cw, .int .i64 q.q.hyp.kind, .int .i64 q.q.hyp.k, .int .i64 q.q.hyp.o, .int .i64 q.q.hyp.n, .slice q.a1 q.q.hyp.nx.length q.c1, .slice q.a2 q.q.hyp.out.length q.c2] 122)
  have HB := hide b0
  have h2 := allBelow_any a c l 2 _ (hr.below b0) hl
  have ho := allBelow_any a c l q.q.hyp.o _ (hr.below b0) hl
  unfold pqV
  clear b0
  by_cases k1 : q.q.hyp.kind = 1
  · have t1 : (q.q.hyp.kind == 1) = true := by simpa using k1
    have HE := hide (show sayB q.q l = (((l.length : Int) == 1) && inB 2 l) by unfold sayB; rw [if_pos k1])
    clear k1 ho
    by_cases c1 : (l.length : Int) == 1
    · go_enter Try.func76, Try.ntmps76
      go_wp2_with fail
      refine h2.mono ?_
      rintro e w1 ⟨rfl, rfl⟩
      go_wp2
      go_ret
      exact ⟨by rw [unhide HE, c1]; rfl, unhide HB⟩
    · have c1' : ((l.length : Int) == 1) = false := by simpa using c1
      go_enter Try.func76, Try.ntmps76
      go_wp2
      go_ret
      exact ⟨by rw [unhide HE, c1']; rfl, unhide HB⟩
  have t1 : (q.q.hyp.kind == 1) = false := by simpa using k1
  by_cases k2 : q.q.hyp.kind = 2
  · have t2 : (q.q.hyp.kind == 2) = true := by simpa using k2
    have HE := hide (show sayB q.q l = (((l.length : Int) == (q.q.word.length : Int)) && inB q.q.hyp.o l) by unfold sayB; rw [if_neg k1, if_pos k2])
    clear k1 k2 h2
    by_cases c1 : (l.length : Int) == (q.q.word.length : Int)
    · go_enter Try.func76, Try.ntmps76
      go_wp2_with fail
      refine ho.mono ?_
      rintro e w1 ⟨rfl, rfl⟩
      go_wp2
      go_ret
      exact ⟨by rw [unhide HE, c1]; rfl, unhide HB⟩
    · have c1' : ((l.length : Int) == (q.q.word.length : Int)) = false := by simpa using c1
      go_enter Try.func76, Try.ntmps76
      go_wp2
      go_ret
      exact ⟨by rw [unhide HE, c1']; rfl, unhide HB⟩
  have t2 : (q.q.hyp.kind == 2) = false := by simpa using k2
  have HE := hide (show sayB q.q l = false by unfold sayB; rw [if_neg k1, if_neg k2])
  clear k1 k2 h2 ho
  go_enter Try.func76, Try.ntmps76
  go_wp2
  go_ret
  exact ⟨by rw [unhide HE]; rfl, unhide HB⟩

end Go.Proofs.Ytlcablkhomnieaa

/-
  The program's Check of layer 10: whether an answer fits.
-/
namespace Go.Proofs.Ytlcablkhomnieaa
open Go.RowKit

/-- A query and an answer in two blocks. -/
structure Ft (w W : World) (q : Pq) (p : Pa) : Prop where
  q : Qb W w.heap.size q
  p : Tri W (w.heap.size + 1) (.int .i64 p.an.kind) (.slice p.a1 p.an.out.length p.c1) (.slice p.a2 p.an.word.length p.c2)
  b : Below w.heap.size w W
theorem Ft.below {w W W' : World} {q : Pq} {p : Pa} (h : Ft w W q p) (hb : Below W.heap.size W W') : Ft w W' q p := ⟨h.q.below hb, h.p.below hb, bstep h.b hb⟩
theorem Ft.start (w : World) (q : Pq) (p : Pa) : Ft w ((w.alloc (.cells #[.int .i64 q.q.kind, .slice q.aw q.q.word.length q.cw, .int .i64 q.q.hyp.kind, .int .i64 q.q.hyp.k, .int .i64 q.q.hyp.o, .int .i64 q.q.hyp.n, .slice q.a1 q.q.hyp.nx.length q.c1, .slice q.a2 q.q.hyp.out.length q.c2] 122)).alloc (.cells #[.int .i64 p.an.kind, .slice p.a1 p.an.out.length p.c1, .slice p.a2 p.an.word.length p.c2] 125)) q p := by
  refine ⟨(Qb.alloc w q 122).below (ballo _ _), ?_, bstep (ballo _ _) (ballo _ _)⟩
  have e : (w.alloc (.cells #[.int .i64 q.q.kind, .slice q.aw q.q.word.length q.cw, .int .i64 q.q.hyp.kind, .int .i64 q.q.hyp.k, .int .i64 q.q.hyp.o, .int .i64 q.q.hyp.n, .slice q.a1 q.q.hyp.nx.length q.c1, .slice q.a2 q.q.hyp.out.length q.c2] 122)).heap.size = w.heap.size + 1 := by simp
  constructor
  · rw [← e]; simp
  · rw [← e]; simp
  · rw [← e]; simp
theorem Ft.lt {w W : World} {q : Pq} {p : Pa} (h : Ft w W q p) : w.heap.size + 1 < W.heap.size := World.block_lt_of_cell? W _ h.p.p0

theorem isQuery_any (q : Pq) (w : World) :
    Calls Try.prog 71 #[pqV q] w fun e w' => e = .returned (.bool ((q.q.kind == 1) || (q.q.kind == 2))) ∧ Below w.heap.size w w' := by
  have b0 := ballo w (.cells #[.int .i64 q.q.kind, .slice q.aw q.q.word.length q.cw, .int .i64 q.q.hyp.kind, .int .i64 q.q.hyp.k, .int .i64 q.q.hyp.o, .int .i64 q.q.hyp.n, .slice q.a1 q.q.hyp.nx.length q.c1, .slice q.a2 q.q.hyp.out.length q.c2] 122)
  unfold pqV
  have HB := hide b0
  clear b0
  by_cases k1 : (q.q.kind == 1) = true
  · have HE := hide (show ((q.q.kind == 1) || (q.q.kind == 2)) = true by rw [k1]; rfl)
    go_enter Try.func71, Try.ntmps71
    go_wp2
    go_ret
    exact ⟨by rw [unhide HE]; rfl, unhide HB⟩
  · have k1' : (q.q.kind == 1) = false := by simpa using k1
    clear k1
    have HE := hide (show ((q.q.kind == 1) || (q.q.kind == 2)) = (q.q.kind == 2) by rw [k1']; rfl)
    go_enter Try.func71, Try.ntmps71
    go_wp2
    go_ret
    exact ⟨by rw [unhide HE]; rfl, unhide HB⟩

set_option maxRecDepth 100000 in
set_option maxHeartbeats 4000000 in
theorem fits_k1 (q : Pq) (p : Pa) (w : World) (hk : p.an.kind = 1) (hr : RdL .i64 w p.a1 p.an.out) (hl : p.an.out.length ≤ maxLen) :
    Calls Try.prog 72 #[pqV q, paV p] w fun e w' => e = .returned (.bool (fitB q.q p.an)) ∧ Below w.heap.size w w' := by
  have HE := hide (show fitB q.q p.an = (((q.q.kind == 1) && ((p.an.word.length : Int) == 0)) && sayB q.q p.an.out) by unfold fitB; rw [if_pos hk])
  have HF := hide (Ft.start w q p)
  have hrp := replyOf_any p ((w.alloc (.cells #[.int .i64 q.q.kind, .slice q.aw q.q.word.length q.cw, .int .i64 q.q.hyp.kind, .int .i64 q.q.hyp.k, .int .i64 q.q.hyp.o, .int .i64 q.q.hyp.n, .slice q.a1 q.q.hyp.nx.length q.c1, .slice q.a2 q.q.hyp.out.length q.c2] 122)).alloc (.cells #[.int .i64 p.an.kind, .slice p.a1 p.an.out.length p.c1, .slice p.a2 p.an.word.length p.c2] 125))
  rw [show rpV p = _ by unfold rpV; rw [if_pos hk]] at hrp
  unfold paV at hrp
  unfold pqV paV
  have HR := hide hr
  clear hk hr
  go_enter Try.func72, Try.ntmps72
  go_wp2_with fail
  refine hrp.mono ?_
  rintro e w1 ⟨rfl, hb1⟩
  have F1 := (unhide HF).below hb1
  have F2 := F1.below (ballo w1 (.cells #[.slice p.a1 p.an.out.length p.c1] 140))
  have hlt := F1.lt
  have HB2 := hide F2.b
  obtain ⟨⟨q0, q1, q2, q3, q4, q5, q6, q7⟩, ⟨p0, p1, p2⟩, -⟩ := F2
  clear F1
  clear HF hrp hb1
  have as1 := as_ss (.agg #[.slice p.a1 p.an.out.length p.c1])
  by_cases c1 : (q.q.kind == 1) = true
  rotate_left
  · have c1' : (q.q.kind == 1) = false := by simpa using c1
    clear c1
    go_wp2
    go_ret
    exact ⟨by rw [unhide HE, c1']; rfl, unhide HB2⟩
  by_cases c2 : ((p.an.word.length : Int) == 0) = true
  rotate_left
  · have c2' : ((p.an.word.length : Int) == 0) = false := by simpa using c2
    clear c2
    go_wp2
    go_ret
    exact ⟨by rw [unhide HE, c1, c2']; rfl, unhide HB2⟩
  go_wp2_with fail
  have hm := mayBeSaid_any q p.a1 p.c1 p.an.out (w1.alloc (.cells #[.slice p.a1 p.an.out.length p.c1] 140)) ((unhide HR).below (unhide HB2)) hl
  refine hm.mono ?_
  rintro e w3 ⟨rfl, hb3⟩
  clear q0 q1 q2 q3 q4 q5 q6 q7 p0 p1 p2
  go_wp2
  go_ret
  exact ⟨by rw [unhide HE, c1, c2]; rfl, bstep (unhide HB2) hb3⟩

set_option maxRecDepth 100000 in
set_option maxHeartbeats 4000000 in
theorem fits_k2 (q : Pq) (p : Pa) (w : World) (hk : p.an.kind = 2) :
    Calls Try.prog 72 #[pqV q, paV p] w fun e w' => e = .returned (.bool (fitB q.q p.an)) ∧ Below w.heap.size w w' := by
  have HE := hide (show fitB q.q p.an = (((q.q.kind == 2) && ((p.an.out.length : Int) == 0)) && ((p.an.word.length : Int) == 0)) by unfold fitB; rw [if_neg (by omega), if_pos hk])
  have HF := hide (Ft.start w q p)
  have hrp := replyOf_any p ((w.alloc (.cells #[.int .i64 q.q.kind, .slice q.aw q.q.word.length q.cw, .int .i64 q.q.hyp.kind, .int .i64 q.q.hyp.k, .int .i64 q.q.hyp.o, .int .i64 q.q.hyp.n, .slice q.a1 q.q.hyp.nx.length q.c1, .slice q.a2 q.q.hyp.out.length q.c2] 122)).alloc (.cells #[.int .i64 p.an.kind, .slice p.a1 p.an.out.length p.c1, .slice p.a2 p.an.word.length p.c2] 125))
  rw [show rpV p = _ by unfold rpV; rw [if_neg (by omega), if_pos hk]] at hrp
  unfold paV at hrp
  unfold pqV paV
  clear hk
  go_enter Try.func72, Try.ntmps72
  go_wp2_with fail
  refine hrp.mono ?_
  rintro e w1 ⟨rfl, hb1⟩
  have F1 := (unhide HF).below hb1
  have F2 := F1.below (ballo w1 (.cells #[] 143))
  have hlt := F1.lt
  have HB2 := hide F2.b
  obtain ⟨⟨q0, q1, q2, q3, q4, q5, q6, q7⟩, ⟨p0, p1, p2⟩, -⟩ := F2
  clear F1
  clear HF hrp hb1
  have as1 := as_ys (.agg #[])
  have as2 := as_yy (.agg #[])
  by_cases c1 : (q.q.kind == 2) = true
  rotate_left
  · have c1' : (q.q.kind == 2) = false := by simpa using c1
    clear c1
    go_wp2
    go_ret
    exact ⟨by rw [unhide HE, c1']; rfl, unhide HB2⟩
  by_cases c2 : ((p.an.out.length : Int) == 0) = true
  rotate_left
  · have c2' : ((p.an.out.length : Int) == 0) = false := by simpa using c2
    clear c2
    go_wp2
    go_ret
    exact ⟨by rw [unhide HE, c1, c2']; rfl, unhide HB2⟩
  go_wp2
  go_ret
  exact ⟨by rw [unhide HE, c1, c2]; rfl, unhide HB2⟩

set_option maxRecDepth 100000 in
set_option maxHeartbeats 4000000 in
theorem fits_k3 (q : Pq) (p : Pa) (w : World) (hk : p.an.kind = 3) (hr : RdL .i64 w p.a2 p.an.word) (hl : p.an.word.length ≤ maxLen) :
    Calls Try.prog 72 #[pqV q, paV p] w fun e w' => e = .returned (.bool (fitB q.q p.an)) ∧ Below w.heap.size w w' := by
  have HE := hide (show fitB q.q p.an = (((q.q.kind == 2) && ((p.an.out.length : Int) == 0)) && (wdE p.an.word q.q.hyp.k == 0)) by unfold fitB; rw [if_neg (by omega), if_neg (by omega), if_pos hk])
  have HF := hide (Ft.start w q p)
  have hrp := replyOf_any p ((w.alloc (.cells #[.int .i64 q.q.kind, .slice q.aw q.q.word.length q.cw, .int .i64 q.q.hyp.kind, .int .i64 q.q.hyp.k, .int .i64 q.q.hyp.o, .int .i64 q.q.hyp.n, .slice q.a1 q.q.hyp.nx.length q.c1, .slice q.a2 q.q.hyp.out.length q.c2] 122)).alloc (.cells #[.int .i64 p.an.kind, .slice p.a1 p.an.out.length p.c1, .slice p.a2 p.an.word.length p.c2] 125))
  rw [show rpV p = _ by unfold rpV; rw [if_neg (by omega), if_neg (by omega), if_pos hk]] at hrp
  unfold paV at hrp
  unfold pqV paV
  have HR := hide hr
  clear hk hr
  go_enter Try.func72, Try.ntmps72
  go_wp2_with fail
  refine hrp.mono ?_
  rintro e w1 ⟨rfl, hb1⟩
  have F1 := (unhide HF).below hb1
  have F2 := F1.below (ballo w1 (.cells #[.slice p.a2 p.an.word.length p.c2] 145))
  have hlt := F1.lt
  have HB2 := hide F2.b
  obtain ⟨⟨q0, q1, q2, q3, q4, q5, q6, q7⟩, ⟨p0, p1, p2⟩, -⟩ := F2
  clear F1
  clear HF hrp hb1
  have as1 := as_ns (.agg #[.slice p.a2 p.an.word.length p.c2])
  have as2 := as_ny (.agg #[.slice p.a2 p.an.word.length p.c2])
  have as3 := as_nn (.agg #[.slice p.a2 p.an.word.length p.c2])
  by_cases c1 : (q.q.kind == 2) = true
  rotate_left
  · have c1' : (q.q.kind == 2) = false := by simpa using c1
    clear c1
    go_wp2
    go_ret
    exact ⟨by rw [unhide HE, c1']; rfl, unhide HB2⟩
  by_cases c2 : ((p.an.out.length : Int) == 0) = true
  rotate_left
  · have c2' : ((p.an.out.length : Int) == 0) = false := by simpa using c2
    clear c2
    go_wp2
    go_ret
    exact ⟨by rw [unhide HE, c1, c2']; rfl, unhide HB2⟩
  go_wp2_with fail
  have hm := isWord_any p.a2 p.c2 p.an.word q.q.hyp.k (w1.alloc (.cells #[.slice p.a2 p.an.word.length p.c2] 145)) ((unhide HR).below (unhide HB2)) hl
  refine hm.mono ?_
  rintro e w3 ⟨rfl, rfl⟩
  clear q0 q1 q2 q3 q4 q5 q6 q7 p0 p1 p2
  go_wp2
  go_ret
  exact ⟨by rw [unhide HE, c1, c2]; rfl, unhide HB2⟩

set_option maxRecDepth 100000 in
set_option maxHeartbeats 4000000 in
theorem fits_k0 (q : Pq) (p : Pa) (w : World) (h1 : p.an.kind ≠ 1) (h2 : p.an.kind ≠ 2) (h3 : p.an.kind ≠ 3) :
    Calls Try.prog 72 #[pqV q, paV p] w fun e w' => e = .returned (.bool (fitB q.q p.an)) ∧ Below w.heap.size w w' := by
  have HE := hide (show fitB q.q p.an = false by unfold fitB; rw [if_neg h1, if_neg h2, if_neg h3])
  have HF := hide (Ft.start w q p)
  have hrp := replyOf_any p ((w.alloc (.cells #[.int .i64 q.q.kind, .slice q.aw q.q.word.length q.cw, .int .i64 q.q.hyp.kind, .int .i64 q.q.hyp.k, .int .i64 q.q.hyp.o, .int .i64 q.q.hyp.n, .slice q.a1 q.q.hyp.nx.length q.c1, .slice q.a2 q.q.hyp.out.length q.c2] 122)).alloc (.cells #[.int .i64 p.an.kind, .slice p.a1 p.an.out.length p.c1, .slice p.a2 p.an.word.length p.c2] 125))
  rw [show rpV p = _ by unfold rpV; rw [if_neg h1, if_neg h2, if_neg h3]] at hrp
  unfold paV at hrp
  unfold pqV paV
  clear h1 h2 h3
  go_enter Try.func72, Try.ntmps72
  go_wp2_with fail
  refine hrp.mono ?_
  rintro e w1 ⟨rfl, hb1⟩
  have F1 := (unhide HF).below hb1
  have HB1 := hide F1.b
  clear HF hrp hb1
  have as1 := as_0s
  have as2 := as_0y
  have as3 := as_0n
  go_wp2
  go_ret
  exact ⟨by rw [unhide HE]; rfl, unhide HB1⟩

theorem fits_any (q : Pq) (p : Pa) (w : World) (h : RdPa w p) (hl : p.an.out.length ≤ maxLen) (hm : p.an.word.length ≤ maxLen) :
    Calls Try.prog 72 #[pqV q, paV p] w fun e w' => e = .returned (.bool (fitB q.q p.an)) ∧ Below w.heap.size w w' := by
  by_cases h1 : p.an.kind = 1
  · exact fits_k1 q p w h1 h.out hl
  by_cases h2 : p.an.kind = 2
  · exact fits_k2 q p w h2
  by_cases h3 : p.an.kind = 3
  · exact fits_k3 q p w h3 h.word hm
  exact fits_k0 q p w h1 h2 h3

theorem chkA_no {q : Qy} {a : An} (h : ((q.kind == 1) || (q.kind == 2)) = false) : chkA q a = 30 := by
  simp at h
  unfold chkA
  rw [if_pos h]
theorem chkA_fit {q : Qy} {a : An} (h : ((q.kind == 1) || (q.kind == 2)) = true) : chkA q a = if fitB q a = true then 0 else 100 := by
  simp at h
  unfold chkA
  rw [if_neg (by omega)]
  unfold fitB sayB
  rcases h with h | h
  · rw [if_neg (by omega)]
    by_cases k1 : a.kind = 1
    · by_cases c2 : a.word.length = 0
      · by_cases g1 : q.hyp.kind = 1
        · by_cases c3 : a.out.length = 1
          · simp [h, k1, c2, g1, c3]
          · have : ¬ ((a.out.length : Int) = 1) := by omega
            simp [h, k1, c2, g1, c3, this]
        · by_cases g2 : q.hyp.kind = 2
          · by_cases c3 : a.out.length = q.word.length
            · simp [h, k1, c2, g2, c3]
            · have : ¬ ((a.out.length : Int) = (q.word.length : Int)) := by omega
              simp [h, k1, c2, g2, c3, this]
          · simp [h, k1, c2, g1, g2]
      · have : ¬ ((a.word.length : Int) = 0) := by omega
        have c2' : ¬ (a.word = []) := fun e => c2 (by rw [e]; rfl)
        simp [h, k1, c2']
    · simp [h, k1]
  · rw [if_pos h]
    by_cases c1 : a.out = []
    · by_cases k2 : a.kind = 2
      · by_cases c2 : a.word = [] <;> simp [h, k2, c1, c2]
      · by_cases k3 : a.kind = 3
        · by_cases c3 : wdE a.word q.hyp.k = 0 <;> simp [h, k3, c1, c3]
        · by_cases k1 : a.kind = 1 <;> simp [h, k1, k2, k3, c1]
    · by_cases k1 : a.kind = 1
      · simp [h, k1, c1]
      · by_cases k2 : a.kind = 2
        · simp [h, k2, c1]
        · by_cases k3 : a.kind = 3 <;> simp [h, k1, k2, k3, c1]

set_option maxRecDepth 100000 in
set_option maxHeartbeats 4000000 in
theorem tcheck_any (q : Pq) (p : Pa) (w : World) (h : RdPa w p) (hl : p.an.out.length ≤ maxLen) (hm : p.an.word.length ≤ maxLen) :
    Calls Try.prog 66 #[pqV q, paV p] w fun e w' => e = .returned (.int .i64 (chkA q.q p.an)) ∧ Below w.heap.size w w' := by
  have HF := hide (Ft.start w q p)
  have hiq := isQuery_any q ((w.alloc (.cells #[.int .i64 q.q.kind, .slice q.aw q.q.word.length q.cw, .int .i64 q.q.hyp.kind, .int .i64 q.q.hyp.k, .int .i64 q.q.hyp.o, .int .i64 q.q.hyp.n, .slice q.a1 q.q.hyp.nx.length q.c1, .slice q.a2 q.q.hyp.out.length q.c2] 122)).alloc (.cells #[.int .i64 p.an.kind, .slice p.a1 p.an.out.length p.c1, .slice p.a2 p.an.word.length p.c2] 125))
  have HH := hide h
  unfold pqV at hiq
  unfold pqV paV
  clear h
  by_cases k : ((q.q.kind == 1) || (q.q.kind == 2)) = true
  rotate_left
  · have k' : ((q.q.kind == 1) || (q.q.kind == 2)) = false := by simpa using k
    have HE := hide (chkA_no (a := p.an) k')
    rw [k'] at hiq
    clear k k'
    go_enter Try.func66, Try.ntmps66
    go_wp2_with fail
    refine hiq.mono ?_
    rintro e w1 ⟨rfl, hb1⟩
    go_wp2
    go_ret
    exact ⟨by rw [unhide HE]; rfl, ((unhide HF).below hb1).b⟩
  have HE := hide (chkA_fit (a := p.an) k)
  rw [k] at hiq
  clear k
  go_enter Try.func66, Try.ntmps66
  go_wp2_with fail
  refine hiq.mono ?_
  rintro e w1 ⟨rfl, hb1⟩
  have F1 := (unhide HF).below hb1
  have hf := fits_any q p w1 ⟨(unhide HH).out.below F1.b, (unhide HH).word.below F1.b⟩ hl hm
  unfold pqV paV at hf
  have HB1 := hide F1.b
  obtain ⟨⟨q0, q1, q2, q3, q4, q5, q6, q7⟩, ⟨p0, p1, p2⟩, -⟩ := F1
  clear HF hiq hb1
  go_wp2_with fail
  refine hf.mono ?_
  rintro e w2 ⟨rfl, hb2⟩
  have HB2 := hide (bstep (unhide HB1) hb2)
  clear q0 q1 q2 q3 q4 q5 q6 q7 p0 p1 p2 hf hb2
  by_cases f : fitB q.q p.an = true
  · have HE' := hide ((unhide HE).trans (if_pos f))
    rw [f]
    go_wp2
    go_ret
    exact ⟨by rw [unhide HE']; rfl, unhide HB2⟩
  · have f' : fitB q.q p.an = false := by simpa using f
    have HE' := hide ((unhide HE).trans (if_neg f))
    rw [f']
    go_wp2
    go_ret
    exact ⟨by rw [unhide HE']; rfl, unhide HB2⟩

end Go.Proofs.Ytlcablkhomnieaa
