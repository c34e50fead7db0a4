/-
  The program's Check of layer 10.
-/
import Derived.Test.YtemalidanjfmkaaHRep
import Derived.Test.YtemalidanjfmkaaEChk
import Derived.Test.YtemalidanjfmkaaCheck
namespace Go.Proofs.Ytemalidanjfmkaa
open Go.RowKit

set_option maxRecDepth 100000 in
set_option maxHeartbeats 2000000 in
theorem allBelow_any (a : Option Addr) (c : Nat) (l : List Int) (n : Int) (w : World) (hr : RdL .i64 w a l) (hl : l.length ≤ maxLen) :
    Calls Try.prog 67 #[.slice a l.length c, .int .i64 n] w fun e w' => e = .returned (.bool (inB n l)) ∧ w' = w := by
  unfold maxLen at hl
  have HR := hide hr
  clear hr
  go_enter Try.func67, Try.ntmps67
  go_wp2
  go_loopw [9] (fun i wr => wr = w ∧ ∃ j : Nat, j ≤ l.length ∧ i = .int .i64 j ∧ Hid (∀ i, i < j → 0 ≤ l.getD i 0 ∧ l.getD i 0 < n)) (fun i _ => l.length - (intOf i).toNat)
  case atStart => exact ⟨rfl, 0, Nat.zero_le _, rfl, hide (fun i hi => by omega)⟩
  case round =>
    obtain ⟨rfl, j, hj, rfl, HG⟩ := hrel
    by_cases hlt : j < l.length
    · obtain ⟨b, off, rfl, hc⟩ := (unhide HR).at hlt
      have hcj := hc j hlt
      have hlt' : (j : Int) < (l.length : Int) := by omega
      have HY : Hid (¬ (0 ≤ l.getD j 0 ∧ l.getD j 0 < n) → inB n l = false) := fun h => inB_false hlt h
      have HN : Hid (0 ≤ l.getD j 0 ∧ l.getD j 0 < n → ∀ i, i < j + 1 → 0 ≤ l.getD i 0 ∧ l.getD i 0 < n) := fun h i hi => by
        by_cases e : i = j
        · subst e; exact h
        · exact unhide HG i (by omega)
      clear hc HG
      generalize l.getD j 0 = y at *
      by_cases h0 : y < 0
      · have HS := hide (unhide HY (by omega))
        clear HN HY
        go_wp2
        go_ret
        exact ⟨by rw [unhide HS]; rfl, rfl⟩
      · by_cases h1 : n ≤ y
        · have HS := hide (unhide HY (by omega))
          clear HN HY
          go_wp2
          go_ret
          exact ⟨by rw [unhide HS]; rfl, rfl⟩
        · have HS := hide (unhide HN ⟨by omega, by omega⟩)
          clear HN HY
          go_wp2
          go_roundw
          case rel => exact ⟨trivial, j + 1, by omega, by go_num, HS⟩
          case measure => simp [intOf]; omega
    · have HS := hide (inB_true (b := n) (l := l) (fun i hi => unhide HG i (by omega)))
      obtain rfl : j = l.length := by omega
      clear HG
      go_wp2
      go_ret
      exact ⟨by rw [unhide HS]; rfl, rfl⟩

theorem isWord_any (a : Option Addr) (c : Nat) (l : List Int) (k : Int) (w : World) (hr : RdL .i64 w a l) (hl : l.length ≤ maxLen) :
    Calls Try.prog 66 #[.slice a l.length c, .int .i64 k] w fun e w' => e = .returned (.bool (wdE l k == 0)) ∧ w' = w := by
  have hw := check_any a l.length c (fun i => l.getD i 0) k w hr hl
  unfold wdE
  generalize (chkV l.length (fun i => l.getD i 0) k) = r at *
  go_enter Try.func66, Try.ntmps66
  go_wp2_with fail
  refine hw.mono ?_
  rintro e w1 ⟨rfl, rfl⟩
  go_wp2
  go_ret
  exact ⟨rfl, rfl⟩

/-- May it be said? -/
def sayB (q : Qy) (l : List Int) : Bool :=
  if q.hyp.kind = 1 then ((l.length : Int) == 1) && inB 2 l
  else if q.hyp.kind = 2 then ((l.length : Int) == (q.word.length : Int)) && inB q.hyp.o l
  else false
/-- Does the answer fit? -/
def fitB (q : Qy) (a : An) : Bool :=
  if a.kind = 1 then ((q.kind == 1) && ((a.word.length : Int) == 0)) && sayB q a.out
  else if a.kind = 2 then ((q.kind == 2) && ((a.out.length : Int) == 0)) && ((a.word.length : Int) == 0)
  else if a.kind = 3 then ((q.kind == 2) && ((a.out.length : Int) == 0)) && (wdE a.word q.hyp.k == 0)
  else false

set_option maxRecDepth 100000 in
set_option maxHeartbeats 2000000 in
theorem mayBeSaid_any (q : Pq) (a : Option Addr) (c : Nat) (l : List Int) (w : World) (hr : RdL .i64 w a l) (hl : l.length ≤ maxLen) :
    Calls Try.prog 65 #[pqV q, .slice a l.length c] w fun e w' => e = .returned (.bool (sayB q.q l)) ∧ Below w.heap.size w w' := by
  have b0 := ballo w (.cells #[.int .i64 q.q.kind, .slice q.aw q.q.word.length q.cw, .int .i64 q.q.hyp.kind, .int .i64 q.q.hyp.k, .int .i64 q.q.hyp.o, .int .i64 q.q.hyp.n, .slice q.a1 q.q.hyp.nx.length q.c1, .slice q.a2 q.q.hyp.out.length q.c2] 77)
  have HB := hide b0
  have h2 := allBelow_any a c l 2 _ (hr.below b0) hl
  have ho := allBelow_any a c l q.q.hyp.o _ (hr.below b0) hl
  unfold pqV
  clear b0
  by_cases k1 : q.q.hyp.kind = 1
  · have t1 : (q.q.hyp.kind == 1) = true := by simpa using k1
    have HE := hide (show sayB q.q l = (((l.length : Int) == 1) && inB 2 l) by unfold sayB; rw [if_pos k1])
    clear k1 ho
    by_cases c1 : (l.length : Int) == 1
    · go_enter Try.func65, Try.ntmps65
      go_wp2_with fail
      refine h2.mono ?_
      rintro e w1 ⟨rfl, rfl⟩
      go_wp2
      go_ret
      exact ⟨by rw [unhide HE, c1]; rfl, unhide HB⟩
    · have c1' : ((l.length : Int) == 1) = false := by simpa using c1
      go_enter Try.func65, Try.ntmps65
      go_wp2
      go_ret
      exact ⟨by rw [unhide HE, c1']; rfl, unhide HB⟩
  have t1 : (q.q.hyp.kind == 1) = false := by simpa using k1
  by_cases k2 : q.q.hyp.kind = 2
  · have t2 : (q.q.hyp.kind == 2) = true := by simpa using k2
    have HE := hide (show sayB q.q l = (((l.length : Int) == (q.q.word.length : Int)) && inB q.q.hyp.o l) by unfold sayB; rw [if_neg k1, if_pos k2])
    clear k1 k2 h2
    by_cases c1 : (l.length : Int) == (q.q.word.length : Int)
    · go_enter Try.func65, Try.ntmps65
      go_wp2_with fail
      refine ho.mono ?_
      rintro e w1 ⟨rfl, rfl⟩
      go_wp2
      go_ret
      exact ⟨by rw [unhide HE, c1]; rfl, unhide HB⟩
    · have c1' : ((l.length : Int) == (q.q.word.length : Int)) = false := by simpa using c1
      go_enter Try.func65, Try.ntmps65
      go_wp2
      go_ret
      exact ⟨by rw [unhide HE, c1']; rfl, unhide HB⟩
  have t2 : (q.q.hyp.kind == 2) = false := by simpa using k2
  have HE := hide (show sayB q.q l = false by unfold sayB; rw [if_neg k1, if_neg k2])
  clear k1 k2 h2 ho
  go_enter Try.func65, Try.ntmps65
  go_wp2
  go_ret
  exact ⟨by rw [unhide HE]; rfl, unhide HB⟩

end Go.Proofs.Ytemalidanjfmkaa
