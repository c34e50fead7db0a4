/-
  What the library's slices.Sorted(slices.Values(s)) returns: the numbers of s, in order, in memory of the call's own.
  The iterator reads s again at each round: so it is told against loops that leave old memory as it was.
-/
import Derived.Test.YtnakadlhafggkaaQKeys
namespace Go.Proofs.Ytnakadlhafggkaa
open Go.RowKit Go.Maps Go.Sort Go.Shelf

theorem values_any (a : Option Addr) (n c : Nat) (w : World) : Calls Try.prog 35 #[.slice a n c] w fun e w' => e = .returned (.func (.func 50) #[] #[.pointer (some ⟨w.heap.size, 0, none⟩)]) ∧ w' = w.alloc (.cells #[.slice a n c] 29) := by
  go_enter Try.func35, Try.ntmps35
  go_wp2
  go_ret
  exact ⟨rfl, rfl⟩

set_option maxRecDepth 100000 in
set_option maxHeartbeats 1000000 in
/-- The iterator of slices.Values, called by a loop lp that keeps J and leaves what lay in w as it was. -/
theorem valsIter (Bm : Nat) (a : Option Addr) (c : Nat) (l : List Int) (w : World) (hBm : Bm < w.heap.size) (hm : w.cell? ⟨Bm, 0, none⟩ = some (.slice a l.length c)) (hr : RdL .i64 w a l) (hl : l.length ≤ 1000000)
    (lp : Nat) (J : List Int → World → Prop) (W : World) (hJb : ∀ s W1, J s W1 → Below w.heap.size w W1)
    (hY : ∀ pre x W1, J pre W1 → pre.length < l.length → YieldAt Fence.wide 1 Try.prog lp #[encZ x] W1 fun e W' => e = .returned (.bool true) ∧ J (pre ++ [x]) W' ∧ KeepsWalks W1 W') (h0 : J [] W) :
    CallsIn Fence.wide 2 Try.prog 50 #[.func (.yield lp) #[] #[], .pointer (some ⟨Bm, 0, none⟩)] W fun e W' => (∃ v, e = .returned v) ∧ J l W' := by
  have hW := hJb _ _ h0
  have hm' : W.cell? ⟨Bm, 0, none⟩ = some (.slice a l.length c) := by rw [hW.cell (by exact hBm)]; exact hm
  have HJ := hide hJb
  have HY := hide hY
  have H0 := hide h0
  have HR := hide hr
  clear hJb hY h0 hr hW
  refine callsIn_of_wp Try.func50 rfl trivial ?_ rfl
  simp only [Try.ntmps50, List.size_toArray, List.length_cons, List.length_nil, Nat.reduceAdd, Nat.reduceSub, Array.replicate_succ, Array.replicate_zero, List.push_toArray, List.append_toArray, List.nil_append, List.cons_append]
  gi_wp2
  gi_loopw [7] (fun i wr => ∃ j : Nat, j ≤ l.length ∧ i = .int .i64 j ∧ J (l.take j) wr) (fun i _ => l.length - (RowKit.intOf i).toNat)
  case atStart => exact ⟨0, Nat.zero_le _, rfl, unhide H0⟩
  case round =>
    obtain ⟨j, hj, rfl, hJs⟩ := hrel
    by_cases hlt : j < l.length
    · have hb := unhide HJ _ _ hJs
      obtain ⟨b, off, rfl, hc⟩ := ((unhide HR).below hb).at hlt
      have hcj := hc j hlt
      obtain ⟨fn, tmps, assign, body, hy, hR⟩ := unhide HY (l.take j) (l.getD j 0) wr hJs (by rw [List.length_take]; omega)
      have e : l.take (j + 1) = l.take j ++ [l.getD j 0] := by
        rw [List.take_add_one, List.getD, List.getElem?_eq_getElem hlt]; rfl
      have HE := hide e
      clear hc hb e
      generalize l.getD j 0 = x at *
      gi_wp2
      refine hR.mono ?_
      rintro e W3 ⟨rfl, hJ3, hk3⟩
      gi_wp2
      go_roundw
      case rel => exact ⟨j + 1, by omega, by go_num, by rw [unhide HE]; exact hJ3⟩
      case measure => simp [RowKit.intOf]; omega
    · obtain rfl : j = l.length := by omega
      rw [List.take_length] at hJs
      gi_wp2
      go_end0
      exact ⟨⟨_, rfl⟩, hJs⟩

/-- What lies at the head of the call's own memory, and the loop's record, when the loop begins. -/
theorem apStart {w : World} {fn : FuncId} {sv : Value} :
    AnyZI.ApAt sortedA_ren w fn sv w.heap.size (w.heap.size + 2) (w.heap.size + 1) [] (((w.alloc (.cells #[.slice none 0 0] (sortedA_ren.t 24))).alloc (.deferred (some []))).alloc (.loop (AnyZI.apRec sortedA_ren fn sv w.heap.size (w.heap.size + 1) .ready none))) := by
  have n0 := heap_alloc_new w (.cells #[.slice none 0 0] (sortedA_ren.t 24))
  have n1 := heap_alloc_new (w.alloc (.cells #[.slice none 0 0] (sortedA_ren.t 24))) (.deferred (some []))
  have n2 := heap_alloc_new ((w.alloc (.cells #[.slice none 0 0] (sortedA_ren.t 24))).alloc (.deferred (some []))) (.loop (AnyZI.apRec sortedA_ren fn sv w.heap.size (w.heap.size + 1) .ready none))
  simp only [World.size_alloc] at n1 n2
  refine ⟨⟨_, ?_, ⟨rfl, .inl ⟨rfl, rfl⟩⟩, by simp⟩, n2, ?_, ((Below.refl _ w).alloc (Nat.le_refl _) _ |>.alloc (by simp) _).alloc (by simp; omega) _⟩
  · rw [Below.heap_alloc _ _ _ (by simp; omega), Below.heap_alloc _ _ _ (by simp)]; exact n0
  · rw [Below.heap_alloc _ _ _ (by simp)]; exact n1

set_option maxRecDepth 100000 in
set_option maxHeartbeats 2000000 in
/-- slices.AppendSeq(nil, slices.Values(s)). -/
theorem valsAppend (Bm : Nat) (a : Option Addr) (c : Nat) (l : List Int) (w : World) (hBm : Bm < w.heap.size) (hm : w.cell? ⟨Bm, 0, none⟩ = some (.slice a l.length c)) (hr : RdL .i64 w a l) (hl : l.length ≤ 1000000) :
    CallsIn Fence.wide 3 Try.prog 59 #[.slice none 0 0, .func (.func 50) #[] #[.pointer (some ⟨Bm, 0, none⟩)]] w fun e w' => ∃ v, e = .returned v ∧ w'.ownsRow w.heap.size 3 1 v l.length (l.map encZ) ∧ (v = .slice none 0 0 ↔ l = []) ∧ Below w.heap.size w w' := by
  have L11 : SlLaysZI.n11 Try.prog sortedA_ren := { sortedA with }
  have hne : sortedA_ren.t 24 ≠ sortedA_ren.t 26 := by decide
  have eg : ∀ args w, (callFunc 50 args).run Try.prog w = .ok (.enter 50 args) w := enters_of Try.func50 (by kernel_rfl) rfl
  refine callsIn_of_wp_marks Try.func59 rfl trivial ?_ rfl
  simp only [Try.ntmps59, List.size_toArray, List.length_cons, List.length_nil, Nat.reduceAdd, Nat.reduceSub, Array.replicate_succ, Array.replicate_zero, List.push_toArray, List.append_toArray, List.nil_append, List.cons_append]
  gi_wp2
  refine wpIn_rangeFunc ?_
  intro fn hfn
  have A0 := apStart (w := w) (fn := fn) (sv := .func (.func 50) #[] #[.pointer (some ⟨Bm, 0, none⟩)])
  obtain ⟨W1, hW1⟩ : ∃ W1, ((w.alloc (.cells #[.slice none 0 0] (sortedA_ren.t 24))).alloc (.deferred (some []))).alloc (.loop (AnyZI.apRec sortedA_ren fn (.func (.func 50) #[] #[.pointer (some ⟨Bm, 0, none⟩)]) w.heap.size (w.heap.size + 1) .ready none)) = W1 := ⟨_, rfl⟩
  rw [hW1] at A0
  refine ⟨w.heap.size + 2, [{ target := .collected (w.heap.size + 1), args := #[] }], W1, { target := .fn (.func 50) #[.pointer (some ⟨Bm, 0, none⟩)], args := #[.func (.yield (w.heap.size + 2)) #[] #[]] }, W1, 50, #[.func (.yield (w.heap.size + 2)) #[] #[], .pointer (some ⟨Bm, 0, none⟩)], W1, ?_, ?_, ?_, ?_, fun _ => (by omega), ?_⟩
  · have h1 := run_enterLoop_outer (P := Try.prog) (w := w.alloc (.cells #[.slice none 0 0] (sortedA_ren.t 24))) fn (AnyZI.apRec sortedA_ren fn (.func (.func 50) #[] #[.pointer (some ⟨Bm, 0, none⟩)]) w.heap.size (w.heap.size + 1) .ready none).tmps #[7] (AnyZI.apAssign sortedA_ren) (AnyZI.apBody sortedA_ren)
    simp only [World.size_alloc] at h1
    rw [← hW1]
    exact h1
  · simp [resolve, go_sem]
  · intro f' hf'
    trivial
  · simp [invoke, go_sem, eg]
  clear hW1
  have hb1 := A0.below
  refine (valsIter Bm a c l w hBm hm hr hl (w.heap.size + 2) (AnyZI.ApAt sortedA_ren w fn (.func (.func 50) #[] #[.pointer (some ⟨Bm, 0, none⟩)]) w.heap.size (w.heap.size + 2) (w.heap.size + 1)) W1 (fun _ _ h => h.below)
    (fun pre x W hJ hlen => AnyZI.apYield L11 Fence.wide 1 w fn trivial _ w.heap.size (w.heap.size + 2) (w.heap.size + 1) (by omega) (by omega) (by omega) (Nat.le_refl _) (by omega) l.length (by unfold maxLen; omega) (by omega) pre x W hJ hlen) A0).mono ?_
  rintro e W2 ⟨⟨v0, rfl⟩, A2⟩
  obtain ⟨v, hv, hrow, hnil⟩ := A2.box
  have hend := run_endLoop (P := Try.prog) A2.L (by simp [AnyZI.apRec])
  obtain ⟨W3, hW3⟩ : ∃ W3, W2.putObj (w.heap.size + 2) (.loop { AnyZI.apRec sortedA_ren fn (.func (.func 50) #[] #[.pointer (some ⟨Bm, 0, none⟩)]) w.heap.size (w.heap.size + 1) .ready none with state := .exhausted }) = W3 := ⟨_, rfl⟩
  rw [hW3] at hend
  have hg3 : W2.grownBy W3 (some (w.heap.size + 2)) := by rw [← hW3]; exact grownBy_putObj_a _ _ _
  have hv3 : W3.heap[w.heap.size]? = some (.cells #[v] (sortedA_ren.t 24) (0, 0)) := by rw [← hW3]; exact (World.putObj_heap_other (by omega)).trans hv
  have hD3 : W3.heap[w.heap.size + 1]? = some (.deferred (some [])) := by rw [← hW3]; exact (World.putObj_heap_other (by omega)).trans A2.K
  have noc : ∀ cur, (Obj.loop (AnyZI.apRec sortedA_ren fn (.func (.func 50) #[] #[.pointer (some ⟨Bm, 0, none⟩)]) w.heap.size (w.heap.size + 1) .ready none)) ≠ .cells cur (sortedA_ren.t 26) (0, 0) := fun cur e => by cases e
  have nod : ∀ cur, (Obj.deferred (some [])) ≠ .cells cur (sortedA_ren.t 26) (0, 0) := fun cur e => by cases e
  have hrow3 := hrow.kept hg3 (ownsRow_ne_a hrow A2.L noc)
  have hb3 : Below w.heap.size w W3 := A2.below.grown hg3 A2.below.size (fun k e => by cases e; omega)
  obtain ⟨hc3, hf3⟩ := cell_of_box_a hv3
  clear hW3 A2 hg3 hv
  refine ⟨none, W3, hend, ?_⟩
  gi_wp2
  refine ⟨by simp, .inl ⟨_, _, rfl, run_takeDeferred hD3, ?_⟩⟩
  exact ⟨_, results_tmp rfl _ _ _, v, rfl, hrow3.kept (grownBy_putObj_a _ _ _) (ownsRow_ne_a hrow3 hD3 nod), hnil, hb3.grown (grownBy_putObj_a _ _ _) hb3.size (fun k e => by cases e; omega)⟩
end Go.Proofs.Ytnakadlhafggkaa
