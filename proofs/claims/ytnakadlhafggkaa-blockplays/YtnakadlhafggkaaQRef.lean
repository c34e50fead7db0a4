/-
  What the reference's has, New and Members return.
-/
import Derived.Test.YtnakadlhafggkaaQSorted
import Derived.Deep.OwnRows
namespace Go.Proofs.Ytnakadlhafggkaa
open Go.RowKit Go.Maps

theorem rhas_any (a : Option Addr) (c : Nat) (l : List Int) (x : Int) (w : World) (hr : RdL .i64 w a l) (hl : l.length ≤ 1000000) :
    Calls Try.prog 32 #[.slice a l.length c, .int .i64 x] w fun e w' => e = .returned (.bool (decide (x ∈ l))) ∧ w' = w := by
  go_enter Try.func32, Try.ntmps32
  go_wp2
  go_loop [5] (fun i => ∃ j : Nat, j ≤ l.length ∧ i = .int .i64 j ∧ ∀ k, k < j → l.getD k 0 ≠ x) (fun i => l.length - (intOf i).toNat)
  case atStart => exact ⟨0, Nat.zero_le _, rfl, fun k hk => by omega⟩
  case round =>
    obtain ⟨j, hj, rfl, hg⟩ := hrel
    have HG := hide hg
    clear hg
    by_cases hlt : j < l.length
    · obtain ⟨b, off, rfl, hc⟩ := hr.at hlt
      have hcj := hc j hlt
      have hm : l.getD j 0 ∈ l := gd_mem hlt
      clear hc
      generalize hy : l.getD j 0 = y at *
      by_cases e : y = x
      · subst e
        have H := hide (decide_eq_true hm)
        have te : (y == y) = true := by simp
        clear hm hy
        go_wp2
        go_ret
        exact ⟨ret_bool (unhide H).symm, rfl⟩
      · have te : (y == x) = false := by simpa using e
        have HY := hide hy
        have HE := hide e
        clear hm hy e
        go_wp2
        go_round
        case rel => exact ⟨j + 1, by omega, by go_num, fun k hk => by by_cases f : k = j; { subst f; rw [unhide HY]; exact unhide HE }; exact unhide HG k (by omega)⟩
        case measure => simp [intOf]; omega
    · obtain rfl : j = l.length := by omega
      have H := hide (decide_eq_false (p := x ∈ l) (fun h => by obtain ⟨k, hk, e⟩ := mem_gd h; exact unhide HG k hk e))
      go_wp2
      go_ret
      exact ⟨ret_bool (unhide H).symm, rfl⟩

theorem rnew_low (n : Int) (w : World) (h : n < 1) : Calls Try.prog 11 #[.int .i64 n] w fun e w' => e = .returned (.tuple #[.agg #[.slice none 0 0, .int .i64 0], .int .i64 1]) ∧ Below w.heap.size w w' := by
  go_enter Try.func11, Try.ntmps11
  go_wp2
  refine bodyPost_ret (v := .tuple #[.agg #[.slice none 0 0, .int .i64 0], .int .i64 1]) ?_ rfl ⟨rfl, ballo w _⟩
  simp [results, Try.results11, go_sem]
theorem rnew_high (n : Int) (w : World) (h : 65536 < n) : Calls Try.prog 11 #[.int .i64 n] w fun e w' => e = .returned (.tuple #[.agg #[.slice none 0 0, .int .i64 0], .int .i64 3]) ∧ Below w.heap.size w w' := by
  have h0 : ¬ n < 1 := by omega
  go_enter Try.func11, Try.ntmps11
  go_wp2
  refine bodyPost_ret (v := .tuple #[.agg #[.slice none 0 0, .int .i64 0], .int .i64 3]) ?_ rfl ⟨rfl, ballo w _⟩
  simp [results, Try.results11, go_sem]
theorem rnew_ok (n : Nat) (w : World) (h0 : 1 ≤ n) (h1 : n ≤ 65536) : Calls Try.prog 11 #[.int .i64 (n : Nat)] w fun e w' => ∃ v, e = .returned (.tuple #[.agg #[v, .int .i64 1], .int .i64 0]) ∧ OwnL .i64 3 w' w.heap.size v (tab n fun _ => 0) ∧ Below w.heap.size w w' := by
  have hmk := run_make_row' (P := Try.prog) 29 3 (.int .i64 0) 8 Try.underlying29 infoI rfl .i64 .i64 n (by omega) (by omega)
  have h0' : ¬ ((n : Int) < 1) := by omega
  have h1' : ¬ ((65536 : Int) < (n : Int)) := by omega
  go_enter Try.func11, Try.ntmps11
  go_wp2
  refine bodyPost_ret (v := .tuple #[.agg #[.slice (some ⟨w.heap.size + 1, 0, none⟩) n n, .int .i64 1], .int .i64 0]) ?_ rfl ⟨_, rfl, ?_, bstep (ballo w _) (ballo _ _)⟩
  · simp [results, Try.results11, go_sem]
  · have hn := heap_alloc_new (w.alloc (.cells #[.slice (some ⟨w.heap.size + 1, 0, none⟩) n n, .int .i64 1] 31)) (.cells (madeCells #[.int .i64 0] n) 3)
    rw [World.size_alloc] at hn
    have h2 := own_zeros hn h1
    rw [zeros_tab] at h2
    obtain ⟨e1, e2⟩ := h2
    refine ⟨e1, ?_⟩
    rcases e2 with ⟨e2, _⟩ | ⟨g, cap, cur, e, _, r⟩
    · cases e2
    · cases e
      rw [tab_len] at r ⊢
      exact .inr ⟨_, _, cur, rfl, by omega, r⟩

/-- What the document has for Members. -/
def mbV (n K : Nat) (c : Nat → Nat) (k : Int) : List Int × Int := if 0 ≤ k ∧ k < (K : Int) then (mems n c k.toNat, 0) else ([], 1)
/-- In class k of the first j. -/
theorem mems_next (j : Nat) (c : Nat → Nat) (k : Nat) : mems (j + 1) c k = if c j = k then mems j c k ++ [(j : Int)] else mems j c k := by
  unfold mems
  rw [List.range_succ, List.filter_append, List.map_append]
  by_cases e : c j = k
  · rw [if_pos e]; simp [e]
  · rw [if_neg e]; simp [e]

set_option maxRecDepth 100000 in
set_option maxHeartbeats 1000000 in
theorem rmembers_any (a : Option Addr) (cp n K : Nat) (c : Nat → Nat) (k : Int) (w : World) (hr : RdL .i64 w a (tab n c)) (hn : n ≤ 65536) :
    Calls Try.prog 22 #[.agg #[.slice a n cp, .int .i64 (K : Nat)], .int .i64 k] w fun e w' => ∃ v, e = .returned (.tuple #[v, .int .i64 (mbV n K c k).2]) ∧ OwnL .i64 3 w' w.heap.size v (mbV n K c k).1 ∧ Below w.heap.size w w' := by
  have b0 := ballo w (.cells #[.slice a n cp, .int .i64 (K : Nat)] 31)
  by_cases h0 : k < 0
  · have H : Hid (mbV n K c k = ([], 1)) := by unfold mbV; exact if_neg (by omega)
    go_enter Try.func22, Try.ntmps22
    go_wp2
    go_ret2
    exact ⟨.slice none 0 0, by rw [unhide H]; rfl, by rw [unhide H]; exact OwnL.nil _ _ _ _, b0⟩
  by_cases h1 : (K : Int) ≤ k
  · have H : Hid (mbV n K c k = ([], 1)) := by unfold mbV; exact if_neg (by omega)
    go_enter Try.func22, Try.ntmps22
    go_wp2
    go_ret2
    exact ⟨.slice none 0 0, by rw [unhide H]; rfl, by rw [unhide H]; exact OwnL.nil _ _ _ _, b0⟩
  obtain ⟨kk, rfl⟩ := Int.eq_ofNat_of_zero_le (show 0 ≤ k by omega)
  have H : Hid (mbV n K c ((kk : Nat) : Int) = (mems n c kk, 0)) := by unfold mbV; rw [Int.toNat_natCast]; exact if_pos (by omega)
  have C0 : (w.alloc (.cells #[.slice a n cp, .int .i64 (K : Nat)] 31)).cell? ⟨w.heap.size, 0, none⟩ = some (.slice a n cp) := by simp
  go_enter Try.func22, Try.ntmps22
  go_wp2
  go_loopw [6, 7] (fun v i wx => ∃ j : Nat, j ≤ n ∧ i = .int .i64 j ∧ OwnL .i64 3 wx (w.heap.size + 1) v (mems j c kk) ∧ Below (w.heap.size + 1) (w.alloc (.cells #[.slice a n cp, .int .i64 (K : Nat)] 31)) wx) (fun _ i _ => n - (intOf i).toNat)
  case atStart => exact ⟨0, Nat.zero_le _, rfl, OwnL.nil _ _ _ _, Below.refl _ _⟩
  case round =>
    obtain ⟨j, hj, rfl, hv, hb⟩ := hrel
    have c0 : wr.cell? ⟨w.heap.size, 0, none⟩ = some (.slice a n cp) := by rw [hb.cell (by simp)]; exact C0
    obtain ⟨av, cv, rfl, -, -, -, -, -⟩ := hv.shape
    have hml := mems_len j c kk
    have hz : w.heap.size + 1 ≤ wr.heap.size := by have := hb.size; simpa using this
    have HV := hide hv
    have HB := hide hb
    clear hv hb
    have bw : Below w.heap.size w wr := b0.trans ((unhide HB).mono (by omega))
    by_cases hlt : j < n
    · obtain ⟨b, off, rfl, hc⟩ := (hr.below bw).at (i := j) (by rw [tab_len]; exact hlt)
      have hcj := hc j (by rw [tab_len]; exact hlt)
      rw [tab_at _ hlt] at hcj
      clear hc
      by_cases e : c j = kk
      · have te : (((c j : Nat) : Int) == ((kk : Nat) : Int)) = true := beq_iff_eq.2 (by omega)
        have HN := hide (mems_next j c kk)
        rw [if_pos e] at HN
        have O1 : OwnL .i64 3 (wr.alloc (.cells #[.int .i64 (j : Nat)] 3)) (w.heap.size + 1) (.slice av (mems j c kk).length cv) (mems j c kk) := (unhide HV).alloc _
        have R1 := RdL.one (q := .i64) (t := 3) wr ((j : Nat) : Int)
        have HO1 := hide O1
        have HR1 := hide R1
        clear O1 R1 e
        generalize c j = cj at *
        go_wp2_with (at_builtin; refine wpl_pushA eInt rfl (.tmp 30) (.tmp 32) rfl (w.heap.size + 1) _ (mems j c kk) rfl (unhide HO1) ⟨wr.heap.size, 0, none⟩ 1 [((j : Nat) : Int)] rfl (unhide HR1) (by simp; omega) (by simp; omega) ?_; intro v4 w4 ho4 hb4 hg4 hat4; obtain ⟨a4, c4, rfl, -, -, -, -, -⟩ := ho4.shape)
        go_roundw
        case rel =>
          refine ⟨j + 1, by omega, by go_num, ?_, ?_⟩
          · rw [unhide HN]
            rw [show (mems j c kk ++ [((j : Nat) : Int)]).length = (mems j c kk).length + 1 by simp] at ho4
            exact ho4
          · exact ((unhide HB).alloc hz _).trans hb4
        case measure => simp [intOf]; omega
      · have te : (((c j : Nat) : Int) == ((kk : Nat) : Int)) = false := beq_eq_false_iff_ne.2 (by omega)
        have HN := hide (mems_next j c kk)
        rw [if_neg e] at HN
        clear e
        generalize c j = cj at *
        go_wp2
        go_roundw
        case rel => exact ⟨j + 1, by omega, by go_num, by rw [unhide HN]; exact unhide HV, unhide HB⟩
        case measure => simp [intOf]; omega
    · obtain rfl : j = n := by omega
      go_wp2
      go_ret2
      exact ⟨_, by rw [unhide H]; rfl, by rw [unhide H]; exact (unhide HV).mono (by omega), bw⟩
end Go.Proofs.Ytnakadlhafggkaa
