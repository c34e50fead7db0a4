/-
  What the program's Read returns: the word of a text by any names in memory of its own, or the first fault.
-/
import Derived.Test.YtlgkoeolojkhgaaGFirst
import Derived.Test.YtlgkoeolojkhgaaGParseW
namespace Go.Proofs.Ytlgkoeolojkhgaa
open Go.RowKit Go.Maps

/-- The word of s from a place on, behind acc. -/
def rds (names : List Int) (s : ByteArray) : Nat → Nat → List Int → List Int × Int × Nat
  | 0, _, acc => (acc, 0, s.size)
  | f + 1, pos, acc => if pos < s.size then (if acc.length = 4096 then ([], 2, pos) else if brk s pos = true ∨ ¬ 0 ≤ plc (rn s pos) names 0 then ([], 20, pos) else rds names s f (pos + wd s pos) (acc ++ [plc (rn s pos) names 0])) else (acc, 0, s.size)
def rdsV (names : List Int) (s : ByteArray) : List Int × Int × Nat := rds names s s.size 0 []
theorem rds_end {names : List Int} {s : ByteArray} {f pos : Nat} {acc : List Int} (h : ¬ pos < s.size) : rds names s f pos acc = (acc, 0, s.size) := by
  cases f <;> simp [rds, h]
theorem rds_long {names : List Int} {s : ByteArray} {f pos : Nat} {acc : List Int} (h : pos < s.size) (h0 : acc.length = 4096) : rds names s (f + 1) pos acc = ([], 2, pos) := by
  simp [rds, h, h0]
theorem rds_rune {names : List Int} {s : ByteArray} {f pos : Nat} {acc : List Int} (h : pos < s.size) (h0 : acc.length ≠ 4096) (h1 : brk s pos = true ∨ ¬ 0 ≤ plc (rn s pos) names 0) : rds names s (f + 1) pos acc = ([], 20, pos) := by
  rw [rds, if_pos h, if_neg h0, if_pos h1]
theorem rds_go {names : List Int} {s : ByteArray} {f pos : Nat} {acc : List Int} (h : pos < s.size) (h0 : acc.length ≠ 4096) (h1 : brk s pos = false) (h2 : 0 ≤ plc (rn s pos) names 0) : rds names s (f + 1) pos acc = rds names s f (pos + wd s pos) (acc ++ [plc (rn s pos) names 0]) := by
  rw [rds, if_pos h, if_neg h0, if_neg (by rw [h1]; simp [h2])]

theorem PMap.of_heap {w w' : World} {b : Nat} {l : List Int} (h : PMap w b l) (e : w'.heap[b]? = w.heap[b]?) : PMap w' b l := by
  obtain ⟨n, D, ⟨es, clock, h1, h2⟩, r⟩ := h
  exact ⟨n, D, ⟨es, clock, e.trans h1, h2⟩, r⟩
theorem litInj {a b : Int} (h : (DataW.lit (.int .i64 a) : DataW Unit) = .lit (.int .i64 b)) : b = a := by cases h; rfl

set_option maxRecDepth 100000 in
set_option maxHeartbeats 2000000 in
theorem Read_any (a0 : Option Addr) (c0 : Nat) (names : List Int) (s : ByteArray) (w : World) (hr0 : RdL .i32 w a0 names) (hn : names.length < maxLen) (hf : ∀ j, j < names.length → Fit32 (names.getD j 0)) :
    Calls Try.prog 14 #[.slice a0 names.length c0, .string s] w fun e w' => ∃ v, e = .returned (.tuple #[v, .int .i64 (rdsV names s).2.1, .int .i64 (rdsV names s).2.2]) ∧ OwnL .i64 3 w' w.heap.size v (rdsV names s).1 ∧ Below w.heap.size w w' := by
  go_enter Try.func14, Try.ntmps14
  go_wp2_with fail
  refine (firstPlaces_any a0 c0 names w hr0 hn hf).mono ?_
  rintro e w0 ⟨rfl, hM, hB0⟩
  have hlt0 : w.heap.size < w0.heap.size := by obtain ⟨n, D, h, _⟩ := hM; exact h.lt
  have hsz0 := hB0.size
  clear hr0 hn hf
  go_wp2
  go_loopw [4] (fun v wr => ∃ (pos fuel : Nat) (acc : List Int), OwnL .i64 3 wr (w0.heap.size + 1) v acc ∧ wr.heap[w0.heap.size]? = some (.stringIter s pos) ∧ PMap wr w.heap.size names ∧ Below w.heap.size w wr ∧ Hid (rds names s fuel pos acc = rdsV names s) ∧ s.size ≤ pos + fuel ∧ acc.length ≤ 4096) (fun _ wr => s.size - wr.iterPos w0.heap.size)
  case atStart =>
    refine ⟨0, s.size, [], OwnL.nil _ _ _ _, ?_, hM.of_heap (Lib.alloc_old _ _ _ hlt0), hB0.alloc hsz0 _, hide rfl, by omega, by simp⟩
    have := World.iter_heap w0 s 0
    simpa using this
  case round =>
    obtain ⟨pos, fuel, acc, hI, hit, hM, hbw, H, hfu, hal⟩ := hrel
    by_cases hp : pos < s.size
    · have hnx : ∀ ty, (Instr.next (.pointer (some ⟨w0.heap.size, 0, none⟩)) true ty).run Try.prog wr = .ok (.tuple #[.bool true, .int .i64 pos, .int .i32 (rn s pos)]) (wr.iterAt w0.heap.size s (pos + wd s pos)) := fun ty => Lib.run_next_any_at wr w0.heap.size s pos ty hit hp
      have I1 := hI.iterAt (k := w0.heap.size) (by omega) s (pos + wd s pos)
      have it1 := Lib.iterAt_heap wr w0.heap.size s pos (pos + wd s pos) hit
      have bw1 := Lib.below_iterAt hbw (k := w0.heap.size) hsz0 s (pos + wd s pos)
      have M1 : PMap (wr.iterAt w0.heap.size s (pos + wd s pos)) w.heap.size names := hM.of_heap (Lib.iterAt_other _ _ _ _ _ (by omega))
      have hmeas : wr.iterPos w0.heap.size = pos := iterPos_of hit
      have hwd := wd_pos s pos
      have hrn0 := rn_nonneg s pos
      have hrn1 := rn_le s pos
      clear hI hit hbw hM
      generalize wr.iterAt w0.heap.size s (pos + wd s pos) = w1 at *
      obtain ⟨a, c, rfl, hnil, hlc, hcm, -, -⟩ := I1.shape
      have hlt : w0.heap.size < w1.heap.size := (Array.getElem?_eq_some_iff.1 it1).1
      obtain ⟨f, rfl⟩ : ∃ f, fuel = f + 1 := ⟨fuel - 1, by omega⟩
      have HF := hide (brkR_at s pos)
      by_cases hl : acc.length = 4096
      · have H1 := hide ((rds_long (names := names) (f := f) hp hl).symm.trans (unhide H))
        have hl2 : ((acc.length : Int) == 4096) = true := by simp [hl]
        clear hl
        go_wp2
        go_ret3
        exact ⟨_, ret_three rfl (by rw [← unhide H1]) (by rw [← unhide H1]), by rw [← unhide H1]; exact OwnL.nil _ _ _ _, bw1⟩
      have hl2 : ((acc.length : Int) == 4096) = false := by simp; omega
      have HL := hide hl
      clear hl
      obtain ⟨n, D, hown, hnl, hsay⟩ := id M1
      have hkey : keyOf Try.prog 21 (.int .i32 (rn s pos)) = some (.int .i32 (rn s pos)) := keyOf_int_mk Try.underlying21 (fit32 (by omega) (by omega))
      by_cases hx : 0 ≤ plc (rn s pos) names 0
      · have hhas : Maps.has D (.int .i32 (rn s pos)) = true := by rw [(hsay _).1]; simpa using hx
        have hplc := (hsay _).2 hx
        have HX := hide hx
        clear hx
        cases hb : brk s pos
        · have H1 := hide ((rds_go (names := names) (f := f) hp (unhide HL) hb (unhide HX)).symm.trans (unhide H))
          rw [hb] at HF
          have it2 : (w1.alloc (.cells #[.int .i64 (plc (rn s pos) names 0)] 3)).heap[w0.heap.size]? = some (.stringIter s (pos + wd s pos)) := (Lib.alloc_old _ _ _ hlt).trans it1
          have M2 : PMap (w1.alloc (.cells #[.int .i64 (plc (rn s pos) names 0)] 3)) w.heap.size names := M1.of_heap (Lib.alloc_old _ _ _ (by omega))
          go_wp2_with (first | (at_lookup; refine wpList_lookup_own_ok_int _ rfl _ _ 53 rfl 21 3 .i64 keyed32 Try.underlying53 Try.underlying3 (zeroInt _) w.heap.size n D rfl hown _ _ rfl hkey ?_; intro c1 hat hwc; rw [hhas]; obtain rfl := litInj (hplc.symm.trans hat); clear hat hwc) | (go_at_call 27; refine (isBroken_any _ _ _).mono ?_; rw [unhide HF]; rintro e w' ⟨rfl, rfl⟩) | (at_builtin; refine wpl_pushL eInt rfl (.tmp 40) (.tmp 42) rfl (w0.heap.size + 1) _ acc rfl (I1.alloc _) (some ⟨w'.heap.size, 0, none⟩) 1 [plc (rn s pos) names 0] rfl (RdL.one _ _) (by intro h; cases h) (by simp only [List.length_cons, List.length_nil]; omega) (by simp; omega) ?_; intro v2 w2 hown2 hb2 _) | go_in)
          go_roundw
          case rel =>
            have hl := unhide HL
            refine ⟨pos + wd s pos, f, acc ++ [plc (rn s pos) names 0], hown2, heap_below hb2 (by omega) it2, M2.of_heap (hb2.block _ (by omega)), (balloc' bw1 _).trans (hb2.mono (by omega)), H1, by omega, ?_⟩
            simp only [List.length_append, List.length_cons, List.length_nil]
            omega
          case measure =>
            rw [iterPos_of (heap_below hb2 (by omega) it2), hmeas]
            omega
        · have H1 := hide ((rds_rune (names := names) (f := f) hp (unhide HL) (.inl hb)).symm.trans (unhide H))
          rw [hb] at HF
          go_wp2_with (first | (at_lookup; refine wpList_lookup_own_ok_int _ rfl _ _ 53 rfl 21 3 .i64 keyed32 Try.underlying53 Try.underlying3 (zeroInt _) w.heap.size n D rfl hown _ _ rfl hkey ?_; intro c1 hat hwc; rw [hhas]; obtain rfl := litInj (hplc.symm.trans hat); clear hat hwc) | (go_at_call 27; refine (isBroken_any _ _ _).mono ?_; rw [unhide HF]; rintro e w' ⟨rfl, rfl⟩) | go_in)
          go_ret3
          exact ⟨_, ret_three rfl (by rw [← unhide H1]) (by rw [← unhide H1]), by rw [← unhide H1]; exact OwnL.nil _ _ _ _, bw1⟩
      · have hhas : Maps.has D (.int .i32 (rn s pos)) = false := by rw [(hsay _).1]; simpa using hx
        have H1 := hide ((rds_rune (names := names) (f := f) hp (unhide HL) (.inr hx)).symm.trans (unhide H))
        clear hx
        go_wp2_with (first | (at_lookup; refine wpList_lookup_own_ok_int _ rfl _ _ 53 rfl 21 3 .i64 keyed32 Try.underlying53 Try.underlying3 (zeroInt _) w.heap.size n D rfl hown _ _ rfl hkey ?_; intro c1 hat hwc; rw [hhas]) | go_in)
        go_ret3
        exact ⟨_, ret_three rfl (by rw [← unhide H1]) (by rw [← unhide H1]), by rw [← unhide H1]; exact OwnL.nil _ _ _ _, bw1⟩
    · have hnx : ∀ ty, (Instr.next (.pointer (some ⟨w0.heap.size, 0, none⟩)) true ty).run Try.prog wr = _ := fun ty => Lib.run_next_end_at wr w0.heap.size s pos ty hit hp
      have H1 := hide ((rds_end (names := names) hp).symm.trans (unhide H))
      go_wp2
      go_ret3
      exact ⟨_, ret_three rfl (by rw [← unhide H1]) (by rw [← unhide H1]), by rw [← unhide H1]; exact hI.mono (by omega), hbw⟩

end Go.Proofs.Ytlgkoeolojkhgaa
