/-
  What the program's Parse returns: the names of a text in memory of its own, or the first fault.
-/
import Derived.Test.YtbhdcgebcmgidaaDoorGParse
namespace Go.Proofs.YtbhdcgebcmgidaaDoor
open Go.RowKit

theorem ret_three {v v' : Value} {a a' b b' : Int} (hv : v = v') (h : a = a') (g : b = b') : Ending.returned (.tuple #[v, .int .i64 a, .int .i64 b]) = .returned (.tuple #[v', .int .i64 a', .int .i64 b']) := by rw [hv, h, g]
theorem empty_iff (s : ByteArray) : s.toList.isEmpty = decide (s.size = 0) := by
  rw [Lib.toList_data, Lib.size_eq]
  cases s.data.toList <;> simp
theorem balloc' {B : Nat} {w w1 : World} (h : Below B w w1) (o : Obj) (hB : B ≤ w1.heap.size := by omega) : Below B w (w1.alloc o) := h.alloc hB o
/-- What lies below the base stays. -/
theorem heap_below {B k : Nat} {w w' : World} (h : Below B w w') (hk : k < B) {o : Obj} (e : w.heap[k]? = some o) : w'.heap[k]? = some o := by rw [h.block k hk, e]
theorem OwnL.iterAt {q : IntKind} {t : TypeId} {w : World} {B : Nat} {v : Value} {l : List Int} (h : OwnL q t w B v l) {k : Nat} (hk : k < B) (s : ByteArray) (p : Nat) : OwnL q t (w.iterAt k s p) B v l := ownsRow_iterAt h hk s p

set_option maxRecDepth 100000 in
set_option maxHeartbeats 1000000 in
theorem Parse_any (s : ByteArray) (w : World) :
    Calls Tryd.prog 35 #[.string s] w fun e w' => ∃ v, e = .returned (.tuple #[v, .int .i64 (prsV s).2.1, .int .i64 (prsV s).2.2]) ∧ OwnL .i32 21 w' w.heap.size v (prsV s).1 ∧ Below w.heap.size w w' := by
  by_cases h0 : s.size = 0
  · have H := hide (show prsV s = ([], 4, 0) by simp [prsV, h0])
    have hse : s.toList.isEmpty = true := by rw [empty_iff]; simpa using h0
    go_enter Tryd.func35, Tryd.ntmps35
    go_wp2
    go_ret3
    exact ⟨_, ret_three rfl (by rw [unhide H]) (by rw [unhide H]; rfl), by rw [unhide H]; exact OwnL.nil _ _ _ _, Below.refl _ _⟩
  · have HP := hide (show prsV s = prs s s.size 0 [] by simp [prsV, h0])
    have hse : s.toList.isEmpty = false := by rw [empty_iff]; simpa using h0
    go_enter Tryd.func35, Tryd.ntmps35
    go_wp2
    go_loopw [2] (fun v wr => ∃ (pos fuel : Nat) (acc : List Int), OwnL .i32 21 wr (w.heap.size + 1) v acc ∧ wr.heap[w.heap.size]? = some (.stringIter s pos) ∧ Below w.heap.size w wr ∧ Hid (prs s fuel pos acc = prsV s) ∧ s.size ≤ pos + fuel ∧ acc.length ≤ 64) (fun _ wr => s.size - wr.iterPos w.heap.size)
    case atStart =>
      refine ⟨0, s.size, [], OwnL.nil _ _ _ _, ?_, (Below.refl _ w).alloc (Nat.le_refl _) _, hide (unhide HP).symm, by omega, by simp⟩
      have := World.iter_heap w s 0
      simpa using this
    case round =>
      obtain ⟨pos, fuel, acc, hI, hit, hbw, H, hfu, hal⟩ := hrel
      obtain ⟨a, c, rfl, hnil, hlc, hcm, hrd, hblk⟩ := hI.shape
      by_cases hp : pos < s.size
      · have hnx : ∀ ty, (Instr.next (.pointer (some ⟨w.heap.size, 0, none⟩)) true ty).run Tryd.prog wr = .ok (.tuple #[.bool true, .int .i64 pos, .int .i32 (rn s pos)]) (wr.iterAt w.heap.size s (pos + wd s pos)) := fun ty => Lib.run_next_any_at wr w.heap.size s pos ty hit hp
        have I1 := hI.iterAt (k := w.heap.size) (by omega) s (pos + wd s pos)
        have it1 := Lib.iterAt_heap wr w.heap.size s pos (pos + wd s pos) hit
        have bw1 := Lib.below_iterAt hbw (k := w.heap.size) (Nat.le_refl _) s (pos + wd s pos)
        have hmeas : wr.iterPos w.heap.size = pos := iterPos_of hit
        have hwd := wd_pos s pos
        clear hI hit hbw hrd hblk
        generalize wr.iterAt w.heap.size s (pos + wd s pos) = w1 at *
        obtain ⟨a', c', e', -, -, -, rd1, -⟩ := I1.shape
        cases e'
        have hlt : w.heap.size < w1.heap.size := (Array.getElem?_eq_some_iff.1 it1).1
        obtain ⟨f, rfl⟩ : ∃ f, fuel = f + 1 := ⟨fuel - 1, by omega⟩
        have HF := hide (brkR_at s pos)
        by_cases hf : fltV (brk s pos) acc (rn s pos) = 0
        · have H1 := hide ((prs_go hp hf).symm.trans (unhide H))
          have HL := hide (fltV_len hf)
          have it2 : (w1.alloc (.cells #[.int .i32 (rn s pos)] 21)).heap[w.heap.size]? = some (.stringIter s (pos + wd s pos)) := (Lib.alloc_old _ _ _ hlt).trans it1
          go_wp2_with (first | (go_at_call 50; refine (nameFault_any _ _ acc _ _ _ rd1 (by unfold maxLen; omega)).mono ?_; rw [unhide HF, hf]; rintro e w' ⟨rfl, rfl⟩) | (at_builtin; refine wpl_pushL e32 rfl (.tmp 26) (.tmp 28) rfl (w.heap.size + 1) _ acc rfl (I1.alloc _) (some ⟨w'.heap.size, 0, none⟩) 1 [rn s pos] rfl (RdL.one _ _) (by intro h; cases h) (by simp only [List.length_cons, List.length_nil]; omega) (by simp; omega) ?_; intro v2 w2 hown2 hb2 _))
          go_roundw
          case rel =>
            refine ⟨pos + wd s pos, f, acc ++ [rn s pos], hown2, heap_below hb2 (by omega) it2, (balloc' bw1 _).trans (hb2.mono (by omega)), H1, by omega, ?_⟩
            have := unhide HL
            simp only [List.length_append, List.length_cons, List.length_nil]
            omega
          case measure =>
            rw [iterPos_of (heap_below hb2 (by omega) it2), hmeas]
            omega
        · have H1 := hide ((prs_stop (f := f) hp hf).symm.trans (unhide H))
          have hf2 : (fltV (brk s pos) acc (rn s pos) != 0) = true := by simpa using hf
          clear hf
          go_wp2_with (go_at_call 50; refine (nameFault_any _ _ acc _ _ _ rd1 (by unfold maxLen; omega)).mono ?_; rw [unhide HF]; rintro e w' ⟨rfl, rfl⟩)
          go_ret3
          exact ⟨_, ret_three rfl (by rw [← unhide H1]) (by rw [← unhide H1]), by rw [← unhide H1]; exact OwnL.nil _ _ _ _, bw1⟩
      · have hnx : ∀ ty, (Instr.next (.pointer (some ⟨w.heap.size, 0, none⟩)) true ty).run Tryd.prog wr = _ := fun ty => Lib.run_next_end_at wr w.heap.size s pos ty hit hp
        have H1 := hide ((prs_end hp).symm.trans (unhide H))
        go_wp2
        go_ret3
        exact ⟨_, ret_three rfl (by rw [← unhide H1]) (by rw [← unhide H1]), by rw [← unhide H1]; exact hI.mono (by omega), hbw⟩

end Go.Proofs.YtbhdcgebcmgidaaDoor
