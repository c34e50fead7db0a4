/-
  The program's notes on a word's beginnings.
-/
import Derived.Test.YtemalidanjfmkaaNObj
namespace Go.Proofs.Ytemalidanjfmkaa
open Go.RowKit

def ntC (t : Bool × Int) : List Value := [.bool t.1, .int .i64 t.2]
theorem ntC_len (t : Bool × Int) : (ntC t).length = 2 := rfl
theorem eNote : EltG 85 69 (.agg #[.bool false, .int .i64 0]) 2 16 ntC := ⟨Try.underlying69, by kernel_rfl, rfl, by decide, ntC_len, fun x u hu => by
  simp [ntC] at hu
  rcases hu with rfl | rfl <;> rfl⟩
def ntL (kd : Int) (wd out : List Int) : List (Bool × Int) := (List.range (wd.length + 1)).map (nta kd wd out)
theorem ntL_len (kd : Int) (wd out : List Int) : (ntL kd wd out).length = wd.length + 1 := by simp [ntL]
theorem ntL_at {kd : Int} {wd out : List Int} {i : Nat} (h : i < wd.length + 1) : (ntL kd wd out).getD i (false, 0) = nta kd wd out i := by simp [ntL, h]
/-- The notes in the making. -/
def ntJ (out : List Int) (n j : Nat) : List (Bool × Int) := (List.range n).map fun i => if i = 0 ∨ j < i then (false, 0) else (true, out.getD (i - 1) 0)
theorem ntJ_len (out : List Int) (n j : Nat) : (ntJ out n j).length = n := by simp [ntJ]
theorem ntJ_zero (out : List Int) (n : Nat) : ntJ out n 0 = List.replicate n (false, 0) := by
  refine List.ext_getElem? fun i => ?_
  by_cases h : i < n
  · have : i = 0 ∨ 0 < i := by omega
    simp [ntJ, h, this]
  · rw [List.getElem?_eq_none (by rw [ntJ_len]; omega), List.getElem?_eq_none (by simp; omega)]
theorem ntJ_step (out : List Int) {n j : Nat} (h : j + 1 < n) : (ntJ out n j).set (j + 1) (true, out.getD j 0) = ntJ out n (j + 1) := by
  refine List.ext_getElem? fun i => ?_
  rw [List.getElem?_set]
  by_cases hi : i < n
  · by_cases e : j + 1 = i
    · subst e
      rw [if_pos rfl, if_pos (by rw [ntJ_len]; exact hi)]
      simp [ntJ, hi]
    · rw [if_neg e]
      have : (i = 0 ∨ j < i) ↔ (i = 0 ∨ j + 1 < i) := by omega
      simp [ntJ, hi, this]
  · rw [if_neg (by omega), List.getElem?_eq_none (by rw [ntJ_len]; omega), List.getElem?_eq_none (by rw [ntJ_len]; omega)]
theorem ntJ_end {wd out : List Int} (h : out.length = wd.length) : ntJ out (wd.length + 1) out.length = ntL 2 wd out := by
  refine List.ext_getElem? fun i => ?_
  by_cases hi : i < wd.length + 1
  · have : ¬ (out.length < i) := by omega
    simp [ntJ, ntL, nta, hi, this]
  · rw [List.getElem?_eq_none (by rw [ntJ_len]; omega), List.getElem?_eq_none (by rw [ntL_len]; omega)]
theorem nt_one {wd out : List Int} : (List.replicate (wd.length + 1) ((false, 0) : Bool × Int)).set wd.length (true, out.getD 0 0) = ntL 1 wd out := by
  refine List.ext_getElem? fun i => ?_
  rw [List.getElem?_set]
  by_cases hi : i < wd.length + 1
  · by_cases e : wd.length = i
    · rw [if_pos e, if_pos (by simp)]
      simp [ntL, nta, e]
    · rw [if_neg e]
      have : ¬ i = wd.length := fun h => e h.symm
      simp [ntL, nta, hi, this]
  · rw [if_neg (by omega), List.getElem?_eq_none (by simp; omega), List.getElem?_eq_none (by rw [ntL_len]; omega)]

theorem note_cells2 {w : World} {B g n cap : Nat} {L : List (Bool × Int)} (h : OwnG 85 2 ntC w B (.slice (some ⟨g, 0, none⟩) n cap) L) (hn : L.length = n) {i : Nat} (hi : i < n) :
    w.cell? ⟨g, i * 2, none⟩ = some (.bool (L.getD i (false, 0)).1) ∧ w.cell? ⟨g, i * 2 + 1, none⟩ = some (.int .i64 (L.getD i (false, 0)).2) ∧ w.frozen? ⟨g, i * 2, none⟩ = false ∧ w.frozen? ⟨g, i * 2 + 1, none⟩ = false ∧ g < w.heap.size := by
  subst hn
  obtain ⟨g', c', e, -, -, -, h4, h5, h6⟩ := h.pos ntC_len (false, 0) (by omega)
  cases e
  exact ⟨h5 i 0 hi (by omega), h5 i 1 hi (by omega), h6 _, h6 _, h4⟩
theorem note_cells {w : World} {B g n cap : Nat} (h : OwnG 85 2 ntC w B (.slice (some ⟨g, 0, none⟩) n cap) (List.replicate n (false, 0))) {i : Nat} (hi : i < n) :
    w.cell? ⟨g, i * 2, none⟩ = some (.bool false) ∧ w.cell? ⟨g, i * 2 + 1, none⟩ = some (.int .i64 0) ∧ w.frozen? ⟨g, i * 2, none⟩ = false ∧ w.frozen? ⟨g, i * 2 + 1, none⟩ = false ∧ g < w.heap.size := by
  have := note_cells2 h (by simp) hi
  simpa [hi] using this

def NoPost (kd : Int) (wd out : List Int) (w : World) (e : Ending) (w' : World) : Prop :=
  ∃ v, e = .returned v ∧ OwnG 85 2 ntC w' w.heap.size v (ntL kd wd out) ∧ Below w.heap.size w w'

set_option maxRecDepth 100000 in
set_option maxHeartbeats 2000000 in
theorem notes_any {B : Nat} {w : World} {b g cap : Nat} {c : Cs} {R : List En} (a1 : Option Addr) (c1 : Nat) (wd : List Int) (a2 : Option Addr) (c2 : Nat) (out : List Int) (h : Co B w b g cap c R) (h2 : RdL .i64 w a2 out) (hl : wd.length ≤ 1000000000)
    (hf : (c.kind = 1 ∧ out.length = 1) ∨ (c.kind = 2 ∧ out.length = wd.length)) :
    Calls Try.prog 38 #[.pointer (some ⟨b, 0, none⟩), .slice a1 wd.length c1, .slice a2 out.length c2] w fun e w' => NoPost c.kind wd out w e w' := by
  have HH := hide h
  have H2 := hide h2
  clear h h2
  rcases hf with ⟨k1, ho⟩ | ⟨k2, ho⟩
  · have t0 : (c.kind == 2) = false := by simp [k1]
    have HK := hide k1
    clear k1
    obtain ⟨ba, off, rfl, hc⟩ := (unhide H2).at (i := 0) (by omega)
    have x0 := hc 0 (by omega)
    have hout' : (0 : Int) < (out.length : Int) := by omega
    rw [Nat.add_zero] at x0
    obtain ⟨X, hX⟩ : ∃ X, X = out.getD 0 0 := ⟨_, rfl⟩
    rw [← hX] at x0
    have HX := hide hX
    clear hc hX
    go_enter Try.func38, Try.ntmps38
    go_wp2_with (first | (at_make; refine wplG_make eNote (false, 0) rfl rfl (.tmp 12) (.tmp 12) rfl w.heap.size _ _ (wd.length + 1) rfl rfl (by go_num) (by go_num) (by omega) (by unfold maxLen; omega) (Nat.le_refl _) ?_; intro w1 ho1 hb1; have hi := isMealy_any ((unhide HH).below hb1)) | (go_at_call 34; refine hi.mono ?_; rw [t0]; rintro e w2 ⟨rfl, rfl⟩; obtain ⟨y0, y1, f0, f1, hlt⟩ := note_cells ho1 (show wd.length < wd.length + 1 by omega); have x1 := (hb1.cell (World.block_lt_of_cell? _ _ x0)).trans x0; have hw' : (wd.length : Int) < ((wd.length + 1 : Nat) : Int) := by omega))
    go_ret
    refine ⟨_, rfl, ?_, ?_⟩
    · rw [unhide HK, ← nt_one, ← unhide HX]
      have := OwnG.set2 ntC_len (false, 0) (show OwnG 85 2 ntC _ w.heap.size (.slice (some ⟨w.heap.size, 0, none⟩) (List.replicate (wd.length + 1) ((false, 0) : Bool × Int)).length (wd.length + 1)) _ by rw [List.length_replicate]; exact ho1) (s := wd.length) (i := 0) (j := 1) (by simp) (by omega) (by omega) (.bool true) (.int .i64 X) (true, X) rfl
      rw [List.length_replicate] at this
      exact this
    · exact (hb1.setCell (p := ⟨w.heap.size, _, none⟩) (Nat.le_refl _) _).setCell (p := ⟨w.heap.size, _, none⟩) (Nat.le_refl _) _
  · have t0 : (c.kind == 2) = true := by simp [k2]
    have HK := hide k2
    clear k2
    go_enter Try.func38, Try.ntmps38
    go_wp2_with (first | (at_make; refine wplG_make eNote (false, 0) rfl rfl (.tmp 12) (.tmp 12) rfl w.heap.size _ _ (wd.length + 1) rfl rfl (by go_num) (by go_num) (by omega) (by unfold maxLen; omega) (Nat.le_refl _) ?_; intro w1 ho1 hb1; have hi := isMealy_any ((unhide HH).below hb1)) | (go_at_call 34; refine hi.mono ?_; rw [t0]; rintro e w2 ⟨rfl, rfl⟩))
    have HO1 : Hid (OwnG 85 2 ntC w2 w.heap.size (.slice (some ⟨w.heap.size, 0, none⟩) (wd.length + 1) (wd.length + 1)) (ntJ out (wd.length + 1) 0)) := by rw [ntJ_zero]; exact ho1
    clear hi ho1
    go_loopw [18] (fun i wr => ∃ j : Nat, i = .int .i64 j ∧ j ≤ out.length ∧ Hid (OwnG 85 2 ntC wr w.heap.size (.slice (some ⟨w.heap.size, 0, none⟩) (wd.length + 1) (wd.length + 1)) (ntJ out (wd.length + 1) j)) ∧ Below w.heap.size w wr) (fun i _ => out.length - (intOf i).toNat)
    case atStart => exact ⟨0, rfl, Nat.zero_le _, HO1, hb1⟩
    case round =>
      obtain ⟨j, rfl, hj, HO, hB⟩ := hrel
      by_cases hlt : j < out.length
      · have hlt' : (j : Int) < (out.length : Int) := by omega
        obtain ⟨ba, off, rfl, hc⟩ := ((unhide H2).below hB).at hlt
        have x0 := hc j hlt
        have ho' := unhide HO
        obtain ⟨X, hX⟩ : ∃ X, X = out.getD j 0 := ⟨_, rfl⟩
        rw [← hX] at x0
        have HX := hide hX
        clear hX
        obtain ⟨y0, y1, f0, f1, -⟩ := note_cells2 ho' (ntJ_len _ _ _) (show j + 1 < wd.length + 1 by omega)
        have hw' : ((j + 1 : Nat) : Int) < ((wd.length + 1 : Nat) : Int) := by omega
        clear hc HO1 ho'
        go_wp2
        go_roundw
        case rel =>
          refine ⟨j + 1, by go_num, by omega, ?_, (hB.setCell (p := ⟨w.heap.size, _, none⟩) (Nat.le_refl _) _).setCell (p := ⟨w.heap.size, _, none⟩) (Nat.le_refl _) _⟩
          show OwnG _ _ _ _ _ _ _
          rw [← ntJ_step out (by omega), ← unhide HX]
          have := OwnG.set2 ntC_len (false, 0) (show OwnG 85 2 ntC _ w.heap.size (.slice (some ⟨w.heap.size, 0, none⟩) (ntJ out (wd.length + 1) j).length (wd.length + 1)) _ by rw [ntJ_len]; exact unhide HO) (s := j + 1) (i := 0) (j := 1) (by rw [ntJ_len]; omega) (by omega) (by omega) (.bool true) (.int .i64 X) (true, X) rfl
          rw [ntJ_len] at this
          exact this
        case measure => simp [intOf]; omega
      · obtain rfl : j = out.length := by omega
        have HOE : Hid (OwnG 85 2 ntC wr w.heap.size (.slice (some ⟨w.heap.size, 0, none⟩) (wd.length + 1) (wd.length + 1)) (ntL c.kind wd out)) := by rw [unhide HK, ← ntJ_end ho]; exact unhide HO
        go_wp2
        go_ret
        exact ⟨_, rfl, unhide HOE, hB⟩

end Go.Proofs.Ytemalidanjfmkaa
