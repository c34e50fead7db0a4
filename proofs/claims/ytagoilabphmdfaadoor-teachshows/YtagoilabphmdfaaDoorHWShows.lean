/-
  TeachShows, walked: for every input the call returns true.
-/
import Derived.Test.YtagoilabphmdfaaDoorHLive
import Derived.Test.YtagoilabphmdfaaDoorHWB
import Derived.Test.YtagoilabphmdfaaDoorHShow
import Derived.Test.YtagoilabphmdfaaDoorTCv
import Derived.Lib.ItoaLen
namespace Go.Proofs.YtagoilabphmdfaaDoor
set_option linter.unusedVariables false
open Go.RowKit

theorem nmL_len {x : List Int} (h : ∀ y ∈ x, Fits y) : (nmL x).length ≤ 22 * x.length := by
  induction x with
  | nil => simp [nmL]
  | cons y x ih =>
    have := ih fun z hz => h z (by simp [hz])
    have hy := h y (by simp)
    unfold Fits at hy
    have h2 := Lib.itoa_length_le y hy.1 hy.2
    unfold nmL at this ⊢
    rw [List.flatMap_cons, List.length_append, List.length_cons, List.length_cons]
    omega
theorem lnA_len {a : An} {N : Nat} (h1 : ∀ y ∈ a.out, Fits y) (h2 : ∀ y ∈ a.word, Fits y) (l1 : a.out.length ≤ N) (l2 : a.word.length ≤ N) : (lnA a).length ≤ 2 + 22 * N := by
  have k1 := nmL_len h1
  have k2 := nmL_len h2
  unfold lnA
  split
  · simp only [List.length_append, List.length_cons, List.length_nil]; omega
  · split
    · simp only [List.length_cons, List.length_nil]; omega
    · split
      · simp only [List.length_append, List.length_cons, List.length_nil]; omega
      · simp only [List.length_nil]; omega
theorem shA_len {N : Nat} : ∀ {l : List An}, (∀ a ∈ l, (∀ y ∈ a.out, Fits y) ∧ (∀ y ∈ a.word, Fits y) ∧ a.out.length ≤ N ∧ a.word.length ≤ N) → (shA l).length ≤ l.length * (2 + 22 * N)
  | [], _ => by simp [shA]
  | a :: l, h => by
    have h0 := h a (by simp)
    have := shA_len (l := l) fun b hb => h b (by simp [hb])
    have k := lnA_len h0.1 h0.2.1 h0.2.2.1 h0.2.2.2
    unfold shA at this ⊢
    rw [List.flatMap_cons, List.length_append, List.length_cons, Nat.add_mul]
    omega
theorem hugV_len {most : Int} {l : List An} (h : hugV most l = false) : (l.length : Int) ≤ most := by
  unfold hugV at h
  by_cases h1 : most < (l.length : Int)
  · rw [if_pos h1] at h; cases h
  · omega
/-- What came in, fits. -/
theorem ArgPs.fit {w : World} {a : Option Addr} {c : Nat} {l : List Pa} (h : ArgPs w a c l) : ∀ p ∈ l, (∀ i, i < p.an.out.length → Fits (p.an.out.getD i 0)) ∧ (∀ i, i < p.an.word.length → Fits (p.an.word.getD i 0)) := fun p hp =>
  ⟨fun i hi => fits_of ((h.each p hp).out.fits i hi), fun i hi => fits_of ((h.each p hp).word.fits i hi)⟩
theorem fit_mem {x : List Int} (h : ∀ i, i < x.length → Fits (x.getD i 0)) : ∀ y ∈ x, Fits y := fun y hy => by
  obtain ⟨i, hi, rfl⟩ := List.getElem_of_mem hy
  have := h i hi
  simpa [hi] using this

set_option maxRecDepth 100000 in
set_option maxHeartbeats 4000000 in
theorem teachShows_walk (a : Option Addr) (c : Nat) (l : List Pa) (w : World) (h0 : ArgPs w a c l) (g : Gp w) :
    Calls Tryd.prog 3 #[.slice a l.length c] w fun e w' => e = .returned (.bool true) ∧ Below w.heap.size w w' := by
  have hhu := rhuge_any a c l 20000 w h0.rd (by decide) (by decide)
  cases hhv : hugV 20000 (anL l)
  rotate_left
  · rw [hhv] at hhu
    clear hhv
    go_enter Tryd.func3, Tryd.ntmps3
    go_wp2_with fail
    refine hhu.mono ?_
    rintro e w1 ⟨rfl, rfl⟩
    go_wp2_with fail
    refine (live_any _).mono ?_
    rintro e w1 ⟨rfl, hb1⟩
    go_wp2
    go_ret
    exact ⟨rfl, hb1⟩
  rw [hhv] at hhu
  have hea := hugV_each hhv
  have hln := hugV_len hhv
  have hal : (anL l).length = l.length := by simp [anL]
  have hll : l.length ≤ 20000 := by omega
  have hm : ∀ p ∈ l, p.an.out.length ≤ 20000 ∧ p.an.word.length ≤ 20000 := fun p hp => by
    have := hea p.an (List.mem_map_of_mem hp)
    omega
  have hfit := h0.fit
  have hT : (shA (anL l)).length ≤ 100000000000 := by
    have := shA_len (N := 20000) (l := anL l) fun b hb => by
      obtain ⟨p, hp, rfl⟩ := List.mem_map.1 hb
      exact ⟨fit_mem (hfit p hp).1, fit_mem (hfit p hp).2, (hm p hp).1, (hm p hp).2⟩
    have h2 : (anL l).length * (2 + 22 * 20000) ≤ 20000 * (2 + 22 * 20000) := Nat.mul_le_mul (by omega) (Nat.le_refl _)
    omega
  have hmx : ∀ p ∈ l, p.an.out.length ≤ maxLen ∧ p.an.word.length ≤ maxLen := fun p hp => by
    have := hm p hp
    unfold maxLen
    omega
  have hsh := tshow_any a c l w h0.rd hfit (by unfold maxLen; omega) hmx hT g
  have hrs := fun wz (hz : Below w.heap.size w wz) => rshowA_any a c l wz (h0.rd.below hz) hfit (by unfold maxLen; omega) hmx hT
  clear hhv hea hln hal hm hfit hT hmx h0
  generalize shA (anL l) = T at *
  go_enter Tryd.func3, Tryd.ntmps3
  go_wp2_with fail
  refine hhu.mono ?_
  rintro e w1 ⟨rfl, rfl⟩
  go_wp2_with fail
  refine hsh.mono ?_
  rintro e w2 ⟨v2, rfl, ho2, hb2⟩
  obtain ⟨x2, y2, rfl, hn2, -, -, rd2, -⟩ := ho2.shape
  rw [zs_len] at hn2 ⊢
  have hr2 := hrs w2 hb2
  clear hhu hsh hrs ho2
  go_wp2_with fail
  refine hr2.mono ?_
  rintro e w3 ⟨v3, rfl, ho3, hb3⟩
  obtain ⟨x3, y3, rfl, hn3, -, -, rd3, -⟩ := ho3.shape
  rw [zs_len] at hn3 ⊢
  have hs := bsame_any x2 x3 y2 y3 T T w3 (rd2.below hb3) rd3 hn2 hn3
  rw [show decide (T = T) = true by simp] at hs
  clear hr2 ho3 rd2 rd3 hn2 hn3
  go_wp2_with fail
  refine hs.mono ?_
  rintro e wn ⟨rfl, hwn⟩
  rw [hwn]
  clear hwn wn hs
  go_wp2_with fail
  refine (live_any _).mono ?_
  rintro e w4 ⟨rfl, hb4⟩
  go_wp2
  go_ret
  exact ⟨rfl, bstep (bstep hb2 hb3) hb4⟩

end Go.Proofs.YtagoilabphmdfaaDoor
