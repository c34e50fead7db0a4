/-
  What the reference's Label of layer 9 returns.
-/
import Derived.Test.YtbhdcgebcmgidaaDoorUDotL
import Derived.Test.YtbhdcgebcmgidaaDoorTPut
import Derived.Test.YtbhdcgebcmgidaaDoorTCv
import Derived.Test.YtbhdcgebcmgidaaDoorRShow
import Derived.Test.YtbhdcgebcmgidaaDoorRParse
import Derived.Test.YtbhdcgebcmgidaaDoorBack
namespace Go.Proofs.YtbhdcgebcmgidaaDoor
open Go.RowKit

/-- A number's digits as a string. -/
theorem rnum_any (n : Int) (w : World) (h0 : -9223372036854775808 ≤ n) (h1 : n ≤ 9223372036854775807) :
    Calls Tryd.prog 21 #[.int .i64 n] w fun e w' => e = .returned (.string ⟨(Lib.itoa n).toArray⟩) ∧ Below w.heap.size w w' := by
  go_enter Tryd.func21, Tryd.ntmps21
  go_wp2_with fail
  refine (rput_any (n.natAbs + 1) n w (by omega) h0 h1).mono ?_
  rintro e w1 ⟨v, rfl, ho, hb⟩
  obtain ⟨a, c, rfl, hn, -, -, hr, -⟩ := ho.shape
  rw [zs_len] at hn ⊢
  have hc := conv_rd hr hn
  go_wp2
  go_ret
  exact ⟨rfl, hb⟩

/-- One rune, shown and told. -/
theorem shw_one {names : List Int} {x : Nat} (hx : x < names.length) : shwV names [(x : Int)] = if Lib.validRune (names.getD x 0) = true then (Lib.encodeRune (names.getD x 0), 0) else ([], 1) := by
  unfold shwV
  split
  · rename_i h
    rw [shw_go hx h, List.nil_append]; rfl
  · rename_i h
    exact shw_arg hx (by simpa using h)
theorem prs_one {r : Int} (hv : Lib.validRune r = true) : (prsV ⟨(Lib.encodeRune r).toArray⟩).2.1 = if r < 33 ∨ r = 127 then 20 else 0 := by
  obtain ⟨h1, h2, h3, h4⟩ := dec_enc (s := ⟨(Lib.encodeRune r).toArray⟩) (a := []) (c := []) hv (by simp)
  simp only [List.length_nil] at h1 h2 h3 h4
  have hs : (⟨(Lib.encodeRune r).toArray⟩ : ByteArray).size = (Lib.encodeRune r).length := by simp [ByteArray.size]
  have hp : 0 < (Lib.encodeRune r).length := by omega
  unfold prsV
  rw [if_neg (by omega)]
  obtain ⟨f, hf⟩ : ∃ f, (⟨(Lib.encodeRune r).toArray⟩ : ByteArray).size = f + 1 := ⟨(Lib.encodeRune r).length - 1, by omega⟩
  by_cases hn : r < 33 ∨ r = 127
  · rw [if_pos hn, hf, prs_stop h3]
    · rw [h1, h4]; unfold fltV; simp [noName, hn]; done
    · rw [h1, h4]; unfold fltV; simp [noName, hn]; done
  · have h0 : fltV (brk ⟨(Lib.encodeRune r).toArray⟩ 0) [] (rn ⟨(Lib.encodeRune r).toArray⟩ 0) = 0 := by
      rw [h1, h4]; unfold fltV; simp [noName, hn, plc]; done
    rw [if_neg hn, hf, prs_go h3 h0, h2, prs_end (by omega)]

theorem enc_inj {r q : Int} (hr : Lib.validRune r = true) (hq : Lib.validRune q = true) (h : Lib.encodeRune r = Lib.encodeRune q) : r = q := by
  obtain ⟨h1, -⟩ := dec_enc (s := ⟨(Lib.encodeRune r).toArray⟩) (a := []) (c := []) hr (by simp)
  obtain ⟨h2, -⟩ := dec_enc (s := ⟨(Lib.encodeRune r).toArray⟩) (a := []) (c := []) hq (by simp [h])
  rw [← h1, h2]

set_option maxRecDepth 100000 in
set_option maxHeartbeats 4000000 in
theorem rlabel_any (a : Option Addr) (c : Nat) (names : List Int) (x : Int) (w : World) (hr : RdL .i32 w a names) :
    Calls Tryd.prog 12 #[.slice a names.length c, .int .i64 x] w fun e w' => e = .returned (.tuple #[.string ⟨(lbV names x).1.toArray⟩, .int .i64 (lbV names x).2]) ∧ Below w.heap.size w w' := by
  by_cases h0 : x < 0
  · have H := hide (show lbV names x = ([], 10) by unfold lbV; rw [if_pos (.inl h0)])
    go_enter Tryd.func12, Tryd.ntmps12
    go_wp2
    go_ret2
    rw [unhide H]
    exact ⟨rfl, Below.refl _ _⟩
  by_cases h1 : (names.length : Int) ≤ x
  · have H := hide (show lbV names x = ([], 10) by unfold lbV; rw [if_pos (.inr h1)])
    go_enter Tryd.func12, Tryd.ntmps12
    go_wp2
    go_ret2
    rw [unhide H]
    exact ⟨rfl, Below.refl _ _⟩
  obtain ⟨X, rfl⟩ := Int.eq_ofNat_of_zero_le (show 0 ≤ x by omega)
  have hX : X < names.length := by omega
  have hsw := RShow_any a (some ⟨w.heap.size, 0, none⟩) c 1 names [(X : Int)] (w.alloc (.cells #[.int .i64 (X : Int)] 3)) (hr.below (ballo _ _)) (RdL.one _ _) (by simp)
  rw [shw_one hX] at hsw
  have ba := ballo w (.cells #[.int .i64 (X : Int)] 3)
  have HL : Hid (lbV names (X : Int) = if Lib.validRune (names.getD X 0) = false ∨ names.getD X 0 < 33 ∨ names.getD X 0 = 127 then ([], 20) else if names.getD X 0 = 34 ∨ names.getD X 0 = 92 then ([92] ++ Lib.encodeRune (names.getD X 0), 0) else (Lib.encodeRune (names.getD X 0), 0)) := by
    show _ = _
    unfold lbV
    rw [if_neg (by omega), Int.toNat_natCast]
  have h1' : ¬ ((X : Int) ≥ (names.length : Int)) := by omega
  generalize names.getD X 0 = r at *
  by_cases hv : Lib.validRune r = true
  rotate_left
  · rw [if_neg hv] at hsw
    have H := hide ((unhide HL).trans (if_pos (.inl (by simpa using hv))))
    clear hv HL
    go_enter Tryd.func12, Tryd.ntmps12
    go_wp2_with fail
    refine hsw.mono ?_
    rintro e w1 ⟨rfl, hb1⟩
    go_wp2
    go_ret2
    rw [unhide H]
    exact ⟨rfl, bstep ba hb1⟩
  rw [if_pos hv] at hsw
  have hps := fun wz => RParse_any ⟨(Lib.encodeRune r).toArray⟩ wz (by have : (Lib.encodeRune r).length ≤ 4 := by { unfold Lib.encodeRune; rw [List.length_map]; exact (Lib.encodeRuneZ_length r).2 }; simp [ByteArray.size]; omega)
  rw [prs_one hv] at hps
  by_cases hn : r < 33 ∨ r = 127
  · rw [if_pos hn] at hps
    have H := hide ((unhide HL).trans (if_pos (.inr hn)))
    clear hv HL hn
    go_enter Tryd.func12, Tryd.ntmps12
    go_wp2_with fail
    refine hsw.mono ?_
    rintro e w1 ⟨rfl, hb1⟩
    go_wp2_with fail
    refine (hps w1).mono ?_
    rintro e w2 ⟨v2, rfl, -, hb2⟩
    go_wp2
    go_ret2
    rw [unhide H]
    exact ⟨rfl, bstep (bstep ba hb1) hb2⟩
  rw [if_neg hn] at hps
  have H0 := hide ((unhide HL).trans (if_neg (show ¬ (Lib.validRune r = false ∨ r < 33 ∨ r = 127) by rw [hv]; simpa using hn)))
  by_cases hq : r = 34
  · have H := hide ((unhide H0).trans (if_pos (.inl hq)))
    subst hq
    clear hv HL H0 hn
    have he : Lib.encodeRune 34 = [34] := by decide
    rw [he] at hsw hps H
    go_enter Tryd.func12, Tryd.ntmps12
    go_wp2_with fail
    refine hsw.mono ?_
    rintro e w1 ⟨rfl, hb1⟩
    go_wp2_with fail
    refine (hps w1).mono ?_
    rintro e w2 ⟨v2, rfl, -, hb2⟩
    go_wp2
    go_ret2
    rw [unhide H]
    exact ⟨rfl, bstep (bstep ba hb1) hb2⟩
  by_cases hq2 : r = 92
  · have H := hide ((unhide H0).trans (if_pos (.inr hq2)))
    subst hq2
    clear hv HL H0 hn
    have he : Lib.encodeRune 92 = [92] := by decide
    rw [he] at hsw hps H
    go_enter Tryd.func12, Tryd.ntmps12
    go_wp2_with fail
    refine hsw.mono ?_
    rintro e w1 ⟨rfl, hb1⟩
    go_wp2_with fail
    refine (hps w1).mono ?_
    rintro e w2 ⟨v2, rfl, -, hb2⟩
    go_wp2
    go_ret2
    rw [unhide H]
    exact ⟨rfl, bstep (bstep ba hb1) hb2⟩
  have H := hide ((unhide H0).trans (if_neg (by omega)))
  have n1 : ¬ Lib.encodeRune r = [34] := fun e => hq (enc_inj hv (by decide) (e.trans (by decide)))
  have n2 : ¬ Lib.encodeRune r = [92] := fun e => hq2 (enc_inj hv (by decide) (e.trans (by decide)))
  have b1 : (Lib.encodeRune r == [34]) = false := by simpa using n1
  have b2 : (Lib.encodeRune r == [92]) = false := by simpa using n2
  clear H0 HL hv hn hq hq2
  generalize Lib.encodeRune r = E at *
  go_enter Tryd.func12, Tryd.ntmps12
  go_wp2_with fail
  refine hsw.mono ?_
  rintro e w1 ⟨rfl, hb1⟩
  go_wp2_with fail
  refine (hps w1).mono ?_
  rintro e w2 ⟨v2, rfl, -, hb2⟩
  go_wp2
  go_ret2
  rw [unhide H]
  exact ⟨rfl, bstep (bstep ba hb1) hb2⟩

end Go.Proofs.YtbhdcgebcmgidaaDoor
