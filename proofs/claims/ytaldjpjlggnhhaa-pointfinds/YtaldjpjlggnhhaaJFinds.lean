/-
  The law PointFinds, walked: it returns true, whatever comes in.
-/
import Derived.Test.YtaldjpjlggnhhaaJSteps
import Derived.Test.YtaldjpjlggnhhaaArgBl
import Derived.Test.YtaldjpjlggnhhaaK1
namespace Go.Proofs.Ytaldjpjlggnhhaa
set_option linter.unusedVariables false
open Go.RowKit

/-- What is known of each place: 1 no, 2 yes, 0 not asked. -/
structure Jf (N : Nat) (w0 w : World) (b g : Nat) (s : Sc) (f : Nat → Int) : Prop where
  sx : Sx N w b s
  ow : Own w w0.heap.size (.slice (some ⟨g, 0, none⟩) (N + 1) (N + 1)) (N + 1) f
  lo : f s.low = 1
  hi : f s.high = 2
  mid : ∀ j, s.low < j → j < s.high → f j = 0
  bl : Below w0.heap.size w0 w
  hb : w0.heap.size ≤ b
  ne : b ≠ g
theorem Jf.below {N : Nat} {w0 w w' : World} {b g : Nat} {s : Sc} {f : Nat → Int} (h : Jf N w0 w b g s f) (hb : Below w.heap.size w w') : Jf N w0 w' b g s f :=
  ⟨h.sx.below hb, h.ow.keep fun k e => hb.block k (h.ow.lt e).2, h.lo, h.hi, h.mid, bstep h.bl hb, h.hb, h.ne⟩
theorem Jf.cells {N : Nat} {w0 w : World} {b g : Nat} {s : Sc} {f : Nat → Int} (h : Jf N w0 w b g s f) : w0.heap.size ≤ g ∧ (∀ i, i < N + 1 → w.cell? ⟨g, i, none⟩ = some (.int .i64 (f i))) ∧ ∀ i, w.frozen? ⟨g, i, none⟩ = false := by
  obtain ⟨g', cap, e, h1, h2, h3, h4, h5, h6⟩ := h.ow.pos (by omega)
  cases e
  exact ⟨h3, h5, h6⟩
/-- Behind a Tell, the place noted. -/
theorem Jf.put {N : Nat} {w0 w W : World} {b g : Nat} {s : Sc} {f : Nat → Int} (h : Jf N w0 w b g s f) {i : Nat} (V : Bool) (hm : s.low < i ∧ i < s.high) (sx : Sx N W b (s.put i V)) (hx : Bx (· = b) w W) {W' : World} {f' : Nat → Int}
    (hW : Bk W b (sxC (s.put i V)) 57 → Bk W' b (sxC (s.put i V)) 57) (hO : Own W' w0.heap.size (.slice (some ⟨g, 0, none⟩) (N + 1) (N + 1)) (N + 1) f') (hB : Below w0.heap.size w0 W') (hf : ∀ j, f' j = if j = i then (if V then 2 else 1) else f j) :
    Jf N w0 W' b g (s.put i V) f' := by
  have e1 := h.lo
  have e2 := h.hi
  refine ⟨⟨hW sx.o, sx.ok, sx.le, sx.hw, sx.ms⟩, hO, ?_, ?_, ?_, hB, h.hb, h.ne⟩
  · show f' (if V = true then s.low else i) = 1
    rw [hf]
    cases V with
    | true => simp; rw [if_neg (by omega)]; exact e1
    | false => simp
  · show f' (if V = true then i else s.high) = 2
    rw [hf]
    cases V with
    | true => simp
    | false => simp; rw [if_neg (by omega)]; exact e2
  · intro j h1 h2
    have h1' : (if V = true then s.low else i) < j := h1
    have h2' : j < (if V = true then i else s.high) := h2
    rw [hf, if_neg (by cases V <;> simp at h1' h2' <;> omega)]
    exact h.mid j (by cases V <;> simp at h1' h2' <;> omega) (by cases V <;> simp at h1' h2' <;> omega)

set_option maxRecDepth 100000 in
set_option maxHeartbeats 8000000 in
theorem pointFinds_walk (how n : Int) (a : Option Addr) (c : Nat) (l : List Bool) (w : World) (hh : (Lit.int .u8 how).wf = true) (_ : Fits n) (h : ArgBl w a c l) :
    Calls Try.prog 5 #[.int .u8 how, .int .i64 n, .slice a l.length c] w fun e w' => e = .returned (.bool true) ∧ Below w.heap.size w w' := by
  obtain ⟨r, hr, hr2, h0, h255⟩ := byte3 hh
  have hrd := h.rd
  have hmx : l.length ≤ maxLen := Nat.le_trans h.le h.max
  clear h
  by_cases g : n < 1 ∨ n > 300
  · have gg : decide (n < 1) = true ∨ decide (n < 1) = false ∧ decide (n > 300) = true := by
      simp only [decide_eq_true_eq, decide_eq_false_iff_not]; omega
    clear g hh hrd hmx
    rcases gg with t0 | ⟨t0, t1⟩
    all_goals
      go_enter Try.func5, Try.ntmps5
      go_wp2_with (go_at_call 11; refine (jlive_any _).mono ?_; rintro e w9 ⟨rfl, hb9⟩)
      go_ret
      exact ⟨rfl, hb9⟩
  have t0 : decide (n < 1) = false := decide_eq_false (by omega)
  have t1 : decide (n > 300) = false := decide_eq_false (by omega)
  obtain ⟨N, rfl⟩ := Int.eq_ofNat_of_zero_le (show 0 ≤ n by omega)
  have hN : N ≤ 300 := by omega
  have hN1 : 1 ≤ N := by omega
  have hnw := snew_any (1 + (r : Int)) (N : Int) w
  have hz : nwE (1 + (r : Int)) (N : Int) = 0 := by unfold nwE; rw [if_neg (by omega), if_neg (by omega)]
  have HR3 : Hid (1 + (r : Int) = 1 ∨ 1 + (r : Int) = 2 ∨ 1 + (r : Int) = 3) := by show _ ∨ _ ∨ _; omega
  clear g hh t0 t1
  have t0 : decide ((N : Int) < 1) = false := decide_eq_false (by omega)
  have t1 : decide ((N : Int) > 300) = false := decide_eq_false (by omega)
  go_enter Try.func5, Try.ntmps5
  go_wp2_with fail
  refine hnw.mono ?_
  rintro e w1 (⟨hne, -⟩ | ⟨-, H, N', hH, hN', rfl, sx, b1⟩)
  · exact absurd hz hne
  obtain rfl : N' = N := by omega
  have HH : Hid (1 + (r : Int) = (H : Int)) := hH
  have hbl := sx.blt
  have hz1 := b1.size
  have HSX := hide sx
  have HB1 := hide b1
  clear sx b1 hnw hz hN' hr h0 h255 hr2 hH
  generalize 1 + (r : Int) = HI at *
  go_wp2_with (first | (go_at_call 10; refine (jnum_any _ _).mono ?_; rintro e w' ⟨rfl, hw'⟩; subst w') | (at_make; refine wpl_make rfl (.tmp 42) (.tmp 42) rfl w.heap.size _ _ (N' + 1) rfl rfl rfl rfl (by omega) hz1 ?_; intro w2 own2 b2 gr2; obtain ⟨g', cap', e', -, -, -, hg2, hc2, hf2⟩ := own2.pos (by omega); cases e'; have f0 := hf2 0; have fN := hf2 N'; have c0 := hc2 0 (by omega); have cN := hc2 N' (by omega); have fN' : (w2.setCell ⟨w1.heap.size, 0, none⟩ (.int .i64 1)).frozen? ⟨w1.heap.size, N', none⟩ = false := (by rw [World.frozen?_setCell]; exact fN); have cN' : (w2.setCell ⟨w1.heap.size, 0, none⟩ (.int .i64 1)).cell? ⟨w1.heap.size, N', none⟩ = some (.int .i64 0) := (World.cell?_setCell_other (w := w2) (a := ⟨w1.heap.size, 0, none⟩) (b := ⟨w1.heap.size, N', none⟩) (v := .int .i64 1) (h := fun e => by injection e with _ e2 _; omega)).trans cN; have HOW := hide own2; have HB2 := hide b2; have HG2 := hide gr2; clear own2 b2 gr2 hc2 hf2) | fail)
  have HJ : Hid (Jf N' w ((w2.setCell ⟨w1.heap.size, 0, none⟩ (.int .i64 1)).setCell ⟨w1.heap.size, N', none⟩ (.int .i64 2)) w.heap.size w1.heap.size (Sc.new H N') (setF N' 2 (setF 0 1 (fun _ => 0)))) := by
    have hb2 : Below w1.heap.size w1 w2 := (Below.refl _ _).grown (unhide HG2) (Nat.le_refl _) fun k hk => by cases hk
    have sx2 := (unhide HSX).below hb2
    have ne : w.heap.size ≠ w1.heap.size := by omega
    refine ⟨⟨(sx2.o.other ⟨w1.heap.size, 0, none⟩ ne _).other ⟨w1.heap.size, N', none⟩ ne _, sx2.ok, sx2.le, sx2.hw, sx2.ms⟩, ((unhide HOW).store 0 1).store N' 2, ?_, ?_, ?_, ?_, Nat.le_refl _, ne⟩
    · show setF N' 2 (setF 0 1 (fun _ => 0)) 0 = 1
      unfold setF
      rw [if_neg (by omega), if_pos rfl]
    · show setF N' 2 (setF 0 1 (fun _ => 0)) N' = 2
      unfold setF
      rw [if_pos rfl]
    · intro j h1 h2
      have h1' : 0 < j := h1
      have h2' : j < N' := h2
      unfold setF
      rw [if_neg (by omega), if_neg (by omega)]
    · exact ((bstep (unhide HB1) hb2).setCell (p := ⟨w1.heap.size, 0, none⟩) hz1 _).setCell (p := ⟨w1.heap.size, N', none⟩) hz1 _
  have HA0 : Hid ((Sc.new H N').asked = 0 ∧ (Sc.new H N').how = H) := ⟨rfl, rfl⟩
  generalize (Sc.new H N') = s0 at *
  generalize setF N' 2 (setF 0 1 (fun _ => 0)) = f00 at HJ
  generalize w.heap.size = b at HJ ⊢
  generalize w1.heap.size = gb at *
  clear hbl hz1 HSX HB1 f0 fN c0 cN fN' cN' HOW HB2 HG2 hg2
  go_loopw [11] (fun v wr => ∃ (t : Nat) (s : Sc) (f : Nat → Int), v = .int .i64 (t : Int) ∧ t + 1 ≤ N' ∧ Hid (t = s.asked ∧ s.how = H) ∧ Hid (Jf N' w wr b gb s f)) (fun v _ => N' - (intOf v).toNat)
  case atStart => exact ⟨0, s0, f00, rfl, by omega, ⟨(unhide HA0).1.symm, (unhide HA0).2⟩, HJ⟩
  case round =>
    obtain ⟨t, s, f, rfl, htN, HTS, HZ⟩ := hrel
    clear HJ HA0
    have hlt : (t : Int) ≤ (N' : Int) := by omega
    have hask := ask_any (unhide HZ).sx
    cases hi : s.ask with
    | none =>
      rw [hi] at hask
      unfold oaV at hask
      have HI2 := hide hi
      clear hi
      go_wp2_with fail
      refine hask.mono ?_
      rintro e w3 ⟨rfl, hb3⟩
      have Z3 := (unhide HZ).below hb3
      have hfd := found_any Z3.sx
      have hend := Sc.ended Z3.sx.ok (unhide HI2)
      unfold fndV at hfd
      rw [if_pos hend] at hfd
      have HB3 := hide Z3.bl
      have hlo : s.low < N' := by have := Z3.sx.ok.le; omega
      have hC : ∀ q i, i < N' + 1 → (w3.drewN q).cell? ⟨gb, i, none⟩ = some (.int .i64 (f i)) := fun q i hi => Z3.cells.2.1 i hi
      have c1 : ∀ q, (w3.drewN q).cell? ⟨gb, s.low, none⟩ = some (.int .i64 1) := fun q => by rw [hC q _ (by omega), Z3.lo]
      have c2 : ∀ q, (w3.drewN q).cell? ⟨gb, s.low + 1, none⟩ = some (.int .i64 2) := fun q => by rw [hC q _ (by omega), ← hend, Z3.hi]
      have HAK : Hid (∀ q, Calls Try.prog 15 #[.pointer (some ⟨b, 0, none⟩)] (w3.drewN q) fun e w' => e = .returned (.int .i64 (s.asked : Int)) ∧ w' = w3.drewN q) := fun q => asked_any (Z3.sx.below (below_drewN (Below.refl _ _) q))
      have HME := hide (Sc.most_end hN1 Z3.sx.ok Z3.sx.ms)
      have hasl : s.asked ≤ N' := by have := Z3.sx.ok.sum; omega
      generalize s.low = lo at *
      clear hC Z3 hend hask HI2 HZ hb3
      have HAN := unhide HH
      rcases unhide HR3 with rfl | rfl | rfl
      · have ha : s.asked + 1 ≤ N' := by have := (unhide HME).1 (by have := (unhide HTS).2; omega); omega
        generalize s.asked = ak at *
        clear HME HTS HAN HH HR3
        go_wp2_with (first | (go_at_call 14; refine hfd.mono ?_; rintro e w4 ⟨rfl, q, hw4⟩; subst w4) | (go_at_call 15; refine (unhide HAK q).mono ?_; rintro e w5 ⟨rfl, hw5⟩; subst w5) | (go_at_call 11; refine (jlive_any _).mono ?_; rintro e w9 ⟨rfl, hb9⟩))
        go_ret
        exact ⟨rfl, bstep (below_drewN (unhide HB3) q) hb9⟩
      · have ha : s.asked ≤ dgN (N' - 1) := (unhide HME).2.1 (by have := (unhide HTS).2; omega)
        have hD : ∀ W, Calls Try.prog 19 #[.int .i64 ((N' : Int) - 1)] W fun e w' => e = .returned (.int .i64 (dgN (N' - 1) : Int)) ∧ w' = W := fun W => by
          have := digits_any (N' - 1) W (by omega)
          rwa [show ((N' - 1 : Nat) : Int) = (N' : Int) - 1 by omega] at this
        have hdl : dgN (N' - 1) ≤ 20 := Nat.le_trans (dgN_mono (show N' - 1 ≤ 300 by omega)) (dgN_lt (by decide))
        generalize dgN (N' - 1) = D at *
        generalize s.asked = ak at *
        clear HME HTS HAN HH HR3
        go_wp2_with (first | (go_at_call 14; refine hfd.mono ?_; rintro e w4 ⟨rfl, q, hw4⟩; subst w4) | (go_at_call 19; refine (hD _).mono ?_; rintro e wd ⟨rfl, hwd⟩; subst wd) | (go_at_call 15; refine (unhide HAK q).mono ?_; rintro e w5 ⟨rfl, hw5⟩; subst w5) | (go_at_call 11; refine (jlive_any _).mono ?_; rintro e w9 ⟨rfl, hb9⟩))
        go_ret
        exact ⟨rfl, bstep (below_drewN (unhide HB3) q) hb9⟩
      · have ha : s.asked ≤ 2 * dgN N' + 1 := (unhide HME).2.2 (by have := (unhide HTS).2; omega)
        have hD : ∀ W, Calls Try.prog 19 #[.int .i64 (N' : Int)] W fun e w' => e = .returned (.int .i64 (dgN N' : Int)) ∧ w' = W := fun W => digits_any N' W (by omega)
        have hdl : dgN N' ≤ 20 := Nat.le_trans (dgN_mono (show N' ≤ 300 by omega)) (dgN_lt (by decide))
        generalize dgN N' = D at *
        generalize s.asked = ak at *
        clear HME HTS HAN HH HR3
        go_wp2_with (first | (go_at_call 14; refine hfd.mono ?_; rintro e w4 ⟨rfl, q, hw4⟩; subst w4) | (go_at_call 19; refine (hD _).mono ?_; rintro e wd ⟨rfl, hwd⟩; subst wd) | (go_at_call 15; refine (unhide HAK q).mono ?_; rintro e w5 ⟨rfl, hw5⟩; subst w5) | (go_at_call 11; refine (jlive_any _).mono ?_; rintro e w9 ⟨rfl, hb9⟩))
        go_ret
        exact ⟨rfl, bstep (below_drewN (unhide HB3) q) hb9⟩
    | some i =>
      rw [hi] at hask
      unfold oaV at hask
      have HI2 := hide hi
      clear hi
      go_wp2_with fail
      refine hask.mono ?_
      rintro e w3 ⟨rfl, hb3⟩
      have Z3 := (unhide HZ).below hb3
      have HZ3 := hide Z3
      have hm := Z3.sx.ok.mid (unhide HI2)
      have hn := Z3.sx.ok.le
      have hlow0 : 0 < i := by omega
      have hiN : i < N' := by omega
      have HM := hide hm
      have c1 : w3.cell? ⟨gb, i, none⟩ = some (.int .i64 0) := by rw [Z3.cells.2.1 i (by omega), Z3.mid i hm.1 hm.2]
      have htl := tell_put Z3.sx (tdV l i) (unhide HI2)
      have ht1 : Hid (∀ wz, Below w.heap.size w wz → Calls Try.prog 17 #[.slice a l.length c, .int .i64 (i : Int)] wz fun e w' => e = .returned (.bool (tdV l i)) ∧ w' = wz) := fun wz hz => told_any a c l i wz (hrd.below hz) hmx (by omega)
      have ht3 := unhide ht1 w3 Z3.bl
      generalize hV : tdV l i = V at *
      clear Z3 hask HZ hb3 hm hn
      go_wp2_with (first | (go_at_call 17; refine ht3.mono ?_; rintro e w' ⟨rfl, hw'⟩; subst w') | fail)
      refine htl.mono ?_
      rintro e w4 ⟨rfl, sx4, x4⟩
      have B4 : Below w.heap.size w w4 := (unhide HZ3).bl.trans (x4.below (fun k hk => by cases hk; exact (unhide HZ3).hb) (unhide HZ3).bl.size)
      have O4 : Own w4 w.heap.size (.slice (some ⟨gb, 0, none⟩) (N' + 1) (N' + 1)) (N' + 1) f := (unhide HZ3).ow.keep fun k e => by
        cases e
        exact x4.block gb ((unhide HZ3).ow.lt rfl).2 (fun e => (unhide HZ3).ne e.symm)
      obtain ⟨g', cap', e', -, -, -, hg4, hc4, hf4⟩ := O4.pos (by omega)
      cases e'
      have f4 := hf4 i
      have c4 := hc4 i (by omega)
      have hB5 := B4.setCell (p := ⟨gb, i, none⟩) (unhide HZ3).cells.1 (.int .i64 1)
      have ht5 := unhide ht1 _ hB5
      have O5 := O4.store i 1
      have f5 : (w4.setCell ⟨gb, i, none⟩ (.int .i64 1)).frozen? ⟨gb, i, none⟩ = false := by rw [World.frozen?_setCell]; exact f4
      have c5 : (w4.setCell ⟨gb, i, none⟩ (.int .i64 1)).cell? ⟨gb, i, none⟩ = some (.int .i64 1) := World.cell?_setCell_same _ _ _ c4
      have HAS : Hid ((s.put i V).asked = s.asked + 1 ∧ (s.put i V).how = s.how) := ⟨rfl, rfl⟩
      have hle : (s.put i V).asked + 1 ≤ N' := by have := sx4.ok.sum; have := sx4.ok.lt; omega
      have HLE := hide hle
      have hgb := (unhide HZ3).cells.1
      have HF1 : Hid (V = false → Jf N' w (w4.setCell ⟨gb, i, none⟩ (.int .i64 1)) b gb (s.put i V) (setF i 1 f)) := fun hv => by
        refine (unhide HZ3).put V (unhide HM) sx4 x4 (fun h => h.other ⟨gb, i, none⟩ (unhide HZ3).ne _) O5 hB5 fun j => ?_
        unfold setF; rw [hv]; simp
      have HF2 : Hid (V = true → Jf N' w ((w4.setCell ⟨gb, i, none⟩ (.int .i64 1)).setCell ⟨gb, i, none⟩ (.int .i64 2)) b gb (s.put i V) (setF i 2 (setF i 1 f))) := fun hv => by
        refine (unhide HZ3).put V (unhide HM) sx4 x4 (fun h => (h.other ⟨gb, i, none⟩ (unhide HZ3).ne _).other ⟨gb, i, none⟩ (unhide HZ3).ne _) (O5.store i 2) (hB5.setCell (p := ⟨gb, i, none⟩) hgb _) fun j => ?_
        unfold setF; rw [hv]
        by_cases e : j = i
        · simp [e]
        · simp [e]
      generalize s.put i V = sp at *
      clear sx4 x4 htl HZ3 hle HI2 O4 O5 hc4 hf4 hg4 B4 hB5 hgb ht1
      cases V with
      | true =>
        go_wp2_with (first | (go_at_call 10; refine (jnum_any _ _).mono ?_; rintro e w' ⟨rfl, hw'⟩; subst w') | (go_at_call 17; refine ht5.mono ?_; rintro e w' ⟨rfl, hw'⟩; subst w'))
        go_roundw
        case rel => exact ⟨t + 1, sp, _, by go_num, by have := unhide HAS; have := unhide HTS; have := unhide HLE; omega, ⟨by have := unhide HAS; have := unhide HTS; omega, by have := unhide HAS; have := unhide HTS; omega⟩, unhide HF2 trivial⟩
        case measure => simp [intOf]; omega
      | false =>
        go_wp2_with (first | (go_at_call 10; refine (jnum_any _ _).mono ?_; rintro e w' ⟨rfl, hw'⟩; subst w') | (go_at_call 17; refine ht5.mono ?_; rintro e w' ⟨rfl, hw'⟩; subst w'))
        go_roundw
        case rel => exact ⟨t + 1, sp, _, by go_num, by have := unhide HAS; have := unhide HTS; have := unhide HLE; omega, ⟨by have := unhide HAS; have := unhide HTS; omega, by have := unhide HAS; have := unhide HTS; omega⟩, unhide HF1 trivial⟩
        case measure => simp [intOf]; omega

end Go.Proofs.Ytaldjpjlggnhhaa
