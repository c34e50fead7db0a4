/-
  The law CacheBegins, walked: it returns true, whatever comes in.
-/
import Derived.Test.YtemalidanjfmkaaNLive
import Derived.Test.YtemalidanjfmkaaUBeg
import Derived.Test.YtemalidanjfmkaaCLs
import Derived.Test.YtemalidanjfmkaaK5
namespace Go.Proofs.Ytemalidanjfmkaa
open Go.RowKit

set_option maxRecDepth 100000 in
set_option maxHeartbeats 8000000 in
theorem cacheBegins_walk (mb : Bool) (a1 : Option Addr) (c1 : Nat) (l1 : List Int) (a2 : Option Addr) (c2 : Nat) (l2 : List Int) (cut : Int) (w : World) (h1 : ArgL .i64 8 w a1 c1 l1) (h2 : ArgL .i64 8 w a2 c2 l2) (_hc : Fits cut) :
    Calls Try.prog 7 #[.bool mb, .slice a1 l1.length c1, .slice a2 l2.length c2, .int .i64 cut] w fun e w' => e = .returned (.bool true) ∧ Below w.heap.size w w' := by
  have r1 := hide h1.rd
  have r2 := hide h2.rd
  have e1 := h1.le
  have e2 := h2.le
  clear h1 h2 _hc
  by_cases q0 : (l1.length : Int) > 200
  · have t0 : decide ((l1.length : Int) > 200) = true := decide_eq_true q0
    go_enter Try.func7, Try.ntmps7
    go_wp2_with (go_at_call 10; refine (live_any _).mono ?_; rintro e w9 ⟨rfl, hb9⟩)
    go_ret
    exact ⟨rfl, hb9⟩
  have t0 : decide ((l1.length : Int) > 200) = false := decide_eq_false q0
  by_cases q1 : (l1.length : Int) = 0
  · have t1 : ((l1.length : Int) == 0) = true := by rw [q1]; rfl
    go_enter Try.func7, Try.ntmps7
    go_wp2_with (go_at_call 10; refine (live_any _).mono ?_; rintro e w9 ⟨rfl, hb9⟩)
    go_ret
    exact ⟨rfl, hb9⟩
  have t1 : ((l1.length : Int) == 0) = false := beq_eq_false_iff_ne.2 q1
  by_cases q2 : (l2.length : Int) > 300
  · have t2 : decide ((l2.length : Int) > 300) = true := decide_eq_true q2
    go_enter Try.func7, Try.ntmps7
    go_wp2_with (go_at_call 10; refine (live_any _).mono ?_; rintro e w9 ⟨rfl, hb9⟩)
    go_ret
    exact ⟨rfl, hb9⟩
  have t2 : decide ((l2.length : Int) > 300) = false := decide_eq_false q2
  by_cases q3 : cut < 0
  · have t3 : decide (cut < 0) = true := decide_eq_true q3
    go_enter Try.func7, Try.ntmps7
    go_wp2_with (go_at_call 10; refine (live_any _).mono ?_; rintro e w9 ⟨rfl, hb9⟩)
    go_ret
    exact ⟨rfl, hb9⟩
  have t3 : decide (cut < 0) = false := decide_eq_false q3
  by_cases q4 : cut > (l1.length : Int)
  · have t4 : decide (cut > (l1.length : Int)) = true := decide_eq_true q4
    go_enter Try.func7, Try.ntmps7
    go_wp2_with (go_at_call 10; refine (live_any _).mono ?_; rintro e w9 ⟨rfl, hb9⟩)
    go_ret
    exact ⟨rfl, hb9⟩
  have t4 : True := trivial
  obtain ⟨n, rfl⟩ : ∃ n : Nat, cut = n := ⟨cut.toNat, by omega⟩
  have hne : l1.length ≠ 0 := by omega
  have hn1 : n ≤ l1.length := by omega
  have hnc : (n : Int) ≤ (c1 : Int) := by omega
  have HA : Hid (∀ x, a1 = some x → x.block < w.heap.size) := fun x ex => by
    obtain ⟨b', off', e', hc'⟩ := (unhide r1).at (i := 0) (by omega)
    cases ex.symm.trans e'
    exact World.block_lt_of_cell? w _ (hc' 0 (by omega))
  cases mb
  rotate_left
  · have hnw := new_any 2 3 2 500 w
    go_enter Try.func7, Try.ntmps7
    go_wp2_with fail
    refine hnw.mono ?_
    rintro e w1 ⟨hb1, hor1⟩
    obtain ⟨b, g, cap, R, rfl, co1, hb, hg⟩ : ∃ b g cap R, e = .returned (.tuple #[.pointer (some ⟨b, 0, none⟩), .int .i64 0]) ∧ Co w.heap.size w1 b g cap (newV 2 3 2 500) R ∧ w.heap.size ≤ b ∧ w.heap.size ≤ g := by
      rcases hor1 with ⟨h, -⟩ | ⟨-, h⟩
      · exact absurd (by decide : newE 2 3 2 500 = 0) h
      · exact h
    have z1 := hb1.size
    have hpu := put_any a1 c1 l1 a2 c2 l2 co1 ((unhide r1).below hb1) ((unhide r2).below hb1) (by unfold maxLen; omega) (by unfold maxLen; omega) (fun x ex => by have := unhide HA x ex; omega) z1
    have HB1 := hide hb1
    have HC1 := hide co1
    have HZ1 := hide z1
    clear hnw hor1 co1 hb1 z1
    go_wp2_with (first | (go_at_call 13; refine (num_any _ _).mono ?_; rintro e w' ⟨rfl, hw'⟩; subst w') | fail)
    refine hpu.mono ?_
    rintro e w2 ⟨rfl, g2, cap2, R2, co2, bx2, -⟩
    have HX2 := hide bx2
    have HB2 : Hid (Below w.heap.size w w2) := (unhide HB1).trans (bx2.below (fun k hk => by rcases hk with q | q <;> omega) (unhide HZ1))
    clear hpu bx2
    obtain ⟨C2, hC2⟩ : ∃ C, C = putV (newV 2 3 2 500) l1 l2 := ⟨_, rfl⟩
    rw [← hC2] at co2 ⊢
    obtain ⟨E2, hE2⟩ : ∃ E, E = C2.2 := ⟨_, rfl⟩
    rw [← hE2]
    by_cases z2 : E2 = 0
    rotate_left
    · have hno := nodes_any co2
      rw [hC2, beg_none (by rw [← hC2, ← hE2]; exact z2)] at hno
      have HC2 := hide hC2
      clear hC2 co2 hE2
      go_wp2_with (first | (go_at_call 13; refine (num_any _ _).mono ?_; rintro e w' ⟨rfl, hw'⟩; subst w') | (go_at_call 21; refine hno.mono ?_; rintro e w' ⟨rfl, hw'⟩; subst w') | (go_at_call 10; refine (live_any _).mono ?_; rintro e w9 ⟨rfl, hb9⟩))
      go_ret
      exact ⟨rfl, bstep (unhide HB2) hb9⟩
    subst z2
    have hp0 : (putV (newV 2 3 2 500) l1 l2).2 = 0 := by rw [← hC2, ← hE2]
    have rt : RdL .i64 w2 a1 (l1.take n) := (((unhide r1).below (unhide HB1)).bx (unhide HX2) fun x ex => by have := unhide HA x ex; rintro (q | q) <;> omega).take n
    have hgt := get_any a1 c1 (l1.take n) co2 rt (by rw [List.length_take]; omega) (by rw [hC2, (put_ok hp0).1]; show (0 : Int) ≤ 0; decide) (by rw [hC2, (put_ok hp0).1]; show (0 : Int) ≤ 1000000000; decide) (by rw [hC2, (put_ok hp0).1]; show (0 : Int) ≤ 0; decide) (by rw [hC2, (put_ok hp0).1]; show (0 : Int) ≤ 1000000000; decide)
    rw [List.length_take, Nat.min_eq_left hn1] at hgt
    have HP0 := hide hp0
    have HC2 := hide hC2
    clear hC2 co2 hE2 hp0 rt
    go_wp2_with (first | (go_at_call 13; refine (num_any _ _).mono ?_; rintro e w' ⟨rfl, hw'⟩; subst w') | fail)
    refine hgt.mono ?_
    rintro e w3 ⟨co3, bx3, v3, rfl, ho3⟩
    have HB3 : Hid (Below w.heap.size w w3) := (unhide HB2).trans (bx3.below (fun k hk => by cases hk; exact hb) (unhide HB2).size)
    have hno := nodes_any co3
    rw [getV_bg, unhide HC2, beg_nodes (unhide HP0)] at hno
    clear hgt
    have hfi : findV C2.1 (l1.take n) = some (l2.take n) := by rw [unhide HC2]; exact find_beg (Pcs.new (by decide)) (unhide HP0) rfl hn1
    have hl2 : l2.length = l1.length := by
      rcases chk_out (put_ok (unhide HP0)).2.2.1 with ⟨q, -⟩ | ⟨-, q⟩
      · exact absurd q (by decide : (2 : Int) ≠ 1)
      · exact q
    rw [hfi] at ho3 ⊢
    obtain ⟨av, cv, rfl, -, -, -, hrv, -⟩ := ho3.shape
    have r2t : RdL .i64 w3 a2 (l2.take n) := ((unhide r2).below (unhide HB3)).take n
    have hsm := same_list av a2 cv c2 (l2.take n) (l2.take n) w3 hrv r2t (by rw [List.length_take]; unfold maxLen; omega)
    rw [decide_eq_true rfl] at hsm
    have hnl : (l2.take n).length = n := by rw [List.length_take]; omega
    simp only [Option.getD_some, hnl, Option.isSome_some] at hsm ⊢
    have hnc2 : (n : Int) ≤ (c2 : Int) := by omega
    have HH : Hid (∀ w4, Below w3.heap.size w3 w4 → Calls Try.prog 21 #[.pointer (some ⟨b, 0, none⟩)] w4 fun e w' => e = .returned (.int .i64 ((l1.length + 1 : Nat) : Int)) ∧ w' = w4) := fun w4 h4 => by
      have := nodes_any (co3.below h4)
      rwa [getV_bg, unhide HC2, beg_nodes (unhide HP0)] at this
    clear hno hfi hl2 ho3 hrv r2t co3 bx3 hnl
    go_wp2_with (first | (go_at_call 19; refine hsm.mono ?_; rintro e w4 ⟨rfl, hb4⟩) | (go_at_call 21; refine (unhide HH _ hb4).mono ?_; rintro e w' ⟨rfl, hw'⟩; subst w') | (go_at_call 10; refine (live_any _).mono ?_; rintro e w9 ⟨rfl, hb9⟩))
    go_ret
    exact ⟨rfl, bstep (bstep (unhide HB3) hb4) hb9⟩
  
  
  · have hnw := new_any 1 3 2 500 w
    go_enter Try.func7, Try.ntmps7
    go_wp2_with fail
    refine hnw.mono ?_
    rintro e w1 ⟨hb1, hor1⟩
    obtain ⟨b, g, cap, R, rfl, co1, hb, hg⟩ : ∃ b g cap R, e = .returned (.tuple #[.pointer (some ⟨b, 0, none⟩), .int .i64 0]) ∧ Co w.heap.size w1 b g cap (newV 1 3 2 500) R ∧ w.heap.size ≤ b ∧ w.heap.size ≤ g := by
      rcases hor1 with ⟨h, -⟩ | ⟨-, h⟩
      · exact absurd (by decide : newE 1 3 2 500 = 0) h
      · exact h
    have z1 := hb1.size
    have hpu := put_any a1 c1 l1 a2 c2 l2 co1 ((unhide r1).below hb1) ((unhide r2).below hb1) (by unfold maxLen; omega) (by unfold maxLen; omega) (fun x ex => by have := unhide HA x ex; omega) z1
    have HB1 := hide hb1
    have HC1 := hide co1
    have HZ1 := hide z1
    clear hnw hor1 co1 hb1 z1
    go_wp2_with (first | (go_at_call 13; refine (num_any _ _).mono ?_; rintro e w' ⟨rfl, hw'⟩; subst w') | fail)
    refine hpu.mono ?_
    rintro e w2 ⟨rfl, g2, cap2, R2, co2, bx2, -⟩
    have HX2 := hide bx2
    have HB2 : Hid (Below w.heap.size w w2) := (unhide HB1).trans (bx2.below (fun k hk => by rcases hk with q | q <;> omega) (unhide HZ1))
    clear hpu bx2
    obtain ⟨C2, hC2⟩ : ∃ C, C = putV (newV 1 3 2 500) l1 l2 := ⟨_, rfl⟩
    rw [← hC2] at co2 ⊢
    obtain ⟨E2, hE2⟩ : ∃ E, E = C2.2 := ⟨_, rfl⟩
    rw [← hE2]
    by_cases z2 : E2 = 0
    rotate_left
    · have hno := nodes_any co2
      rw [hC2, beg_none (by rw [← hC2, ← hE2]; exact z2)] at hno
      have HC2 := hide hC2
      clear hC2 co2 hE2
      go_wp2_with (first | (go_at_call 13; refine (num_any _ _).mono ?_; rintro e w' ⟨rfl, hw'⟩; subst w') | (go_at_call 21; refine hno.mono ?_; rintro e w' ⟨rfl, hw'⟩; subst w') | (go_at_call 10; refine (live_any _).mono ?_; rintro e w9 ⟨rfl, hb9⟩))
      go_ret
      exact ⟨rfl, bstep (unhide HB2) hb9⟩
    subst z2
    have hp0 : (putV (newV 1 3 2 500) l1 l2).2 = 0 := by rw [← hC2, ← hE2]
    have rt : RdL .i64 w2 a1 (l1.take n) := (((unhide r1).below (unhide HB1)).bx (unhide HX2) fun x ex => by have := unhide HA x ex; rintro (q | q) <;> omega).take n
    have hgt := get_any a1 c1 (l1.take n) co2 rt (by rw [List.length_take]; omega) (by rw [hC2, (put_ok hp0).1]; show (0 : Int) ≤ 0; decide) (by rw [hC2, (put_ok hp0).1]; show (0 : Int) ≤ 1000000000; decide) (by rw [hC2, (put_ok hp0).1]; show (0 : Int) ≤ 0; decide) (by rw [hC2, (put_ok hp0).1]; show (0 : Int) ≤ 1000000000; decide)
    rw [List.length_take, Nat.min_eq_left hn1] at hgt
    have HP0 := hide hp0
    have HC2 := hide hC2
    clear hC2 co2 hE2 hp0 rt
    go_wp2_with (first | (go_at_call 13; refine (num_any _ _).mono ?_; rintro e w' ⟨rfl, hw'⟩; subst w') | fail)
    refine hgt.mono ?_
    rintro e w3 ⟨co3, bx3, v3, rfl, ho3⟩
    have HB3 : Hid (Below w.heap.size w w3) := (unhide HB2).trans (bx3.below (fun k hk => by cases hk; exact hb) (unhide HB2).size)
    have hno := nodes_any co3
    rw [getV_bg, unhide HC2, beg_nodes (unhide HP0)] at hno
    clear hgt
    have hfi : (findV C2.1 (l1.take n)).isSome = decide (n = l1.length) := by rw [unhide HC2]; exact beg_dfa (unhide HP0) hn1
    rw [hfi]
    have hde : decide (n = l1.length) = decide ((n : Int) = (l1.length : Int)) := decide_eq_decide.2 (by omega)
    rw [hde]
    clear hfi ho3 co3 bx3 hde
    go_wp2_with (first | (go_at_call 21; refine hno.mono ?_; rintro e w' ⟨rfl, hw'⟩; subst w') | (go_at_call 10; refine (live_any _).mono ?_; rintro e w9 ⟨rfl, hb9⟩))
    go_ret
    exact ⟨rfl, bstep (unhide HB3) hb9⟩
end Go.Proofs.Ytemalidanjfmkaa
