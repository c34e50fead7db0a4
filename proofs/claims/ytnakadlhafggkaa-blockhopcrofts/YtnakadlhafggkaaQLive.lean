/-
  The document's example: live returns true; what num returns; an object of a law's own.
-/
import Derived.Test.YtnakadlhafggkaaQSplitA
import Derived.Test.YtnakadlhafggkaaK1
namespace Go.Proofs.Ytnakadlhafggkaa
open Go.RowKit Go.Maps

theorem num_any (e : Int) (w : World) : Calls Try.prog 12 #[.int .i64 e] w fun x w' => x = .returned (.int .i64 e) ∧ w' = w := by
  go_enter Try.func12, Try.ntmps12
  go_wp2
  go_ret
  exact ⟨rfl, rfl⟩

/-- An object that was made behind w0. -/
structure Ob (w0 w : World) (p : Pp) (gs cap : Nat) (s : St) : Prop where
  at_ : PtS w p gs cap s
  pi : PI p.n s
  lo : ∀ k, p.has gs k → w0.heap.size ≤ k
  bl : Below w0.heap.size w0 w
theorem Ob.of {n : Nat} {w0 w w' : World} {p : Pp} {gs : Nat} (h1 : 1 ≤ n) (hn : p.n = n) (hlo : ∀ k, p.has gs k → w.heap.size ≤ k) (hat : PtS w' p gs 1 (St.start n)) (hb : Below w.heap.size w w') (h0 : Below w0.heap.size w0 w) : Ob w0 w' p gs 1 (St.start n) :=
  ⟨hat, by rw [hn]; exact PI.start h1, fun k hk => Nat.le_trans h0.size (hlo k hk), h0.trans (hb.mono h0.size)⟩
theorem Ob.on {w0 w w' : World} {p : Pp} {gs cap : Nat} {s : St} (h : Ob w0 w p gs cap s) (hb : Below w.heap.size w w') : Ob w0 w' p gs cap s :=
  ⟨PtAt.below h.at_ hb, h.pi, h.lo, h.bl.trans (hb.mono h.bl.size)⟩
theorem Ob.split {w0 w w' : World} {p : Pp} {gs cap gs' cap' : Nat} {s s' : St} {l : List Int} {v : Value} (h : Ob w0 w p gs cap s) (hp : SlPost w p gs s l w' gs' cap' s' v) : Ob w0 w' p gs' cap' s' := by
  have hz := h.bl.size
  refine ⟨hp.at_, hp.pi, fun k hk => ?_, h.bl.trans (hp.bx.below h.lo hz)⟩
  rcases hk with e | e | e | e | e
  · exact h.lo k (.inl e)
  · exact h.lo k (.inr (.inl e))
  · exact h.lo k (.inr (.inr (.inl e)))
  · exact h.lo k (.inr (.inr (.inr (.inl e))))
  · rcases hp.new with d | d
    · exact h.lo k (.inr (.inr (.inr (.inr (e.trans d)))))
    · omega
/-- What lies below stays apart from it. -/
theorem Ob.no {w0 w : World} {p : Pp} {gs cap : Nat} {s : St} (h : Ob w0 w p gs cap s) {k : Nat} (hk : k < w0.heap.size ∨ w.heap.size ≤ k) : ¬ p.has gs k := fun hp => by
  have h1 := h.lo k hp
  have h2 := PtAt.lt h.at_ hp
  omega
theorem lit_at {q : IntKind} {t : TypeId} (w : World) (l : List Int) (cs : Array Value) (hm : l.length ≤ maxLen) (hc : cs.toList = l.map (Value.int q)) : RdL q (w.alloc (.cells cs t)) (some ⟨w.heap.size, 0, none⟩) l := RdL.lit w l cs hm hc

set_option maxRecDepth 100000 in
set_option maxHeartbeats 2000000 in
theorem live_any (w : World) : Calls Try.prog 9 #[] w fun e w' => e = .returned (.bool true) ∧ Below w.heap.size w w' := by
  go_enter Try.func9, Try.ntmps9
  go_wp2_with fail
  refine (new_ok 4 w (by omega) (by omega)).mono ?_
  rintro e w1 ⟨p, gs, rfl, hn, hlo, hat, hb1⟩
  have O1 : Ob w w1 p gs 1 (St.start 4) := Ob.of (by omega) hn hlo hat hb1 (Below.refl _ _)
  have HN := hide hn
  clear hat hlo hb1 hn
  have hbn : p.n ≤ 65536 := by rw [unhide HN]; omega
  have b1 := ballo w1 (.cells #[.int .i64 1, .int .i64 2] 3)
  have S1 := split_ok p gs 1 (St.start 4) (some ⟨w1.heap.size, 0, none⟩) 2 [1, 2] (w1.alloc (.cells #[.int .i64 1, .int .i64 2] 3)) (O1.on b1).at_ O1.pi hbn (by simp) (lit_at w1 [1, 2] _ (by decide) rfl) (fun x e _ => by cases e; exact O1.no (.inr (Nat.le_refl _))) (by rw [unhide HN]; decide)
  have HS1 := hide S1
  have HO1 := hide (O1.on b1)
  clear S1 O1 b1
  go_wp2_with (go_at_call 12; refine (num_any _ _).mono ?_; rintro e w' ⟨rfl, hw'⟩; subst w')
  refine (unhide HS1).mono ?_
  rintro e w2 ⟨gs2, cap2, s2, v2, rfl, hp2⟩
  have O2 := (unhide HO1).split hp2
  have hc2 : tab p.n s2.c = [0, 1, 1, 0] := by rw [hp2.c, unhide HN]; decide
  have hK2 : s2.K = 2 := by rw [hp2.K, unhide HN]; decide
  have hv2 := hp2.own
  rw [unhide HN, show spM (tab 4 (St.start 4).c) [1, 2] (St.start 4).K (St.start 4).K = [1] by decide] at hv2
  obtain ⟨a2, c2, rfl, -, -, -, -, -⟩ := hv2.shape
  have hno2 := hp2.vno
  have A2 := all_any O2.at_ hbn
  rw [hc2] at A2
  have HA2 := hide A2
  have HO2 := hide O2
  have HV2 := hide hv2
  have HNO2 := hide hno2
  have HC2 := hide hc2
  have HK2 := hide hK2
  clear hp2 O2 hc2 hK2 hv2 hno2 A2 HS1 HO1
  go_wp2_with fail
  refine (unhide HA2).mono ?_
  rintro e w3 ⟨v3, rfl, hv3, hb3⟩
  obtain ⟨a3, c3, rfl, -, -, -, -, -⟩ := hv3.shape
  have O3 := (unhide HO2).on hb3
  have hv2' := (unhide HV2).grown hb3
  have b3 := ballo w3 (.cells #[.int .i64 0, .int .i64 1, .int .i64 1] 3)
  have S3 := split_ok p gs2 cap2 s2 (some ⟨w3.heap.size, 0, none⟩) 3 [0, 1, 1] (w3.alloc (.cells #[.int .i64 0, .int .i64 1, .int .i64 1] 3)) (O3.on b3).at_ O3.pi hbn (by simp) (lit_at w3 [0, 1, 1] _ (by decide) rfl) (fun x e _ => by cases e; exact O3.no (.inr (Nat.le_refl _))) (by rw [unhide HN]; decide)
  have h3no : ∀ b, (Value.slice a3 ([0, 1, 1, 0] : List Int).length c3).ownBlock = some b → ¬ p.has gs2 b := fun b e hk => by
    have h1 := (hv3.lt e).1
    have h2 := PtAt.lt (unhide HO2).at_ hk
    omega
  have HO3 := hide (O3.on b3)
  have HS3 := hide S3
  have HV2' := hide (hv2'.grown b3)
  have HV3 := hide (hv3.grown b3)
  have HNO3 := hide h3no
  clear O3 b3 S3 hv2' hv3 h3no hb3 HA2 HO2 HV2
  go_wp2_with fail
  refine (unhide HS3).mono ?_
  rintro e w4 ⟨gs4, cap4, s4, v4, rfl, hp4⟩
  have O4 := (unhide HO3).split hp4
  have hc4 : tab p.n s4.c = [2, 3, 1, 0] := by rw [hp4.c, unhide HC2, unhide HK2]; decide
  have hK4 : s4.K = 4 := by rw [hp4.K, unhide HC2, unhide HK2]; decide
  have hv4 := hp4.own
  rw [unhide HC2, unhide HK2, show spM [0, 1, 1, 0] [0, 1, 1] 2 2 = [2, 3] by decide] at hv4
  obtain ⟨a4, c4, rfl, -, -, -, rv4, -⟩ := hv4.shape
  obtain ⟨_, _, E2, -, -, -, rv2, -⟩ := ((unhide HV2').bx hp4.bx (unhide HNO2)).shape
  cases E2
  obtain ⟨_, _, E3, -, -, -, rv3, -⟩ := ((unhide HV3).bx hp4.bx (unhide HNO3)).shape
  cases E3
  clear hp4 hv4 HS3 HO3 HV2' HV3 HNO2 HNO3 HC2 HK2
  have HO4 := hide O4
  have HC4 := hide hc4
  have HK4 := hide hK4
  clear O4 hc4 hK4
  go_wp2_with (go_at_call 12; refine (num_any _ _).mono ?_; rintro e w' ⟨rfl, hw'⟩; subst w')
  have c4' := ballo w4 (.cells #[.int .i64 1] 3)
  refine (same_list a2 (some ⟨w4.heap.size, 0, none⟩) c2 1 [1] [1] _ (rv2.below c4') (lit_at w4 [1] _ (by decide) rfl) (by decide)).mono ?_
  rw [show decide (([1] : List Int) = [1]) = true from rfl]
  rintro e w5 ⟨rfl, hb5⟩
  have b5 := bstep c4' hb5
  have O5 := (unhide HO4).on b5
  have rv3 := rv3.below b5
  have rv4 := rv4.below b5
  clear rv2 c4' hb5 b5 HO4
  have HO5 := hide O5
  clear O5
  go_wp2_with fail
  have c5 := ballo w5 (.cells #[.int .i64 0, .int .i64 1, .int .i64 1, .int .i64 0] 3)
  refine (same_list a3 (some ⟨w5.heap.size, 0, none⟩) c3 4 [0, 1, 1, 0] [0, 1, 1, 0] _ (rv3.below c5) (lit_at w5 [0, 1, 1, 0] _ (by decide) rfl) (by decide)).mono ?_
  rw [show decide (([0, 1, 1, 0] : List Int) = [0, 1, 1, 0]) = true from rfl]
  rintro e w6 ⟨rfl, hb6⟩
  have b6 := bstep c5 hb6
  have HO6 := hide ((unhide HO5).on b6)
  have rv4 := rv4.below b6
  clear rv3 c5 hb6 b6 HO5
  go_wp2_with fail
  have c6 := ballo w6 (.cells #[.int .i64 2, .int .i64 3] 3)
  refine (same_list a4 (some ⟨w6.heap.size, 0, none⟩) c4 2 [2, 3] [2, 3] _ (rv4.below c6) (lit_at w6 [2, 3] _ (by decide) rfl) (by decide)).mono ?_
  rw [show decide (([2, 3] : List Int) = [2, 3]) = true from rfl]
  rintro e w7 ⟨rfl, hb7⟩
  have O7 := (unhide HO6).on (bstep c6 hb7)
  have A7 := all_any O7.at_ hbn
  rw [unhide HC4] at A7
  have HA7 := hide A7
  have HO7 := hide O7
  clear rv4 c6 hb7 HO6 A7 O7
  go_wp2_with fail
  refine (unhide HA7).mono ?_
  rintro e w8 ⟨v8, rfl, hv8, hb8⟩
  obtain ⟨a8, c8, rfl, -, -, -, rv8, -⟩ := hv8.shape
  have HO8 := hide ((unhide HO7).on hb8)
  clear hv8 hb8 HO7 HA7
  go_wp2_with fail
  have c8' := ballo w8 (.cells #[.int .i64 2, .int .i64 3, .int .i64 1, .int .i64 0] 3)
  refine (same_list a8 (some ⟨w8.heap.size, 0, none⟩) c8 4 [2, 3, 1, 0] [2, 3, 1, 0] _ (rv8.below c8') (lit_at w8 [2, 3, 1, 0] _ (by decide) rfl) (by decide)).mono ?_
  rw [show decide (([2, 3, 1, 0] : List Int) = [2, 3, 1, 0]) = true from rfl]
  rintro e w9 ⟨rfl, hb9⟩
  have O9 := (unhide HO8).on (bstep c8' hb9)
  have N9 := count_any O9.at_
  rw [unhide HK4] at N9
  have HN9 := hide N9
  have HO9 := hide O9
  clear rv8 c8' hb9 HO8 N9 O9
  go_wp2_with fail
  refine (unhide HN9).mono ?_
  rintro e w10 ⟨rfl, rfl⟩
  go_wp2
  go_ret
  exact ⟨rfl, (unhide HO9).bl⟩
end Go.Proofs.Ytnakadlhafggkaa
