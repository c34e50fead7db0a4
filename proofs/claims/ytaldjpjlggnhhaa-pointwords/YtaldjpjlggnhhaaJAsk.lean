/-
  The program's Ask: the three ways.
-/
import Derived.Test.YtaldjpjlggnhhaaJObj
namespace Go.Proofs.Ytaldjpjlggnhhaa
open Go.RowKit

def oaV (o : Option Nat) : Value := match o with
  | some i => .tuple #[.int .i64 (i : Int), .bool true]
  | none => .tuple #[.int .i64 0, .bool false]

theorem ask_nil (w : World) : Calls Try.prog 12 #[.pointer none] w fun e w' => e = .returned (oaV none) ∧ w' = w := by
  go_enter Try.func12, Try.ntmps12
  go_wp2_with (go_at_call 29; refine (isMade_nil _).mono ?_; rintro e w1 ⟨rfl, rfl⟩)
  go_ret2
  exact ⟨rfl, rfl⟩
theorem ask_end {n : Nat} {w : World} {b : Nat} {s : Sc} (h : Sx n w b s) (hi : s.high = s.low + 1) :
    Calls Try.prog 12 #[.pointer (some ⟨b, 0, none⟩)] w fun e w' => e = .returned (oaV none) ∧ Below w.heap.size w w' := by
  have hmd := isMade_any h
  have hed := hasEnded_any h
  rw [decide_eq_true hi] at hed
  clear hi h
  go_enter Try.func12, Try.ntmps12
  go_wp2_with (first | (go_at_call 29; refine hmd.mono ?_; rintro e w1 ⟨rfl, hw1⟩; subst w1) | (go_at_call 30; refine hed.mono ?_; rintro e w2 ⟨rfl, q, hw2⟩; subst w2))
  go_ret2
  exact ⟨rfl, below_drewN (Below.refl _ _) q⟩

set_option maxRecDepth 100000 in
set_option maxHeartbeats 2000000 in
theorem ask_lin {n : Nat} {w : World} {b : Nat} {s : Sc} (h : Sx n w b s) (i : Nat) (hw : wyV s = .iface 61 (.agg #[]))
    (hc : ∀ w, Calls Try.prog 52 #[(.agg #[]), .int .i64 (s.low : Int), .int .i64 (s.high : Int)] w fun e w' => e = .returned (.int .i64 (i : Int)) ∧ Below w.heap.size w w') (hi : s.high ≠ s.low + 1) :
    Calls Try.prog 12 #[.pointer (some ⟨b, 0, none⟩)] w fun e w' => e = .returned (oaV (some i)) ∧ Below w.heap.size w w' := by
  have hm := fun v w => methL v w
  have hmd := isMade_any h
  have hed := hasEnded_any h
  rw [decide_eq_false hi] at hed
  have HK : Hid (∀ wz, Below w.heap.size w wz → wz.cell? ⟨b, 0, none⟩ = some (.iface 61 (.agg #[])) ∧ wz.cell? ⟨b, 1, none⟩ = some (.int .i64 (s.low : Int)) ∧ wz.cell? ⟨b, 2, none⟩ = some (.int .i64 (s.high : Int))) := fun wz hz => by
    obtain ⟨c0, c1, c2, -⟩ := (h.below hz).cells
    exact ⟨hw ▸ c0, c1, c2⟩
  have HC := hide hc
  have hkl := h.ok.lt
  have hkl2 := h.ok.le
  have hkl3 := h.le
  have e1 : (s.low : Int) ≤ 4096 := by omega
  have e2 : (s.high : Int) ≤ 4096 := by omega
  generalize (s.low : Int) = L at *
  generalize (s.high : Int) = G at *
  clear hc hw hi h hkl hkl2 hkl3
  go_enter Try.func12, Try.ntmps12
  go_wp2_with (first | (go_at_call 29; refine hmd.mono ?_; rintro e w1 ⟨rfl, hw1⟩; subst w1) | (go_at_call 30; refine hed.mono ?_; rintro e w2 ⟨rfl, q, hw2⟩; subst w2))
  have bd : Below w.heap.size w (w.drewN q).drew := (below_drewN (Below.refl _ _) q).drew
  have hs0 := unhide HK _ bd
  go_region_held (fun wz => wz.cell? ⟨b, 0, none⟩ = some (.iface 61 (.agg #[])) ∧ wz.cell? ⟨b, 1, none⟩ = some (.int .i64 L) ∧ wz.cell? ⟨b, 2, none⟩ = some (.int .i64 G)) (first | exact hsA | exact hs0) (first | (go_at_call 52; refine (unhide HC _).mono ?_; rintro e wA ⟨rfl, hbA⟩; have hsA := unhide HK wA (bstep bd hbA)))
  go_wp2
  go_ret2
  exact ⟨rfl, bstep bd hbA⟩

set_option maxRecDepth 100000 in
set_option maxHeartbeats 2000000 in
theorem ask_bin {n : Nat} {w : World} {b : Nat} {s : Sc} (h : Sx n w b s) (i : Nat) (hw : wyV s = .iface 62 (.agg #[]))
    (hc : ∀ w, Calls Try.prog 53 #[(.agg #[]), .int .i64 (s.low : Int), .int .i64 (s.high : Int)] w fun e w' => e = .returned (.int .i64 (i : Int)) ∧ Below w.heap.size w w') (hi : s.high ≠ s.low + 1) :
    Calls Try.prog 12 #[.pointer (some ⟨b, 0, none⟩)] w fun e w' => e = .returned (oaV (some i)) ∧ Below w.heap.size w w' := by
  have hm := fun v w => methB v w
  have hmd := isMade_any h
  have hed := hasEnded_any h
  rw [decide_eq_false hi] at hed
  have HK : Hid (∀ wz, Below w.heap.size w wz → wz.cell? ⟨b, 0, none⟩ = some (.iface 62 (.agg #[])) ∧ wz.cell? ⟨b, 1, none⟩ = some (.int .i64 (s.low : Int)) ∧ wz.cell? ⟨b, 2, none⟩ = some (.int .i64 (s.high : Int))) := fun wz hz => by
    obtain ⟨c0, c1, c2, -⟩ := (h.below hz).cells
    exact ⟨hw ▸ c0, c1, c2⟩
  have HC := hide hc
  have hkl := h.ok.lt
  have hkl2 := h.ok.le
  have hkl3 := h.le
  have e1 : (s.low : Int) ≤ 4096 := by omega
  have e2 : (s.high : Int) ≤ 4096 := by omega
  generalize (s.low : Int) = L at *
  generalize (s.high : Int) = G at *
  clear hc hw hi h hkl hkl2 hkl3
  go_enter Try.func12, Try.ntmps12
  go_wp2_with (first | (go_at_call 29; refine hmd.mono ?_; rintro e w1 ⟨rfl, hw1⟩; subst w1) | (go_at_call 30; refine hed.mono ?_; rintro e w2 ⟨rfl, q, hw2⟩; subst w2))
  have bd : Below w.heap.size w (w.drewN q).drew := (below_drewN (Below.refl _ _) q).drew
  have hs0 := unhide HK _ bd
  go_region_held (fun wz => wz.cell? ⟨b, 0, none⟩ = some (.iface 62 (.agg #[])) ∧ wz.cell? ⟨b, 1, none⟩ = some (.int .i64 L) ∧ wz.cell? ⟨b, 2, none⟩ = some (.int .i64 G)) (first | exact hsA | exact hs0) (first | (go_at_call 53; refine (unhide HC _).mono ?_; rintro e wA ⟨rfl, hbA⟩; have hsA := unhide HK wA (bstep bd hbA)))
  go_wp2
  go_ret2
  exact ⟨rfl, bstep bd hbA⟩

set_option maxRecDepth 100000 in
set_option maxHeartbeats 2000000 in
theorem ask_exp {n : Nat} {w : World} {b : Nat} {s : Sc} (h : Sx n w b s) (St : Int) (i : Nat) (hw : wyV s = .iface 64 (.agg #[.int .i64 St]))
    (hc : ∀ w, Calls Try.prog 54 #[(.agg #[.int .i64 St]), .int .i64 (s.low : Int), .int .i64 (s.high : Int)] w fun e w' => e = .returned (.int .i64 (i : Int)) ∧ Below w.heap.size w w') (hi : s.high ≠ s.low + 1) :
    Calls Try.prog 12 #[.pointer (some ⟨b, 0, none⟩)] w fun e w' => e = .returned (oaV (some i)) ∧ Below w.heap.size w w' := by
  have hm := fun v w => methE v w
  have hmd := isMade_any h
  have hed := hasEnded_any h
  rw [decide_eq_false hi] at hed
  have HK : Hid (∀ wz, Below w.heap.size w wz → wz.cell? ⟨b, 0, none⟩ = some (.iface 64 (.agg #[.int .i64 St])) ∧ wz.cell? ⟨b, 1, none⟩ = some (.int .i64 (s.low : Int)) ∧ wz.cell? ⟨b, 2, none⟩ = some (.int .i64 (s.high : Int))) := fun wz hz => by
    obtain ⟨c0, c1, c2, -⟩ := (h.below hz).cells
    exact ⟨hw ▸ c0, c1, c2⟩
  have HC := hide hc
  have hkl := h.ok.lt
  have hkl2 := h.ok.le
  have hkl3 := h.le
  have e1 : (s.low : Int) ≤ 4096 := by omega
  have e2 : (s.high : Int) ≤ 4096 := by omega
  generalize (s.low : Int) = L at *
  generalize (s.high : Int) = G at *
  clear hc hw hi h hkl hkl2 hkl3
  go_enter Try.func12, Try.ntmps12
  go_wp2_with (first | (go_at_call 29; refine hmd.mono ?_; rintro e w1 ⟨rfl, hw1⟩; subst w1) | (go_at_call 30; refine hed.mono ?_; rintro e w2 ⟨rfl, q, hw2⟩; subst w2))
  have bd : Below w.heap.size w (w.drewN q).drew := (below_drewN (Below.refl _ _) q).drew
  have hs0 := unhide HK _ bd
  go_region_held (fun wz => wz.cell? ⟨b, 0, none⟩ = some (.iface 64 (.agg #[.int .i64 St])) ∧ wz.cell? ⟨b, 1, none⟩ = some (.int .i64 L) ∧ wz.cell? ⟨b, 2, none⟩ = some (.int .i64 G)) (first | exact hsA | exact hs0) (first | (go_at_call 54; refine (unhide HC _).mono ?_; rintro e wA ⟨rfl, hbA⟩; have hsA := unhide HK wA (bstep bd hbA)))
  go_wp2
  go_ret2
  exact ⟨rfl, bstep bd hbA⟩

/-- Ask. -/
theorem ask_any {n : Nat} {w : World} {b : Nat} {s : Sc} (h : Sx n w b s) : Calls Try.prog 12 #[.pointer (some ⟨b, 0, none⟩)] w fun e w' => e = .returned (oaV s.ask) ∧ Below w.heap.size w w' := by
  by_cases hi : s.high = s.low + 1
  · rw [Sc.ask_end hi]; exact ask_end h hi
  have h1 := h.ok.lt
  have h2 := h.ok.le
  have h3 := h.le
  by_cases c1 : s.how = 1
  · rw [show s.ask = some (s.low + 1) by unfold Sc.ask; rw [if_neg hi, if_pos c1]]
    exact ask_lin h _ (by unfold wyV; rw [if_pos c1]) (fun w => placeL_any _ _ w (by omega)) hi
  by_cases c2 : s.how = 3 ∧ s.no = false
  · rw [show s.ask = some (if s.high - s.low ≤ s.step then s.low + 1 else s.high - s.step) by
      unfold Sc.ask; rw [if_neg hi, if_neg c1, if_pos c2]; split <;> rfl]
    have h4 := h.step c2.1 c2.2 hi
    exact ask_exp h _ _ (by unfold wyV; rw [if_neg c1, if_pos c2]) (fun w => placeE_any _ _ _ w (by omega) h1 (by omega)) hi
  · rw [show s.ask = some ((s.low + s.high) / 2) by unfold Sc.ask; rw [if_neg hi, if_neg c1, if_neg c2]]
    exact ask_bin h _ (by unfold wyV; rw [if_neg c1, if_neg c2]) (fun w => placeB_any _ _ w h1 (by omega)) hi

/-! ### New -/
def nwE (how n : Int) : Int := if how < 1 ∨ how > 3 ∨ n < 1 then 1 else if n > 4096 then 3 else 0
theorem newWay_any (how : Int) (w : World) : Calls Try.prog 28 #[.int .i64 how] w fun e w' => e = .returned (if how = 1 then .iface 61 (.agg #[]) else if how = 2 then .iface 62 (.agg #[]) else if how = 3 then .iface 64 (.agg #[.int .i64 1]) else .nilIface) ∧ w' = w := by
  by_cases h1 : how = 1
  · rw [if_pos h1]
    subst h1
    go_enter Try.func28, Try.ntmps28
    go_wp2
    go_ret
    exact ⟨rfl, rfl⟩
  rw [if_neg h1]
  have t1 : (how == 1) = false := by simp [h1]
  by_cases h2 : how = 2
  · rw [if_pos h2]
    subst h2
    clear t1 h1
    go_enter Try.func28, Try.ntmps28
    go_wp2
    go_ret
    exact ⟨rfl, rfl⟩
  rw [if_neg h2]
  have t2 : (how == 2) = false := by simp [h2]
  by_cases h3 : how = 3
  · rw [if_pos h3]
    subst h3
    clear t1 t2 h1 h2
    go_enter Try.func28, Try.ntmps28
    go_wp2
    go_ret
    exact ⟨rfl, rfl⟩
  rw [if_neg h3]
  have t3 : (how == 3) = false := by simp [h3]
  clear h1 h2 h3
  go_enter Try.func28, Try.ntmps28
  go_wp2
  go_ret
  exact ⟨rfl, rfl⟩
/-- What New leaves. -/
def NsPost (how n : Int) (w : World) (e : Ending) (w' : World) : Prop :=
  (nwE how n ≠ 0 ∧ e = .returned (.tuple #[.pointer none, .int .i64 (nwE how n)]) ∧ w' = w) ∨
    (nwE how n = 0 ∧ ∃ H N : Nat, how = (H : Int) ∧ n = (N : Int) ∧ e = .returned (.tuple #[.pointer (some ⟨w.heap.size, 0, none⟩), .int .i64 0]) ∧ Sx N w' w.heap.size (Sc.new H N) ∧ Below w.heap.size w w')
theorem snew_any (how n : Int) (w : World) : Calls Try.prog 8 #[.int .i64 how, .int .i64 n] w (NsPost how n w) := by
  have hnw := newWay_any how w
  by_cases hh : how < 1 ∨ how > 3
  · have HE : Hid (nwE how n = 1) := by show _ = _; unfold nwE; rw [if_pos (by omega)]
    rw [if_neg (by omega), if_neg (by omega), if_neg (by omega)] at hnw
    clear hh
    go_enter Try.func8, Try.ntmps8
    go_wp2_with (go_at_call 28; refine hnw.mono ?_; rintro e w1 ⟨rfl, hw1⟩; subst w1)
    go_ret2
    exact .inl ⟨by rw [unhide HE]; decide, by rw [unhide HE]; rfl, rfl⟩
  by_cases hn : n < 1
  · have HE : Hid (nwE how n = 1) := by show _ = _; unfold nwE; rw [if_pos (by omega)]
    have hn' : decide (n < 1) = true := decide_eq_true hn
    rcases (show how = 1 ∨ how = 2 ∨ how = 3 by omega) with rfl | rfl | rfl
    · rw [if_pos rfl] at hnw
      clear hh
      go_enter Try.func8, Try.ntmps8
      go_wp2_with (go_at_call 28; refine hnw.mono ?_; rintro e w1 ⟨rfl, hw1⟩; subst w1)
      go_ret2
      exact .inl ⟨by rw [unhide HE]; decide, by rw [unhide HE]; rfl, rfl⟩
    · rw [if_neg (by decide), if_pos rfl] at hnw
      clear hh
      go_enter Try.func8, Try.ntmps8
      go_wp2_with (go_at_call 28; refine hnw.mono ?_; rintro e w1 ⟨rfl, hw1⟩; subst w1)
      go_ret2
      exact .inl ⟨by rw [unhide HE]; decide, by rw [unhide HE]; rfl, rfl⟩
    · rw [if_neg (by decide), if_neg (by decide), if_pos rfl] at hnw
      clear hh
      go_enter Try.func8, Try.ntmps8
      go_wp2_with (go_at_call 28; refine hnw.mono ?_; rintro e w1 ⟨rfl, hw1⟩; subst w1)
      go_ret2
      exact .inl ⟨by rw [unhide HE]; decide, by rw [unhide HE]; rfl, rfl⟩
  by_cases hm : n > 4096
  · have HE : Hid (nwE how n = 3) := by show _ = _; unfold nwE; rw [if_neg (by omega), if_pos hm]
    rcases (show how = 1 ∨ how = 2 ∨ how = 3 by omega) with rfl | rfl | rfl
    · rw [if_pos rfl] at hnw
      clear hh
      go_enter Try.func8, Try.ntmps8
      go_wp2_with (go_at_call 28; refine hnw.mono ?_; rintro e w1 ⟨rfl, hw1⟩; subst w1)
      go_ret2
      exact .inl ⟨by rw [unhide HE]; decide, by rw [unhide HE]; rfl, rfl⟩
    · rw [if_neg (by decide), if_pos rfl] at hnw
      clear hh
      go_enter Try.func8, Try.ntmps8
      go_wp2_with (go_at_call 28; refine hnw.mono ?_; rintro e w1 ⟨rfl, hw1⟩; subst w1)
      go_ret2
      exact .inl ⟨by rw [unhide HE]; decide, by rw [unhide HE]; rfl, rfl⟩
    · rw [if_neg (by decide), if_neg (by decide), if_pos rfl] at hnw
      clear hh
      go_enter Try.func8, Try.ntmps8
      go_wp2_with (go_at_call 28; refine hnw.mono ?_; rintro e w1 ⟨rfl, hw1⟩; subst w1)
      go_ret2
      exact .inl ⟨by rw [unhide HE]; decide, by rw [unhide HE]; rfl, rfl⟩
  have hE : nwE how n = 0 := by unfold nwE; rw [if_neg (by omega), if_neg hm]
  obtain ⟨N, rfl⟩ := Int.eq_ofNat_of_zero_le (show 0 ≤ n by omega)
  have hN : 1 ≤ N := by omega
  have hN2 : N ≤ 4096 := by omega
  have HE := hide hE
  have HSX : Hid (∀ H : Nat, (H = 1 ∨ H = 2 ∨ H = 3) → ∀ w', Bk w' w.heap.size (sxC (Sc.new H N)) 57 → Sx N w' w.heap.size (Sc.new H N)) := fun H h w' hb => ⟨hb, ScOk.new hN, hN2, h, Sc.most_new hN⟩
  have n1 : decide ((N : Int) < 1) = false := decide_eq_false (by omega)
  have n2 : decide ((N : Int) > 4096) = false := decide_eq_false (by omega)
  rcases (show how = 1 ∨ how = 2 ∨ how = 3 by omega) with rfl | rfl | rfl
  · rw [if_pos rfl] at hnw
    clear hh hE
    go_enter Try.func8, Try.ntmps8
    go_wp2_with (go_at_call 28; refine hnw.mono ?_; rintro e w1 ⟨rfl, hw1⟩; subst w1)
    go_ret2
    exact .inr ⟨unhide HE, 1, N, rfl, rfl, rfl, unhide HSX 1 (.inl rfl) _ (Bk.new _ _ _), ballo _ _⟩
  · rw [if_neg (by decide), if_pos rfl] at hnw
    clear hh hE
    go_enter Try.func8, Try.ntmps8
    go_wp2_with (go_at_call 28; refine hnw.mono ?_; rintro e w1 ⟨rfl, hw1⟩; subst w1)
    go_ret2
    exact .inr ⟨unhide HE, 2, N, rfl, rfl, rfl, unhide HSX 2 (.inr (.inl rfl)) _ (Bk.new _ _ _), ballo _ _⟩
  · rw [if_neg (by decide), if_neg (by decide), if_pos rfl] at hnw
    clear hh hE
    go_enter Try.func8, Try.ntmps8
    go_wp2_with (go_at_call 28; refine hnw.mono ?_; rintro e w1 ⟨rfl, hw1⟩; subst w1)
    go_ret2
    exact .inr ⟨unhide HE, 3, N, rfl, rfl, rfl, unhide HSX 3 (.inr (.inr rfl)) _ (Bk.new _ _ _), ballo _ _⟩

end Go.Proofs.Ytaldjpjlggnhhaa
