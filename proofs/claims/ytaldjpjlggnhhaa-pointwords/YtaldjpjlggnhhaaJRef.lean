/-
  The reference's searches; what is told at the i-th time; how many binary digits.
-/
import Derived.Test.YtaldjpjlggnhhaaJTell
namespace Go.Proofs.Ytaldjpjlggnhhaa
open Go.RowKit

theorem jnum_any (e : Int) (w : World) : Calls Try.prog 10 #[.int .i64 e] w fun x w' => x = .returned (.int .i64 e) ∧ w' = w := by
  go_enter Try.func10, Try.ntmps10
  go_wp2
  go_ret
  exact ⟨rfl, rfl⟩

/-- A slice of Booleans reads as l. -/
def RdB (w : World) (a : Option Addr) (l : List Bool) : Prop :=
  l.length = 0 ∨ ∃ b off, a = some ⟨b, off, none⟩ ∧ ∀ i, i < l.length → w.cell? ⟨b, off + i, none⟩ = some (.bool (l.getD i false))
theorem RdB.at {w : World} {a : Option Addr} {l : List Bool} (h : RdB w a l) {i : Nat} (hi : i < l.length) : ∃ b off, a = some ⟨b, off, none⟩ ∧ ∀ j, j < l.length → w.cell? ⟨b, off + j, none⟩ = some (.bool (l.getD j false)) := by
  rcases h with h | h
  · omega
  · exact h
theorem RdB.below {w w' : World} {a : Option Addr} {l : List Bool} (h : RdB w a l) (hb : Below w.heap.size w w') : RdB w' a l := by
  rcases h with h | ⟨b, off, rfl, hc⟩
  · exact .inl h
  · refine .inr ⟨b, off, rfl, fun i hi => ?_⟩
    have := World.block_lt_of_cell? w _ (hc i hi)
    rw [hb.cell (by exact this)]
    exact hc i hi
def tdV (l : List Bool) (i : Nat) : Bool := if l.length = 0 then false else l.getD (i % l.length) false

/-- A search of the reference: x its step. -/
def scV (s : Sc) (x : Int) : Value := .agg #[.int .i64 (s.how : Int), .int .i64 (s.low : Int), .int .i64 (s.high : Int), .int .i64 x, .bool s.no, .int .i64 (s.asked : Int)]
/-- Where the step plays a part it is the search's. -/
def StOk (s : Sc) (x : Int) : Prop := s.how = 3 → s.no = false → x = (s.step : Int)
theorem StOk.no {s : Sc} {x : Int} (h : ¬ (s.how = 3 ∧ s.no = false)) : StOk s x := fun h1 h2 => absurd ⟨h1, h2⟩ h

def zsV : Value := .agg #[.int .i64 0, .int .i64 0, .int .i64 0, .int .i64 0, .bool false, .int .i64 0]
theorem rsnew_any (how n : Int) (w : World) : Calls Try.prog 9 #[.int .i64 how, .int .i64 n] w fun e w' => Below w.heap.size w w' ∧
    ((nwE how n ≠ 0 ∧ e = .returned (.tuple #[zsV, .int .i64 (nwE how n)])) ∨ (nwE how n = 0 ∧ e = .returned (.tuple #[.agg #[.int .i64 how, .int .i64 0, .int .i64 n, .int .i64 1, .bool false, .int .i64 0], .int .i64 0]))) := by
  by_cases h1 : how < 1
  · have HE : Hid (nwE how n = 1) := by show _ = _; unfold nwE; rw [if_pos (by omega)]
    have t1 : decide (how < 1) = true := decide_eq_true h1
    clear h1
    go_enter Try.func9, Try.ntmps9
    go_wp2
    refine bodyPost_ret (v := .tuple #[zsV, .int .i64 1]) ?_ rfl ?_
    · simp [results, Try.results9, go_sem, zsV]
    · exact ⟨ballo _ _, .inl ⟨by rw [unhide HE]; decide, by rw [unhide HE]⟩⟩
  have t1 : decide (how < 1) = false := decide_eq_false h1
  by_cases h2 : how > 3
  · have HE : Hid (nwE how n = 1) := by show _ = _; unfold nwE; rw [if_pos (by omega)]
    have t2 : decide (how > 3) = true := decide_eq_true h2
    clear h2
    go_enter Try.func9, Try.ntmps9
    go_wp2
    refine bodyPost_ret (v := .tuple #[zsV, .int .i64 1]) ?_ rfl ?_
    · simp [results, Try.results9, go_sem, zsV]
    · exact ⟨ballo _ _, .inl ⟨by rw [unhide HE]; decide, by rw [unhide HE]⟩⟩
  have t2 : decide (how > 3) = false := decide_eq_false h2
  by_cases h3 : n < 1
  · have HE : Hid (nwE how n = 1) := by show _ = _; unfold nwE; rw [if_pos (by omega)]
    have t3 : decide (n < 1) = true := decide_eq_true h3
    clear h3
    go_enter Try.func9, Try.ntmps9
    go_wp2
    refine bodyPost_ret (v := .tuple #[zsV, .int .i64 1]) ?_ rfl ?_
    · simp [results, Try.results9, go_sem, zsV]
    · exact ⟨ballo _ _, .inl ⟨by rw [unhide HE]; decide, by rw [unhide HE]⟩⟩
  have t3 : decide (n < 1) = false := decide_eq_false h3
  by_cases h4 : n > 4096
  · have HE : Hid (nwE how n = 3) := by show _ = _; unfold nwE; rw [if_neg (by omega), if_pos h4]
    have t4 : decide (n > 4096) = true := decide_eq_true h4
    clear h4
    go_enter Try.func9, Try.ntmps9
    go_wp2
    refine bodyPost_ret (v := .tuple #[zsV, .int .i64 3]) ?_ rfl ?_
    · simp [results, Try.results9, go_sem, zsV]
    · exact ⟨ballo _ _, .inl ⟨by rw [unhide HE]; decide, by rw [unhide HE]⟩⟩
  have HE : Hid (nwE how n = 0) := by show _ = _; unfold nwE; rw [if_neg (by omega), if_neg h4]
  have t4 : decide (n > 4096) = false := decide_eq_false h4
  go_enter Try.func9, Try.ntmps9
  go_wp2
  refine bodyPost_ret (v := .tuple #[.agg #[.int .i64 how, .int .i64 0, .int .i64 n, .int .i64 1, .bool false, .int .i64 0], .int .i64 0]) ?_ rfl ?_
  · simp [results, Try.results9, go_sem]
  · exact ⟨ballo _ _, .inr ⟨unhide HE, rfl⟩⟩

set_option maxRecDepth 100000 in
set_option maxHeartbeats 2000000 in
theorem rask_any {n : Nat} {s : Sc} (k : ScOk n s) (hn : n ≤ 4096) (x : Int) (hx : StOk s x) (h4 : s.how = 3 → s.no = false → s.high ≠ s.low + 1 → s.step ≤ 4096) (w : World) :
    Calls Try.prog 13 #[scV s x] w fun e w' => e = .returned (oaV s.ask) ∧ Below w.heap.size w w' := by
  have h1 := k.lt
  have h2 := k.le
  have HB := hide (ballo w (.cells #[.int .i64 (s.how : Int), .int .i64 (s.low : Int), .int .i64 (s.high : Int), .int .i64 x, .bool s.no, .int .i64 (s.asked : Int)] 28))
  unfold scV
  by_cases c0 : s.high = s.low + 1
  · rw [Sc.ask_end c0]
    have t0 : ((s.high : Int) == (s.low : Int) + 1) = true := by simp; omega
    clear k hx h4 c0
    generalize s.asked = AS at *
    go_enter Try.func13, Try.ntmps13
    go_wp2
    go_ret2
    exact ⟨rfl, unhide HB⟩
  have t0 : ((s.high : Int) == (s.low : Int) + 1) = false := by simp; omega
  by_cases c1 : s.how = 1
  · have HE := hide (show s.ask = some (s.low + 1) by unfold Sc.ask; rw [if_neg c0, if_pos c1])
    have t1 : ((s.how : Int) == 1) = true := by simp; omega
    clear k hx h4 c0 c1
    go_enter Try.func13, Try.ntmps13
    go_wp2
    go_ret2
    exact ⟨by rw [unhide HE]; rfl, unhide HB⟩
  have t1 : ((s.how : Int) == 1) = false := by simp; omega
  by_cases c2 : s.how = 3 ∧ s.no = false
  · have h5 := h4 c2.1 c2.2 c0
    have h6 := hx c2.1 c2.2
    subst h6
    have t2 : ((s.how : Int) == 3) = true := by simp; omega
    have t3 := c2.2
    rw [t3] at HB
    by_cases c3 : s.high - s.low ≤ s.step
    · have HE := hide (show s.ask = some (s.low + 1) by unfold Sc.ask; rw [if_neg c0, if_neg c1, if_pos c2, if_pos c3])
      have t4 : (s.high : Int) - (s.low : Int) ≤ (s.step : Int) := by omega
      clear k hx h4 c0 c1 c2 c3
      rw [t3]
      clear t3
      go_enter Try.func13, Try.ntmps13
      go_wp2
      go_ret2
      exact ⟨by rw [unhide HE]; rfl, unhide HB⟩
    · have HE := hide (show s.ask = some (s.high - s.step) by unfold Sc.ask; rw [if_neg c0, if_neg c1, if_pos c2, if_neg c3])
      have t4 : ¬ (s.high : Int) - (s.low : Int) ≤ (s.step : Int) := by omega
      have HC : Hid (((s.high - s.step : Nat) : Int) = (s.high : Int) - (s.step : Int)) := by show _ = _; omega
      clear k hx h4 c0 c1 c2 c3
      rw [t3]
      clear t3
      go_enter Try.func13, Try.ntmps13
      go_wp2
      go_ret2
      exact ⟨by rw [unhide HE]; show _ = Ending.returned (.tuple #[.int .i64 ((s.high - s.step : Nat) : Int), .bool true]); rw [unhide HC]; rfl, unhide HB⟩
  · have HE := hide (show s.ask = some ((s.low + s.high) / 2) by unfold Sc.ask; rw [if_neg c0, if_neg c1, if_neg c2])
    have HC : Hid ((((s.low + s.high) / 2 : Nat) : Int) = ((s.low : Int) + (s.high : Int)) / 2) := by show _ = _; omega
    have hq : ((s.low : Int) + (s.high : Int)).tdiv 2 = ((s.low : Int) + (s.high : Int)) / 2 := Int.tdiv_eq_ediv_of_nonneg (by omega)
    have hq1 : 0 ≤ ((s.low : Int) + (s.high : Int)) / 2 := by omega
    have hq2 : ((s.low : Int) + (s.high : Int)) / 2 ≤ 4096 := by omega
    by_cases c3 : s.how = 3
    · have t2 : ((s.how : Int) == 3) = true := by simp; omega
      have t3 : s.no = true := by
        cases h : s.no
        · exact absurd ⟨c3, h⟩ c2
        · rfl
      rw [t3] at HB
      clear k hx h4 c0 c1 c2 c3
      rw [t3]
      clear t3
      go_enter Try.func13, Try.ntmps13
      go_wp2
      go_ret2
      exact ⟨by rw [unhide HE]; show _ = Ending.returned (.tuple #[.int .i64 (((s.low + s.high) / 2 : Nat) : Int), .bool true]); rw [unhide HC]; rfl, unhide HB⟩
    · have t2 : ((s.how : Int) == 3) = false := by simp; omega
      clear k hx h4 c0 c1 c2 c3
      go_enter Try.func13, Try.ntmps13
      go_wp2
      go_ret2
      exact ⟨by rw [unhide HE]; show _ = Ending.returned (.tuple #[.int .i64 (((s.low + s.high) / 2 : Nat) : Int), .bool true]); rw [unhide HC]; rfl, unhide HB⟩

/-- The six cells of a search, set one by one: what the struct reads as. -/
theorem Bk.six {w : World} {k : Nat} {a0 a1 a2 a3 a4 a5 : Value} {t : TypeId} (h : Bk w k [a0, a1, a2, a3, a4, a5] t) (v0 v1 v2 v3 v4 v5 : Value) :
    Bk (((((((w.setCell ⟨k, 0, none⟩ v0).setCell ⟨k, 1, none⟩ v1).setCell ⟨k, 2, none⟩ v2).setCell ⟨k, 3, none⟩ v3).setCell ⟨k, 4, none⟩ v4).setCell ⟨k, 5, none⟩ v5)) k [v0, v1, v2, v3, v4, v5] t := by
  have := (((((h.sett 0 v0).sett 1 v1).sett 2 v2).sett 3 v3).sett 4 v4).sett 5 v5
  simpa using this
theorem Bk.frzz {w : World} {k : Nat} {cs : List Value} {t : TypeId} (h : Bk w k cs t) (i : Nat) : w.frozen? ⟨k, i, none⟩ = false := by
  simp [World.frozen?, show w.heap[k]? = _ from h]
theorem Bk.c6 {w : World} {k : Nat} {a0 a1 a2 a3 a4 a5 : Value} {t : TypeId} (h : Bk w k [a0, a1, a2, a3, a4, a5] t) :
    (w.cell? ⟨k, 0, none⟩ = some a0 ∧ w.cell? ⟨k, 1, none⟩ = some a1 ∧ w.cell? ⟨k, 2, none⟩ = some a2 ∧ w.cell? ⟨k, 3, none⟩ = some a3 ∧ w.cell? ⟨k, 4, none⟩ = some a4 ∧ w.cell? ⟨k, 5, none⟩ = some a5) ∧
    w.frozen? ⟨k, 0, none⟩ = false ∧ w.frozen? ⟨k, 1, none⟩ = false ∧ w.frozen? ⟨k, 2, none⟩ = false ∧ w.frozen? ⟨k, 3, none⟩ = false ∧ w.frozen? ⟨k, 4, none⟩ = false ∧ w.frozen? ⟨k, 5, none⟩ = false :=
  ⟨⟨h.cell 0, h.cell 1, h.cell 2, h.cell 3, h.cell 4, h.cell 5⟩, h.frzz 0, h.frzz 1, h.frzz 2, h.frzz 3, h.frzz 4, h.frzz 5⟩
theorem Bk.other {w : World} {k : Nat} {cs : List Value} {t : TypeId} (h : Bk w k cs t) (p : Addr) (hp : k ≠ p.block) (u : Value) : Bk (w.setCell p u) k cs t := (Below.heap_setCell w p u k hp).trans h
theorem six_belowS {w w1 : World} {B b : Nat} (h : Below B w w1) (hb : B ≤ b) (v0 v1 v2 v3 v4 v5 : Value) : Below B w (((((((w1.setCell ⟨b, 0, none⟩ v0).setCell ⟨b, 1, none⟩ v1).setCell ⟨b, 2, none⟩ v2).setCell ⟨b, 3, none⟩ v3).setCell ⟨b, 4, none⟩ v4).setCell ⟨b, 5, none⟩ v5)) :=
  ((((((h.setCell (p := ⟨b, 0, none⟩) hb _).setCell (p := ⟨b, 1, none⟩) hb _).setCell (p := ⟨b, 2, none⟩) hb _).setCell (p := ⟨b, 3, none⟩) hb _).setCell (p := ⟨b, 4, none⟩) hb _).setCell (p := ⟨b, 5, none⟩) hb _)

set_option maxRecDepth 100000 in
set_option maxHeartbeats 2000000 in
theorem rtell_end {n : Nat} {s : Sc} (k : ScOk n s) (hn : n ≤ 4096) (x : Int) (hx : StOk s x) (h4 : s.how = 3 → s.no = false → s.high ≠ s.low + 1 → s.step ≤ 4096) (hi : s.ask = none) (v : Bool) (w : World) :
    Calls Try.prog 18 #[scV s x, .bool v] w fun e w' => e = .returned (.tuple #[scV s x, .int .i64 7]) ∧ Below w.heap.size w w' := by
  have hak := fun w => rask_any k hn x hx h4 w
  rw [hi] at hak
  have HA := hide hak
  clear hak k hx h4 hi
  unfold scV at HA ⊢
  generalize (s.how : Int) = A0 at *
  generalize (s.low : Int) = A1 at *
  generalize (s.high : Int) = A2 at *
  generalize s.no = A4 at *
  generalize (s.asked : Int) = A5 at *
  have b0 := ballo w (.cells #[.int .i64 A0, .int .i64 A1, .int .i64 A2, .int .i64 x, .bool A4, .int .i64 A5] 28)
  have b1 := ballo (w.alloc (.cells #[.int .i64 A0, .int .i64 A1, .int .i64 A2, .int .i64 x, .bool A4, .int .i64 A5] 28)) (.cells #[.int .i64 0, .int .i64 0, .int .i64 0, .int .i64 0, .bool false, .int .i64 0] 28)
  have k0 := (Bk.new w [.int .i64 A0, .int .i64 A1, .int .i64 A2, .int .i64 x, .bool A4, .int .i64 A5] 28).below b1
  have k1 := Bk.new (w.alloc (.cells #[.int .i64 A0, .int .i64 A1, .int .i64 A2, .int .i64 x, .bool A4, .int .i64 A5] 28)) [.int .i64 0, .int .i64 0, .int .i64 0, .int .i64 0, .bool false, .int .i64 0] 28
  have z2 : ((w.alloc (.cells #[.int .i64 A0, .int .i64 A1, .int .i64 A2, .int .i64 x, .bool A4, .int .i64 A5] 28)).alloc (.cells #[.int .i64 0, .int .i64 0, .int .i64 0, .int .i64 0, .bool false, .int .i64 0] 28)).heap.size = w.heap.size + 2 := by simp
  rw [World.size_alloc] at k1
  have HB := hide (bstep b0 b1)
  have HK := hide (And.intro k0 k1)
  have HZ := hide z2
  clear b0 b1 k0 k1 z2
  go_enter Try.func18, Try.ntmps18
  go_wp2_with fail
  refine (unhide HA _).mono ?_
  unfold oaV
  rintro e w3 ⟨rfl, hb3⟩
  have K0 := (unhide HK).1.below hb3
  have K1 := (unhide HK).2.below hb3
  have B3 := hide (bstep (unhide HB) hb3)
  have z3 := hb3.size
  rw [unhide HZ] at z3
  obtain ⟨⟨p0, p1, p2, p3, p4, p5⟩, -, -, -, -, -, -⟩ := K0.c6
  obtain ⟨-, f0, f1, f2, f3, f4, f5⟩ := K1.c6
  obtain ⟨⟨y0, y1, y2, y3, y4, y5⟩, -, -, -, -, -, -⟩ := K1.c6
  have K2 := hide (K1.six (.int .i64 A0) (.int .i64 A1) (.int .i64 A2) (.int .i64 x) (.bool A4) (.int .i64 A5))
  clear HA HK HB HZ K0 K1 hb3 z3
  go_wp2
  obtain ⟨⟨r0, r1, r2, r3, r4, r5⟩, -, -, -, -, -, -⟩ := (unhide K2).c6
  refine bodyPost_ret (v := .tuple #[.agg #[.int .i64 A0, .int .i64 A1, .int .i64 A2, .int .i64 x, .bool A4, .int .i64 A5], .int .i64 7]) ?_ rfl ⟨rfl, six_belowS (unhide B3) (by omega) _ _ _ _ _ _⟩
  simp [results, Try.results18, go_sem, r0, r1, r2, r3, r4, r5]

/-- The step behind a Tell. -/
def nxS (s : Sc) (x : Int) : Int := if s.how = 3 ∧ s.no = false then 2 * x else wrap64 (2 * x)
theorem nxS_ok {s : Sc} (x : Int) (hx : StOk s x) {i : Nat} (v : Bool) : StOk (s.put i v) (nxS s x) := fun h1 h2 => by
  have h2' : (s.no || !v) = false := h2
  have h3 : s.no = false := by cases h : s.no with
    | true => rw [h] at h2'; simp at h2'
    | false => rfl
  unfold nxS
  rw [if_pos ⟨h1, h3⟩, hx h1 h3]
  show 2 * (s.step : Int) = ((2 * s.step : Nat) : Int)
  omega
theorem scV_put (s : Sc) (i : Nat) (v : Bool) (x : Int) : scV (s.put i v) x = .agg #[.int .i64 (s.how : Int), .int .i64 (if v then (s.low : Int) else (i : Int)), .int .i64 (if v then (i : Int) else (s.high : Int)), .int .i64 x, .bool (s.no || !v), .int .i64 ((s.asked : Int) + 1)] := by
  unfold scV
  cases v <;> rfl

set_option maxRecDepth 100000 in
set_option maxHeartbeats 4000000 in
theorem rtell_put {n : Nat} {s : Sc} (k : ScOk n s) (hn : n ≤ 4096) (x : Int) (hx : StOk s x) (h4 : s.how = 3 → s.no = false → s.high ≠ s.low + 1 → s.step ≤ 4096) {i : Nat} (hi : s.ask = some i) (v : Bool) (w : World) :
    Calls Try.prog 18 #[scV s x, .bool v] w fun e w' => Below w.heap.size w w' ∧ StOk (s.put i v) (nxS s x) ∧ e = .returned (.tuple #[scV (s.put i v) (nxS s x), .int .i64 0]) := by
  have hak := fun w => rask_any k hn x hx h4 w
  rw [hi] at hak
  have HA := hide hak
  have hne : s.high ≠ s.low + 1 := fun e => by rw [Sc.ask_end e] at hi; cases hi
  have hsum := k.sum
  have hlt := k.lt
  have a5 : (s.asked : Int) ≤ 4096 := by omega
  have a50 : 0 ≤ (s.asked : Int) := by omega
  have hst : ∃ y : Int, 2 * x = y := ⟨_, rfl⟩
  have HS : Hid ((s.how = 3 ∧ s.no = false → x = (s.step : Int) ∧ 0 ≤ x ∧ x ≤ 4096)) := fun h => by
    have h6 := hx h.1 h.2
    have h7 := h4 h.1 h.2 hne
    omega
  have HN : Hid (∀ x', (s.how = 3 ∧ s.no = false → x' = 2 * x) → StOk (s.put i v) x') := fun x' h h1 h2 => by
    have h2' : (s.no || !v) = false := h2
    have h3 : s.no = false := by cases h : s.no with
      | true => rw [h] at h2'; simp at h2'
      | false => rfl
    have h8 := (unhide HS) ⟨h1, h3⟩
    rw [h ⟨h1, h3⟩, h8.1]
    show 2 * (s.step : Int) = ((2 * s.step : Nat) : Int)
    omega
  have HP := hide fun x' => scV_put s i v x'
  clear hak k hx h4 hi hst hne hsum hlt
  unfold scV at HA
  rw [show scV s x = .agg #[.int .i64 (s.how : Int), .int .i64 (s.low : Int), .int .i64 (s.high : Int), .int .i64 x, .bool s.no, .int .i64 (s.asked : Int)] from rfl]
  by_cases hc : s.how = 3 ∧ s.no = false
  · obtain ⟨-, x0, x1⟩ := unhide HS hc
    have HNN : Hid (StOk (s.put i v) (2 * x)) := unhide HN _ fun _ => rfl
    rw [show nxS s x = 2 * x by unfold nxS; rw [if_pos hc]]
    clear HS HN hc
    generalize (s.how : Int) = A0 at HA HP ⊢
    generalize (s.low : Int) = A1 at HA HP ⊢
    generalize (s.high : Int) = A2 at HA HP ⊢
    generalize s.no = A4 at HA HP ⊢
    generalize (s.asked : Int) = A5 at HA HP a5 a50 ⊢
    have b0 := ballo w (.cells #[.int .i64 A0, .int .i64 A1, .int .i64 A2, .int .i64 x, .bool A4, .int .i64 A5] 28)
    have b1 := ballo (w.alloc (.cells #[.int .i64 A0, .int .i64 A1, .int .i64 A2, .int .i64 x, .bool A4, .int .i64 A5] 28)) (.cells #[.int .i64 0, .int .i64 0, .int .i64 0, .int .i64 0, .bool false, .int .i64 0] 28)
    have k0 := (Bk.new w [.int .i64 A0, .int .i64 A1, .int .i64 A2, .int .i64 x, .bool A4, .int .i64 A5] 28).below b1
    have k1 := Bk.new (w.alloc (.cells #[.int .i64 A0, .int .i64 A1, .int .i64 A2, .int .i64 x, .bool A4, .int .i64 A5] 28)) [.int .i64 0, .int .i64 0, .int .i64 0, .int .i64 0, .bool false, .int .i64 0] 28
    have z2 : ((w.alloc (.cells #[.int .i64 A0, .int .i64 A1, .int .i64 A2, .int .i64 x, .bool A4, .int .i64 A5] 28)).alloc (.cells #[.int .i64 0, .int .i64 0, .int .i64 0, .int .i64 0, .bool false, .int .i64 0] 28)).heap.size = w.heap.size + 2 := by simp
    rw [World.size_alloc] at k1
    have HB := hide (bstep b0 b1)
    have HK := hide (And.intro k0 k1)
    have HZ := hide z2
    clear b0 b1 k0 k1 z2
    cases v with
    | true =>
      go_enter Try.func18, Try.ntmps18
      go_wp2_with fail
      refine (unhide HA _).mono ?_
      unfold oaV
      rintro e w3 ⟨rfl, hb3⟩
      have K0 := (unhide HK).1.below hb3
      have K1 := (unhide HK).2.below hb3
      have B3 := hide (bstep (unhide HB) hb3)
      have z3 := hb3.size
      rw [unhide HZ] at z3
      obtain ⟨⟨p0, p1, p2, p3, p4, p5⟩, g0, g1, g2, g3, g4, g5⟩ := K0.c6
      obtain ⟨-, f0, f1, f2, f3, f4, f5⟩ := K1.c6
      obtain ⟨⟨y0, y1, y2, y3, y4, y5⟩, -, -, -, -, -, -⟩ := K1.c6
      have HK0 := hide K0
      have HK1 := hide K1
      clear HA HK HB HZ K0 K1 hb3
      go_wp2
      have K2 := ((((unhide HK1).other ⟨w.heap.size, 2, none⟩ (by simp) (.int .i64 (i : Int))).other ⟨w.heap.size, 3, none⟩ (by simp) (.int .i64 (2 * x))).other ⟨w.heap.size, 5, none⟩ (by simp) (.int .i64 (A5 + 1))).six (.int .i64 A0) (.int .i64 A1) (.int .i64 (i : Int)) (.int .i64 (2 * x)) (.bool A4) (.int .i64 (A5 + 1))
      obtain ⟨⟨r0, r1, r2, r3, r4, r5⟩, -, -, -, -, -, -⟩ := K2.c6
      refine bodyPost_ret (v := .tuple #[.agg #[.int .i64 A0, .int .i64 A1, .int .i64 (i : Int), .int .i64 (2 * x), .bool A4, .int .i64 (A5 + 1)], .int .i64 0]) ?_ rfl ⟨six_belowS (((((unhide B3).setCell (p := ⟨w.heap.size, 2, none⟩) (Nat.le_refl _) (.int .i64 (i : Int))).setCell (p := ⟨w.heap.size, 3, none⟩) (Nat.le_refl _) (.int .i64 (2 * x))).setCell (p := ⟨w.heap.size, 5, none⟩) (Nat.le_refl _) (.int .i64 (A5 + 1)))) (by omega) _ _ _ _ _ _, unhide HNN, by rw [unhide HP]; simp⟩
      simp [results, Try.results18, go_sem, r0, r1, r2, r3, r4, r5]

    | false =>
      go_enter Try.func18, Try.ntmps18
      go_wp2_with fail
      refine (unhide HA _).mono ?_
      unfold oaV
      rintro e w3 ⟨rfl, hb3⟩
      have K0 := (unhide HK).1.below hb3
      have K1 := (unhide HK).2.below hb3
      have B3 := hide (bstep (unhide HB) hb3)
      have z3 := hb3.size
      rw [unhide HZ] at z3
      obtain ⟨⟨p0, p1, p2, p3, p4, p5⟩, g0, g1, g2, g3, g4, g5⟩ := K0.c6
      obtain ⟨-, f0, f1, f2, f3, f4, f5⟩ := K1.c6
      obtain ⟨⟨y0, y1, y2, y3, y4, y5⟩, -, -, -, -, -, -⟩ := K1.c6
      have HK0 := hide K0
      have HK1 := hide K1
      clear HA HK HB HZ K0 K1 hb3
      go_wp2
      have K2 := (((((unhide HK1).other ⟨w.heap.size, 1, none⟩ (by simp) (.int .i64 (i : Int))).other ⟨w.heap.size, 4, none⟩ (by simp) (.bool true)).other ⟨w.heap.size, 3, none⟩ (by simp) (.int .i64 (2 * x))).other ⟨w.heap.size, 5, none⟩ (by simp) (.int .i64 (A5 + 1))).six (.int .i64 A0) (.int .i64 (i : Int)) (.int .i64 A2) (.int .i64 (2 * x)) (.bool true) (.int .i64 (A5 + 1))
      obtain ⟨⟨r0, r1, r2, r3, r4, r5⟩, -, -, -, -, -, -⟩ := K2.c6
      refine bodyPost_ret (v := .tuple #[.agg #[.int .i64 A0, .int .i64 (i : Int), .int .i64 A2, .int .i64 (2 * x), .bool true, .int .i64 (A5 + 1)], .int .i64 0]) ?_ rfl ⟨six_belowS ((((((unhide B3).setCell (p := ⟨w.heap.size, 1, none⟩) (Nat.le_refl _) (.int .i64 (i : Int))).setCell (p := ⟨w.heap.size, 4, none⟩) (Nat.le_refl _) (.bool true)).setCell (p := ⟨w.heap.size, 3, none⟩) (Nat.le_refl _) (.int .i64 (2 * x))).setCell (p := ⟨w.heap.size, 5, none⟩) (Nat.le_refl _) (.int .i64 (A5 + 1)))) (by omega) _ _ _ _ _ _, unhide HNN, by rw [unhide HP]; simp⟩
      simp [results, Try.results18, go_sem, r0, r1, r2, r3, r4, r5]

  · have HNN : Hid (∀ x', StOk (s.put i v) x') := fun x' => unhide HN x' fun h => absurd h hc
    rw [show nxS s x = wrap64 (2 * x) by unfold nxS; rw [if_neg hc]]
    clear HS HN hc
    generalize (s.how : Int) = A0 at HA HP ⊢
    generalize (s.low : Int) = A1 at HA HP ⊢
    generalize (s.high : Int) = A2 at HA HP ⊢
    generalize s.no = A4 at HA HP ⊢
    generalize (s.asked : Int) = A5 at HA HP a5 a50 ⊢
    have b0 := ballo w (.cells #[.int .i64 A0, .int .i64 A1, .int .i64 A2, .int .i64 x, .bool A4, .int .i64 A5] 28)
    have b1 := ballo (w.alloc (.cells #[.int .i64 A0, .int .i64 A1, .int .i64 A2, .int .i64 x, .bool A4, .int .i64 A5] 28)) (.cells #[.int .i64 0, .int .i64 0, .int .i64 0, .int .i64 0, .bool false, .int .i64 0] 28)
    have k0 := (Bk.new w [.int .i64 A0, .int .i64 A1, .int .i64 A2, .int .i64 x, .bool A4, .int .i64 A5] 28).below b1
    have k1 := Bk.new (w.alloc (.cells #[.int .i64 A0, .int .i64 A1, .int .i64 A2, .int .i64 x, .bool A4, .int .i64 A5] 28)) [.int .i64 0, .int .i64 0, .int .i64 0, .int .i64 0, .bool false, .int .i64 0] 28
    have z2 : ((w.alloc (.cells #[.int .i64 A0, .int .i64 A1, .int .i64 A2, .int .i64 x, .bool A4, .int .i64 A5] 28)).alloc (.cells #[.int .i64 0, .int .i64 0, .int .i64 0, .int .i64 0, .bool false, .int .i64 0] 28)).heap.size = w.heap.size + 2 := by simp
    rw [World.size_alloc] at k1
    have HB := hide (bstep b0 b1)
    have HK := hide (And.intro k0 k1)
    have HZ := hide z2
    clear b0 b1 k0 k1 z2
    cases v with
    | true =>
      go_enter Try.func18, Try.ntmps18
      go_wp2_with fail
      refine (unhide HA _).mono ?_
      unfold oaV
      rintro e w3 ⟨rfl, hb3⟩
      have K0 := (unhide HK).1.below hb3
      have K1 := (unhide HK).2.below hb3
      have B3 := hide (bstep (unhide HB) hb3)
      have z3 := hb3.size
      rw [unhide HZ] at z3
      obtain ⟨⟨p0, p1, p2, p3, p4, p5⟩, g0, g1, g2, g3, g4, g5⟩ := K0.c6
      obtain ⟨-, f0, f1, f2, f3, f4, f5⟩ := K1.c6
      obtain ⟨⟨y0, y1, y2, y3, y4, y5⟩, -, -, -, -, -, -⟩ := K1.c6
      have HK0 := hide K0
      have HK1 := hide K1
      clear HA HK HB HZ K0 K1 hb3
      go_wp2
      have K2 := ((((unhide HK1).other ⟨w.heap.size, 2, none⟩ (by simp) (.int .i64 (i : Int))).other ⟨w.heap.size, 3, none⟩ (by simp) (.int .i64 (wrap64 (2 * x)))).other ⟨w.heap.size, 5, none⟩ (by simp) (.int .i64 (A5 + 1))).six (.int .i64 A0) (.int .i64 A1) (.int .i64 (i : Int)) (.int .i64 (wrap64 (2 * x))) (.bool A4) (.int .i64 (A5 + 1))
      obtain ⟨⟨r0, r1, r2, r3, r4, r5⟩, -, -, -, -, -, -⟩ := K2.c6
      refine bodyPost_ret (v := .tuple #[.agg #[.int .i64 A0, .int .i64 A1, .int .i64 (i : Int), .int .i64 (wrap64 (2 * x)), .bool A4, .int .i64 (A5 + 1)], .int .i64 0]) ?_ rfl ⟨six_belowS (((((unhide B3).setCell (p := ⟨w.heap.size, 2, none⟩) (Nat.le_refl _) (.int .i64 (i : Int))).setCell (p := ⟨w.heap.size, 3, none⟩) (Nat.le_refl _) (.int .i64 (wrap64 (2 * x)))).setCell (p := ⟨w.heap.size, 5, none⟩) (Nat.le_refl _) (.int .i64 (A5 + 1)))) (by omega) _ _ _ _ _ _, unhide HNN _, by rw [unhide HP]; simp⟩
      simp [results, Try.results18, go_sem, r0, r1, r2, r3, r4, r5]

    | false =>
      go_enter Try.func18, Try.ntmps18
      go_wp2_with fail
      refine (unhide HA _).mono ?_
      unfold oaV
      rintro e w3 ⟨rfl, hb3⟩
      have K0 := (unhide HK).1.below hb3
      have K1 := (unhide HK).2.below hb3
      have B3 := hide (bstep (unhide HB) hb3)
      have z3 := hb3.size
      rw [unhide HZ] at z3
      obtain ⟨⟨p0, p1, p2, p3, p4, p5⟩, g0, g1, g2, g3, g4, g5⟩ := K0.c6
      obtain ⟨-, f0, f1, f2, f3, f4, f5⟩ := K1.c6
      obtain ⟨⟨y0, y1, y2, y3, y4, y5⟩, -, -, -, -, -, -⟩ := K1.c6
      have HK0 := hide K0
      have HK1 := hide K1
      clear HA HK HB HZ K0 K1 hb3
      go_wp2
      have K2 := (((((unhide HK1).other ⟨w.heap.size, 1, none⟩ (by simp) (.int .i64 (i : Int))).other ⟨w.heap.size, 4, none⟩ (by simp) (.bool true)).other ⟨w.heap.size, 3, none⟩ (by simp) (.int .i64 (wrap64 (2 * x)))).other ⟨w.heap.size, 5, none⟩ (by simp) (.int .i64 (A5 + 1))).six (.int .i64 A0) (.int .i64 (i : Int)) (.int .i64 A2) (.int .i64 (wrap64 (2 * x))) (.bool true) (.int .i64 (A5 + 1))
      obtain ⟨⟨r0, r1, r2, r3, r4, r5⟩, -, -, -, -, -, -⟩ := K2.c6
      refine bodyPost_ret (v := .tuple #[.agg #[.int .i64 A0, .int .i64 (i : Int), .int .i64 A2, .int .i64 (wrap64 (2 * x)), .bool true, .int .i64 (A5 + 1)], .int .i64 0]) ?_ rfl ⟨six_belowS ((((((unhide B3).setCell (p := ⟨w.heap.size, 1, none⟩) (Nat.le_refl _) (.int .i64 (i : Int))).setCell (p := ⟨w.heap.size, 4, none⟩) (Nat.le_refl _) (.bool true)).setCell (p := ⟨w.heap.size, 3, none⟩) (Nat.le_refl _) (.int .i64 (wrap64 (2 * x)))).setCell (p := ⟨w.heap.size, 5, none⟩) (Nat.le_refl _) (.int .i64 (A5 + 1)))) (by omega) _ _ _ _ _ _, unhide HNN _, by rw [unhide HP]; simp⟩
      simp [results, Try.results18, go_sem, r0, r1, r2, r3, r4, r5]


set_option maxRecDepth 100000 in
set_option maxHeartbeats 2000000 in
theorem told_any (a : Option Addr) (c : Nat) (l : List Bool) (i : Nat) (w : World) (hr : RdB w a l) (hl : l.length ≤ maxLen) (hi : i ≤ 1000000) :
    Calls Try.prog 17 #[.slice a l.length c, .int .i64 (i : Int)] w fun e w' => e = .returned (.bool (tdV l i)) ∧ w' = w := by
  unfold maxLen at hl
  by_cases h0 : l.length = 0
  · have HE := hide (show tdV l i = false by unfold tdV; rw [if_pos h0])
    rw [show l.length = 0 from h0]
    clear h0 hr hl
    go_enter Try.func17, Try.ntmps17
    go_wp2
    go_ret
    exact ⟨by rw [unhide HE]; rfl, rfl⟩
  · have HE := hide (show tdV l i = l.getD (i % l.length) false by unfold tdV; rw [if_neg h0])
    have hm : i % l.length < l.length := Nat.mod_lt _ (by omega)
    obtain ⟨b, off, rfl, hc⟩ := hr.at (i := i % l.length) hm
    have hcm := hc _ hm
    have hq : (i : Int).tmod (l.length : Int) = ((i % l.length : Nat) : Int) := by rw [Int.tmod_eq_emod_of_nonneg (by omega)]; first | exact (Int.natCast_emod _ _).symm | rfl
    have hlt : ((i % l.length : Nat) : Int) < (l.length : Int) := by omega
    have hl0 : (0 : Int) < (l.length : Int) := by omega
    generalize l.getD (i % l.length) false = x at *
    generalize i % l.length = m at *
    clear hc hr h0
    go_enter Try.func17, Try.ntmps17
    go_wp2
    go_ret
    exact ⟨by rw [unhide HE]; rfl, rfl⟩
theorem digits_any (n : Nat) (w : World) (hn : n ≤ 1000000) : Calls Try.prog 19 #[.int .i64 (n : Int)] w fun e w' => e = .returned (.int .i64 (dgN n : Int)) ∧ w' = w := by
  have hle := dgN_mono hn
  have hmx : dgN 1000000 ≤ 20 := dgN_lt (by decide)
  go_enter Try.func19, Try.ntmps19
  go_wp2
  go_loopw [0, 3] (fun x k wr => ∃ r t : Nat, x = .int .i64 (r : Int) ∧ k = .int .i64 (t : Int) ∧ t + dgN r = dgN n ∧ r ≤ n ∧ wr = w) (fun x _ _ => (intOf x).toNat)
  case atStart => exact ⟨n, 0, rfl, rfl, by omega, Nat.le_refl _, rfl⟩
  case round =>
    obtain ⟨r, t, rfl, rfl, ht, hr, hw⟩ := hrel
    subst hw
    by_cases h0 : r = 0
    · subst h0
      rw [dgN_zero] at ht
      have ht' : t = dgN n := by omega
      have HT := hide ht'
      clear ht ht'
      go_wp2
      go_ret
      exact ⟨by rw [← unhide HT]; rfl, rfl⟩
    · have hp := dgN_pos h0
      have hr0 : (0 : Int) < (r : Int) := by omega
      have hq : (r : Int).tdiv 2 = ((r / 2 : Nat) : Int) := by rw [Int.tdiv_eq_ediv_of_nonneg (by omega)]; omega
      have hq1 : (0 : Int) ≤ ((r / 2 : Nat) : Int) := by omega
      have hq2 : ((r / 2 : Nat) : Int) ≤ 1000000 := by omega
      have ht2 : t ≤ 20 := by omega
      have HT := hide ht
      have HP := hide hp
      clear ht hp
      go_wp2
      go_roundw
      case rel => exact ⟨r / 2, t + 1, by go_num, by go_num, by have := unhide HT; have := unhide HP; omega, by omega, by first | rfl | trivial⟩
      case measure => simp [intOf]; omega

end Go.Proofs.Ytaldjpjlggnhhaa
