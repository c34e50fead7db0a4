/-
  The program's Tell.
-/
import Derived.Test.YtaldjpjlggnhhaaJAsk
namespace Go.Proofs.Ytaldjpjlggnhhaa
open Go.RowKit

/-- The way by which is asked on. -/
theorem on_yes (St : Nat) (w : World) (h : St ≤ 4096) : Calls Try.prog 35 #[.agg #[.int .i64 (St : Int)], .bool true] w fun e w' => e = .returned (.iface 64 (.agg #[.int .i64 ((2 * St : Nat) : Int)])) ∧ Below w.heap.size w w' := by
  rw [show ((2 * St : Nat) : Int) = 2 * (St : Int) by omega]
  go_enter Try.func35, Try.ntmps35
  go_wp2
  go_ret
  exact ⟨rfl, ballo _ _⟩
theorem on_no (St : Int) (w : World) : Calls Try.prog 35 #[.agg #[.int .i64 St], .bool false] w fun e w' => e = .returned (.iface 62 (.agg #[])) ∧ Below w.heap.size w w' := by
  go_enter Try.func35, Try.ntmps35
  go_wp2
  go_ret
  exact ⟨rfl, ballo _ _⟩

theorem asE (v : Value) (w : World) : (Instr.typeAssert (.iface 64 v) 54 64 true).run Try.prog w = .ok (.tuple #[v, .bool true]) w := as_own Try.underlying64 v w
theorem asL (v : Value) (w : World) : (Instr.typeAssert (.iface 61 v) 54 64 true).run Try.prog w = .ok (.tuple #[.agg #[.int .i64 0], .bool false]) w := as_oth Try.underlying64 (by decide) (by kernel_rfl) v w
theorem asB (v : Value) (w : World) : (Instr.typeAssert (.iface 62 v) 54 64 true).run Try.prog w = .ok (.tuple #[.agg #[.int .i64 0], .bool false]) w := as_oth Try.underlying64 (by decide) (by kernel_rfl) v w

/-- What wayOn makes of a way. -/
def onV (s : Sc) (v : Bool) : Value :=
  if s.how = 1 then .iface 61 (.agg #[])
  else if s.how = 3 ∧ s.no = false ∧ v = true then .iface 64 (.agg #[.int .i64 ((2 * s.step : Nat) : Int)])
  else .iface 62 (.agg #[])
theorem onV_put (s : Sc) (i : Nat) (v : Bool) : wyV (s.put i v) = onV s v := by
  show (if s.how = 1 then _ else if s.how = 3 ∧ (s.no || !v) = false then (.iface 64 (.agg #[.int .i64 ((2 * s.step : Nat) : Int)]) : Value) else _) = _
  unfold onV
  by_cases h1 : s.how = 1
  · rw [if_pos h1, if_pos h1]
  rw [if_neg h1, if_neg h1]
  by_cases h2 : s.how = 3 ∧ s.no = false ∧ v = true
  · rw [if_pos h2, if_pos ⟨h2.1, by show (s.no || !v) = false; rw [h2.2.1, h2.2.2]; rfl⟩]
  · rw [if_neg h2, if_neg ?_]
    rintro ⟨h3, h4⟩
    have h5 : (s.no || !v) = false := h4
    refine h2 ⟨h3, ?_, ?_⟩
    · cases h : s.no
      · rfl
      · rw [h] at h5; cases h5
    · cases h : v
      · rw [h] at h5; cases h6 : s.no <;> rw [h6] at h5 <;> cases h5
      · rfl
theorem onV_if (s : Sc) (v : Bool) : ∃ T u, onV s v = .iface T u := by
  unfold onV
  split
  · exact ⟨_, _, rfl⟩
  · split
    · exact ⟨_, _, rfl⟩
    · exact ⟨_, _, rfl⟩
set_option maxRecDepth 100000 in
set_option maxHeartbeats 1000000 in
theorem wayOn_any (s : Sc) (v : Bool) (w : World) (hs : s.how = 3 → s.no = false → s.step ≤ 4096) : Calls Try.prog 31 #[wyV s, .bool v] w fun e w' => e = .returned (onV s v) ∧ Below w.heap.size w w' := by
  have hE := fun v w => asE v w
  have hL := fun v w => asL v w
  have hB := fun v w => asB v w
  unfold wyV onV
  by_cases h1 : s.how = 1
  · rw [if_pos h1, if_pos h1]
    go_enter Try.func31, Try.ntmps31
    go_wp2
    go_ret
    exact ⟨rfl, ballo _ _⟩
  rw [if_neg h1, if_neg h1]
  by_cases h2 : s.how = 3 ∧ s.no = false
  · rw [if_pos h2]
    have h3 := hs h2.1 h2.2
    have HB := hide (ballo w (.cells #[.int .i64 (s.step : Int)] 64))
    cases v with
    | true =>
      rw [if_pos ⟨h2.1, h2.2, rfl⟩]
      have ho := fun w => on_yes s.step w h3
      generalize s.step = S at *
      clear h2 hs h1
      go_enter Try.func31, Try.ntmps31
      go_wp2_with (go_at_call 35; refine (ho _).mono ?_; rintro e w2 ⟨rfl, hb⟩)
      go_ret
      exact ⟨rfl, bstep (unhide HB) hb⟩
    | false =>
      rw [if_neg (by rintro ⟨-, -, h⟩; cases h)]
      have ho := fun w => on_no (s.step : Int) w
      generalize s.step = S at *
      clear h2 hs h1
      go_enter Try.func31, Try.ntmps31
      go_wp2_with (go_at_call 35; refine (ho _).mono ?_; rintro e w2 ⟨rfl, hb⟩)
      go_ret
      exact ⟨rfl, bstep (unhide HB) hb⟩
  · rw [if_neg h2, if_neg (by rintro ⟨h3, h4, -⟩; exact h2 ⟨h3, h4⟩)]
    go_enter Try.func31, Try.ntmps31
    go_wp2
    go_ret
    exact ⟨rfl, ballo _ _⟩

/-! ### Tell -/
theorem tell_nil (v : Bool) (w : World) : Calls Try.prog 16 #[.pointer none, .bool v] w fun e w' => e = .returned (.int .i64 5) ∧ w' = w := by
  go_enter Try.func16, Try.ntmps16
  go_wp2_with (go_at_call 29; refine (isMade_nil _).mono ?_; rintro e w1 ⟨rfl, hw1⟩; subst w1)
  go_ret
  exact ⟨rfl, rfl⟩
def tlE (s : Sc) : Int := if s.high = s.low + 1 then 7 else 0
theorem tell_end {n : Nat} {w : World} {b : Nat} {s : Sc} (h : Sx n w b s) (v : Bool) (hi : s.ask = none) :
    Calls Try.prog 16 #[.pointer (some ⟨b, 0, none⟩), .bool v] w fun e w' => e = .returned (.int .i64 7) ∧ Sx n w' b s ∧ Below w.heap.size w w' := by
  have hmd := isMade_any h
  have hak := ask_any h
  rw [hi] at hak
  have H := hide h
  clear hi h
  go_enter Try.func16, Try.ntmps16
  unfold oaV at hak
  go_wp2_with (first | (go_at_call 29; refine hmd.mono ?_; rintro e w1 ⟨rfl, hw1⟩; subst w1) | (go_at_call 12; refine hak.mono ?_; rintro e w2 ⟨rfl, hb⟩))
  go_ret
  exact ⟨rfl, (unhide H).below hb, hb⟩

theorem sx_put {n : Nat} {w : World} {b : Nat} {s : Sc} (h : Sx n w b s) {i : Nat} (hi : s.ask = some i) (v : Bool) {w' : World} (hb : Bk w' b [onV s v, .int .i64 (if v then (s.low : Int) else (i : Int)), .int .i64 (if v then (i : Int) else (s.high : Int)), .int .i64 ((s.asked : Int) + 1)] 57) : Sx n w' b (s.put i v) := by
  obtain ⟨m1, m2⟩ := h.ok.mid hi
  refine ⟨?_, h.ok.put m1 m2 v, h.le, h.hw, Sc.most_put h.ok h.ms hi v⟩
  have e : sxC (s.put i v) = [onV s v, .int .i64 (if v then (s.low : Int) else (i : Int)), .int .i64 (if v then (i : Int) else (s.high : Int)), .int .i64 ((s.asked : Int) + 1)] := by
    unfold sxC
    rw [onV_put]
    cases v <;> rfl
  rw [e]
  exact hb
theorem Bk.sett {w : World} {k : Nat} {cs : List Value} {t : TypeId} (h : Bk w k cs t) (i : Nat) (u : Value) : Bk (w.setCell ⟨k, i, none⟩ u) k (cs.set i u) t := by
  have h' : w.heap[k]? = some (.cells cs.toArray t (0, 0)) := h
  show (w.setCell ⟨k, i, none⟩ u).heap[k]? = _
  simp [World.setCell, Array.getElem?_modify, h']

set_option maxRecDepth 100000 in
set_option maxHeartbeats 2000000 in
theorem tell_put {n : Nat} {w : World} {b : Nat} {s : Sc} (h : Sx n w b s) (v : Bool) {i : Nat} (hi : s.ask = some i) :
    Calls Try.prog 16 #[.pointer (some ⟨b, 0, none⟩), .bool v] w fun e w' => e = .returned (.int .i64 0) ∧ Sx n w' b (s.put i v) ∧ Bx (· = b) w w' := by
  have hmd := isMade_any h
  have hak := ask_any h
  rw [hi] at hak
  have hne : s.high ≠ s.low + 1 := fun e => by rw [Sc.ask_end e] at hi; cases hi
  have hwo := fun w => wayOn_any s v w fun h3 h4 => h.step h3 h4 hne
  have hsum := h.ok.sum
  have hle := h.le
  have HP := hide fun w' => sx_put (w' := w') h hi v
  have hbl := h.blt
  have HO := hide h.o
  have a1 : (s.asked : Int) ≤ 4096 := by omega
  have hml := h.ok.lt
  clear hi h hne hsum hle hml
  unfold oaV at hak
  cases v with
  | true =>
    obtain ⟨OT, ov, hov⟩ := onV_if s true
    generalize onV s true = OV at hov hwo HP
    subst hov
    go_enter Try.func16, Try.ntmps16
    go_wp2_with (first | (go_at_call 29; refine hmd.mono ?_; rintro e w1 ⟨rfl, hw1⟩; subst w1) | fail)
    refine hak.mono ?_
    rintro e w2 ⟨rfl, hb⟩
    have B2 := (unhide HO).below hb
    have z2 := hb.size
    have B3 := B2.sett 2 (.int .i64 (i : Int))
    have f2 : w2.frozen? ⟨b, 2, none⟩ = false := by simp [World.frozen?, show w2.heap[b]? = _ from B2]
    have c2 := B2.cell 2
    have c0 := B3.cell 0
    have D3 : Bx (· = b) w (w2.setCell ⟨b, 2, none⟩ (.int .i64 (i : Int))) := Bx.setCell (X := (· = b)) (p := ⟨b, 2, none⟩) (Bx.of hb) rfl _
    have HB3 := hide B3
    have HD3 := hide D3
    simp only [sxC, List.getElem?_cons_zero, List.getElem?_cons_succ, List.set_cons_succ, List.set_cons_zero] at c2 c0
    clear B2 B3 D3
    have hwo' := hwo
    generalize wyV s = WY at c0 c2 hwo
    go_wp2_with fail
    refine (hwo _).mono ?_
    rintro e w4 ⟨rfl, hb4⟩
    have B4 := (unhide HB3).below hb4
    have D4 : Bx (· = b) w w4 := (unhide HD3).trans (Bx.of (X := fun _ => False) hb4) (fun _ _ h => h.elim)
    have f40 : w4.frozen? ⟨b, 0, none⟩ = false := by simp [World.frozen?, show w4.heap[b]? = _ from B4]
    have c40 := B4.cell 0
    have B5 := B4.sett 0 (.iface OT ov)
    have f53 : (w4.setCell ⟨b, 0, none⟩ (.iface OT ov)).frozen? ⟨b, 3, none⟩ = false := by simp [World.frozen?, show (w4.setCell ⟨b, 0, none⟩ (.iface OT ov)).heap[b]? = _ from B5]
    have c53 := B5.cell 3
    simp only [sxC, List.getElem?_cons_zero, List.getElem?_cons_succ, List.set_cons_succ, List.set_cons_zero] at c40 c53
    have HB := hide (B5.sett 3 (.int .i64 ((s.asked : Int) + 1)))
    have HD := hide (Bx.setCell (X := (· = b)) (p := ⟨b, 3, none⟩) (Bx.setCell (X := (· = b)) (p := ⟨b, 0, none⟩) D4 rfl (.iface OT ov)) rfl (.int .i64 ((s.asked : Int) + 1)))
    clear B4 D4 B5 HB3 HD3 hak hmd HO hwo hwo'
    go_wp2
    go_ret
    exact ⟨rfl, unhide HP _ (unhide HB), unhide HD⟩
  | false =>
    obtain ⟨OT, ov, hov⟩ := onV_if s false
    generalize onV s false = OV at hov hwo HP
    subst hov
    go_enter Try.func16, Try.ntmps16
    go_wp2_with (first | (go_at_call 29; refine hmd.mono ?_; rintro e w1 ⟨rfl, hw1⟩; subst w1) | fail)
    refine hak.mono ?_
    rintro e w2 ⟨rfl, hb⟩
    have B2 := (unhide HO).below hb
    have z2 := hb.size
    have B3 := B2.sett 1 (.int .i64 (i : Int))
    have f2 : w2.frozen? ⟨b, 1, none⟩ = false := by simp [World.frozen?, show w2.heap[b]? = _ from B2]
    have c2 := B2.cell 1
    have c0 := B3.cell 0
    have D3 : Bx (· = b) w (w2.setCell ⟨b, 1, none⟩ (.int .i64 (i : Int))) := Bx.setCell (X := (· = b)) (p := ⟨b, 1, none⟩) (Bx.of hb) rfl _
    have HB3 := hide B3
    have HD3 := hide D3
    simp only [sxC, List.getElem?_cons_zero, List.getElem?_cons_succ, List.set_cons_succ, List.set_cons_zero] at c2 c0
    clear B2 B3 D3
    have hwo' := hwo
    generalize wyV s = WY at c0 c2 hwo
    go_wp2_with fail
    refine (hwo _).mono ?_
    rintro e w4 ⟨rfl, hb4⟩
    have B4 := (unhide HB3).below hb4
    have D4 : Bx (· = b) w w4 := (unhide HD3).trans (Bx.of (X := fun _ => False) hb4) (fun _ _ h => h.elim)
    have f40 : w4.frozen? ⟨b, 0, none⟩ = false := by simp [World.frozen?, show w4.heap[b]? = _ from B4]
    have c40 := B4.cell 0
    have B5 := B4.sett 0 (.iface OT ov)
    have f53 : (w4.setCell ⟨b, 0, none⟩ (.iface OT ov)).frozen? ⟨b, 3, none⟩ = false := by simp [World.frozen?, show (w4.setCell ⟨b, 0, none⟩ (.iface OT ov)).heap[b]? = _ from B5]
    have c53 := B5.cell 3
    simp only [sxC, List.getElem?_cons_zero, List.getElem?_cons_succ, List.set_cons_succ, List.set_cons_zero] at c40 c53
    have HB := hide (B5.sett 3 (.int .i64 ((s.asked : Int) + 1)))
    have HD := hide (Bx.setCell (X := (· = b)) (p := ⟨b, 3, none⟩) (Bx.setCell (X := (· = b)) (p := ⟨b, 0, none⟩) D4 rfl (.iface OT ov)) rfl (.int .i64 ((s.asked : Int) + 1)))
    clear B4 D4 B5 HB3 HD3 hak hmd HO hwo hwo'
    go_wp2
    go_ret
    exact ⟨rfl, unhide HP _ (unhide HB), unhide HD⟩

end Go.Proofs.Ytaldjpjlggnhhaa
