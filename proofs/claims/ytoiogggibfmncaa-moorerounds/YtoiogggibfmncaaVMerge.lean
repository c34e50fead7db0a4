/-
  What the program's merged returns: the machine of the classes, in memory of its own.
-/
import Derived.Test.YtoiogggibfmncaaK11
import Derived.Test.YtoiogggibfmncaaK1
import Derived.Test.YtoiogggibfmncaaTCanon
import Derived.Deep.CutRange
namespace Go.Proofs.Ytoiogggibfmncaa
open Go.RowKit Go.Maps

theorem Mk.set3 {w : World} {b : Nat} {kind k o n : Int} {v1 v2 : Value} (h : Mk w b kind k o n v1 v2) (z : Int) : Mk (w.setCell ⟨b, 3, none⟩ (.int .i64 z)) b kind k o z v1 v2 := by
  have ot : ∀ i, i ≠ 3 → (w.setCell ⟨b, 3, none⟩ (.int .i64 z)).cell? ⟨b, i, none⟩ = w.cell? ⟨b, i, none⟩ := fun i hi => World.cell?_setCell_other (w := w) (a := ⟨b, 3, none⟩) (b := ⟨b, i, none⟩) (v := .int .i64 z) (h := fun e => hi (by injection e with _ e2 _; exact e2.symm))
  exact ⟨(ot 0 (by decide)).trans h.c0, (ot 1 (by decide)).trans h.c1, (ot 2 (by decide)).trans h.c2, World.cell?_setCell_same _ _ _ h.c3, (ot 4 (by decide)).trans h.c4, (ot 5 (by decide)).trans h.c5, by rw [World.frozen?_setCell]; exact h.f4, by rw [World.frozen?_setCell]; exact h.f5⟩
/-- One state more. -/
theorem NInv.more {m : Mc} {N : Nat} {w w0 wr : World} {b : Nat} {v1 v2 : Value} {A O : List Int} (h : NInv m N w w0 wr b v1 v2 A O) : NInv m (N + 1) w w0 (wr.setCell ⟨b, 3, none⟩ (.int .i64 ((N + 1 : Nat) : Int))) b v1 v2 A O := by
  have K2 : ∀ j, j ≠ b → (wr.setCell ⟨b, 3, none⟩ (.int .i64 ((N + 1 : Nat) : Int))).heap[j]? = wr.heap[j]? := fun j hj => Below.heap_setCell _ _ _ _ (by simpa using hj)
  exact ⟨h.m0.set3 _, h.o1.keep fun j e => K2 j (by have := (h.o1.lt e).1; omega), h.o2.keep fun j e => K2 j (by have := (h.o2.lt e).1; omega), h.ap, h.b1.setCell (p := ⟨b, 3, none⟩) h.wb _, h.d1.setCell (p := ⟨b, 3, none⟩) (Nat.le_refl _) _, h.wb⟩
theorem NInv.blk {m : Mc} {N : Nat} {w w0 wr wq w2 : World} {b : Nat} {v1 v2 u : Value} {A O : List Int} (h : NInv m N w w0 wr b v1 v2 A O) (hu : u = v1 ∨ u = v2) (hq : Below wr.heap.size wr wq) (hg : wq.grownBy w2 u.ownBlock) : w2.heap[b]? = wr.heap[b]? := by
  have hbl := World.block_lt_of_cell? wr _ h.m0.c0
  simp only at hbl
  have hz := hq.size
  rw [hg.block b (by omega) (fun e => by
    rcases hu with rfl | rfl
    · have := (h.o1.lt e.symm).1; omega
    · have := (h.o2.lt e.symm).1; omega)]
  exact hq.block b hbl
/-- The same, and the number of states may be written. -/
structure QInv (m : Mc) (N : Nat) (w w0 wr : World) (b : Nat) (v1 v2 : Value) (A O : List Int) : Prop where
  n : NInv m N w w0 wr b v1 v2 A O
  f3 : wr.frozen? ⟨b, 3, none⟩ = false
theorem QInv.push1 {m : Mc} {N : Nat} {w w0 wr wq w2 : World} {b : Nat} {v1 v2 v3 : Value} {A O M : List Int} (h : QInv m N w w0 wr b v1 v2 A O) (hq : Below wr.heap.size wr wq) (ho : OwnL .i64 3 w2 (b + 1) v3 (A ++ M)) (hb : Below (b + 1) wq w2) (hg : wq.grownBy w2 v1.ownBlock) (hat : ∀ j, v3.ownBlock = some j → v1.ownBlock = some j ∨ j = wq.heap.size) :
    Mk w2 b m.kind m.k m.o N v1 v2 ∧ QInv m N w w0 (w2.setCell ⟨b, 4, none⟩ v3) b v3 v2 (A ++ M) O := by
  obtain ⟨r1, r2⟩ := h.n.push1 hq ho hb hg hat
  have e := h.n.blk (.inl rfl) hq hg
  exact ⟨r1, r2, by rw [World.frozen?_setCell]; exact (World.frozen?_of_block e).trans h.f3⟩
theorem QInv.push2 {m : Mc} {N : Nat} {w w0 wr wq w2 : World} {b : Nat} {v1 v2 v3 : Value} {A O M : List Int} (h : QInv m N w w0 wr b v1 v2 A O) (hq : Below wr.heap.size wr wq) (ho : OwnL .i64 3 w2 (b + 1) v3 (O ++ M)) (hb : Below (b + 1) wq w2) (hg : wq.grownBy w2 v2.ownBlock) (hat : ∀ j, v3.ownBlock = some j → v2.ownBlock = some j ∨ j = wq.heap.size) :
    (Mk w2 b m.kind m.k m.o N v1 v2 ∧ w2.frozen? ⟨b, 3, none⟩ = false) ∧ QInv m N w w0 (w2.setCell ⟨b, 5, none⟩ v3) b v1 v3 A (O ++ M) := by
  obtain ⟨r1, r2⟩ := h.n.push2 hq ho hb hg hat
  have e := (World.frozen?_of_block (a := ⟨b, 3, none⟩) (h.n.blk (.inr rfl) hq hg)).trans h.f3
  exact ⟨⟨r1, e⟩, r2, by rw [World.frozen?_setCell]; exact e⟩
theorem QInv.more {m : Mc} {N : Nat} {w w0 wr : World} {b : Nat} {v1 v2 : Value} {A O : List Int} (h : QInv m N w w0 wr b v1 v2 A O) : QInv m (N + 1) w w0 (wr.setCell ⟨b, 3, none⟩ (.int .i64 ((N + 1 : Nat) : Int))) b v1 v2 A O :=
  ⟨h.n.more, by rw [World.frozen?_setCell]; exact h.f3⟩
def clR (m : Mc) : Nat → Nat → Bool := alkR m (rdV m)
theorem clR_eqv (m : Mc) : Eqv (clR m) m.n.toNat := alk_eqv m (rdV m) m.n.toNat
theorem quo_eq (m : Mc) : quoM m = pickV m (reps (clR m) m.n.toNat) (clM m) := rfl
theorem reps_new {R : Nat → Nat → Bool} {s : Nat} (h : first (R s) s = none) : reps R (s + 1) = reps R s ++ [(s : Int)] := by show (if _ then _ else _) = _; rw [if_pos h]
theorem reps_old {R : Nat → Nat → Bool} {s : Nat} (h : first (R s) s ≠ none) : reps R (s + 1) = reps R s := by show (if _ then _ else _) = _; rw [if_neg h]
theorem nc_new {R : Nat → Nat → Bool} {s : Nat} (h : first (R s) s = none) : nc R (s + 1) = nc R s + 1 := by show nc R s + _ = _; rw [if_pos h]
theorem nc_old {R : Nat → Nat → Bool} {s : Nat} (h : first (R s) s ≠ none) : nc R (s + 1) = nc R s := by show nc R s + _ = _; rw [if_neg h]; rfl
/-- A state that is not the first of its class has a smaller number. -/
theorem cl_old {R : Nat → Nat → Bool} {N : Nat} (E : Eqv R N) {s : Nat} (hs : s < N) (h : first (R s) s ≠ none) : cl R s < (nc R s : Nat) := by
  rcases first_cases (R s) s with ⟨e, _⟩ | ⟨r, e, hr, _, _⟩
  · exact absurd e h
  · rw [cl_some e hr]
    exact (cl_range (N := s) ⟨fun a ha => E.refl a (by omega), fun a b ha hb => E.symm a b (by omega) (by omega), fun a b c ha hb hc => E.trans a b c (by omega) (by omega) (by omega)⟩ hr).2

set_option maxHeartbeats 4000000 in
theorem merged_any (m : Mc) (a1 : Option Addr) (c1 : Nat) (a2 : Option Addr) (c2 : Nat) (a3 : Option Addr) (c3 N : Nat) (w : World) (R : Right m) (h1 : RdL .i64 w a1 m.nx) (h2 : RdL .i64 w a2 m.out) (hc2 : m.out.length ≤ c2) (h3 : RdL .i64 w a3 (aftL m (rdV m))) (hN : m.n = (N : Int)) :
    Calls Try.prog 34 #[mval m a1 c1 a2 c2, .slice a3 N c3] w fun e w' => ∃ v, e = .returned v ∧ MPost (quoM m) w v w' := by
  unfold mval
  have hpp := pp_le R
  have k0 := R.k0
  have k1 := R.k1
  have n0 := R.n0
  have n1 := R.n1
  have hNt : m.n.toNat = N := by omega
  have hN1 : N ≤ 1024 := by omega
  have hlC : (aftL m (rdV m)).length = N := by rw [aft_len]; exact hNt
  obtain ⟨w2, w2e⟩ : ∃ w2, w2 = ((w.alloc (.cells #[.int .i64 m.kind, .int .i64 m.k, .int .i64 m.o, .int .i64 m.n, .slice a1 m.nx.length c1, .slice a2 m.out.length c2] 24)).alloc (.cells #[.int .i64 0, .int .i64 0, .int .i64 0, .int .i64 0, .slice none 0 0, .slice none 0 0] 24)) := ⟨_, rfl⟩
  have z2 : w2.heap.size = w.heap.size + 2 := by rw [w2e]; simp
  have B2 : Box w2 w.heap.size m a1 c1 a2 c2 := by rw [w2e]; exact (Box.alloc w m a1 c1 a2 c2 24).below (ballo _ _)
  have Z2 : Box w2 (w.heap.size + 1) mc0 none 0 none 0 := by
    have := Box.alloc (w.alloc (.cells #[.int .i64 m.kind, .int .i64 m.k, .int .i64 m.o, .int .i64 m.n, .slice a1 m.nx.length c1, .slice a2 m.out.length c2] 24)) mc0 none 0 none 0 24
    rw [w2e]
    simp only [World.size_alloc] at this
    exact this
  have b2 : Below w.heap.size w w2 := by rw [w2e]; exact bstep (ballo _ _) (ballo _ _)
  have hz2 : ∀ i, w2.frozen? ⟨w.heap.size + 1, i, none⟩ = false := fun i => by rw [w2e, frozen?_alloc_cells, frozen?_alloc_cells]; exact frz_new w (by omega)
  have I0 : QInv m (nc (clR m) 0) w w2 (w2.alloc (.cells #[.int .i64 m.kind, .int .i64 m.k, .int .i64 m.o, .int .i64 0, .slice none 0 0, .slice none 0 0] 24)) (w.heap.size + 2) (.slice none 0 0) (.slice none 0 0) (nxR m (clM m) (reps (clR m) 0)) (ouR m (reps (clR m) 0)) := by
    refine ⟨⟨⟨?_, ?_, ?_, ?_, ?_, ?_, ?_, ?_⟩, OwnL.nil _ _ _ _, OwnL.nil _ _ _ _, (fun j e => by cases e), bstep b2 (ballo _ _), (Below.refl _ _).alloc (by omega) _, by omega⟩, ?_⟩
    all_goals rw [← z2]
    all_goals first | (rw [frozen?_alloc_cells]; exact frz_new w2 (Nat.le_refl _)) | simp [nc]
  have HI0 := hide I0
  have HR := hide R
  have HNN := hide hN
  have HNT := hide hNt
  have HLC := hide hlC
  clear R I0 hN hNt hlC
  go_enter Try.func34, Try.ntmps34
  go_wp2
  rw [← w2e]
  clear w2e
  go_loopw [18] (fun a wx => ∃ (s : Nat) (v1 v2 : Value), a = .int .i64 s ∧ s ≤ N ∧ QInv m (nc (clR m) s) w w2 wx (w.heap.size + 2) v1 v2 (nxR m (clM m) (reps (clR m) s)) (ouR m (reps (clR m) s))) (fun a _ => N - (intOf a).toNat)
  case atStart => exact ⟨0, _, _, rfl, Nat.zero_le _, unhide HI0⟩
  case round =>
    obtain ⟨s, v1, v2, rfl, hs, hinv⟩ := hrel
    clear HI0
    have HI := hide hinv
    obtain ⟨p0, p1, p2, p3, p4, p5⟩ := box_on B2 hinv.n.d1 (by omega)
    obtain ⟨m0, m1, m2, m3, m4, m5, f4, f5⟩ := hinv.n.m0
    by_cases hlt : s < N
    rotate_left
    · have he : s = N := by omega
      subst he
      have hO1 := hinv.n.o1
      have hO2 := hinv.n.o2
      obtain ⟨av, cv, ev, -, -, -, -, -⟩ := hO1.shape
      subst ev
      obtain ⟨aw, cw, ew, -, -, -, -, -⟩ := hO2.shape
      subst ew
      obtain ⟨z0, z1, z3, z4, z5, z6⟩ := box_on Z2 hinv.n.d1 (by omega)
      have hzr : ∀ j, wr.frozen? ⟨w.heap.size + 1, j, none⟩ = false := fun j => frz_on (hz2 j) hinv.n.d1 (by omega)
      have g0 := hzr 0
      have g1 := hzr 1
      have g2 := hzr 2
      have g3 := hzr 3
      have g4 := hzr 4
      have g5 := hzr 5
      have EQ : Hid (quoM m = ⟨m.kind, m.k, m.o, (nc (clR m) s : Nat), nxR m (clM m) (reps (clR m) s), ouR m (reps (clR m) s)⟩) := by
        show quoM m = _
        rw [quo_eq, unhide HNT, ← reps_len]; rfl
      clear hinv hzr hO1 hO2
      go_wp2
      change bodyPost _ _ _ _ _ (six wr (w.heap.size + 1) ⟨m.kind, m.k, m.o, (nc (clR m) s : Nat), nxR m (clM m) (reps (clR m) s), ouR m (reps (clR m) s)⟩ av cv aw cw)
      have hQ := unhide HI
      rw [← unhide EQ]
      have E1 : (quoM m).nx = nxR m (clM m) (reps (clR m) s) := by rw [unhide EQ]
      have E2 : (quoM m).out = ouR m (reps (clR m) s) := by rw [unhide EQ]
      rw [← E1, ← E2] at hQ
      have Q6 : Box (six wr (w.heap.size + 1) (quoM m) av cv aw cw) _ _ _ _ _ _ := (Box.mk (w := wr) (b := w.heap.size + 1) (m := mc0) (a1 := none) (c1 := 0) (a2 := none) (c2 := 0) z0 z1 z3 z4 z5 z6).six (quoM m) av cv aw cw
      have b6 := six_below hQ.n.b1 (b := w.heap.size + 1) (by omega) (quoM m) av cv aw cw
      have e1 := (hQ.n.o1.keep fun j e => six_heap wr (quoM m) av cv aw cw (b := w.heap.size + 1) (by have := (hQ.n.o1.lt e).1; omega)).mono (B' := w.heap.size) (by omega)
      have e2 := (hQ.n.o2.keep fun j e => six_heap wr (quoM m) av cv aw cw (b := w.heap.size + 1) (by have := (hQ.n.o2.lt e).1; omega)).mono (B' := w.heap.size) (by omega)
      have hap := hQ.n.ap
      clear HI
      generalize six wr (w.heap.size + 1) (quoM m) av cv aw cw = w6 at *
      obtain ⟨q0, q1, q2, q3, q4, q5⟩ := Q6
      refine bodyPost_ret (v := mval (quoM m) av cv aw cw) ?_ rfl ⟨_, rfl, av, cv, aw, cw, rfl, e1, e2, hap, b6⟩
      unfold mval
      simp [results, Try.results34, go_sem, q0, q1, q2, q3, q4, q5]
    have hlt' : (s : Int) < m.n := by have := unhide HNN; omega
    have hltN : (s : Int) < (N : Int) := by omega
    obtain ⟨bC, oC, rfl, hcC⟩ := (h3.below hinv.n.b1).at (i := s) (by rw [unhide HLC]; exact hlt)
    have hcs := hcC s (by rw [unhide HLC]; exact hlt)
    have ecl : (aftL m (rdV m)).getD s 0 = cl (clR m) s := cl_at _ (by rw [unhide HNT]; exact hlt)
    rw [ecl] at hcs
    have hnc := nc_le (clR m) s
    by_cases hold : first (clR m s) s = none
    rotate_left
    · have hlow := cl_old (clR_eqv m) (by rw [unhide HNT]; exact hlt) hold
      have HOLD := hide hold
      have tne : (cl (clR m) s != ((nc (clR m) s : Nat) : Int)) = true := bne_iff_ne.2 (by omega)
      clear hinv hcC ecl hold hlow
      go_wp2
      go_roundw
      case rel => exact ⟨s + 1, v1, v2, by go_num, by omega, by rw [nc_old (unhide HOLD), reps_old (unhide HOLD)]; exact unhide HI⟩
      case measure => simp [intOf]; omega
    have HNEW := hide hold
    rw [cl_none hold] at hcs
    clear hinv hcC ecl hold
    go_wp2
    go_loopw [29] (fun a wx => ∃ (x : Nat) (v1 v2 : Value), a = .int .i64 x ∧ (x : Int) ≤ m.k ∧ QInv m (nc (clR m) s) w w2 wx (w.heap.size + 2) v1 v2 (nxR m (clM m) (reps (clR m) s) ++ rowN m (clM m) s x) (ouR m (reps (clR m) s))) (fun a _ => m.k.toNat - (intOf a).toNat)
    case atStart => exact ⟨0, v1, v2, rfl, by omega, by have := unhide HI; rwa [← List.append_nil (nxR m _ _)] at this⟩
    case round =>
      obtain ⟨x, u1, u2, rfl, hxk, hinv⟩ := hrel
      clear HI p0 p1 p2 p3 p4 p5 m0 m1 m2 m3 m4 m5 f4 f5 hcs
      have HI := hide hinv
      obtain ⟨p0, p1, p2, p3, p4, p5⟩ := box_on B2 hinv.n.d1 (by omega)
      obtain ⟨m0, m1, m2, m3, m4, m5, f4, f5⟩ := hinv.n.m0
      have hb := hinv.n.b1
      have hO1 := hinv.n.o1
      have hO2 := hinv.n.o2
      have hlA : (nxR m (clM m) (reps (clR m) s) ++ rowN m (clM m) s x).length ≤ 70000 := by
        rw [List.length_append, nxR_len, rowN_len, reps_len]
        have : nc (clR m) s * m.k.toNat ≤ 1024 * 64 := Nat.mul_le_mul (by omega) (by omega)
        omega
      have hlO : (ouR m (reps (clR m) s)).length ≤ 70000 := by
        rw [ouR_len, reps_len]
        have : nc (clR m) s * pp m ≤ 1024 * 64 := Nat.mul_le_mul (by omega) (by omega)
        omega
      have hbl : w.heap.size + 2 < wr.heap.size := World.block_lt_of_cell? wr _ m0
      clear hinv
      by_cases hx : (x : Int) < m.k
      · obtain ⟨P, hP, hPl, t0, t1, t2⟩ := way_of (unhide HR) (s := (s : Int)) (by omega) hlt' (x := (x : Int)) (by omega) hx
        obtain ⟨b', off', rfl, hn⟩ := (h1.below hb).at hPl
        have hnP := hn P hPl
        have hy := (unhide HR).st P hPl
        have eN : nxt m s x = m.nx.getD P 0 := by unfold nxt; rw [hP]; simp
        obtain ⟨Y, hY⟩ := Int.eq_ofNat_of_zero_le hy.1
        rw [hY] at hnP hy
        have hYl : Y < (aftL m (rdV m)).length := by rw [unhide HLC]; have := unhide HNN; omega
        have hYl' : (Y : Int) < (N : Int) := by have := unhide HNN; omega
        obtain ⟨b4, off4, e4, hpc⟩ := (h3.below hb).at hYl
        cases e4
        have hpY := hpc Y hYl
        have hPl' : (P : Int) < (m.nx.length : Int) := by omega
        have eZ : (aftL m (rdV m)).getD Y 0 = clM m (nxt m s x) := by
          rw [eN, hY]
          exact cl_at _ (by rw [unhide HNT]; have := unhide HNN; omega)
        have EZ : Hid (nxR m (clM m) (reps (clR m) s) ++ rowN m (clM m) s x ++ [(aftL m (rdV m)).getD Y 0] = nxR m (clM m) (reps (clR m) s) ++ rowN m (clM m) s (x + 1)) := by
          show _ = _; rw [rowN_succ, eZ, List.append_assoc]
        obtain ⟨A, hA⟩ : ∃ A, A = nxR m (clM m) (reps (clR m) s) ++ rowN m (clM m) s x := ⟨_, rfl⟩
        rw [← hA] at HI hO1 hlA EZ
        generalize (aftL m (rdV m)).getD Y 0 = z at *
        obtain ⟨av, cv, ev, -, -, -, -, -⟩ := hO1.shape
        subst ev
        have J1 := hO1.drew
        have wr1 : IntKind.i64.wrap ((s : Int) * m.k) = s * m.k := by rw [IntKind.wrap_i64]; omega
        have wr2 : IntKind.i64.wrap (P : Int) = P := by rw [IntKind.wrap_i64]; omega
        have hq : Below wr.heap.size wr (wr.drew.alloc (.cells #[.int .i64 z] 3)) := bstep (bdrew1 wr) (ballo _ _)
        clear eN hn hpc hA hY eZ
        go_wp2
        go_region_law (refine step_pushA eInt rfl (.tmp 33) (.tmp 47) rfl (w.heap.size + 3) (.slice av A.length cv) A (by rfl) (J1.alloc _) ⟨wr.heap.size, 0, none⟩ 1 [z] (by rfl) (RdL.one _ _) (by simp only [List.length_cons, List.length_nil]; omega) (by simp; omega) ?_; intro v3 w4 hown4 hb4 hg4 hat4; obtain ⟨av3, cv3, ev3, -, -, -, -, -⟩ := hown4.shape; rw [show (A ++ [z]).length = A.length + 1 by simp] at ev3; subst ev3; obtain ⟨mk4, N4⟩ := (unhide HI).push1 hq hown4 hb4 hg4 hat4; obtain ⟨q0, q1, q2, q3, q4, q5, e4, e5⟩ := mk4)
        all_goals
          go_wp2
          go_roundw
          case rel => exact ⟨x + 1, _, _, by go_num, by omega, by rw [← unhide EZ]; exact N4⟩
          case measure => simp [intOf]; omega
      · have HX : Hid ((x : Int) = m.k) := by show _ = _; omega
        have EZ : Hid (nxR m (clM m) (reps (clR m) s) ++ rowN m (clM m) s x = nxR m (clM m) (reps (clR m) (s + 1))) := by
          show _ = _; rw [reps_new (unhide HNEW), nxR_snoc, ← unhide HX]; simp
        have EO : Hid (ouR m (reps (clR m) s) ++ rowO m s (pp m) = ouR m (reps (clR m) (s + 1))) := by
          show _ = _; rw [reps_new (unhide HNEW), ouR_snoc]
        have hle := rowO_len m s (pp m)
        obtain ⟨M, hM⟩ : ∃ M, M = rowO m s (pp m) := ⟨_, rfl⟩
        obtain ⟨O, hO⟩ : ∃ O, O = ouR m (reps (clR m) s) := ⟨_, rfl⟩
        rw [← hM] at EO hle
        rw [← hO] at HI hO2 hlO EO
        obtain ⟨av, cv, ev, -, -, -, -, -⟩ := hO2.shape
        subst ev
        have I1 := hO2.drew
        have hd := bdrew1 wr
        have HM := hide hM
        have HLE := hide hle
        have mkr : Mk wr.drew (w.heap.size + 2) m.kind m.k m.o ((nc (clR m) s : Nat) : Int) u1 (.slice av O.length cv) := (unhide HI).n.m0.keep rfl
        have h2d := h2.below (bstep hb hd)
        have hsd := saidIn_any m a1 c1 a2 c2 s wr.drew (unhide HR) hlt' h2d hc2
        have HSD := hide hsd
        have hbl2 : w.heap.size + 2 < wr.drew.heap.size := hbl
        have H2 := hide h2
        have HBD := hide (bstep hb hd)
        clear hM hO hle hsd h2d h2
        go_wp2
        go_cut [] from 50 to 57 (fun wx => ∃ v2', QInv m (nc (clR m) s) w w2 wx (w.heap.size + 2) u1 v2' (nxR m (clM m) (reps (clR m) s) ++ rowN m (clM m) s x) (O ++ M))
        case first =>
          go_region_law (first | (refine step_pushA eInt rfl (.tmp 52) (.tmp 55) rfl (w.heap.size + 3) (.slice av O.length cv) O (by rfl) O4 aS cS M (by rw [unhide HLE]; rfl) (by rw [unhide HM]; exact R4) (by rw [unhide HLE]; omega) (by simp at z4; omega) ?_; intro v3 w5 hown5 hb5 hg5 hat5; obtain ⟨av3, cv3, ev3, -, -, -, -, -⟩ := hown5.shape; rw [List.length_append, unhide HLE] at ev3; subst ev3; obtain ⟨⟨mk5, e3⟩, N5⟩ := (unhide HI).push2 (bstep hd hb4) hown5 hb5 hg5 hat5; obtain ⟨q0, q1, q2, q3, q4, q5, e4, e5⟩ := mk5) | (refine step_call2 rfl 47 (.tmp 53) (.tmp 54) #[24, 3] rfl Try.func47 (by kernel_rfl) (by kernel_rfl) (mval m a1 c1 a2 c2) (.int .i64 s) (by rfl) (by rfl) (unhide HSD) ?_; rintro e w4 ⟨aS, cS, rfl, rS, hb4⟩; refine ⟨_, rfl, ?_⟩; obtain ⟨m0', m1', m2', m3', m4', m5', f4', f5'⟩ := mkr.keep (hb4.block _ hbl2); have O4 := I1.grown hb4; have z4 := hb4.size; have R4 := rS w4 ((unhide H2).below (bstep (unhide HBD) hb4))))
          all_goals
            go_wp2
            go_meet
            exact ⟨_, N5⟩
        case rest =>
          obtain ⟨v2', hc⟩ := hcut
          rw [unhide EZ, unhide EO] at hc
          have HC := hide hc
          have hcc := nc_le (clR m) s
          clear m0 m1 m2 m3 m4 m5 f4 f5 p0 p1 p2 p3 p4 p5 HI
          obtain ⟨m0, m1, m2, m3, m4, m5, f4, f5⟩ := hc.n.m0
          have f3 := hc.f3
          clear hc
          go_wp2
          go_roundw
          case rel =>
            have h9 := (unhide HC).more
            rw [show ((nc (clR m) s + 1 : Nat) : Int) = ((nc (clR m) s : Nat) : Int) + 1 by omega] at h9
            exact ⟨s + 1, u1, v2', by go_num, by omega, by rw [nc_new (unhide HNEW)]; exact h9⟩
          case measure => simp [intOf]; omega

end Go.Proofs.Ytoiogggibfmncaa
