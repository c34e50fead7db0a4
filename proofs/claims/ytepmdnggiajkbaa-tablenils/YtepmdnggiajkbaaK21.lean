/-
  Some texts of this seat, one behind the other.
-/
import Derived.Test.YtepmdnggiajkbaaK2
import Derived.Test.YtepmdnggiajkbaaK7
import Derived.Test.YtepmdnggiajkbaaUCnV
/-
  What the program's renumbered returns: the machine of some states, in memory of its own.
-/
namespace Go.Proofs.Ytepmdnggiajkbaa
open Go.RowKit Go.Maps

/-- A machine in the making, in block b: its numbers, and its lists' values. -/
structure Mk (w : World) (b : Nat) (kind k o n : Int) (v1 v2 : Value) : Prop where
  c0 : w.cell? ⟨b, 0, none⟩ = some (.int .i64 kind)
  c1 : w.cell? ⟨b, 1, none⟩ = some (.int .i64 k)
  c2 : w.cell? ⟨b, 2, none⟩ = some (.int .i64 o)
  c3 : w.cell? ⟨b, 3, none⟩ = some (.int .i64 n)
  c4 : w.cell? ⟨b, 4, none⟩ = some v1
  c5 : w.cell? ⟨b, 5, none⟩ = some v2
  f4 : w.frozen? ⟨b, 4, none⟩ = false
  f5 : w.frozen? ⟨b, 5, none⟩ = false
theorem Mk.keep {w w' : World} {b : Nat} {kind k o n : Int} {v1 v2 : Value} (h : Mk w b kind k o n v1 v2) (e : w'.heap[b]? = w.heap[b]?) : Mk w' b kind k o n v1 v2 :=
  ⟨(World.cell?_of_block e).trans h.c0, (World.cell?_of_block e).trans h.c1, (World.cell?_of_block e).trans h.c2, (World.cell?_of_block e).trans h.c3, (World.cell?_of_block e).trans h.c4, (World.cell?_of_block e).trans h.c5, by have := h.f4; unfold World.frozen? at this ⊢; rw [e]; exact this, by have := h.f5; unfold World.frozen? at this ⊢; rw [e]; exact this⟩
theorem Mk.set4 {w : World} {b : Nat} {kind k o n : Int} {v1 v2 : Value} (h : Mk w b kind k o n v1 v2) (v : Value) : Mk (w.setCell ⟨b, 4, none⟩ v) b kind k o n v v2 := by
  have ot : ∀ i, i ≠ 4 → (w.setCell ⟨b, 4, none⟩ v).cell? ⟨b, i, none⟩ = w.cell? ⟨b, i, none⟩ := fun i hi => World.cell?_setCell_other (w := w) (a := ⟨b, 4, none⟩) (b := ⟨b, i, none⟩) (v := v) (h := fun e => hi (by injection e with _ e2 _; exact e2.symm))
  exact ⟨(ot 0 (by decide)).trans h.c0, (ot 1 (by decide)).trans h.c1, (ot 2 (by decide)).trans h.c2, (ot 3 (by decide)).trans h.c3, World.cell?_setCell_same _ _ _ h.c4, (ot 5 (by decide)).trans h.c5, by rw [World.frozen?_setCell]; exact h.f4, by rw [World.frozen?_setCell]; exact h.f5⟩
theorem Mk.set5 {w : World} {b : Nat} {kind k o n : Int} {v1 v2 : Value} (h : Mk w b kind k o n v1 v2) (v : Value) : Mk (w.setCell ⟨b, 5, none⟩ v) b kind k o n v1 v := by
  have ot : ∀ i, i ≠ 5 → (w.setCell ⟨b, 5, none⟩ v).cell? ⟨b, i, none⟩ = w.cell? ⟨b, i, none⟩ := fun i hi => World.cell?_setCell_other (w := w) (a := ⟨b, 5, none⟩) (b := ⟨b, i, none⟩) (v := v) (h := fun e => hi (by injection e with _ e2 _; exact e2.symm))
  exact ⟨(ot 0 (by decide)).trans h.c0, (ot 1 (by decide)).trans h.c1, (ot 2 (by decide)).trans h.c2, (ot 3 (by decide)).trans h.c3, (ot 4 (by decide)).trans h.c4, World.cell?_setCell_same _ _ _ h.c5, by rw [World.frozen?_setCell]; exact h.f4, by rw [World.frozen?_setCell]; exact h.f5⟩

/-- What holds on the way: the machine in block b, its lists in memory behind it. -/
structure NInv (m : Mc) (N : Nat) (w w0 wr : World) (b : Nat) (v1 v2 : Value) (A O : List Int) : Prop where
  m0 : Mk wr b m.kind m.k m.o N v1 v2
  o1 : OwnL .i64 3 wr (b + 1) v1 A
  o2 : OwnL .i64 3 wr (b + 1) v2 O
  ap : ∀ j, v1.ownBlock = some j → v2.ownBlock ≠ some j
  b1 : Below w.heap.size w wr
  d1 : Below b w0 wr
  wb : w.heap.size ≤ b
/-- One more number behind the first list. -/
theorem NInv.push1 {m : Mc} {N : Nat} {w w0 wr wq w2 : World} {b : Nat} {v1 v2 v3 : Value} {A O M : List Int} (h : NInv m N w w0 wr b v1 v2 A O) (hq : Below wr.heap.size wr wq) (ho : OwnL .i64 3 w2 (b + 1) v3 (A ++ M)) (hb : Below (b + 1) wq w2) (hg : wq.grownBy w2 v1.ownBlock) (hat : ∀ j, v3.ownBlock = some j → v1.ownBlock = some j ∨ j = wq.heap.size) :
    Mk w2 b m.kind m.k m.o N v1 v2 ∧ NInv m N w w0 (w2.setCell ⟨b, 4, none⟩ v3) b v3 v2 (A ++ M) O := by
  have hbl := World.block_lt_of_cell? wr _ h.m0.c0
  simp only at hbl
  have hz := hq.size
  have K : ∀ j, j < wr.heap.size → v1.ownBlock ≠ some j → w2.heap[j]? = wr.heap[j]? := fun j hj hne => by
    rw [hg.block j (by omega) (fun e => hne e.symm)]; exact hq.block j hj
  have K2 : ∀ j, j ≠ b → (w2.setCell ⟨b, 4, none⟩ v3).heap[j]? = w2.heap[j]? := fun j hj => Below.heap_setCell _ _ _ _ (by simpa using hj)
  have mk2 := h.m0.keep (K b hbl fun e => by have := (h.o1.lt e).1; omega)
  have dq : Below b wr w2 := (hq.mono (by omega)).trans (hb.mono (by omega))
  have wb := h.wb
  refine ⟨mk2, mk2.set4 v3, ho.keep fun j e => K2 j (by have := (ho.lt e).1; omega), ?_, fun j e e2 => ?_, ?_, ?_, h.wb⟩
  · refine (h.o2.keep fun j e => K j (h.o2.lt e).2 fun e2 => h.ap j e2 e).keep fun j e => K2 j (by have := (h.o2.lt e).1; omega)
  · rcases hat j e with e3 | e3
    · exact h.ap j e3 e2
    · have := (h.o2.lt e2).2; omega
  · exact (h.b1.trans (dq.mono wb)).setCell (p := ⟨b, 4, none⟩) wb v3
  · exact (h.d1.trans dq).setCell (p := ⟨b, 4, none⟩) (Nat.le_refl _) v3
theorem NInv.push2 {m : Mc} {N : Nat} {w w0 wr wq w2 : World} {b : Nat} {v1 v2 v3 : Value} {A O M : List Int} (h : NInv m N w w0 wr b v1 v2 A O) (hq : Below wr.heap.size wr wq) (ho : OwnL .i64 3 w2 (b + 1) v3 (O ++ M)) (hb : Below (b + 1) wq w2) (hg : wq.grownBy w2 v2.ownBlock) (hat : ∀ j, v3.ownBlock = some j → v2.ownBlock = some j ∨ j = wq.heap.size) :
    Mk w2 b m.kind m.k m.o N v1 v2 ∧ NInv m N w w0 (w2.setCell ⟨b, 5, none⟩ v3) b v1 v3 A (O ++ M) := by
  have hbl := World.block_lt_of_cell? wr _ h.m0.c0
  simp only at hbl
  have hz := hq.size
  have K : ∀ j, j < wr.heap.size → v2.ownBlock ≠ some j → w2.heap[j]? = wr.heap[j]? := fun j hj hne => by
    rw [hg.block j (by omega) (fun e => hne e.symm)]; exact hq.block j hj
  have K2 : ∀ j, j ≠ b → (w2.setCell ⟨b, 5, none⟩ v3).heap[j]? = w2.heap[j]? := fun j hj => Below.heap_setCell _ _ _ _ (by simpa using hj)
  have mk2 := h.m0.keep (K b hbl fun e => by have := (h.o2.lt e).1; omega)
  have dq : Below b wr w2 := (hq.mono (by omega)).trans (hb.mono (by omega))
  have wb := h.wb
  refine ⟨mk2, mk2.set5 v3, ?_, ho.keep fun j e => K2 j (by have := (ho.lt e).1; omega), fun j e e2 => ?_, ?_, ?_, h.wb⟩
  · refine (h.o1.keep fun j e => K j (h.o1.lt e).2 fun e2 => h.ap j e e2).keep fun j e => K2 j (by have := (h.o1.lt e).1; omega)
  · rcases hat j e2 with e3 | e3
    · exact h.ap j e e3
    · have := (h.o1.lt e).2; omega
  · exact (h.b1.trans (dq.mono wb)).setCell (p := ⟨b, 5, none⟩) wb v3
  · exact (h.d1.trans dq).setCell (p := ⟨b, 5, none⟩) (Nat.le_refl _) v3

/-- What renumbered leaves: the machine r, its lists in memory of their own. -/
def MPost (r : Mc) (w : World) (v : Value) (w' : World) : Prop :=
  ∃ a1 c1 a2 c2, v = mval r a1 c1 a2 c2 ∧ OwnL .i64 3 w' w.heap.size (.slice a1 r.nx.length c1) r.nx ∧ OwnL .i64 3 w' w.heap.size (.slice a2 r.out.length c2) r.out ∧ (∀ j, (Value.slice a1 r.nx.length c1).ownBlock = some j → (Value.slice a2 r.out.length c2).ownBlock ≠ some j) ∧ Below w.heap.size w w'

set_option maxHeartbeats 4000000 in
theorem ren_any (m : Mc) (a1 : Option Addr) (c1 : Nat) (a2 : Option Addr) (c2 : Nat) (a0 : Option Addr) (c0 g : Nat) (S : List Int) (w : World) (R : Right m) (h1 : RdL .i64 w a1 m.nx) (h2 : RdL .i64 w a2 m.out) (hc2 : m.out.length ≤ c2) (hS : RdL .i64 w a0 S) (hN : NMap w g S)
    (hr : ∀ p, p < S.length → 0 ≤ S.getD p 0 ∧ S.getD p 0 < m.n) (hl : S.length ≤ 1024) (hc : ∀ p, p < S.length → ∀ y : Nat, (y : Int) < m.k → nxt m (S.getD p 0) y ∈ S) :
    Calls Try.prog 53 #[mval m a1 c1 a2 c2, .agg #[.slice a0 S.length c0, .map (some g)]] w fun e w' => ∃ v, e = .returned v ∧ MPost (pickV m S fun t => (S.idxOf t : Nat)) w v w' := by
  unfold mval
  have B0 := Box.alloc w m a1 c1 a2 c2 27
  have hpp := pp_le R
  have hol := out_len R
  have k0 := R.k0
  have k1 := R.k1
  have n0 := R.n0
  have n1 := R.n1
  have hdiv : (m.out.length : Int) / m.n = (pp m : Int) := by rw [hol, Int.mul_comm]; exact Int.mul_ediv_cancel _ (by omega)
  have hd0 : 0 ≤ (m.out.length : Int) / m.n := by rw [hdiv]; omega
  have hd1 : (m.out.length : Int) / m.n ≤ 64 := by rw [hdiv]; omega
  have ho1 : m.out.length ≤ 65536 := by
    have h4 : m.n * (pp m : Int) ≤ 1024 * 64 := Int.mul_le_mul n1 (by omega) (by omega) (by omega)
    omega
  have w3e : ∃ w3, w3 = (((w.alloc (.cells #[.int .i64 m.kind, .int .i64 m.k, .int .i64 m.o, .int .i64 m.n, .slice a1 m.nx.length c1, .slice a2 m.out.length c2] 27)).alloc (.cells #[.slice a0 S.length c0, .map (some g)] 95)).alloc (.cells #[.int .i64 0, .int .i64 0, .int .i64 0, .int .i64 0, .slice none 0 0, .slice none 0 0] 27)) := ⟨_, rfl⟩
  obtain ⟨w3, w3e⟩ := w3e
  have z3 : w3.heap.size = w.heap.size + 3 := by rw [w3e]; simp
  have B3 : Box w3 w.heap.size m a1 c1 a2 c2 := by rw [w3e]; exact B0.below (bstep (ballo _ _) (ballo _ _))
  have C3 : w3.cell? ⟨w.heap.size + 1, 0, none⟩ = some (.slice a0 S.length c0) := by rw [w3e, (ballo _ _).cell (by simp), show w.heap.size + 1 = (w.alloc (.cells #[.int .i64 m.kind, .int .i64 m.k, .int .i64 m.o, .int .i64 m.n, .slice a1 m.nx.length c1, .slice a2 m.out.length c2] 27)).heap.size by simp]; simp
  have C3' : w3.cell? ⟨w.heap.size + 1, 1, none⟩ = some (.map (some g)) := by rw [w3e, (ballo _ _).cell (by simp), show w.heap.size + 1 = (w.alloc (.cells #[.int .i64 m.kind, .int .i64 m.k, .int .i64 m.o, .int .i64 m.n, .slice a1 m.nx.length c1, .slice a2 m.out.length c2] 27)).heap.size by simp]; simp
  have Z3 : Box w3 (w.heap.size + 2) mc0 none 0 none 0 := by
    have := Box.alloc ((w.alloc (.cells #[.int .i64 m.kind, .int .i64 m.k, .int .i64 m.o, .int .i64 m.n, .slice a1 m.nx.length c1, .slice a2 m.out.length c2] 27)).alloc (.cells #[.slice a0 S.length c0, .map (some g)] 95)) mc0 none 0 none 0 27
    rw [w3e]
    simp only [World.size_alloc] at this
    exact this
  have b3 : Below w.heap.size w w3 := by rw [w3e]; exact bstep (bstep (ballo _ _) (ballo _ _)) (ballo _ _)
  have hz3 : ∀ i, w3.frozen? ⟨w.heap.size + 2, i, none⟩ = false := fun i => by rw [w3e, frozen?_alloc_cells, frozen?_alloc_cells, frozen?_alloc_cells]; exact frz_new w (by omega)
  have I0 : NInv m S.length w w3 (w3.alloc (.cells #[.int .i64 m.kind, .int .i64 m.k, .int .i64 m.o, .int .i64 (S.length : Nat), .slice none 0 0, .slice none 0 0] 27)) (w.heap.size + 3) (.slice none 0 0) (.slice none 0 0) (nxR m (fun t => (S.idxOf t : Nat)) (S.take 0)) (ouR m (S.take 0)) := by
    refine ⟨⟨?_, ?_, ?_, ?_, ?_, ?_, ?_, ?_⟩, OwnL.nil _ _ _ _, OwnL.nil _ _ _ _, (fun j e => by cases e), bstep b3 (ballo _ _), (Below.refl _ _).alloc (by omega) _, by omega⟩
    all_goals rw [← z3]
    all_goals first | (rw [frozen?_alloc_cells]; exact frz_new w3 (Nat.le_refl _)) | simp
  have HI0 := hide I0
  have HR := hide R
  have HC := hide hc
  have HRR := hide hr
  have HD := hide hol
  clear R hc hr hol I0 B0
  go_enter Try.func53, Try.ntmps53
  go_wp2
  rw [← w3e]
  clear w3e
  go_loopw [29] (fun a wr => ∃ (i : Nat) (v1 v2 : Value), a = .int .i64 i ∧ i ≤ S.length ∧ NInv m S.length w w3 wr (w.heap.size + 3) v1 v2 (nxR m (fun t => (S.idxOf t : Nat)) (S.take i)) (ouR m (S.take i))) (fun a _ => S.length - (intOf a).toNat)
  case atStart => exact ⟨0, _, _, rfl, Nat.zero_le _, unhide HI0⟩
  case round =>
    obtain ⟨i, v1, v2, rfl, hi, hinv⟩ := hrel
    clear HI0
    have HI := hide hinv
    obtain ⟨p0, p1, p2, p3, p4, p5⟩ := box_on B3 hinv.d1 (by omega)
    have y0 : wr.cell? ⟨w.heap.size + 1, 0, none⟩ = some (.slice a0 S.length c0) := (hinv.d1.cell (by simp)).trans C3
    by_cases hlt : i < S.length
    · obtain ⟨bS, oS, rfl, hcS⟩ := (hS.below hinv.b1).at hlt
      have hci := hcS i hlt
      have hrs := unhide HRR i hlt
      have hcl := unhide HC i hlt
      have HT := hide (take_snoc hlt)
      obtain ⟨s, hs⟩ : ∃ s, s = S.getD i 0 := ⟨_, rfl⟩
      rw [← hs] at hci hrs hcl HT
      have hlt' : (i : Int) < (S.length : Int) := by omega
      clear hcS hs hinv
      go_wp2
      go_loopw [35] (fun a wr => ∃ (x : Nat) (v1 v2 : Value), a = .int .i64 x ∧ (x : Int) ≤ m.k ∧ NInv m S.length w w3 wr (w.heap.size + 3) v1 v2 (nxR m (fun t => (S.idxOf t : Nat)) (S.take i) ++ rowN m (fun t => (S.idxOf t : Nat)) s x) (ouR m (S.take i))) (fun a _ => m.k.toNat - (intOf a).toNat)
      case atStart => exact ⟨0, v1, v2, rfl, by omega, by have := unhide HI; rwa [← List.append_nil (nxR m _ _)] at this⟩
      case round =>
        obtain ⟨x, u1, u2, rfl, hxk, hinv⟩ := hrel
        clear HI p0 p1 p2 p3 p4 p5 y0
        have HI := hide hinv
        obtain ⟨p0, p1, p2, p3, p4, p5⟩ := box_on B3 hinv.d1 (by omega)
        have y1 : wr.cell? ⟨w.heap.size + 1, 1, none⟩ = some (.map (some g)) := (hinv.d1.cell (by simp)).trans C3'
        obtain ⟨m0, m1, m2, m3, m4, m5, f4, f5⟩ := hinv.m0
        have hb := hinv.b1
        have hO1 := hinv.o1
        have hO2 := hinv.o2
        have hlA : (nxR m (fun t => (S.idxOf t : Nat)) (S.take i) ++ rowN m (fun t => (S.idxOf t : Nat)) s x).length ≤ 70000 := by
          rw [List.length_append, nxR_len, rowN_len, List.length_take, Nat.min_eq_left (by omega)]
          have : i * m.k.toNat ≤ 1024 * 64 := Nat.mul_le_mul (by omega) (by omega)
          omega
        have hlO : (ouR m (S.take i)).length ≤ 70000 := by
          rw [ouR_len, List.length_take, Nat.min_eq_left (by omega)]
          have : i * pp m ≤ 1024 * 64 := Nat.mul_le_mul (by omega) (by omega)
          omega
        have hbl : w.heap.size + 3 < wr.heap.size := World.block_lt_of_cell? wr _ m0
        clear hinv
        by_cases hx : (x : Int) < m.k
        · obtain ⟨P, hP, hPl, t0, t1, t2⟩ := way_of (unhide HR) hrs.1 hrs.2 (x := (x : Int)) (by omega) hx
          obtain ⟨b', off', rfl, hn⟩ := (h1.below hb).at hPl
          have hnP := hn P hPl
          have hy := (unhide HR).st P hPl
          have hyS := hcl x hx
          have eN : nxt m s x = m.nx.getD P 0 := by unfold nxt; rw [hP]; simp
          obtain ⟨y, hye⟩ : ∃ y, y = m.nx.getD P 0 := ⟨_, rfl⟩
          rw [← hye] at hnP hy eN
          rw [eN] at hyS
          have hPl' : (P : Int) < (m.nx.length : Int) := by omega
          have hlook := (hN.below (bstep hb (bdrew1 wr))).look hyS (by omega) (by omega)
          have hzl := List.idxOf_lt_length_iff.2 hyS
          have EZ : Hid (nxR m (fun t => (S.idxOf t : Nat)) (S.take i) ++ rowN m (fun t => (S.idxOf t : Nat)) s x ++ [((S.idxOf y : Nat) : Int)] = nxR m (fun t => (S.idxOf t : Nat)) (S.take i) ++ rowN m (fun t => (S.idxOf t : Nat)) s (x + 1)) := by
            show _ = _; rw [rowN_succ, eN, List.append_assoc]
          obtain ⟨A, hA⟩ : ∃ A, A = nxR m (fun t => (S.idxOf t : Nat)) (S.take i) ++ rowN m (fun t => (S.idxOf t : Nat)) s x := ⟨_, rfl⟩
          rw [← hA] at HI hO1 hlA EZ
          obtain ⟨z, hz⟩ : ∃ z : Nat, z = S.idxOf y := ⟨_, rfl⟩
          rw [← hz] at hlook hzl EZ
          obtain ⟨av, cv, ev, -, -, -, -, -⟩ := hO1.shape
          subst ev
          have I1 := hO1.drew
          have wr1 : IntKind.i64.wrap (s * m.k) = s * m.k := by rw [IntKind.wrap_i64]; omega
          have wr2 : IntKind.i64.wrap (P : Int) = P := by rw [IntKind.wrap_i64]; omega
          have hq : Below wr.heap.size wr (wr.drew.alloc (.cells #[.int .i64 (z : Nat)] 3)) := bstep (bdrew1 wr) (ballo _ _)
          clear hye eN hyS hn hA hz
          go_wp2
          go_region_law (refine step_pushA eInt rfl (.tmp 39) (.tmp 53) rfl (w.heap.size + 4) (.slice av A.length cv) A (by simp [Act.eval]) (I1.alloc _) ⟨wr.heap.size, 0, none⟩ 1 [((z : Nat) : Int)] (by simp [Act.eval]) (RdL.one _ _) (by simp only [List.length_cons, List.length_nil]; omega) (by simp; omega) ?_; intro v3 w4 hown4 hb4 hg4 hat4; obtain ⟨av3, cv3, ev3, -, -, -, -, -⟩ := hown4.shape; rw [show (A ++ [((z : Nat) : Int)]).length = A.length + 1 by simp] at ev3; subst ev3; obtain ⟨mk4, N4⟩ := (unhide HI).push1 hq hown4 hb4 hg4 hat4; obtain ⟨q0, q1, q2, q3, q4, q5, e4, e5⟩ := mk4)
          all_goals
            go_wp2
            go_roundw
            case rel => exact ⟨x + 1, _, _, by go_num, by omega, by rw [← unhide EZ]; exact N4⟩
            case measure => simp [intOf]; omega
        · have HX : Hid ((x : Int) = m.k) := by show _ = _; omega
          obtain ⟨Q, hQ, hQ2, hQl, hQ3⟩ := said_of (unhide HR) hrs.1 hrs.2
          have hQ1 : Q + pp m ≤ 65536 := by omega
          have hpos : 0 < m.out.length := by omega
          obtain ⟨b2, off2, rfl, hm⟩ := (h2.below hb).at (i := Q) (by omega)
          have hrO : RdL .i64 wr.drew (some ⟨b2, off2 + Q, none⟩) (rowO m s (pp m)) := by
            refine .inr ⟨b2, off2 + Q, rfl, fun j hj => ?_⟩
            rw [rowO_len] at hj
            have h3 := hm (Q + j) (by omega)
            have e : (rowO m s (pp m)).getD j 0 = m.out.getD (Q + j) 0 := by
              unfold rowO
              simp only [List.getD, List.getElem?_map, List.getElem?_range hj, Option.map_some, Option.getD_some]
              congr 2
              rw [hQ]; omega
            rw [e, Nat.add_assoc]
            exact h3
          have EZ : Hid (nxR m (fun t => (S.idxOf t : Nat)) (S.take i) ++ rowN m (fun t => (S.idxOf t : Nat)) s x = nxR m (fun t => (S.idxOf t : Nat)) (S.take (i + 1))) := by
            show _ = _; rw [unhide HT, nxR_snoc, ← unhide HX]; simp
          have EO : Hid (ouR m (S.take i) ++ rowO m s (pp m) = ouR m (S.take (i + 1))) := by
            show _ = _; rw [unhide HT, ouR_snoc]
          have hle := rowO_len m s (pp m)
          obtain ⟨M, hM⟩ : ∃ M, M = rowO m s (pp m) := ⟨_, rfl⟩
          obtain ⟨O, hO⟩ : ∃ O, O = ouR m (S.take i) := ⟨_, rfl⟩
          rw [← hM] at hrO EO hle
          rw [← hO] at HI hO2 hlO EO
          obtain ⟨av, cv, ev, -, -, -, -, -⟩ := hO2.shape
          subst ev
          have I1 := hO2.drew
          have hz9 : 0 ≤ s * (pp m : Int) := by omega
          have hp1 : (pp m : Int) ≤ 64 := by omega
          have wr1 : IntKind.i64.wrap (Q : Int) = Q := by rw [IntKind.wrap_i64]; omega
          have wr2 : IntKind.i64.wrap ((Q : Int) + (pp m : Int)) = (Q : Int) + (pp m : Int) := by rw [IntKind.wrap_i64]; omega
          have sl0 : 0 ≤ (Q : Int) + (pp m : Int) := by omega
          have sl1 : (Q : Int) + (pp m : Int) ≤ (c2 : Int) := by omega
          have sl2 : ((Q : Int) + (pp m : Int)).toNat = Q + pp m := by omega
          have sl3 : ¬ c2 = Q := by omega
          have wr3 : IntKind.i64.wrap (s + 1) = s + 1 := by rw [IntKind.wrap_i64]; omega
          have HM := hide hM
          have HLE := hide hle
          clear hm hM hO hle
          go_wp2
          go_region_law (refine step_pushA eInt rfl (.tmp 58) (.tmp 68) rfl (w.heap.size + 4) (.slice av O.length cv) O (by rfl) I1 ⟨b2, off2 + Q, none⟩ (c2 - Q) M (by rw [unhide HLE]; rfl) hrO (by rw [unhide HLE]; omega) (by simp; omega) ?_; intro v3 w4 hown4 hb4 hg4 hat4; obtain ⟨av3, cv3, ev3, -, -, -, -, -⟩ := hown4.shape; rw [List.length_append, unhide HLE] at ev3; subst ev3; obtain ⟨mk4, N4⟩ := (unhide HI).push2 (bdrew1 wr) hown4 hb4 hg4 hat4; obtain ⟨q0, q1, q2, q3, q4, q5, e4, e5⟩ := mk4)
          all_goals
            go_wp2
            go_roundw
            case rel => exact ⟨i + 1, _, _, by go_num, by omega, by rw [← unhide EO, ← unhide EZ]; exact N4⟩
            case measure => simp [intOf]; omega
    · have he : i = S.length := by omega
      subst he
      rw [List.take_length] at HI hinv
      obtain ⟨m0, m1, m2, m3, m4, m5, f4, f5⟩ := hinv.m0
      have hO1 := hinv.o1
      have hO2 := hinv.o2
      obtain ⟨av, cv, ev, -, -, -, -, -⟩ := hO1.shape
      subst ev
      obtain ⟨aw, cw, ew, -, -, -, -, -⟩ := hO2.shape
      subst ew
      obtain ⟨z0, z1, z2, z4, z5, z6⟩ := box_on Z3 hinv.d1 (by omega)
      have hzr : ∀ j, wr.frozen? ⟨w.heap.size + 2, j, none⟩ = false := fun j => frz_on (hz3 j) hinv.d1 (by omega)
      have g0 := hzr 0
      have g1 := hzr 1
      have g2 := hzr 2
      have g3 := hzr 3
      have g4 := hzr 4
      have g5 := hzr 5
      clear hinv hzr hO1 hO2
      go_wp2
      have Q6 : Box ((((((wr.setCell ⟨w.heap.size + 1 + 1, 0, none⟩ (.int .i64 m.kind)).setCell ⟨w.heap.size + 1 + 1, 1, none⟩ (.int .i64 m.k)).setCell ⟨w.heap.size + 1 + 1, 2, none⟩ (.int .i64 m.o)).setCell ⟨w.heap.size + 1 + 1, 3, none⟩ (.int .i64 (S.length : Nat))).setCell ⟨w.heap.size + 1 + 1, 4, none⟩ (.slice av (nxR m (fun t => (S.idxOf t : Nat)) S).length cv)).setCell ⟨w.heap.size + 1 + 1, 5, none⟩ (.slice aw (ouR m S).length cw)) (w.heap.size + 1 + 1) (pickV m S fun t => (S.idxOf t : Nat)) av cv aw cw := (Box.mk (w := wr) (b := w.heap.size + 1 + 1) (m := mc0) (a1 := none) (c1 := 0) (a2 := none) (c2 := 0) z0 z1 z2 z4 z5 z6).six (pickV m S fun t => (S.idxOf t : Nat)) av cv aw cw
      have K6 : ∀ j, j ≠ w.heap.size + 1 + 1 → ((((((wr.setCell ⟨w.heap.size + 1 + 1, 0, none⟩ (.int .i64 m.kind)).setCell ⟨w.heap.size + 1 + 1, 1, none⟩ (.int .i64 m.k)).setCell ⟨w.heap.size + 1 + 1, 2, none⟩ (.int .i64 m.o)).setCell ⟨w.heap.size + 1 + 1, 3, none⟩ (.int .i64 (S.length : Nat))).setCell ⟨w.heap.size + 1 + 1, 4, none⟩ (.slice av (nxR m (fun t => (S.idxOf t : Nat)) S).length cv)).setCell ⟨w.heap.size + 1 + 1, 5, none⟩ (.slice aw (ouR m S).length cw)).heap[j]? = wr.heap[j]? := fun j hj => by
        rw [Below.heap_setCell _ _ _ _ (by simpa using hj), Below.heap_setCell _ _ _ _ (by simpa using hj), Below.heap_setCell _ _ _ _ (by simpa using hj), Below.heap_setCell _ _ _ _ (by simpa using hj), Below.heap_setCell _ _ _ _ (by simpa using hj), Below.heap_setCell _ _ _ _ (by simpa using hj)]
      have b6 := ((((((unhide HI).b1.setCell (p := ⟨w.heap.size + 1 + 1, 0, none⟩) (by show w.heap.size ≤ w.heap.size + 1 + 1; omega) (.int .i64 m.kind)).setCell (p := ⟨w.heap.size + 1 + 1, 1, none⟩) (by show w.heap.size ≤ w.heap.size + 1 + 1; omega) (.int .i64 m.k)).setCell (p := ⟨w.heap.size + 1 + 1, 2, none⟩) (by show w.heap.size ≤ w.heap.size + 1 + 1; omega) (.int .i64 m.o)).setCell (p := ⟨w.heap.size + 1 + 1, 3, none⟩) (by show w.heap.size ≤ w.heap.size + 1 + 1; omega) (.int .i64 (S.length : Nat))).setCell (p := ⟨w.heap.size + 1 + 1, 4, none⟩) (by show w.heap.size ≤ w.heap.size + 1 + 1; omega) (.slice av (nxR m (fun t => (S.idxOf t : Nat)) S).length cv)).setCell (p := ⟨w.heap.size + 1 + 1, 5, none⟩) (by show w.heap.size ≤ w.heap.size + 1 + 1; omega) (.slice aw (ouR m S).length cw)
      have e1 := ((unhide HI).o1.keep fun j e => K6 j (by have := ((unhide HI).o1.lt e).1; omega)).mono (B' := w.heap.size) (by omega)
      have e2 := ((unhide HI).o2.keep fun j e => K6 j (by have := ((unhide HI).o2.lt e).1; omega)).mono (B' := w.heap.size) (by omega)
      have hap := (unhide HI).ap
      clear K6 HI
      generalize ((((((wr.setCell ⟨w.heap.size + 1 + 1, 0, none⟩ (.int .i64 m.kind)).setCell ⟨w.heap.size + 1 + 1, 1, none⟩ (.int .i64 m.k)).setCell ⟨w.heap.size + 1 + 1, 2, none⟩ (.int .i64 m.o)).setCell ⟨w.heap.size + 1 + 1, 3, none⟩ (.int .i64 (S.length : Nat))).setCell ⟨w.heap.size + 1 + 1, 4, none⟩ (.slice av (nxR m (fun t => (S.idxOf t : Nat)) S).length cv)).setCell ⟨w.heap.size + 1 + 1, 5, none⟩ (.slice aw (ouR m S).length cw)) = w6 at *
      obtain ⟨q0, q1, q2, q3, q4, q5⟩ := Q6
      refine bodyPost_ret (v := mval (pickV m S fun t => (S.idxOf t : Nat)) av cv aw cw) ?_ rfl ⟨_, rfl, av, cv, aw, cw, rfl, e1, e2, hap, b6⟩
      unfold mval
      simp [results, Try.results53, go_sem, q0, q1, q2, q3, q4, q5]

end Go.Proofs.Ytepmdnggiajkbaa

/-
  What the program's Canon and Turn return, for every table and list.
-/
namespace Go.Proofs.Ytepmdnggiajkbaa
open Go.RowKit Go.Maps


/-- What Canon and Turn leave. -/
def CPost (r : Mc × Int) (w : World) (e : Ending) (w' : World) : Prop :=
  ∃ a1 c1 a2 c2, e = .returned (.tuple #[mval r.1 a1 c1 a2 c2, .int .i64 r.2]) ∧ OwnL .i64 3 w' w.heap.size (.slice a1 r.1.nx.length c1) r.1.nx ∧ OwnL .i64 3 w' w.heap.size (.slice a2 r.1.out.length c2) r.1.out ∧ (∀ j, (Value.slice a1 r.1.nx.length c1).ownBlock = some j → (Value.slice a2 r.1.out.length c2).ownBlock ≠ some j) ∧ Below w.heap.size w w'

theorem zero_post (x : Int) {w w' : World} (h : Below w.heap.size w w') : CPost (mc0, x) w (.returned (.tuple #[mval mc0 none 0 none 0, .int .i64 x])) w' :=
  ⟨none, 0, none, 0, rfl, OwnL.nil _ _ _ _, OwnL.nil _ _ _ _, (fun j e => by cases e), h⟩

/-- The world in which block b's six cells were written. -/
def six (w : World) (b : Nat) (m : Mc) (d1 : Option Addr) (e1 : Nat) (d2 : Option Addr) (e2 : Nat) : World :=
  ((((((w.setCell ⟨b, 0, none⟩ (.int .i64 m.kind)).setCell ⟨b, 1, none⟩ (.int .i64 m.k)).setCell ⟨b, 2, none⟩ (.int .i64 m.o)).setCell ⟨b, 3, none⟩ (.int .i64 m.n)).setCell ⟨b, 4, none⟩ (.slice d1 m.nx.length e1)).setCell ⟨b, 5, none⟩ (.slice d2 m.out.length e2))
theorem six_heap (w : World) {b : Nat} (m : Mc) (d1 : Option Addr) (e1 : Nat) (d2 : Option Addr) (e2 : Nat) {j : Nat} (hj : j ≠ b) : (six w b m d1 e1 d2 e2).heap[j]? = w.heap[j]? := by
  unfold six
  rw [Below.heap_setCell _ _ _ _ (by simpa using hj), Below.heap_setCell _ _ _ _ (by simpa using hj), Below.heap_setCell _ _ _ _ (by simpa using hj), Below.heap_setCell _ _ _ _ (by simpa using hj), Below.heap_setCell _ _ _ _ (by simpa using hj), Below.heap_setCell _ _ _ _ (by simpa using hj)]
theorem six_below {w w1 : World} {B b : Nat} (h : Below B w w1) (hb : B ≤ b) (m : Mc) (d1 : Option Addr) (e1 : Nat) (d2 : Option Addr) (e2 : Nat) : Below B w (six w1 b m d1 e1 d2 e2) :=
  (((((h.setCell (p := ⟨b, 0, none⟩) hb _).setCell (p := ⟨b, 1, none⟩) hb _).setCell (p := ⟨b, 2, none⟩) hb _).setCell (p := ⟨b, 3, none⟩) hb _).setCell (p := ⟨b, 4, none⟩) hb _).setCell (p := ⟨b, 5, none⟩) hb _

set_option maxHeartbeats 1000000 in
theorem canon_any (m : Mc) (a1 : Option Addr) (c1 : Nat) (a2 : Option Addr) (c2 : Nat) (w : World) (h1 : RdL .i64 w a1 m.nx) (h2 : RdL .i64 w a2 m.out) (hc2 : m.out.length ≤ c2) (hn : m.nx.length ≤ maxLen) (ho : m.out.length ≤ maxLen) :
    Calls Try.prog 27 #[mval m a1 c1 a2 c2] w fun e w' => CPost (cnV m) w e w' := by
  unfold mval
  have B0 := (Box.alloc w m a1 c1 a2 c2 27).below (ballo _ (.cells #[.int .i64 0, .int .i64 0, .int .i64 0, .int .i64 0, .slice none 0 0, .slice none 0 0] 27))
  have Z0 := Box.alloc (w.alloc (.cells #[.int .i64 m.kind, .int .i64 m.k, .int .i64 m.o, .int .i64 m.n, .slice a1 m.nx.length c1, .slice a2 m.out.length c2] 27)) mc0 none 0 none 0 27
  have b0 := bstep (ballo w (.cells #[.int .i64 m.kind, .int .i64 m.k, .int .i64 m.o, .int .i64 m.n, .slice a1 m.nx.length c1, .slice a2 m.out.length c2] 27)) (ballo _ (.cells #[.int .i64 0, .int .i64 0, .int .i64 0, .int .i64 0, .slice none 0 0, .slice none 0 0] 27))
  have F0 : ∀ i, ((w.alloc (.cells #[.int .i64 m.kind, .int .i64 m.k, .int .i64 m.o, .int .i64 m.n, .slice a1 m.nx.length c1, .slice a2 m.out.length c2] 27)).alloc (.cells #[.int .i64 0, .int .i64 0, .int .i64 0, .int .i64 0, .slice none 0 0, .slice none 0 0] 27)).frozen? ⟨w.heap.size + 1, i, none⟩ = false := fun i => by rw [frozen?_alloc_cells, frozen?_alloc_cells]; exact frz_new w (by omega)
  simp only [World.size_alloc] at Z0
  by_cases hz : (mchV m).2 = 0
  rotate_left
  · have H := hide (cnV_err hz)
    have tz := ne_bne hz
    clear hz
    go_enter Try.func27, Try.ntmps27
    go_wp2_with fail
    refine (mcheck_any m a1 c1 a2 c2 _ (h1.below b0) (h2.below b0) hn ho).mono ?_
    rintro e w1 ⟨rfl, hb1⟩
    have b1 := bstep b0 hb1
    have Z1 := Z0.below hb1
    obtain ⟨z0, z1, z2, z3, z4, z5⟩ := id Z1
    have g0 := frz_on (F0 0) hb1 (by simp)
    have g1 := frz_on (F0 1) hb1 (by simp)
    have g2 := frz_on (F0 2) hb1 (by simp)
    have g3 := frz_on (F0 3) hb1 (by simp)
    have g4 := frz_on (F0 4) hb1 (by simp)
    have g5 := frz_on (F0 5) hb1 (by simp)
    clear hb1 h1 h2 B0 b0
    go_wp2
    change bodyPost _ _ _ _ _ (six w1 (w.heap.size + 1) mc0 none 0 none 0)
    have b2 := six_below b1 (b := w.heap.size + 1) (by omega) mc0 none 0 none 0
    have Z2 : Box (six w1 (w.heap.size + 1) mc0 none 0 none 0) _ _ _ _ _ _ := Z1.six mc0 none 0 none 0
    generalize six w1 (w.heap.size + 1) mc0 none 0 none 0 = w6 at *
    obtain ⟨q0, q1, q2, q3, q4, q5⟩ := Z2
    refine bodyPost_ret (v := .tuple #[mval mc0 none 0 none 0, .int .i64 (mchV m).2]) ?_ rfl (by rw [unhide H]; exact zero_post _ b2)
    unfold mval
    simp [results, Try.results27, go_sem, q0, q1, q2, q3, q4, q5]
  have R := right_of hz
  have HZ := hide hz
  have HR := hide R
  have H := hide (cnV_ok hz)
  clear R hz
  go_enter Try.func27, Try.ntmps27
  go_wp2_with fail
  refine (mcheck_any m a1 c1 a2 c2 _ (h1.below b0) (h2.below b0) hn ho).mono ?_
  rw [unhide HZ]
  rintro e w1 ⟨rfl, hb1⟩
  have b1 := bstep b0 hb1
  have B1 := B0.below hb1
  have Z1 := Z0.below hb1
  have F1 := fun i => frz_on (F0 i) hb1 (by simp)
  obtain ⟨q0, q1, q2, q3, q4, q5⟩ := id B1
  have hbw : w.heap.size + 1 < w1.heap.size := World.block_lt_of_cell? w1 _ Z1.p0
  clear hb1 B0 b0 Z0 F0
  go_wp2_with fail
  refine (search_any m a1 c1 a2 c2 w1 (unhide HR) (h1.below b1)).mono ?_
  rintro e w2 ⟨v, vw, W, rfl, hv, hN, hw, hy, hb2⟩
  have b2 := bstep b1 hb2
  obtain ⟨av, cv, ev, -, -, -, hvr, -⟩ := hv.shape
  subst ev
  obtain ⟨aw, cw, ew, -, -, -, -, -⟩ := hw.shape
  subst ew
  have b3 := ballo w2 (.cells #[.slice av (rchV m).1.length cv, .map (some (w1.heap.size + 3))] 95)
  have B3 := (B1.below hb2).below b3
  have Z3 := (Z1.below hb2).below b3
  have F3 := fun i => frz_on (frz_on (F1 i) hb2 hbw) b3 (by have := hb2.size; omega)
  have bb3 := bstep b2 b3
  have hN3 := hN.below b3
  have hv3 := hvr.below b3
  obtain ⟨p0, p1, p2, p3, p4, p5⟩ := id B3
  clear q0 q1 q2 q3 q4 q5 hw hy hN hvr
  have I := rchV_inv (unhide HR)
  go_wp2_with fail
  refine (ren_any m a1 c1 a2 c2 av cv (w1.heap.size + 3) (rchV m).1 _ (unhide HR) (h1.below bb3) (h2.below bb3) hc2 hv3 hN3 I.rng (rch_len (unhide HR)).1 (fun p hp y hy => rch_closed (unhide HR) (gd_mem hp) hy)).mono ?_
  rintro e w4 ⟨v4, rfl, d1, e1, d2, e2, rfl, o1, o2, hap, hb4⟩
  have b4 := bstep bb3 hb4
  have Z4 := Z3.below hb4
  obtain ⟨z0, z1, z2, z3, z4, z5⟩ := id Z4
  have hbz := b3.size
  have hbz2 := hb2.size
  have F4 := fun i => frz_on (F3 i) hb4 (by omega)
  have g0 := F4 0
  have g1 := F4 1
  have g2 := F4 2
  have g3 := F4 3
  have g4 := F4 4
  have g5 := F4 5
  unfold mval
  clear hb4 F4 F3 F1 I
  go_wp2
  change bodyPost _ _ _ _ _ (six w4 (w.heap.size + 1) (canM m) d1 e1 d2 e2)
  have b5 := six_below b4 (b := w.heap.size + 1) (by omega) (canM m) d1 e1 d2 e2
  have Z5 : Box (six w4 (w.heap.size + 1) (canM m) d1 e1 d2 e2) _ _ _ _ _ _ := Z4.six (canM m) d1 e1 d2 e2
  have i1 := (o1.keep fun j e => six_heap w4 (canM m) d1 e1 d2 e2 (b := w.heap.size + 1) (by have := (o1.lt e).1; omega)).mono (B' := w.heap.size) bb3.size
  have i2 := (o2.keep fun j e => six_heap w4 (canM m) d1 e1 d2 e2 (b := w.heap.size + 1) (by have := (o2.lt e).1; omega)).mono (B' := w.heap.size) bb3.size
  generalize six w4 (w.heap.size + 1) (canM m) d1 e1 d2 e2 = w6 at *
  obtain ⟨q0, q1, q2, q3, q4, q5⟩ := Z5
  refine bodyPost_ret (v := .tuple #[mval (canM m) d1 e1 d2 e2, .int .i64 0]) ?_ rfl (by rw [unhide H]; exact ⟨d1, e1, d2, e2, rfl, i1, i2, hap, b5⟩)
  unfold mval
  simp [results, Try.results27, go_sem, q0, q1, q2, q3, q4, q5]

end Go.Proofs.Ytepmdnggiajkbaa
