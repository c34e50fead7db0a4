/-
  Some texts of this seat, one behind the other.
-/
import Derived.Deep.CutRange
import Derived.Test.YtdnmabemollbeaaDoorK2
import Derived.Test.YtdnmabemollbeaaDoorK7
import Derived.Test.YtdnmabemollbeaaDoorK8
/-
  What the program's renumbered returns: the machine of some states, in memory of its own.
-/
namespace Go.Proofs.YtdnmabemollbeaaDoor
open Go.RowKit Go.Maps

/-- A machine in the making, in block b: its numbers, and its lists' values. -/
structure Mk (w : World) (b : Nat) (kind k o n : Int) (v1 v2 : Value) : Prop where
  c0 : w.cell? ⟨b, 0, none⟩ = some (.int .i64 kind)
  c1 : w.cell? ⟨b, 1, none⟩ = some (.int .i64 k)
  c2 : w.cell? ⟨b, 2, none⟩ = some (.int .i64 o)
  c3 : w.cell? ⟨b, 3, none⟩ = some (.int .i64 n)
  c4 : w.cell? ⟨b, 4, none⟩ = some v1
  c5 : w.cell? ⟨b, 5, none⟩ = some v2
  f4 : w.frozen? ⟨b, 4, none⟩ = false
  f5 : w.frozen? ⟨b, 5, none⟩ = false
theorem Mk.keep {w w' : World} {b : Nat} {kind k o n : Int} {v1 v2 : Value} (h : Mk w b kind k o n v1 v2) (e : w'.heap[b]? = w.heap[b]?) : Mk w' b kind k o n v1 v2 :=
  ⟨(World.cell?_of_block e).trans h.c0, (World.cell?_of_block e).trans h.c1, (World.cell?_of_block e).trans h.c2, (World.cell?_of_block e).trans h.c3, (World.cell?_of_block e).trans h.c4, (World.cell?_of_block e).trans h.c5, by have := h.f4; unfold World.frozen? at this ⊢; rw [e]; exact this, by have := h.f5; unfold World.frozen? at this ⊢; rw [e]; exact this⟩
theorem Mk.set4 {w : World} {b : Nat} {kind k o n : Int} {v1 v2 : Value} (h : Mk w b kind k o n v1 v2) (v : Value) : Mk (w.setCell ⟨b, 4, none⟩ v) b kind k o n v v2 := by
  have ot : ∀ i, i ≠ 4 → (w.setCell ⟨b, 4, none⟩ v).cell? ⟨b, i, none⟩ = w.cell? ⟨b, i, none⟩ := fun i hi => World.cell?_setCell_other (w := w) (a := ⟨b, 4, none⟩) (b := ⟨b, i, none⟩) (v := v) (h := fun e => hi (by injection e with _ e2 _; exact e2.symm))
  exact ⟨(ot 0 (by decide)).trans h.c0, (ot 1 (by decide)).trans h.c1, (ot 2 (by decide)).trans h.c2, (ot 3 (by decide)).trans h.c3, World.cell?_setCell_same _ _ _ h.c4, (ot 5 (by decide)).trans h.c5, by rw [World.frozen?_setCell]; exact h.f4, by rw [World.frozen?_setCell]; exact h.f5⟩
theorem Mk.set5 {w : World} {b : Nat} {kind k o n : Int} {v1 v2 : Value} (h : Mk w b kind k o n v1 v2) (v : Value) : Mk (w.setCell ⟨b, 5, none⟩ v) b kind k o n v1 v := by
  have ot : ∀ i, i ≠ 5 → (w.setCell ⟨b, 5, none⟩ v).cell? ⟨b, i, none⟩ = w.cell? ⟨b, i, none⟩ := fun i hi => World.cell?_setCell_other (w := w) (a := ⟨b, 5, none⟩) (b := ⟨b, i, none⟩) (v := v) (h := fun e => hi (by injection e with _ e2 _; exact e2.symm))
  exact ⟨(ot 0 (by decide)).trans h.c0, (ot 1 (by decide)).trans h.c1, (ot 2 (by decide)).trans h.c2, (ot 3 (by decide)).trans h.c3, (ot 4 (by decide)).trans h.c4, World.cell?_setCell_same _ _ _ h.c5, by rw [World.frozen?_setCell]; exact h.f4, by rw [World.frozen?_setCell]; exact h.f5⟩

/-- What holds on the way: the machine in block b, its lists in memory behind it. -/
structure NInv (m : Mc) (N : Nat) (w w0 wr : World) (b : Nat) (v1 v2 : Value) (A O : List Int) : Prop where
  m0 : Mk wr b m.kind m.k m.o N v1 v2
  o1 : OwnL .i64 3 wr (b + 1) v1 A
  o2 : OwnL .i64 3 wr (b + 1) v2 O
  ap : ∀ j, v1.ownBlock = some j → v2.ownBlock ≠ some j
  b1 : Below w.heap.size w wr
  d1 : Below b w0 wr
  wb : w.heap.size ≤ b
/-- One more number behind the first list. -/
theorem NInv.push1 {m : Mc} {N : Nat} {w w0 wr wq w2 : World} {b : Nat} {v1 v2 v3 : Value} {A O M : List Int} (h : NInv m N w w0 wr b v1 v2 A O) (hq : Below wr.heap.size wr wq) (ho : OwnL .i64 3 w2 (b + 1) v3 (A ++ M)) (hb : Below (b + 1) wq w2) (hg : wq.grownBy w2 v1.ownBlock) (hat : ∀ j, v3.ownBlock = some j → v1.ownBlock = some j ∨ j = wq.heap.size) :
    Mk w2 b m.kind m.k m.o N v1 v2 ∧ NInv m N w w0 (w2.setCell ⟨b, 4, none⟩ v3) b v3 v2 (A ++ M) O := by
  have hbl := World.block_lt_of_cell? wr _ h.m0.c0
  simp only at hbl
  have hz := hq.size
  have K : ∀ j, j < wr.heap.size → v1.ownBlock ≠ some j → w2.heap[j]? = wr.heap[j]? := fun j hj hne => by
    rw [hg.block j (by omega) (fun e => hne e.symm)]; exact hq.block j hj
  have K2 : ∀ j, j ≠ b → (w2.setCell ⟨b, 4, none⟩ v3).heap[j]? = w2.heap[j]? := fun j hj => Below.heap_setCell _ _ _ _ (by simpa using hj)
  have mk2 := h.m0.keep (K b hbl fun e => by have := (h.o1.lt e).1; omega)
  have dq : Below b wr w2 := (hq.mono (by omega)).trans (hb.mono (by omega))
  have wb := h.wb
  refine ⟨mk2, mk2.set4 v3, ho.keep fun j e => K2 j (by have := (ho.lt e).1; omega), ?_, fun j e e2 => ?_, ?_, ?_, h.wb⟩
  · refine (h.o2.keep fun j e => K j (h.o2.lt e).2 fun e2 => h.ap j e2 e).keep fun j e => K2 j (by have := (h.o2.lt e).1; omega)
  · rcases hat j e with e3 | e3
    · exact h.ap j e3 e2
    · have := (h.o2.lt e2).2; omega
  · exact (h.b1.trans (dq.mono wb)).setCell (p := ⟨b, 4, none⟩) wb v3
  · exact (h.d1.trans dq).setCell (p := ⟨b, 4, none⟩) (Nat.le_refl _) v3
theorem NInv.push2 {m : Mc} {N : Nat} {w w0 wr wq w2 : World} {b : Nat} {v1 v2 v3 : Value} {A O M : List Int} (h : NInv m N w w0 wr b v1 v2 A O) (hq : Below wr.heap.size wr wq) (ho : OwnL .i64 3 w2 (b + 1) v3 (O ++ M)) (hb : Below (b + 1) wq w2) (hg : wq.grownBy w2 v2.ownBlock) (hat : ∀ j, v3.ownBlock = some j → v2.ownBlock = some j ∨ j = wq.heap.size) :
    Mk w2 b m.kind m.k m.o N v1 v2 ∧ NInv m N w w0 (w2.setCell ⟨b, 5, none⟩ v3) b v1 v3 A (O ++ M) := by
  have hbl := World.block_lt_of_cell? wr _ h.m0.c0
  simp only at hbl
  have hz := hq.size
  have K : ∀ j, j < wr.heap.size → v2.ownBlock ≠ some j → w2.heap[j]? = wr.heap[j]? := fun j hj hne => by
    rw [hg.block j (by omega) (fun e => hne e.symm)]; exact hq.block j hj
  have K2 : ∀ j, j ≠ b → (w2.setCell ⟨b, 5, none⟩ v3).heap[j]? = w2.heap[j]? := fun j hj => Below.heap_setCell _ _ _ _ (by simpa using hj)
  have mk2 := h.m0.keep (K b hbl fun e => by have := (h.o2.lt e).1; omega)
  have dq : Below b wr w2 := (hq.mono (by omega)).trans (hb.mono (by omega))
  have wb := h.wb
  refine ⟨mk2, mk2.set5 v3, ?_, ho.keep fun j e => K2 j (by have := (ho.lt e).1; omega), fun j e e2 => ?_, ?_, ?_, h.wb⟩
  · refine (h.o1.keep fun j e => K j (h.o1.lt e).2 fun e2 => h.ap j e e2).keep fun j e => K2 j (by have := (h.o1.lt e).1; omega)
  · rcases hat j e2 with e3 | e3
    · exact h.ap j e e3
    · have := (h.o1.lt e).2; omega
  · exact (h.b1.trans (dq.mono wb)).setCell (p := ⟨b, 5, none⟩) wb v3
  · exact (h.d1.trans dq).setCell (p := ⟨b, 5, none⟩) (Nat.le_refl _) v3

/-- What renumbered leaves: the machine r, its lists in memory of their own. -/
def MPost (r : Mc) (w : World) (v : Value) (w' : World) : Prop :=
  ∃ a1 c1 a2 c2, v = mval r a1 c1 a2 c2 ∧ OwnL .i64 3 w' w.heap.size (.slice a1 r.nx.length c1) r.nx ∧ OwnL .i64 3 w' w.heap.size (.slice a2 r.out.length c2) r.out ∧ (∀ j, (Value.slice a1 r.nx.length c1).ownBlock = some j → (Value.slice a2 r.out.length c2).ownBlock ≠ some j) ∧ Below w.heap.size w w'

end Go.Proofs.YtdnmabemollbeaaDoor

/-
  What the program's Canon and Turn return, for every table and list.
-/
namespace Go.Proofs.YtdnmabemollbeaaDoor
open Go.RowKit Go.Maps

/-- Canon, as the document has it: the machine and the error. -/
def cnV (m : Mc) : Mc × Int := if (mchV m).2 ≠ 0 then (mc0, (mchV m).2) else (canM m, 0)
theorem cnV_err {m : Mc} (h : (mchV m).2 ≠ 0) : cnV m = (mc0, (mchV m).2) := by unfold cnV; rw [if_pos h]
theorem cnV_ok {m : Mc} (h : (mchV m).2 = 0) : cnV m = (canM m, 0) := by unfold cnV; rw [if_neg (by simp [h])]

/-- What Canon and Turn leave. -/
def CPost (r : Mc × Int) (w : World) (e : Ending) (w' : World) : Prop :=
  ∃ a1 c1 a2 c2, e = .returned (.tuple #[mval r.1 a1 c1 a2 c2, .int .i64 r.2]) ∧ OwnL .i64 3 w' w.heap.size (.slice a1 r.1.nx.length c1) r.1.nx ∧ OwnL .i64 3 w' w.heap.size (.slice a2 r.1.out.length c2) r.1.out ∧ (∀ j, (Value.slice a1 r.1.nx.length c1).ownBlock = some j → (Value.slice a2 r.1.out.length c2).ownBlock ≠ some j) ∧ Below w.heap.size w w'

theorem zero_post (x : Int) {w w' : World} (h : Below w.heap.size w w') : CPost (mc0, x) w (.returned (.tuple #[mval mc0 none 0 none 0, .int .i64 x])) w' :=
  ⟨none, 0, none, 0, rfl, OwnL.nil _ _ _ _, OwnL.nil _ _ _ _, (fun j e => by cases e), h⟩

/-- The world in which block b's six cells were written. -/
def six (w : World) (b : Nat) (m : Mc) (d1 : Option Addr) (e1 : Nat) (d2 : Option Addr) (e2 : Nat) : World :=
  ((((((w.setCell ⟨b, 0, none⟩ (.int .i64 m.kind)).setCell ⟨b, 1, none⟩ (.int .i64 m.k)).setCell ⟨b, 2, none⟩ (.int .i64 m.o)).setCell ⟨b, 3, none⟩ (.int .i64 m.n)).setCell ⟨b, 4, none⟩ (.slice d1 m.nx.length e1)).setCell ⟨b, 5, none⟩ (.slice d2 m.out.length e2))
theorem six_heap (w : World) {b : Nat} (m : Mc) (d1 : Option Addr) (e1 : Nat) (d2 : Option Addr) (e2 : Nat) {j : Nat} (hj : j ≠ b) : (six w b m d1 e1 d2 e2).heap[j]? = w.heap[j]? := by
  unfold six
  rw [Below.heap_setCell _ _ _ _ (by simpa using hj), Below.heap_setCell _ _ _ _ (by simpa using hj), Below.heap_setCell _ _ _ _ (by simpa using hj), Below.heap_setCell _ _ _ _ (by simpa using hj), Below.heap_setCell _ _ _ _ (by simpa using hj), Below.heap_setCell _ _ _ _ (by simpa using hj)]
theorem six_below {w w1 : World} {B b : Nat} (h : Below B w w1) (hb : B ≤ b) (m : Mc) (d1 : Option Addr) (e1 : Nat) (d2 : Option Addr) (e2 : Nat) : Below B w (six w1 b m d1 e1 d2 e2) :=
  (((((h.setCell (p := ⟨b, 0, none⟩) hb _).setCell (p := ⟨b, 1, none⟩) hb _).setCell (p := ⟨b, 2, none⟩) hb _).setCell (p := ⟨b, 3, none⟩) hb _).setCell (p := ⟨b, 4, none⟩) hb _).setCell (p := ⟨b, 5, none⟩) hb _

end Go.Proofs.YtdnmabemollbeaaDoor

/-
  What the reference's pick returns: the machine of some states, in memory of its own.
-/
namespace Go.Proofs.YtdnmabemollbeaaDoor
open Go.RowKit Go.Maps

/-- What s has said by its first n symbols, in the making. -/
def tl (m : Mc) (s : Int) (n : Nat) : List Int := if m.kind = 2 then rowO m s n else []
theorem tl_two {m : Mc} (h : m.kind = 2) (s : Int) (n : Nat) : tl m s n = rowO m s n := if_pos h
theorem tl_one {m : Mc} (h : ¬ m.kind = 2) (s : Int) (n : Nat) : tl m s n = [] := if_neg h

set_option maxHeartbeats 4000000 in
theorem pick_any (m : Mc) (a1 : Option Addr) (c1 : Nat) (a2 : Option Addr) (c2 : Nat) (a3 : Option Addr) (c3 : Nat) (S : List Int) (a4 : Option Addr) (c4 : Nat) (pl : List Int) (w : World) (R : Right m) (h1 : RdL .i64 w a1 m.nx) (h2 : RdL .i64 w a2 m.out) (hS : RdL .i64 w a3 S) (hP : RdL .i64 w a4 pl)
    (hr : ∀ p, p < S.length → 0 ≤ S.getD p 0 ∧ S.getD p 0 < m.n) (hl : S.length ≤ 1024) (hpl : (pl.length : Int) = m.n) :
    Calls Tryd.prog 64 #[mval m a1 c1 a2 c2, .slice a3 S.length c3, .slice a4 pl.length c4] w fun e w' => ∃ v, e = .returned v ∧ MPost (pickV m S fun t => pl.getD t.toNat 0) w v w' := by
  unfold mval
  have hpp := pp_le R
  have hol := out_len R
  have k0 := R.k0
  have k1 := R.k1
  have n0 := R.n0
  have n1 := R.n1
  have hpl2 : pl.length ≤ 1024 := by omega
  have w2e : ∃ w2, w2 = ((w.alloc (.cells #[.int .i64 m.kind, .int .i64 m.k, .int .i64 m.o, .int .i64 m.n, .slice a1 m.nx.length c1, .slice a2 m.out.length c2] 24)).alloc (.cells #[.int .i64 0, .int .i64 0, .int .i64 0, .int .i64 0, .slice none 0 0, .slice none 0 0] 24)) := ⟨_, rfl⟩
  obtain ⟨w2, w2e⟩ := w2e
  have z2 : w2.heap.size = w.heap.size + 2 := by rw [w2e]; simp
  have B2 : Box w2 w.heap.size m a1 c1 a2 c2 := by rw [w2e]; exact (Box.alloc w m a1 c1 a2 c2 24).below (ballo _ _)
  have Z2 : Box w2 (w.heap.size + 1) mc0 none 0 none 0 := by
    have := Box.alloc (w.alloc (.cells #[.int .i64 m.kind, .int .i64 m.k, .int .i64 m.o, .int .i64 m.n, .slice a1 m.nx.length c1, .slice a2 m.out.length c2] 24)) mc0 none 0 none 0 24
    rw [w2e]
    simp only [World.size_alloc] at this
    exact this
  have b2 : Below w.heap.size w w2 := by rw [w2e]; exact bstep (ballo _ _) (ballo _ _)
  have hz2 : ∀ i, w2.frozen? ⟨w.heap.size + 1, i, none⟩ = false := fun i => by rw [w2e, frozen?_alloc_cells, frozen?_alloc_cells]; exact frz_new w (by omega)
  have I0 : NInv m S.length w w2 (w2.alloc (.cells #[.int .i64 m.kind, .int .i64 m.k, .int .i64 m.o, .int .i64 (S.length : Nat), .slice none 0 0, .slice none 0 0] 24)) (w.heap.size + 2) (.slice none 0 0) (.slice none 0 0) (nxR m (fun t => pl.getD t.toNat 0) (S.take 0)) (ouR m (S.take 0)) := by
    refine ⟨⟨?_, ?_, ?_, ?_, ?_, ?_, ?_, ?_⟩, OwnL.nil _ _ _ _, OwnL.nil _ _ _ _, (fun j e => by cases e), bstep b2 (ballo _ _), (Below.refl _ _).alloc (by omega) _, by omega⟩
    all_goals rw [← z2]
    all_goals first | (rw [frozen?_alloc_cells]; exact frz_new w2 (Nat.le_refl _)) | simp
  have HI0 := hide I0
  have HR := hide R
  have HRR := hide hr
  have HD := hide hol
  have HPL := hide hpl
  clear R hr hol I0 hpl
  go_enter Tryd.func64, Tryd.ntmps64
  go_wp2
  rw [← w2e]
  clear w2e
  go_loopw [8] (fun a wx => ∃ (i : Nat) (v1 v2 : Value), a = .int .i64 i ∧ i ≤ S.length ∧ NInv m S.length w w2 wx (w.heap.size + 2) v1 v2 (nxR m (fun t => pl.getD t.toNat 0) (S.take i)) (ouR m (S.take i))) (fun a _ => S.length - (intOf a).toNat)
  case atStart => exact ⟨0, _, _, rfl, Nat.zero_le _, unhide HI0⟩
  case round =>
    obtain ⟨i, v1, v2, rfl, hi, hinv⟩ := hrel
    clear HI0
    have HI := hide hinv
    obtain ⟨p0, p1, p2, p3, p4, p5⟩ := box_on B2 hinv.d1 (by omega)
    by_cases hlt : i < S.length
    · obtain ⟨bS, oS, rfl, hcS⟩ := (hS.below hinv.b1).at hlt
      have hci := hcS i hlt
      have hrs := unhide HRR i hlt
      have HT := hide (take_snoc hlt)
      obtain ⟨s, hs⟩ : ∃ s, s = S.getD i 0 := ⟨_, rfl⟩
      rw [← hs] at hci hrs HT
      have hlt' : (i : Int) < (S.length : Int) := by omega
      clear hcS hs hinv
      go_wp2
      go_loopw [10] (fun a wx => ∃ (x : Nat) (v1 v2 : Value), a = .int .i64 x ∧ (x : Int) ≤ m.k ∧ NInv m S.length w w2 wx (w.heap.size + 2) v1 v2 (nxR m (fun t => pl.getD t.toNat 0) (S.take i) ++ rowN m (fun t => pl.getD t.toNat 0) s x) (ouR m (S.take i) ++ tl m s x)) (fun a _ => m.k.toNat - (intOf a).toNat)
      case atStart =>
        refine ⟨0, v1, v2, rfl, by omega, ?_⟩
        have h3 := unhide HI
        have e : tl m s 0 = [] := by unfold tl rowO; split <;> rfl
        rw [e, List.append_nil]
        rwa [← List.append_nil (nxR m _ _)] at h3
      case round =>
        obtain ⟨x, u1, u2, rfl, hxk, hinv⟩ := hrel
        clear HI p0 p1 p2 p3 p4 p5
        have HI := hide hinv
        obtain ⟨p0, p1, p2, p3, p4, p5⟩ := box_on B2 hinv.d1 (by omega)
        obtain ⟨m0, m1, m2, m3, m4, m5, f4, f5⟩ := hinv.m0
        have hb := hinv.b1
        have hO1 := hinv.o1
        have hO2 := hinv.o2
        have hlA : (nxR m (fun t => pl.getD t.toNat 0) (S.take i) ++ rowN m (fun t => pl.getD t.toNat 0) s x).length ≤ 70000 := by
          rw [List.length_append, nxR_len, rowN_len, List.length_take, Nat.min_eq_left (by omega)]
          have : i * m.k.toNat ≤ 1024 * 64 := Nat.mul_le_mul (by omega) (by omega)
          omega
        have hlO : (ouR m (S.take i) ++ tl m s x).length ≤ 70000 := by
          have h5 : (tl m s x).length ≤ x := by unfold tl; split; { rw [rowO_len]; exact Nat.le_refl _ }; simp
          rw [List.length_append, ouR_len, List.length_take, Nat.min_eq_left (by omega)]
          have : i * pp m ≤ 1024 * 64 := Nat.mul_le_mul (by omega) (by omega)
          omega
        have hbl : w.heap.size + 2 < wr.heap.size := World.block_lt_of_cell? wr _ m0
        clear hinv
        by_cases hx : (x : Int) < m.k
        · obtain ⟨P, hP', hPl, t0, t1, t2⟩ := way_of (unhide HR) hrs.1 hrs.2 (x := (x : Int)) (by omega) hx
          obtain ⟨b', off', rfl, hn⟩ := (h1.below hb).at hPl
          have hnP := hn P hPl
          have hy := (unhide HR).st P hPl
          have eN : nxt m s x = m.nx.getD P 0 := by unfold nxt; rw [hP']; simp
          obtain ⟨Y, hY⟩ := Int.eq_ofNat_of_zero_le hy.1
          rw [hY] at hnP hy
          have hYl : Y < pl.length := by have := unhide HPL; omega
          have hYl' : (Y : Int) < (pl.length : Int) := by omega
          obtain ⟨b3, off3, rfl, hpc⟩ := (hP.below hb).at hYl
          have hpY := hpc Y hYl
          have hPl' : (P : Int) < (m.nx.length : Int) := by omega
          have EZ : Hid (nxR m (fun t => pl.getD t.toNat 0) (S.take i) ++ rowN m (fun t => pl.getD t.toNat 0) s x ++ [pl.getD Y 0] = nxR m (fun t => pl.getD t.toNat 0) (S.take i) ++ rowN m (fun t => pl.getD t.toNat 0) s (x + 1)) := by
            show _ = _; rw [rowN_succ, eN, hY, List.append_assoc]; rfl
          obtain ⟨A, hA⟩ : ∃ A, A = nxR m (fun t => pl.getD t.toNat 0) (S.take i) ++ rowN m (fun t => pl.getD t.toNat 0) s x := ⟨_, rfl⟩
          rw [← hA] at HI hO1 hlA EZ
          obtain ⟨O, hO⟩ : ∃ O, O = ouR m (S.take i) ++ tl m s x := ⟨_, rfl⟩
          rw [← hO] at HI hO2 hlO
          have HO := hide hO
          generalize pl.getD Y 0 = z at *
          obtain ⟨av, cv, ev, -, -, -, -, -⟩ := hO1.shape
          subst ev
          have J1 := hO1.drew
          have wr1 : IntKind.i64.wrap (s * m.k) = s * m.k := by rw [IntKind.wrap_i64]; omega
          have wr2 : IntKind.i64.wrap (P : Int) = P := by rw [IntKind.wrap_i64]; omega
          have hq : Below wr.heap.size wr (wr.drew.alloc (.cells #[.int .i64 z] 3)) := bstep (bdrew1 wr) (ballo _ _)
          clear eN hn hpc hA hO hY
          go_wp2
          go_cut [] from 30 to 71 (fun wx => ∃ v1', NInv m S.length w w2 wx (w.heap.size + 2) v1' u2 (A ++ [z]) O)
          case first =>
            go_region_law (refine step_pushA eInt rfl (.tmp 37) (.tmp 51) rfl (w.heap.size + 3) (.slice av A.length cv) A (by rfl) (J1.alloc _) ⟨wr.heap.size, 0, none⟩ 1 [z] (by rfl) (RdL.one _ _) (by simp only [List.length_cons, List.length_nil]; omega) (by simp; omega) ?_; intro v3 w4 hown4 hb4 hg4 hat4; obtain ⟨av3, cv3, ev3, -, -, -, -, -⟩ := hown4.shape; rw [show (A ++ [z]).length = A.length + 1 by simp] at ev3; subst ev3; obtain ⟨mk4, N4⟩ := (unhide HI).push1 hq hown4 hb4 hg4 hat4; obtain ⟨q0, q1, q2, q3, q4, q5, e4, e5⟩ := mk4)
            all_goals
              go_wp2
              go_meet
              exact ⟨_, N4⟩
          case rest =>
            obtain ⟨v1', hc⟩ := hcut
            clear p0 p1 p2 p3 p4 p5 m0 m1 m2 m3 m4 m5 f4 f5 hq J1 hO1 hnP hpY HI hbl
            have HI := hide hc
            obtain ⟨p0, p1, p2, p3, p4, p5⟩ := box_on B2 hc.d1 (by omega)
            obtain ⟨m0, m1, m2, m3, m4, m5, f4, f5⟩ := hc.m0
            have hb := hc.b1
            have hO2 := hc.o2
            have hbl : w.heap.size + 2 < wc.heap.size := World.block_lt_of_cell? wc _ m0
            clear hc
            by_cases hk : m.kind = 2
            · have t9 : (m.kind == 2) = true := eq_t hk
              have hPo : P < m.out.length := by have := (unhide HR).nx; have := (unhide HR).outM hk; omega
              have hPo' : (P : Int) < (m.out.length : Int) := by omega
              obtain ⟨b5, off5, rfl, hm⟩ := (h2.below hb).at hPo
              have hoP := hm P hPo
              have EO : Hid (O ++ [m.out.getD P 0] = ouR m (S.take i) ++ tl m s (x + 1)) := by
                have hpk : ((pp m : Nat) : Int) = m.k := by unfold pp; rw [if_neg (by omega), Int.toNat_of_nonneg (by omega)]
                show _ = _
                rw [unhide HO, tl_two hk, tl_two hk, rowO_succ, hpk, hP', Int.toNat_natCast, List.append_assoc]
              generalize m.out.getD P 0 = oz at *
              obtain ⟨ao, co, eo, -, -, -, -, -⟩ := hO2.shape
              subst eo
              have J2 := hO2.drew
              have hq : Below wc.heap.size wc (wc.drew.alloc (.cells #[.int .i64 oz] 3)) := bstep (bdrew1 wc) (ballo _ _)
              clear hm hk HO
              go_wp2
              go_region_law (refine step_pushA eInt rfl (.tmp 58) (.tmp 69) rfl (w.heap.size + 3) (.slice ao O.length co) O (by rfl) (J2.alloc _) ⟨wc.heap.size, 0, none⟩ 1 [oz] (by rfl) (RdL.one _ _) (by simp only [List.length_cons, List.length_nil]; omega) (by simp; omega) ?_; intro v3 w4 hown4 hb4 hg4 hat4; obtain ⟨av3, cv3, ev3, -, -, -, -, -⟩ := hown4.shape; rw [show (O ++ [oz]).length = O.length + 1 by simp] at ev3; subst ev3; obtain ⟨mk4, N4⟩ := (unhide HI).push2 hq hown4 hb4 hg4 hat4; obtain ⟨q0, q1, q2, q3, q4, q5, e4, e5⟩ := mk4)
              all_goals
                rw [unhide EZ, unhide EO] at N4
                go_wp2
                go_roundw
                case rel => exact ⟨x + 1, _, _, by go_num, by omega, N4⟩
                case measure => simp [intOf]; omega
            · have t9 : (m.kind == 2) = false := eq_f hk
              have EO : Hid (O = ouR m (S.take i) ++ tl m s (x + 1)) := by
                show _ = _; rw [unhide HO, tl_one hk, tl_one hk]
              have hc := unhide HI
              rw [unhide EZ, unhide EO] at hc
              clear hk HO
              go_wp2
              go_roundw
              case rel => exact ⟨x + 1, _, _, by go_num, by omega, hc⟩
              case measure => simp [intOf]; omega
        · have HX : Hid ((x : Int) = m.k) := by show _ = _; omega
          have EZ : Hid (nxR m (fun t => pl.getD t.toNat 0) (S.take i) ++ rowN m (fun t => pl.getD t.toNat 0) s x = nxR m (fun t => pl.getD t.toNat 0) (S.take (i + 1))) := by
            show _ = _; rw [unhide HT, nxR_snoc, ← unhide HX]; simp
          by_cases hk : m.kind = 1
          · have t9 : (m.kind == 1) = true := eq_t hk
            obtain ⟨Q, hQ⟩ := Int.eq_ofNat_of_zero_le hrs.1
            have hQo : Q < m.out.length := by have := (unhide HR).outD hk; omega
            have hQo' : (Q : Int) < (m.out.length : Int) := by omega
            obtain ⟨b5, off5, rfl, hm⟩ := (h2.below hb).at hQo
            have hoQ := hm Q hQo
            have hpk : pp m = 1 := by unfold pp; rw [if_pos hk]
            have EO : Hid (ouR m (S.take i) ++ tl m s x ++ [m.out.getD Q 0] = ouR m (S.take (i + 1))) := by
              show _ = _
              rw [unhide HT, ouR_snoc, tl_one (by omega), List.append_nil, hpk]
              congr 1
              unfold rowO
              rw [hpk, hQ]
              simp
            generalize m.out.getD Q 0 = oz at *
            subst hQ
            obtain ⟨O, hO⟩ : ∃ O, O = ouR m (S.take i) ++ tl m (Q : Int) x := ⟨_, rfl⟩
            rw [← hO] at HI hO2 hlO EO
            obtain ⟨ao, co, eo, -, -, -, -, -⟩ := hO2.shape
            subst eo
            have J2 := hO2.drew
            have hq : Below wr.heap.size wr (wr.drew.alloc (.cells #[.int .i64 oz] 3)) := bstep (bdrew1 wr) (ballo _ _)
            clear hm hk hO hpk
            go_wp2
            go_region_law (refine step_pushA eInt rfl (.tmp 76) (.tmp 82) rfl (w.heap.size + 3) (.slice ao O.length co) O (by rfl) (J2.alloc _) ⟨wr.heap.size, 0, none⟩ 1 [oz] (by rfl) (RdL.one _ _) (by simp only [List.length_cons, List.length_nil]; omega) (by simp; omega) ?_; intro v3 w4 hown4 hb4 hg4 hat4; obtain ⟨av3, cv3, ev3, -, -, -, -, -⟩ := hown4.shape; rw [show (O ++ [oz]).length = O.length + 1 by simp] at ev3; subst ev3; obtain ⟨mk4, N4⟩ := (unhide HI).push2 hq hown4 hb4 hg4 hat4; obtain ⟨q0, q1, q2, q3, q4, q5, e4, e5⟩ := mk4)
            all_goals
              rw [unhide EZ, unhide EO] at N4
              go_wp2
              go_roundw
              case rel => exact ⟨i + 1, _, _, by go_num, by omega, N4⟩
              case measure => simp [intOf]; omega
          · have t9 : (m.kind == 1) = false := eq_f hk
            have EO : Hid (ouR m (S.take i) ++ tl m s x = ouR m (S.take (i + 1))) := by
              have hk2 : m.kind = 2 := by rcases (unhide HR).kd with h | h; { exact absurd h hk }; exact h
              have hpk : pp m = x := by unfold pp; rw [if_neg hk, ← unhide HX]; simp
              show _ = _; rw [unhide HT, ouR_snoc, tl_two hk2, hpk]
            have hc := unhide HI
            rw [unhide EZ, unhide EO] at hc
            clear hk
            go_wp2
            go_roundw
            case rel => exact ⟨i + 1, _, _, by go_num, by omega, hc⟩
            case measure => simp [intOf]; omega
    · have he : i = S.length := by omega
      subst he
      rw [List.take_length] at HI hinv
      obtain ⟨m0, m1, m2, m3, m4, m5, f4, f5⟩ := hinv.m0
      have hO1 := hinv.o1
      have hO2 := hinv.o2
      obtain ⟨av, cv, ev, -, -, -, -, -⟩ := hO1.shape
      subst ev
      obtain ⟨aw, cw, ew, -, -, -, -, -⟩ := hO2.shape
      subst ew
      obtain ⟨z0, z1, z3, z4, z5, z6⟩ := box_on Z2 hinv.d1 (by omega)
      have hzr : ∀ j, wr.frozen? ⟨w.heap.size + 1, j, none⟩ = false := fun j => frz_on (hz2 j) hinv.d1 (by omega)
      have g0 := hzr 0
      have g1 := hzr 1
      have g2 := hzr 2
      have g3 := hzr 3
      have g4 := hzr 4
      have g5 := hzr 5
      clear hinv hzr hO1 hO2
      go_wp2
      change bodyPost _ _ _ _ _ (six wr (w.heap.size + 1) (pickV m S fun t => pl.getD t.toNat 0) av cv aw cw)
      have Q6 : Box (six wr (w.heap.size + 1) (pickV m S fun t => pl.getD t.toNat 0) av cv aw cw) _ _ _ _ _ _ := (Box.mk (w := wr) (b := w.heap.size + 1) (m := mc0) (a1 := none) (c1 := 0) (a2 := none) (c2 := 0) z0 z1 z3 z4 z5 z6).six (pickV m S fun t => pl.getD t.toNat 0) av cv aw cw
      have b6 := six_below (unhide HI).b1 (b := w.heap.size + 1) (by omega) (pickV m S fun t => pl.getD t.toNat 0) av cv aw cw
      have e1 := ((unhide HI).o1.keep fun j e => six_heap wr (pickV m S fun t => pl.getD t.toNat 0) av cv aw cw (b := w.heap.size + 1) (by have := ((unhide HI).o1.lt e).1; omega)).mono (B' := w.heap.size) (by omega)
      have e2 := ((unhide HI).o2.keep fun j e => six_heap wr (pickV m S fun t => pl.getD t.toNat 0) av cv aw cw (b := w.heap.size + 1) (by have := ((unhide HI).o2.lt e).1; omega)).mono (B' := w.heap.size) (by omega)
      have hap := (unhide HI).ap
      clear HI
      generalize six wr (w.heap.size + 1) (pickV m S fun t => pl.getD t.toNat 0) av cv aw cw = w6 at *
      obtain ⟨q0, q1, q2, q3, q4, q5⟩ := Q6
      refine bodyPost_ret (v := mval (pickV m S fun t => pl.getD t.toNat 0) av cv aw cw) ?_ rfl ⟨_, rfl, av, cv, aw, cw, rfl, e1, e2, hap, b6⟩
      unfold mval
      simp [results, Tryd.results64, go_sem, q0, q1, q2, q3, q4, q5]

end Go.Proofs.YtdnmabemollbeaaDoor

/-
  What the reference's Reach returns, for every table: what the program's does.
-/
namespace Go.Proofs.YtdnmabemollbeaaDoor
open Go.RowKit Go.Maps

theorem ob {g off n c b : Nat} (e : (Value.slice (some ⟨g, off, none⟩) n c).ownBlock = some b) : g = b := Option.some.inj e

set_option maxHeartbeats 4000000 in
theorem rreach_any (m : Mc) (a1 : Option Addr) (c1 : Nat) (a2 : Option Addr) (c2 : Nat) (w : World) (h1 : RdL .i64 w a1 m.nx) (h2 : RdL .i64 w a2 m.out) (hn : m.nx.length ≤ maxLen) (ho : m.out.length ≤ maxLen) :
    Calls Tryd.prog 63 #[mval m a1 c1 a2 c2] w fun e w' => RcPost m w e w' := by
  unfold mval
  have B0 := Box.alloc w m a1 c1 a2 c2 24
  have b0 := ballo w (.cells #[.int .i64 m.kind, .int .i64 m.k, .int .i64 m.o, .int .i64 m.n, .slice a1 m.nx.length c1, .slice a2 m.out.length c2] 24)
  by_cases hz : (mchV m).2 = 0
  rotate_left
  · have H := hide (rcV_err hz)
    have tz := ne_bne hz
    clear hz
    go_enter Tryd.func63, Tryd.ntmps63
    go_wp2_with fail
    refine (rmcheck_any m a1 c1 a2 c2 _ (h1.below b0) (h2.below b0) hn ho).mono ?_
    rintro e w1 ⟨rfl, hb1⟩
    have b1 := bstep b0 hb1
    clear hb1 h1 h2 B0 b0
    go_wp2
    go_ret3
    refine ⟨.slice none 0 0, .slice none 0 0, fun _ => .slice none 0 0, by rw [unhide H]; rfl, by rw [unhide H]; exact OwnL.nil _ _ _ _, by rw [unhide H]; exact LLs.nil _ _ _, (fun b e => by cases e), b1⟩
  have R := right_of hz
  have HZ := hide hz
  have HR := hide R
  have H := hide (rcV_ok hz)
  have k0 := R.k0
  have k1 := R.k1
  have n0 := R.n0
  have n1 := R.n1
  have hnn : m.n = ((m.n.toNat : Nat) : Int) := by omega
  have HNN := hide hnn
  clear R hz hnn
  go_enter Tryd.func63, Tryd.ntmps63
  go_wp2_with fail
  refine (rmcheck_any m a1 c1 a2 c2 _ (h1.below b0) (h2.below b0) hn ho).mono ?_
  rw [unhide HZ]
  rintro e w1 ⟨rfl, hb1⟩
  have b1 := bstep b0 hb1
  have B1 := B0.below hb1
  obtain ⟨q0, q1, q2, q3, q4, q5⟩ := id B1
  have hbw : w.heap.size < w1.heap.size := World.block_lt_of_cell? w1 _ q0
  clear hb1 B0 b0
  go_wp2_with (at_make; refine wplK_make rfl (.tmp 24) (.tmp 24) rfl w1.heap.size _ _ m.n.toNat rfl rfl (unhide HNN) (unhide HNN) (by omega) (Nat.le_refl _) ?_; intro w2 hK2 hb2 hg2; obtain ⟨gk, ck, ek, -, -, hk1, hk2, hkc, hkf⟩ := hK2.pos (by omega); cases ek; have kc0 := hkc 0 (by omega); have kf0 := hkf 0)
  have hz2 : w1.heap.size < w2.heap.size := hk2
  have w3e : ∃ w3, w3 = ((((w2.setCell ⟨w1.heap.size, 0, none⟩ (.bool true)).alloc (.cells #[.int .i64 0] 3)).alloc (.cells #[] 3)).alloc (.cells #[.slice (some ⟨w2.heap.size + 1, 0, none⟩) 0 0] 22)) := ⟨_, rfl⟩
  obtain ⟨w3, w3e⟩ := w3e
  have K3 : ∀ j, j < w2.heap.size → w3.heap[j]? = (w2.setCell ⟨w1.heap.size, 0, none⟩ (.bool true)).heap[j]? := fun j hj => by
    rw [w3e, Below.heap_alloc _ _ _ (by simp; omega), Below.heap_alloc _ _ _ (by simp; omega), Below.heap_alloc _ _ _ (by simp; omega)]
  have I0 : KInv m w w1 w3 (.slice (some ⟨w1.heap.size, 0, none⟩) m.n.toNat m.n.toNat) (.slice (some ⟨w2.heap.size, 0, none⟩) 1 1) (.slice (some ⟨w2.heap.size + 1 + 1, 0, none⟩) 1 1) (fun _ => .slice (some ⟨w2.heap.size + 1, 0, none⟩) 0 0) 0 0 [0] [[]] := by
    have e2 : Below w1.heap.size w1 (w2.setCell ⟨w1.heap.size, 0, none⟩ (.bool true)) := hb2.setCell (p := ⟨w1.heap.size, 0, none⟩) (Nat.le_refl _) _
    have e3 : Below w1.heap.size w1 w3 := by rw [w3e]; exact bstep (bstep (bstep e2 (ballo _ _)) (ballo _ _)) (ballo _ _)
    have hs2 : (w2.setCell ⟨w1.heap.size, 0, none⟩ (.bool true)).heap.size = w2.heap.size := by simp
    refine ⟨?_, ?_, ⟨?_, ⟨fun j hj => ?_, fun j k hj hk hne => ?_⟩, fun b e j hj e2 => ?_⟩, fun b e => ?_, fun b e => ?_, RInv.start (unhide HR), Fuel.start m, b1.trans (e3.mono (by omega)), e3, by omega⟩
    · refine (hK2.store 0).keep fun b e => K3 b ?_
      have := ob e; omega
    · have h5 := OwnL.lit (q := .i64) (t := 3) (w2.setCell ⟨w1.heap.size, 0, none⟩ (.bool true)) w1.heap.size [0] #[.int .i64 0] (by rw [hs2]; omega) (by decide) rfl
      rw [hs2] at h5
      rw [w3e]
      exact (h5.alloc _).alloc _
    · have h5 := World.ownsRow_lit (base := w1.heap.size) (e := 22) (((w2.setCell ⟨w1.heap.size, 0, none⟩ (.bool true)).alloc (.cells #[.int .i64 0] 3)).alloc (.cells #[] 3)) #[.slice (some ⟨w2.heap.size + 1, 0, none⟩) 0 0] (size := 1) 1 (by simp; omega) (by unfold maxLen; simp) (by simp)
      simp only [World.size_alloc, hs2] at h5
      rw [w3e]; exact h5
    · obtain rfl : j = 0 := by simpa using hj
      have h5 := Own.lit ((w2.setCell ⟨w1.heap.size, 0, none⟩ (.bool true)).alloc (.cells #[.int .i64 0] 3)) w1.heap.size 0 (fsV [[]] 0) #[] (by simp; omega) (by decide) rfl
      simp only [World.size_alloc, hs2] at h5
      rw [w3e]
      exact h5.alloc _
    · simp at hj hk; omega
    · have := ob e; have := ob e2; omega
    · have := ob e
      exact ⟨(fun e2 => by have := ob e2; omega), (fun e2 => by have := ob e2; omega), fun j hj e2 => by have := ob e2; omega⟩
    · have := ob e
      exact ⟨(fun e2 => by have := ob e2; omega), fun j hj e2 => by have := ob e2; omega⟩
  have HI0 := hide I0
  rw [← w3e]
  clear I0 K3 w3e kc0 kf0 hkc hkf hK2 hb2 hg2 q0 q1 q2 q3 q4 q5
  go_loopw [8, 9, 10] (fun vs vw a wx => ∃ (i : Nat) (us : Nat → Value) (S : List Int) (V : List (List Int)), a = .int .i64 i ∧ KInv m w w1 wx (.slice (some ⟨w1.heap.size, 0, none⟩) m.n.toNat m.n.toNat) vs vw us i 0 S V) (fun _ _ a _ => m.n.toNat - (intOf a).toNat)
  case atStart => exact ⟨0, _, [0], [[]], rfl, unhide HI0⟩
  case round =>
    obtain ⟨i, us, S, V, rfl, hinv⟩ := hrel
    clear HI0
    have HI := hide hinv
    obtain ⟨av, cv, ev, -, -, -, -, -⟩ := hinv.st.shape
    subst ev
    obtain ⟨aw, cw, ew, -⟩ := hinv.wd.rdx
    subst ew
    have hil := hinv.inv.il
    have hsz := hinv.inv.size (unhide HR)
    clear hinv
    by_cases hlt : i < S.length
    rotate_left
    · have HF := hide ((unhide HI).fuel.fin hlt)
      go_wp2
      go_ret3
      have h9 := unhide HI
      have hz1 := b1.size
      have e1 : (rcV m).1 = S := by rw [unhide H, unhide HF]
      have e2 : (rcV m).2.1 = V := by rw [unhide H, unhide HF]
      have e3 : (rcV m).2.2 = 0 := by rw [unhide H]
      exact ⟨_, _, us, by rw [e3]; rfl, by rw [e1]; exact h9.st.mono hz1, by rw [e2]; exact h9.wd.base hz1, (fun b e => by rw [e2]; exact h9.sw b e), h9.b1⟩
    have hlt' : (i : Int) < (S.length : Int) := by omega
    obtain ⟨U, hU⟩ : ∃ U, U = S.length := ⟨_, rfl⟩
    have hUn : U ≤ m.n.toNat := by omega
    have hiU : i < U := by omega
    have HU := hide hU
    rw [← hU] at hlt' ⊢
    clear hU
    go_wp2
    go_loopw [8, 9, 12] (fun vs vw a wx => ∃ (i : Nat) (us : Nat → Value) (S : List Int) (V : List (List Int)), a = .int .i64 i ∧ i ≤ U ∧ Hid (U ≤ S.length) ∧ KInv m w w1 wx (.slice (some ⟨w1.heap.size, 0, none⟩) m.n.toNat m.n.toNat) vs vw us i 0 S V) (fun _ _ a _ => U - (intOf a).toNat)
    case atStart => exact ⟨i, us, S, V, rfl, by omega, (by show U ≤ S.length; rw [unhide HU]; exact Nat.le_refl _), (by have h9 := unhide HI; rw [unhide HU]; exact h9)⟩
    case round =>
      obtain ⟨j, us, S, V, rfl, hjU, hUS, hinv⟩ := hrel
      clear HI HU
      have HI := hide hinv
      obtain ⟨av, cv, ev, -, -, -, -, -⟩ := hinv.st.shape
      subst ev
      obtain ⟨aw, cw, ew, -⟩ := hinv.wd.rdx
      subst ew
      obtain ⟨p0, p1, p2, p3, p4, p5⟩ := B1.below hinv.d1
      clear hinv
      by_cases hj : j < U
      rotate_left
      · have he : j = U := by omega
        subst he
        go_wp2
        go_roundw
        case rel => exact ⟨j, us, S, V, rfl, unhide HI⟩
        case measure => simp [intOf]; omega
      have hjS : j < S.length := by have := unhide hUS; omega
      go_wp2
      go_loopw [8, 9, 13] (fun vs vw a wx => ∃ (x : Nat) (us : Nat → Value) (S : List Int) (V : List (List Int)), a = .int .i64 x ∧ (x : Int) ≤ m.k ∧ Hid (U ≤ S.length) ∧ KInv m w w1 wx (.slice (some ⟨w1.heap.size, 0, none⟩) m.n.toNat m.n.toNat) vs vw us j x S V) (fun _ _ a _ => m.k.toNat - (intOf a).toNat)
      case atStart => exact ⟨0, us, S, V, rfl, by omega, hUS, unhide HI⟩
      case round =>
        obtain ⟨x, us, S, V, rfl, hxk, hUS, hinv⟩ := hrel
        clear HI p0 p1 p2 p3 p4 p5 hjS
        have HI := hide hinv
        have hjS : j < S.length := by have := unhide hUS; omega
        obtain ⟨gs, cs, ev, -, -, -, -, hcs, -⟩ := hinv.st.pos (by omega)
        subst ev
        have hlV := hinv.inv.len
        have HLV := hide hlV
        obtain ⟨gw, cw, ew, -, -, -, hgw, hcw, -⟩ := hinv.wd.out.pos (by omega)
        subst ew
        obtain ⟨p0, p1, p2, p3, p4, p5⟩ := B1.below hinv.d1
        have hb := hinv.b1
        have hsz := hinv.inv.size (unhide HR)
        have hcell := hcs j hjS
        have hr := hinv.inv.rng j hjS
        have hzr := hinv.d1.size
        have hjV : j < V.length := by omega
        have hVl : V.length ≤ m.n.toNat := by omega
        clear hlV
        by_cases hx : (x : Int) < m.k
        rotate_left
        · have HX : Hid ((x : Int) = m.k) := by show _ = _; omega
          clear hinv
          go_wp2
          go_roundw
          case rel => exact ⟨j + 1, us, S, V, by go_num, by omega, hUS, (unhide HI).row (unhide HR) hjS (unhide HX)⟩
          case measure => simp [intOf]; omega
        obtain ⟨s, hs⟩ : ∃ s, s = S.getD j 0 := ⟨_, rfl⟩
        rw [← hs] at hcell hr
        obtain ⟨P, hP, hPl, t0, t1, t2⟩ := way_of (unhide HR) hr.1 hr.2 (x := (x : Int)) (by omega) hx
        obtain ⟨b', off', rfl, hn'⟩ := (h1.below hb).at hPl
        have hnP := hn' P hPl
        have hy := (unhide HR).st P hPl
        have eN : nxt m (S.getD j 0) x = m.nx.getD P 0 := by unfold nxt; rw [← hs, hP]; simp
        obtain ⟨t, ht⟩ := Int.eq_ofNat_of_zero_le hy.1
        rw [ht] at hnP hy eN
        have EN := hide eN
        have htn : t < m.n.toNat := by omega
        have htn' : (t : Int) < ((m.n.toNat : Nat) : Int) := by omega
        have hPl' : (P : Int) < (m.nx.length : Int) := by omega
        have hjS' : (j : Int) < (S.length : Int) := by omega
        obtain ⟨gk, ck, ek, -, -, -, hgk, hkc, hkf⟩ := hinv.kn.pos (by omega)
        obtain ⟨rfl, rfl⟩ : gk = w1.heap.size ∧ ck = m.n.toNat := by cases ek; exact ⟨rfl, rfl⟩
        have hkt := hkc t htn
        have hkft := hkf t
        clear hs hn' eN ht hcs hkc hkf ek
        by_cases hm : (t : Int) ∈ S
        · have tk : decide ((t : Int) ∈ S) = true := decide_eq_true hm
          rw [tk] at hkt
          have HM := hide hm
          clear hm hinv hcw tk
          go_wp2
          go_quiet (fail)
          go_wp2
          go_roundw
          case rel => exact ⟨x + 1, us, S, V, by go_num, by omega, hUS, (unhide HI).old (unhide HR) hjS hx (by rw [unhide EN]; exact unhide HM) _⟩
          case measure => simp [intOf]; omega
        · have tk : decide ((t : Int) ∈ S) = false := decide_eq_false hm
          rw [tk] at hkt
          have HM := hide hm
          obtain ⟨ks1, ks2, ks3⟩ := hinv.ks w1.heap.size rfl
          obtain ⟨sw1, sw2⟩ := hinv.sw gs rfl
          have ngs : gs ≠ w1.heap.size := fun e => ks1 (congrArg some e)
          have ngw : gw ≠ w1.heap.size := fun e => ks2 (congrArg some e)
          have nsw : gs ≠ gw := fun e => sw1 (congrArg some e.symm)
          obtain ⟨ai, ci, ei, hnil, hlc, hrdX, hXb⟩ := (hinv.wd.fam.own j hjV).shape
          have hcwj := hcw j hjV
          have hX0 : (V.getD j []).length ≤ 1024 := by
            have h8 : (V.getD j []).length ≤ j := rinv_len hinv.inv j (by omega)
            omega
          have eL : nsV V j = (V.getD j []).length := rfl
          rw [ei] at hcwj
          have uk := ks3 j hjV
          have uS := sw2 j hjV
          have hrdX : RdL .i64 wr ai (V.getD j []) := hrdX
          rw [eL] at hnil hlc hcwj ei
          have hblk : ∀ b, (us j).ownBlock = some b → b < wr.heap.size ∧ b ≠ w1.heap.size ∧ b ≠ gs := fun b e => ⟨((hinv.wd.fam.own j hjV).lt e).2, fun e2 => uk (e2 ▸ e), fun e2 => uS (e2 ▸ e)⟩
          have hai : ∀ y, ai = some y → (us j).ownBlock = some y.block := fun y e => by rw [ei, e]; rfl
          have SA : ∀ q, OwnL .i64 3 ((wr.drewN q).setCell ⟨w1.heap.size, t, none⟩ (.bool true)) w1.heap.size (.slice (some ⟨gs, 0, none⟩) S.length cs) S := fun q => by
            have h9 : OwnL .i64 3 (wr.drewN q) w1.heap.size (.slice (some ⟨gs, 0, none⟩) S.length cs) S := hinv.st
            refine h9.keep fun b e => Below.heap_setCell _ _ _ _ ?_
            have := ob e
            show b ≠ w1.heap.size
            omega
          have L1 : ∀ q, RdL .i64 (((wr.drewN q).setCell ⟨w1.heap.size, t, none⟩ (.bool true)).alloc (.cells #[.int .i64 (t : Int)] 3)) (some ⟨wr.heap.size, 0, none⟩) [(t : Int)] := fun q => by
            have h9 := RdL.one (q := .i64) (t := 3) ((wr.drewN q).setCell ⟨w1.heap.size, t, none⟩ (.bool true)) (t : Int)
            have e9 : ((wr.drewN q).setCell ⟨w1.heap.size, t, none⟩ (.bool true)).heap.size = wr.heap.size := by simp
            rw [e9] at h9; exact h9
          obtain ⟨X, hX⟩ : ∃ X, X = V.getD j [] := ⟨_, rfl⟩
          rw [← hX] at hrdX hnil hlc hcwj hX0
          have HXX := hide hX
          have houtW := hinv.wd.out
          have hVl2 : V.length ≤ 1024 := by omega
          have hSl : S.length ≤ 1024 := by omega
          have hgs : gs < wr.heap.size := (hinv.st.lt rfl).2
          clear hm hinv hcw tk ei eL uk uS ks1 ks2 ks3 sw1 sw2 hX
          go_wp2
          go_quiet (fail)
          go_wp2_with (first | (at_builtin; refine wpl_pushA eInt rfl (.tmp 70) (.tmp 72) rfl w1.heap.size _ S rfl ((SA nq).alloc _) ⟨wr.heap.size, 0, none⟩ 1 [(t : Int)] rfl (L1 nq) (by simp only [List.length_cons, List.length_nil]; omega) (by simp; omega) ?_; intro vs' wc hownS hbS hgS hatS; have zc : wr.heap.size + 1 ≤ wc.heap.size := (by have := hgS.size; simp at this; exact this); have KC : ∀ b, b < wr.heap.size → b ≠ w1.heap.size → b ≠ gs → wc.heap[b]? = wr.heap[b]? := (fun b h5 h6 h7 => by rw [hgS.block b (by simp; omega) (fun e => h7 (ob e.symm).symm), Below.heap_alloc _ _ _ (by simp; omega), Below.heap_setCell _ _ _ _ (by simpa using h6)]; rfl); have CW : wc.cell? ⟨gw, j, none⟩ = some (.slice ai X.length ci) := (World.cell?_of_block (KC gw (by omega) ngw (Ne.symm nsw))).trans hcwj; obtain ⟨as', cs', es', -, -, -, -, -⟩ := hownS.shape; rw [show (S ++ [(t : Int)]).length = S.length + 1 by simp] at es'; subst es') | (go_at_call 59; have RX : RdL .i64 (wc.alloc (.cells #[.int .i64 (x : Int)] 3)) ai X := (by rcases hrdX with h5 | ⟨b5, o5, rfl, h5⟩; { exact .inl h5 }; exact .inr ⟨b5, o5, rfl, fun y hy5 => by have h6 := hblk b5 (hai _ rfl); rw [(ballo wc _).cell (by show b5 < wc.heap.size; omega), World.cell?_of_block (KC b5 h6.1 h6.2.1 h6.2.2)]; exact h5 y hy5⟩); refine (join_list ai ci X (some ⟨wc.heap.size, 0, none⟩) 1 [(x : Int)] _ RX hnil (RdL.one _ _) (by simp) (by simp only [List.length_cons, List.length_nil]; omega)).mono ?_; rintro e we ⟨uu, rfl, hu, hbu⟩; have ze := hbu.size; have OV : OwnV we w1.heap.size (.slice (some ⟨gw, 0, none⟩) V.length cw) V.length us := (houtW.keep fun b e => by have h6 := ob e; rw [hbu.block b (by simp; omega), Below.heap_alloc _ _ _ (by omega)]; exact KC b (by omega) (by omega) (by omega)); obtain ⟨au, cu, eu, -, -, -, -, -⟩ := hu.shape; rw [show (X ++ [(x : Int)]).length = X.length + 1 by simp] at eu; subst eu) | (at_builtin; refine wplV_append3 rfl (.tmp 74) (.tmp 82) rfl w1.heap.size _ V.length us rfl (OV.alloc _) ⟨we.heap.size, 0, none⟩ 1 1 (fun _ => .slice au (X.length + 1) cu) rfl (RdV.lit we 1 (fun _ => .slice au (X.length + 1) cu) _ (by unfold maxLen; omega) (by simp [cellsV])) (by intro i _; exact ⟨_, _, _, rfl⟩) (by omega) (by omega) (by simp; simp at ze; omega) ?_; intro vw' wg hownW hgW haW; obtain ⟨aw', cw', ew', -, -, -⟩ := hownW.shape; subst ew'))
          go_roundw
          case rel =>
            have h9 := (unhide HI).new (unhide HR) hjS hx (unhide EN) (unhide HM) (q := nq) rfl hownS hgS hbS hatS (by rw [← unhide HXX]; exact hu) hbu hownW hgW haW
            exact ⟨x + 1, joinV V.length us (fun _ => .slice au (X.length + 1) cu), S ++ [(t : Int)], V ++ [V.getD j [] ++ [(x : Int)]], by go_num, by omega, (by show U ≤ _; rw [List.length_append]; have := unhide hUS; omega), h9⟩
          case measure => simp [intOf]; omega

end Go.Proofs.YtdnmabemollbeaaDoor

/-
  What the reference's Canon returns, for every table: what the program's does.
-/
namespace Go.Proofs.YtdnmabemollbeaaDoor
open Go.RowKit Go.Maps

theorem list_made {w : World} {B n : Nat} {v : Value} {f : Nat → Int} (h : Own w B v n f) : OwnL .i64 3 w B v ((List.range n).map f) := by
  unfold OwnL
  have e : ((List.range n).map f).map (Value.int .i64) = cellsOf n f := by unfold cellsOf; rw [List.map_map]; rfl
  rw [e, List.length_map, List.length_range]
  exact h
/-- pl says of the first i of S their places. -/
def Placed (S pl : List Int) (i : Nat) : Prop := ∀ q, q < i → pl.getD (S.getD q 0).toNat 0 = (q : Int)
theorem Placed.next {S pl : List Int} {i s : Nat} (h : Placed S pl i) (hd : S.Nodup) (hr : ∀ p, p < S.length → 0 ≤ S.getD p 0) (hi : i < S.length) (es : S.getD i 0 = (s : Int)) (hs : s < pl.length) : Placed S (pl.set s (i : Int)) (i + 1) := fun q hq => by
  have hrq := hr q (by omega)
  by_cases e : q = i
  · subst e
    rw [es, Int.toNat_natCast]
    simp [List.getD, hs]
  · have hne : s ≠ (S.getD q 0).toNat := fun e2 => e (nd_inj hd (by omega) hi (by rw [es]; omega))
    have h1 := h q (by omega)
    generalize (S.getD q 0).toNat = z at *
    simp only [List.getD] at h1 ⊢
    rw [List.getElem?_set_ne hne]
    exact h1
theorem placed_can {m : Mc} (R : Right m) {pl : List Int} (h : Placed (rchV m).1 pl (rchV m).1.length) : pickV m (rchV m).1 (fun t => pl.getD t.toNat 0) = canM m := by
  unfold canM
  refine pickV_congr fun s hs y hy => ?_
  have h1 := rch_closed R hs hy
  obtain ⟨h2, h3⟩ := idx_get h1
  have := h _ h2
  rw [h3] at this
  exact this

set_option maxHeartbeats 1000000 in
theorem rcanon_any (m : Mc) (a1 : Option Addr) (c1 : Nat) (a2 : Option Addr) (c2 : Nat) (w : World) (h1 : RdL .i64 w a1 m.nx) (h2 : RdL .i64 w a2 m.out) (hn : m.nx.length ≤ maxLen) (ho : m.out.length ≤ maxLen) :
    Calls Tryd.prog 41 #[mval m a1 c1 a2 c2] w fun e w' => CPost (cnV m) w e w' := by
  unfold mval
  have B0 := (Box.alloc w m a1 c1 a2 c2 24).below (ballo _ (.cells #[.int .i64 0, .int .i64 0, .int .i64 0, .int .i64 0, .slice none 0 0, .slice none 0 0] 24))
  have Z0 := Box.alloc (w.alloc (.cells #[.int .i64 m.kind, .int .i64 m.k, .int .i64 m.o, .int .i64 m.n, .slice a1 m.nx.length c1, .slice a2 m.out.length c2] 24)) mc0 none 0 none 0 24
  have b0 := bstep (ballo w (.cells #[.int .i64 m.kind, .int .i64 m.k, .int .i64 m.o, .int .i64 m.n, .slice a1 m.nx.length c1, .slice a2 m.out.length c2] 24)) (ballo _ (.cells #[.int .i64 0, .int .i64 0, .int .i64 0, .int .i64 0, .slice none 0 0, .slice none 0 0] 24))
  have F0 : ∀ i, ((w.alloc (.cells #[.int .i64 m.kind, .int .i64 m.k, .int .i64 m.o, .int .i64 m.n, .slice a1 m.nx.length c1, .slice a2 m.out.length c2] 24)).alloc (.cells #[.int .i64 0, .int .i64 0, .int .i64 0, .int .i64 0, .slice none 0 0, .slice none 0 0] 24)).frozen? ⟨w.heap.size + 1, i, none⟩ = false := fun i => by rw [frozen?_alloc_cells, frozen?_alloc_cells]; exact frz_new w (by omega)
  simp only [World.size_alloc] at Z0
  by_cases hz : (mchV m).2 = 0
  rotate_left
  · have H := hide (cnV_err hz)
    have HRC := hide (rcV_err hz)
    have tz := ne_bne hz
    clear hz
    go_enter Tryd.func41, Tryd.ntmps41
    go_wp2_with fail
    refine (rreach_any m a1 c1 a2 c2 _ (h1.below b0) (h2.below b0) hn ho).mono ?_
    rintro e w1 ⟨v, vv, vs, rfl, hv, hLL, -, hb1⟩
    rw [unhide HRC] at hv hLL ⊢
    obtain ⟨av, cv, ev, -, -, -, -, -⟩ := hv.shape
    subst ev
    obtain ⟨aw, cw, ew, -⟩ := hLL.rdx
    subst ew
    have b1 := bstep b0 hb1
    have Z1 := Z0.below hb1
    obtain ⟨z0, z1, z2, z3, z4, z5⟩ := id Z1
    have g0 := frz_on (F0 0) hb1 (by simp)
    have g1 := frz_on (F0 1) hb1 (by simp)
    have g2 := frz_on (F0 2) hb1 (by simp)
    have g3 := frz_on (F0 3) hb1 (by simp)
    have g4 := frz_on (F0 4) hb1 (by simp)
    have g5 := frz_on (F0 5) hb1 (by simp)
    clear hb1 h1 h2 B0 b0
    go_wp2
    change bodyPost _ _ _ _ _ (six w1 (w.heap.size + 1) mc0 none 0 none 0)
    have b2 := six_below b1 (b := w.heap.size + 1) (by omega) mc0 none 0 none 0
    have Z2 : Box (six w1 (w.heap.size + 1) mc0 none 0 none 0) _ _ _ _ _ _ := Z1.six mc0 none 0 none 0
    generalize six w1 (w.heap.size + 1) mc0 none 0 none 0 = w6 at *
    obtain ⟨q0, q1, q2, q3, q4, q5⟩ := Z2
    refine bodyPost_ret (v := .tuple #[mval mc0 none 0 none 0, .int .i64 (mchV m).2]) ?_ rfl (by rw [unhide H]; exact zero_post _ b2)
    unfold mval
    simp [results, Tryd.results41, go_sem, q0, q1, q2, q3, q4, q5]
  have R := right_of hz
  have HR := hide R
  have H := hide (cnV_ok hz)
  have HRC := hide (rcV_ok hz)
  have n0 := R.n0
  have n1 := R.n1
  have HNN : Hid (m.n = ((m.n.toNat : Nat) : Int)) := by show _ = _; omega
  clear R hz
  go_enter Tryd.func41, Tryd.ntmps41
  go_wp2_with fail
  refine (rreach_any m a1 c1 a2 c2 _ (h1.below b0) (h2.below b0) hn ho).mono ?_
  rintro e w1 ⟨v, vv, vs, rfl, hv, hLL, -, hb1⟩
  rw [unhide HRC] at hv hLL ⊢
  dsimp only at hv hLL ⊢
  obtain ⟨av, cv, ev, -, -, -, hvr, -⟩ := hv.shape
  subst ev
  obtain ⟨aw, cw, ew, -⟩ := hLL.rdx
  subst ew
  have b1 := bstep b0 hb1
  have B1 := B0.below hb1
  have Z1 := Z0.below hb1
  have F1 := fun i => frz_on (F0 i) hb1 (by simp)
  obtain ⟨q0, q1, q2, q3, q4, q5⟩ := id B1
  have hbw : w.heap.size + 1 < w1.heap.size := World.block_lt_of_cell? w1 _ Z1.p0
  have I := rchV_inv (unhide HR)
  have hSn := I.size (unhide HR)
  have HI := hide I
  have HPM := hide (fun pl => placed_can (pl := pl) (unhide HR))
  have hrl := (rch_len (unhide HR)).1
  clear hb1 B0 b0 Z0 F0 hv hLL I
  generalize (rchV m).1 = S at *
  go_wp2_with (at_make; refine wpl_make rfl (.tmp 20) (.tmp 20) rfl w1.heap.size _ _ m.n.toNat rfl rfl (unhide HNN) (unhide HNN) (by omega) (Nat.le_refl _) ?_; intro w2 hown2 hb2 _)
  have O2 := list_made hown2
  have L2 : Hid (((List.range m.n.toNat).map fun _ => (0 : Int)).length = m.n.toNat) := by show _ = _; simp
  clear hown2 q0 q1 q2 q3 q4 q5
  go_loopw [8] (fun a wx => ∃ (i : Nat) (pl : List Int), a = .int .i64 i ∧ i ≤ S.length ∧ Hid (pl.length = m.n.toNat) ∧ OwnL .i64 3 wx w1.heap.size (.slice (some ⟨w1.heap.size, 0, none⟩) m.n.toNat m.n.toNat) pl ∧ Hid (Placed S pl i) ∧ Below w1.heap.size w1 wx) (fun a _ => S.length - (intOf a).toNat)
  case atStart => exact ⟨0, _, rfl, Nat.zero_le _, L2, O2, (fun q hq => by omega), hb2⟩
  case round =>
    obtain ⟨i, pl, rfl, hi, hpl, hO, hPl, hbr⟩ := hrel
    clear O2 L2 hb2
    have bb3 := bstep b1 hbr
    by_cases hlt : i < S.length
    · obtain ⟨bS, oS, rfl, hcS⟩ := (hvr.below hbr).at hlt
      have hci := hcS i hlt
      have hrs := (unhide HI).rng i hlt
      obtain ⟨s, hs⟩ := Int.eq_ofNat_of_zero_le hrs.1
      rw [hs] at hci hrs
      have hsn : s < m.n.toNat := by omega
      have hsn' : (s : Int) < ((m.n.toNat : Nat) : Int) := by omega
      have hlt' : (i : Int) < (S.length : Int) := by omega
      have hO' : OwnL .i64 3 wr w1.heap.size (.slice (some ⟨w1.heap.size, 0, none⟩) pl.length m.n.toNat) pl := by rw [unhide hpl]; exact hO
      obtain ⟨g, cap, eg, -, -, -, -, hcell, hfrz⟩ := hO'.pos (by rw [unhide hpl]; omega)
      cases eg
      have hcs := hcell s (by rw [unhide hpl]; exact hsn)
      have hfs := hfrz s
      have hst := hO'.store s (i : Int)
      have HPn : Hid (Placed S (pl.set s (i : Int)) (i + 1)) := (unhide hPl).next (unhide HI).nd (fun p hp => ((unhide HI).rng p hp).1) hlt hs (by rw [unhide hpl]; exact hsn)
      rw [unhide hpl] at hst
      clear hcS hs hcell hfrz hO' hPl
      go_wp2
      go_roundw
      case rel => exact ⟨i + 1, pl.set s (i : Int), by go_num, by omega, (by show _ = _; rw [List.length_set, unhide hpl]), hst, HPn, hbr.setCell (p := ⟨w1.heap.size, s, none⟩) (Nat.le_refl _) _⟩
      case measure => simp [intOf]; omega
    · have he : i = S.length := by omega
      subst he
      have HM := hide (unhide HPM pl (unhide hPl))
      obtain ⟨p0, p1, p2, p3, p4, p5⟩ := B1.below hbr
      have Z3 := Z1.below hbr
      have F3 := fun i => frz_on (F1 i) hbr hbw
      obtain ⟨ap, cp, ep, -, -, -, hpr, -⟩ := (show OwnL .i64 3 wr w1.heap.size (.slice (some ⟨w1.heap.size, 0, none⟩) pl.length m.n.toNat) pl by rw [unhide hpl]; exact hO).shape
      cases ep
      have hplr : Hid ((pl.length : Int) = m.n) := by show _ = _; rw [unhide hpl]; omega
      have hc := pick_any m a1 c1 a2 c2 av cv S (some ⟨w1.heap.size, 0, none⟩) m.n.toNat pl wr (unhide HR) (h1.below bb3) (h2.below bb3) (hvr.below hbr) hpr (unhide HI).rng hrl (unhide hplr)
      rw [unhide hpl, unhide HM] at hc
      have HC := hide hc
      clear hc hO hPl hpr
      go_wp2_with fail
      refine (unhide HC).mono ?_
      rintro e w4 ⟨v4, rfl, d1, e1, d2, e2, rfl, o1, o2, hap, hb4⟩
      have b4 := bstep bb3 hb4
      have Z4 := Z3.below hb4
      obtain ⟨z0, z1, z2, z3, z4, z5⟩ := id Z4
      have hbz := hbr.size
      have F4 := fun i => frz_on (F3 i) hb4 (by omega)
      have g0 := F4 0
      have g1 := F4 1
      have g2 := F4 2
      have g3 := F4 3
      have g4 := F4 4
      have g5 := F4 5
      unfold mval
      clear hb4 F4 F3 F1 HC
      go_wp2
      change bodyPost _ _ _ _ _ (six w4 (w.heap.size + 1) (canM m) d1 e1 d2 e2)
      have b5 := six_below b4 (b := w.heap.size + 1) (by omega) (canM m) d1 e1 d2 e2
      have Z5 : Box (six w4 (w.heap.size + 1) (canM m) d1 e1 d2 e2) _ _ _ _ _ _ := Z4.six (canM m) d1 e1 d2 e2
      have i1 := (o1.keep fun j e => six_heap w4 (canM m) d1 e1 d2 e2 (b := w.heap.size + 1) (by have := (o1.lt e).1; omega)).mono (B' := w.heap.size) bb3.size
      have i2 := (o2.keep fun j e => six_heap w4 (canM m) d1 e1 d2 e2 (b := w.heap.size + 1) (by have := (o2.lt e).1; omega)).mono (B' := w.heap.size) bb3.size
      generalize six w4 (w.heap.size + 1) (canM m) d1 e1 d2 e2 = w6 at *
      obtain ⟨q0, q1, q2, q3, q4, q5⟩ := Z5
      refine bodyPost_ret (v := .tuple #[mval (canM m) d1 e1 d2 e2, .int .i64 0]) ?_ rfl (by rw [unhide H]; exact ⟨d1, e1, d2, e2, rfl, i1, i2, hap, b5⟩)
      unfold mval
      simp [results, Tryd.results41, go_sem, q0, q1, q2, q3, q4, q5]

end Go.Proofs.YtdnmabemollbeaaDoor

/-
  Minimise, in plain words: the machine and the error.
-/
namespace Go.Proofs.YtdnmabemollbeaaDoor
open Go.RowKit Go.Maps

/-- Minimise, as the document has it: the machine and the error. -/
def mnV (m : Mc) : Mc × Int := if (mchV m).2 ≠ 0 then (mc0, (mchV m).2) else (minM m, 0)
theorem mnV_err {m : Mc} (h : (mchV m).2 ≠ 0) : mnV m = (mc0, (mchV m).2) := by unfold mnV; rw [if_pos h]
theorem mnV_ok {m : Mc} (h : (mchV m).2 = 0) : mnV m = (minM m, 0) := by unfold mnV; rw [if_neg (by simp [h])]
theorem cnV_quo {m : Mc} (F : Full m) : cnV (quoM m) = (minM m, 0) := cnV_ok (mch_full (full_quo F))

end Go.Proofs.YtdnmabemollbeaaDoor
