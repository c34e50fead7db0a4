/-
  What the program's search returns: the states that can be come to, a map of their places, and the ways by which each was first come to.
-/
import Derived.Test.YtdlcbjbcehpooaaTOrd
import Derived.Test.YtdlcbjbcehpooaaTSMath
import Derived.Test.YtdlcbjbcehpooaaMCopy
import Derived.WalkMore
namespace Go.Proofs.Ytdlcbjbcehpooaa
open Go.RowKit Go.Maps

/-- What holds on the way. -/
structure SInv (m : Mc) (w w0 wr : World) (vw v : Value) (i x : Nat) (S : List Int) (V : List (List Int)) (W : List Int) : Prop where
  ord : Ord wr (w.heap.size + 1) (w.heap.size + 1) (w.heap.size + 3) v S
  ways : OwnL .i64 3 wr (w.heap.size + 1) vw W
  apb : vw.ownBlock ≠ some (w.heap.size + 1)
  apg : vw.ownBlock ≠ some (w.heap.size + 3)
  apv : ∀ b, vw.ownBlock = some b → v.ownBlock ≠ some b
  inv : RInv m i x S V
  wy : Wy m S V W
  fuel : Fuel m i x S V
  b1 : Below w.heap.size w wr
  d1 : Below (w.heap.size + 1) w0 wr

/-- What search leaves. -/
def SPost (m : Mc) (w : World) (e : Ending) (w' : World) : Prop :=
  ∃ v vw W, e = .returned (.tuple #[.agg #[v, .map (some (w.heap.size + 3))], vw]) ∧ OwnL .i64 3 w' w.heap.size v (rchV m).1 ∧ NMap w' (w.heap.size + 3) (rchV m).1 ∧ OwnL .i64 3 w' w.heap.size vw W ∧ Wy m (rchV m).1 (rchV m).2 W ∧ Below w.heap.size w w'

theorem Ord.draws {w : World} {B b g : Nat} {v : Value} {S : List Int} (h : Ord w B b g v S) (q : Nat) : Ord (w.drewN q) B b g v S :=
  ⟨h.c0, h.c1, h.f0, h.f1, h.own, h.map, h.bg, h.vb, h.vg, h.Bb, h.Bg⟩
theorem SInv.old {m : Mc} {w w0 wr : World} {vw v : Value} {i x : Nat} {S : List Int} {V : List (List Int)} {W : List Int} (R : Right m) (h : SInv m w w0 wr vw v i x S V W) (hi : i < S.length) (hx : (x : Int) < m.k) (ht : nxt m (S.getD i 0) x ∈ S) (q : Nat) :
    SInv m w w0 (wr.drewN q) vw v i (x + 1) S V W :=
  ⟨h.ord.draws q, h.ways, h.apb, h.apg, h.apv, h.inv.old hi hx ht, h.wy, h.fuel.old (h.inv.size R) hi hx ht, below_drewN h.b1 q, below_drewN h.d1 q⟩
theorem SInv.row {m : Mc} {w w0 wr : World} {vw v : Value} {i x : Nat} {S : List Int} {V : List (List Int)} {W : List Int} (R : Right m) (h : SInv m w w0 wr vw v i x S V W) (hi : i < S.length) (hx : (x : Int) = m.k) :
    SInv m w w0 wr vw v (i + 1) 0 S V W :=
  ⟨h.ord, h.ways, h.apb, h.apg, h.apv, h.inv.row hi (by omega) R.k0, h.wy, h.fuel.row (h.inv.size R) hi hx, h.b1, h.d1⟩
theorem SInv.new {m : Mc} {w w0 wr w1 w3 : World} {vw v v1 vw3 : Value} {i x : Nat} {S : List Int} {V : List (List Int)} {W : List Int} (R : Right m) (h : SInv m w w0 wr vw v i x S V W) (hi : i < S.length) (hx : (x : Int) < m.k) (ht : ¬ nxt m (S.getD i 0) x ∈ S) {q : Nat}
    (ho : Ord w1 (w.heap.size + 1) (w.heap.size + 1) (w.heap.size + 3) v1 (S ++ [nxt m (S.getD i 0) x])) (hv : ∀ j, v1.ownBlock = some j → v.ownBlock = some j ∨ (wr.drewN q).heap.size ≤ j) (hb : Below (w.heap.size + 1) (wr.drewN q) w1)
    {o : Obj}
    (hw : OwnL .i64 3 w3 (w.heap.size + 1) vw3 (W ++ [S.getD i 0 * m.k + x])) (hg : (w1.alloc o).grownBy w3 vw.ownBlock) (hb3 : Below (w.heap.size + 1) (w1.alloc o) w3) (hat : ∀ j, vw3.ownBlock = some j → vw.ownBlock = some j ∨ j = (w1.alloc o).heap.size) :
    SInv m w w0 w3 vw3 v1 i (x + 1) (S ++ [nxt m (S.getD i 0) x]) (V ++ [V.getD i [] ++ [(x : Int)]]) (W ++ [S.getD i 0 * m.k + x]) := by
  have hz : wr.heap.size ≤ w1.heap.size := hb.size
  have hwl : ∀ j, vw.ownBlock = some j → j < wr.heap.size := fun j e => (h.ways.lt e).2
  have hvl : ∀ j, v.ownBlock = some j → j < wr.heap.size := fun j e => (h.ord.own.lt e).2
  have hv1 : ∀ j, v1.ownBlock = some j → v.ownBlock = some j ∨ wr.heap.size ≤ j := hv
  have hat' : ∀ j, vw3.ownBlock = some j → vw.ownBlock = some j ∨ j = w1.heap.size + 1 := fun j e => (hat j e).imp id fun e => by simpa using e
  have hv1l : ∀ j, v1.ownBlock = some j → j < w1.heap.size := fun j e => (ho.own.lt e).2
  have hb1 : w.heap.size + 1 < w1.heap.size := World.block_lt_of_cell? w1 _ ho.c0
  have hg1 := ho.map.lt
  have K : ∀ j, j < w1.heap.size → vw.ownBlock ≠ some j → w3.heap[j]? = w1.heap[j]? := fun j hj hne => by
    rw [hg.block j (by simp; omega) (fun e => hne e.symm), Below.heap_alloc _ _ _ hj]
  have n1 : ∀ j, v1.ownBlock = some j → vw.ownBlock ≠ some j := fun j e e2 => (hv1 j e).elim (fun e3 => h.apv j e2 e3) fun e3 => by have := hwl j e2; omega
  have hd : Below (w.heap.size + 1) wr w3 := (below_drewN (Below.refl _ wr) q).trans ((hb.alloc (by omega) o).trans hb3)
  have kb := K _ hb1 h.apb
  have zb := h.b1.size
  refine ⟨⟨(World.cell?_of_block kb).trans ho.c0, (World.cell?_of_block kb).trans ho.c1, ?_, ?_, ho.own.keep fun j e => K j (hv1l j e) (n1 j e), ho.map.keep (K _ hg1 h.apg), ho.bg, ho.vb, ho.vg, ho.Bb, ho.Bg⟩, hw, fun e => ?_, fun e => ?_, fun j e e2 => ?_, h.inv.new R hi hx ht, h.wy.new h.inv.len hi hx _, h.fuel.new (h.inv.size R) hi hx ht, ?_, h.d1.trans hd⟩
  · have := ho.f0; unfold World.frozen? at this ⊢; rw [kb]; exact this
  · have := ho.f1; unfold World.frozen? at this ⊢; rw [kb]; exact this
  · rcases hat' _ e with e | e
    · exact h.apb e
    · omega
  · rcases hat' _ e with e | e
    · exact h.apg e
    · omega
  · rcases hat' _ e with e | e
    · exact n1 j e2 e
    · have := hv1l j e2; omega
  · exact h.b1.trans (hd.mono (by omega))

theorem SInv.fin {m : Mc} {w w0 wr : World} {vw v : Value} {i x : Nat} {S : List Int} {V : List (List Int)} {W : List Int} (h : SInv m w w0 wr vw v i x S V W) (e : rchV m = (S, V)) :
    SPost m w (.returned (.tuple #[.agg #[v, .map (some (w.heap.size + 3))], vw])) ((wr.setCell ⟨w.heap.size + 1, 0, none⟩ v).setCell ⟨w.heap.size + 1, 1, none⟩ (.map (some (w.heap.size + 3)))) ∧
      ((wr.setCell ⟨w.heap.size + 1, 0, none⟩ v).setCell ⟨w.heap.size + 1, 1, none⟩ (.map (some (w.heap.size + 3)))).cell? ⟨w.heap.size + 1, 0, none⟩ = some v ∧
      ((wr.setCell ⟨w.heap.size + 1, 0, none⟩ v).setCell ⟨w.heap.size + 1, 1, none⟩ (.map (some (w.heap.size + 3)))).cell? ⟨w.heap.size + 1, 1, none⟩ = some (.map (some (w.heap.size + 3))) := by
  have K : ∀ j, j ≠ w.heap.size + 1 → ((wr.setCell ⟨w.heap.size + 1, 0, none⟩ v).setCell ⟨w.heap.size + 1, 1, none⟩ (.map (some (w.heap.size + 3)))).heap[j]? = wr.heap[j]? := fun j hj => by
    rw [Below.heap_setCell _ _ _ _ (by simpa using hj), Below.heap_setCell _ _ _ _ (by simpa using hj)]
  refine ⟨⟨v, vw, W, rfl, ?_, ?_, ?_, ?_, ?_⟩, ?_, ?_⟩
  · rw [e]; exact (h.ord.own.keep fun j ej => K j fun e2 => h.ord.vb (e2 ▸ ej)).mono (by omega)
  · rw [e]; exact h.ord.map.keep (K _ (by omega))
  · exact (h.ways.keep fun j ej => K j fun e2 => h.apb (e2 ▸ ej)).mono (by omega)
  · rw [e]; exact h.wy
  · exact (h.b1.setCell (p := ⟨w.heap.size + 1, 0, none⟩) (by simp) _).setCell (p := ⟨w.heap.size + 1, 1, none⟩) (by simp) _
  · rw [World.cell?_setCell_other (a := ⟨w.heap.size + 1, 1, none⟩) (b := ⟨w.heap.size + 1, 0, none⟩) (h := fun e => by cases e)]; exact World.cell?_setCell_same _ _ _ h.ord.c0
  · refine World.cell?_setCell_same _ _ _ (u := .map (some (w.heap.size + 3))) ?_
    rw [World.cell?_setCell_other (a := ⟨w.heap.size + 1, 0, none⟩) (b := ⟨w.heap.size + 1, 1, none⟩) (h := fun e => by cases e)]; exact h.ord.c1

set_option maxHeartbeats 2000000 in
theorem search_any (m : Mc) (a1 : Option Addr) (c1 : Nat) (a2 : Option Addr) (c2 : Nat) (w : World) (R : Right m) (h1 : RdL .i64 w a1 m.nx) :
    Calls Try.prog 31 #[mval m a1 c1 a2 c2] w fun e w' => SPost m w e w' := by
  unfold mval
  have B0 := Box.alloc w m a1 c1 a2 c2 24
  have b0 := ballo w (.cells #[.int .i64 m.kind, .int .i64 m.k, .int .i64 m.o, .int .i64 m.n, .slice a1 m.nx.length c1, .slice a2 m.out.length c2] 24)
  have s0 : (w.alloc (.cells #[.int .i64 m.kind, .int .i64 m.k, .int .i64 m.o, .int .i64 m.n, .slice a1 m.nx.length c1, .slice a2 m.out.length c2] 24)).heap.size = w.heap.size + 1 := by simp
  have HR := hide R
  have k0 := R.k0
  have k1 := R.k1
  have n0 := R.n0
  have n1 := R.n1
  clear R
  go_enter Try.func31, Try.ntmps31
  go_wp2
  go_step3
  go_wp2_with fail
  refine (newOrder_any _).mono ?_
  rintro e w1 ⟨rfl, hN1, hb1, hz1⟩
  have hbb1 := hb1
  simp only [World.size_alloc] at hN1 hb1 hz1
  have C0 : w1.cell? ⟨w.heap.size + 1, 0, none⟩ = some (.slice none 0 0) := by
    rw [hb1.cell (by simp)]; simp
  have C1 : w1.cell? ⟨w.heap.size + 1, 1, none⟩ = some (.map none) := by
    rw [hb1.cell (by simp)]; simp
  have F0 : w1.frozen? ⟨w.heap.size + 1, 0, none⟩ = false := frz_on (by rw [frozen?_alloc_cells, frozen?_alloc_cells]; exact frz_new w (by omega)) hb1 (by omega)
  have F1 : w1.frozen? ⟨w.heap.size + 1, 1, none⟩ = false := frz_on (by rw [frozen?_alloc_cells, frozen?_alloc_cells]; exact frz_new w (by omega)) hb1 (by omega)
  have O1 : Ord ((w1.setCell ⟨w.heap.size + 1, 0, none⟩ (.slice none 0 0)).setCell ⟨w.heap.size + 1, 1, none⟩ (.map (some (w.heap.size + 3)))) (w.heap.size + 1) (w.heap.size + 1) (w.heap.size + 3) (.slice none 0 0) [] := by
    refine ⟨?_, ?_, by rw [World.frozen?_setCell, World.frozen?_setCell]; exact F0, by rw [World.frozen?_setCell, World.frozen?_setCell]; exact F1, OwnL.nil _ _ _ _, hN1.keep ?_, by omega, (by intro e; cases e), (by intro e; cases e), by omega, by omega⟩
    · rw [World.cell?_setCell_other (a := ⟨w.heap.size + 1, 1, none⟩) (b := ⟨w.heap.size + 1, 0, none⟩) (h := fun e => by cases e)]; exact World.cell?_setCell_same _ _ _ C0
    · refine World.cell?_setCell_same _ _ _ (u := .map none) ?_
      rw [World.cell?_setCell_other (a := ⟨w.heap.size + 1, 0, none⟩) (b := ⟨w.heap.size + 1, 1, none⟩) (h := fun e => by cases e)]; exact C1
    · rw [Below.heap_setCell _ _ _ _ (by simp; omega), Below.heap_setCell _ _ _ _ (by simp; omega)]
  have d1 : Below (w.heap.size + 1) (w.alloc (.cells #[.int .i64 m.kind, .int .i64 m.k, .int .i64 m.o, .int .i64 m.n, .slice a1 m.nx.length c1, .slice a2 m.out.length c2] 24)) ((w1.setCell ⟨w.heap.size + 1, 0, none⟩ (.slice none 0 0)).setCell ⟨w.heap.size + 1, 1, none⟩ (.map (some (w.heap.size + 3)))) :=
    ((((Below.refl (w.heap.size + 1) _).alloc (by simp) (.cells #[.slice none 0 0, .map none] 58)).trans (hb1.mono (by omega))).setCell (p := ⟨w.heap.size + 1, 0, none⟩) (by simp) _).setCell (p := ⟨w.heap.size + 1, 1, none⟩) (by simp) _
  go_wp2_with fail
  clear hbb1 hb1 C0 C1 F0 F1 hN1
  refine (add_new (w.heap.size + 1) (w.heap.size + 3) (.slice none 0 0) [] (w.heap.size + 1) 0 _ O1 (by simp) (by simp) (by omega) (by omega)).mono ?_
  rintro e w2 ⟨rfl, ⟨v2, O2, -⟩, hb2, -⟩
  have d2 := d1.trans hb2
  have I0 : SInv m w (w.alloc (.cells #[.int .i64 m.kind, .int .i64 m.k, .int .i64 m.o, .int .i64 m.n, .slice a1 m.nx.length c1, .slice a2 m.out.length c2] 24)) w2 (.slice none 0 0) v2 0 0 [0] [[]] [] :=
    ⟨O2, OwnL.nil _ _ _ _, (by intro e; cases e), (by intro e; cases e), (by intro b e; cases e), RInv.start (unhide HR), Wy.start m, Fuel.start m, b0.trans (d2.mono (by omega)), d2⟩
  have HI0 := hide I0
  clear I0 d1 d2 O1 O2 hb2 hz1 s0
  go_wp2
  go_step3
  go_wp2
  go_loopw [3, 4] (fun vw a wr => ∃ (i : Nat) (v : Value) (S : List Int) (V : List (List Int)) (W : List Int), a = .int .i64 i ∧ SInv m w (w.alloc (.cells #[.int .i64 m.kind, .int .i64 m.k, .int .i64 m.o, .int .i64 m.n, .slice a1 m.nx.length c1, .slice a2 m.out.length c2] 24)) wr vw v i 0 S V W) (fun _ a _ => m.n.toNat - (intOf a).toNat)
  case atStart => exact ⟨0, v2, [0], [[]], [], rfl, unhide HI0⟩
  case round =>
    obtain ⟨i, v, S, V, W, rfl, hinv⟩ := hrel
    clear HI0
    have HI := hide hinv
    obtain ⟨p0, p1, p2, p3, p4, p5⟩ := box_on B0 hinv.d1 (Nat.lt_succ_self _)
    have q0 := hinv.ord.c0
    have q1 := hinv.ord.c1
    have g0 := hinv.ord.f0
    have g1 := hinv.ord.f1
    obtain ⟨av, cv, rfl, -, hlc, hcm, -, -⟩ := hinv.ord.own.shape
    have hil := hinv.inv.il
    have hsz := hinv.inv.size (unhide HR)
    have hb := hinv.b1
    obtain ⟨aw, cw, rfl, -, -, -, -, -⟩ := hinv.ways.shape
    clear hinv
    by_cases hend : S.length = i
    · have te : ((S.length : Int) == (i : Int)) = true := eq_t (by omega)
      have HF := hide ((unhide HI).fuel.fin (by omega))
      clear hend
      go_wp2
      try rw [Exit.noGoto_ret]
      obtain ⟨HP, z0, z1⟩ := (unhide HI).fin (unhide HF)
      generalize ((wr.setCell ⟨w.heap.size + 1, 0, none⟩ (.slice av S.length cv)).setCell ⟨w.heap.size + 1, 1, none⟩ (.map (some (w.heap.size + 3)))) = w3 at *
      refine bodyPost_ret (v := .tuple #[.agg #[.slice av S.length cv, .map (some (w.heap.size + 3))], .slice aw W.length cw]) ?_ rfl HP
      simp [results, Try.results31, go_sem, z0, z1]
    have te : ((S.length : Int) == (i : Int)) = false := eq_f (by omega)
    by_cases hfull : (S.length : Int) = m.n
    · have te2 : ((S.length : Int) == m.n) = true := eq_t hfull
      have HF := hide ((unhide HI).fuel.full (unhide HR) (unhide HI).inv hfull)
      clear hfull
      go_wp2
      try rw [Exit.noGoto_ret]
      obtain ⟨HP, z0, z1⟩ := (unhide HI).fin (unhide HF)
      generalize ((wr.setCell ⟨w.heap.size + 1, 0, none⟩ (.slice av S.length cv)).setCell ⟨w.heap.size + 1, 1, none⟩ (.map (some (w.heap.size + 3)))) = w3 at *
      refine bodyPost_ret (v := .tuple #[.agg #[.slice av S.length cv, .map (some (w.heap.size + 3))], .slice aw W.length cw]) ?_ rfl HP
      simp [results, Try.results31, go_sem, z0, z1]
    have te2 : ((S.length : Int) == m.n) = false := eq_f hfull
    have hiS : i < S.length := by omega
    clear hfull hend
    go_wp2
    go_loopw [3, 22] (fun vw a wr => ∃ (x : Nat) (v : Value) (S : List Int) (V : List (List Int)) (W : List Int), a = .int .i64 x ∧ (x : Int) ≤ m.k ∧ i < S.length ∧ SInv m w (w.alloc (.cells #[.int .i64 m.kind, .int .i64 m.k, .int .i64 m.o, .int .i64 m.n, .slice a1 m.nx.length c1, .slice a2 m.out.length c2] 24)) wr vw v i x S V W) (fun _ a _ => m.k.toNat - (intOf a).toNat)
    case atStart => exact ⟨0, _, S, V, W, rfl, by omega, hiS, unhide HI⟩
    case round =>
      obtain ⟨x, v, S2, V2, W2, rfl, hxk, hi2, hinv⟩ := hrel
      clear HI p0 p1 p2 p3 p4 p5 q0 q1 g0 g1 hb te te2 hiS
      have HI := hide hinv
      obtain ⟨p0, p1, p2, p3, p4, p5⟩ := box_on B0 hinv.d1 (Nat.lt_succ_self _)
      obtain ⟨gs, cs, ev, -, -, -, -, hcs, -⟩ := hinv.ord.own.pos (by omega)
      subst ev
      have q0 := hinv.ord.c0
      have hcell := hcs i hi2
      obtain ⟨aw2, cw2, ew, -, -, -, -, -⟩ := hinv.ways.shape
      subst ew
      have hsz2 := hinv.inv.size (unhide HR)
      have hb2 := hinv.b1
      have hr := hinv.inv.rng i hi2
      have hwl : W2.length ≤ 1024 := by have := hinv.wy.1; have := hinv.inv.len; omega
      clear hcs
      by_cases hx : (x : Int) < m.k
      · obtain ⟨s, hs⟩ : ∃ s, s = S2.getD i 0 := ⟨_, rfl⟩
        rw [← hs] at hcell hr
        obtain ⟨P, hP, hPl, u0, u1, u2⟩ := way_of (unhide HR) hr.1 hr.2 (x := (x : Int)) (by omega) hx
        obtain ⟨b', off', rfl, hn⟩ := (h1.below hb2).at hPl
        have hnP := hn P hPl
        have hy := (unhide HR).st P hPl
        obtain ⟨y, hye⟩ : ∃ y, y = m.nx.getD P 0 := ⟨_, rfl⟩
        rw [← hye] at hnP hy
        have EN : Hid (nxt m (S2.getD i 0) x = y) := by show _ = _; unfold nxt; rw [← hs, hP, hye]; simp
        have EW : Hid (S2.getD i 0 * m.k + x = (P : Int)) := by show _ = _; rw [← hs, hP]
        have hPl' : (P : Int) < (m.nx.length : Int) := by omega
        have hi2' : (i : Int) < (S2.length : Int) := by omega
        have O0 := hinv.ord
        have W0 := hinv.ways
        have hapb := hinv.apb
        have hapg := hinv.apg
        have hapv := hinv.apv
        clear hs hye hn hinv
        go_wp2
        go_quiet (fail)
        go_wp2_with fail
        by_cases ht : y ∈ S2
        · refine (add_old (w.heap.size + 1) (w.heap.size + 3) _ S2 (w.heap.size + 1) y (wr.drewN nq) (O0.draws nq) ht (by omega) (by omega)).mono ?_
          rintro e w' ⟨rfl, rfl⟩
          have HT := hide ht
          clear ht
          go_wp2
          go_roundw
          case rel => exact ⟨x + 1, _, S2, V2, W2, by go_num, by omega, hi2, (unhide HI).old (unhide HR) hi2 hx (by rw [unhide EN]; exact unhide HT) nq⟩
          case measure => simp [intOf]; omega
        · refine (add_new (w.heap.size + 1) (w.heap.size + 3) _ S2 (w.heap.size + 1) y (wr.drewN nq) (O0.draws nq) ht (by omega) (by omega) (by omega)).mono ?_
          rintro e w4 ⟨rfl, ⟨v4, O4, hv4⟩, hb4, hk4⟩
          have HT := hide ht
          have W4 : OwnL .i64 3 w4 (w.heap.size + 1) (.slice aw2 W2.length cw2) W2 := W0.keep fun j e => hk4 j (W0.lt e).2 (fun e2 => hapb (e2 ▸ e)) (fun e2 => hapg (e2 ▸ e)) (hapv j e)
          have hz4 : w.heap.size + 1 < w4.heap.size := World.block_lt_of_cell? w4 _ O4.c0
          have HV := hide hv4
          clear ht hv4 hapv hapb hapg hk4
          go_wp2_with (at_builtin; refine wpl_pushA eInt rfl (.tmp 41) (.tmp 43) rfl (w.heap.size + 1) _ W2 rfl (W4.alloc _) ⟨w4.heap.size, 0, none⟩ 1 [(P : Int)] rfl (RdL.one _ _) (by simp; omega) (by simp; omega) ?_; intro vw5 w5 hown5 hb5 hg5 hat5; obtain ⟨aw5, cw5, ev5, -, -, -, -, -⟩ := hown5.shape; rw [show (W2 ++ [(P : Int)]).length = W2.length + 1 by simp] at ev5; subst ev5)
          go_roundw
          case rel =>
            refine ⟨x + 1, v4, _, _, _, by go_num, by omega, ?_, (unhide HI).new (unhide HR) hi2 hx (by rw [unhide EN]; exact unhide HT) (by rw [unhide EN]; exact O4) (unhide HV) hb4 (by rw [unhide EW]; exact hown5) hg5 hb5 hat5⟩
            rw [List.length_append]; omega
          case measure => simp [intOf]; omega
      · have HX : Hid ((x : Int) = m.k) := by show _ = _; omega
        clear hinv
        go_wp2
        go_roundw
        case rel => exact ⟨i + 1, _, S2, V2, W2, by go_num, (unhide HI).row (unhide HR) hi2 (unhide HX)⟩
        case measure => simp [intOf]; omega

end Go.Proofs.Ytdlcbjbcehpooaa
