/-
  What the reference's Canon returns, for every table: what the program's does.
-/
import Derived.Test.YtdnmabemollbeaaDoorRReach
import Derived.Test.YtdnmabemollbeaaDoorRPick
import Derived.Test.YtdnmabemollbeaaDoorK7
namespace Go.Proofs.YtdnmabemollbeaaDoor
open Go.RowKit Go.Maps

theorem list_made {w : World} {B n : Nat} {v : Value} {f : Nat → Int} (h : Own w B v n f) : OwnL .i64 3 w B v ((List.range n).map f) := by
  unfold OwnL
  have e : ((List.range n).map f).map (Value.int .i64) = cellsOf n f := by unfold cellsOf; rw [List.map_map]; rfl
  rw [e, List.length_map, List.length_range]
  exact h
/-- pl says of the first i of S their places. -/
def Placed (S pl : List Int) (i : Nat) : Prop := ∀ q, q < i → pl.getD (S.getD q 0).toNat 0 = (q : Int)
theorem Placed.next {S pl : List Int} {i s : Nat} (h : Placed S pl i) (hd : S.Nodup) (hr : ∀ p, p < S.length → 0 ≤ S.getD p 0) (hi : i < S.length) (es : S.getD i 0 = (s : Int)) (hs : s < pl.length) : Placed S (pl.set s (i : Int)) (i + 1) := fun q hq => by
  have hrq := hr q (by omega)
  by_cases e : q = i
  · subst e
    rw [es, Int.toNat_natCast]
    simp [List.getD, hs]
  · have hne : s ≠ (S.getD q 0).toNat := fun e2 => e (nd_inj hd (by omega) hi (by rw [es]; omega))
    have h1 := h q (by omega)
    generalize (S.getD q 0).toNat = z at *
    simp only [List.getD] at h1 ⊢
    rw [List.getElem?_set_ne hne]
    exact h1
theorem placed_can {m : Mc} (R : Right m) {pl : List Int} (h : Placed (rchV m).1 pl (rchV m).1.length) : pickV m (rchV m).1 (fun t => pl.getD t.toNat 0) = canM m := by
  unfold canM
  refine pickV_congr fun s hs y hy => ?_
  have h1 := rch_closed R hs hy
  obtain ⟨h2, h3⟩ := idx_get h1
  have := h _ h2
  rw [h3] at this
  exact this

set_option maxHeartbeats 1000000 in
theorem rcanon_any (m : Mc) (a1 : Option Addr) (c1 : Nat) (a2 : Option Addr) (c2 : Nat) (w : World) (h1 : RdL .i64 w a1 m.nx) (h2 : RdL .i64 w a2 m.out) (hn : m.nx.length ≤ maxLen) (ho : m.out.length ≤ maxLen) :
    Calls Tryd.prog 41 #[mval m a1 c1 a2 c2] w fun e w' => CPost (cnV m) w e w' := by
  unfold mval
  have B0 := (Box.alloc w m a1 c1 a2 c2 24).below (ballo _ (.cells #[.int .i64 0, .int .i64 0, .int .i64 0, .int .i64 0, .slice none 0 0, .slice none 0 0] 24))
  have Z0 := Box.alloc (w.alloc (.cells #[.int .i64 m.kind, .int .i64 m.k, .int .i64 m.o, .int .i64 m.n, .slice a1 m.nx.length c1, .slice a2 m.out.length c2] 24)) mc0 none 0 none 0 24
  have b0 := bstep (ballo w (.cells #[.int .i64 m.kind, .int .i64 m.k, .int .i64 m.o, .int .i64 m.n, .slice a1 m.nx.length c1, .slice a2 m.out.length c2] 24)) (ballo _ (.cells #[.int .i64 0, .int .i64 0, .int .i64 0, .int .i64 0, .slice none 0 0, .slice none 0 0] 24))
  have F0 : ∀ i, ((w.alloc (.cells #[.int .i64 m.kind, .int .i64 m.k, .int .i64 m.o, .int .i64 m.n, .slice a1 m.nx.length c1, .slice a2 m.out.length c2] 24)).alloc (.cells #[.int .i64 0, .int .i64 0, .int .i64 0, .int .i64 0, .slice none 0 0, .slice none 0 0] 24)).frozen? ⟨w.heap.size + 1, i, none⟩ = false := fun i => by rw [frozen?_alloc_cells, frozen?_alloc_cells]; exact frz_new w (by omega)
  simp only [World.size_alloc] at Z0
  by_cases hz : (mchV m).2 = 0
  rotate_left
  · have H := hide (cnV_err hz)
    have HRC := hide (rcV_err hz)
    have tz := ne_bne hz
    clear hz
    go_enter Tryd.func41, Tryd.ntmps41
    go_wp2_with fail
    refine (rreach_any m a1 c1 a2 c2 _ (h1.below b0) (h2.below b0) hn ho).mono ?_
    rintro e w1 ⟨v, vv, vs, rfl, hv, hLL, -, hb1⟩
    rw [unhide HRC] at hv hLL ⊢
    obtain ⟨av, cv, ev, -, -, -, -, -⟩ := hv.shape
    subst ev
    obtain ⟨aw, cw, ew, -⟩ := hLL.rdx
    subst ew
    have b1 := bstep b0 hb1
    have Z1 := Z0.below hb1
    obtain ⟨z0, z1, z2, z3, z4, z5⟩ := id Z1
    have g0 := frz_on (F0 0) hb1 (by simp)
    have g1 := frz_on (F0 1) hb1 (by simp)
    have g2 := frz_on (F0 2) hb1 (by simp)
    have g3 := frz_on (F0 3) hb1 (by simp)
    have g4 := frz_on (F0 4) hb1 (by simp)
    have g5 := frz_on (F0 5) hb1 (by simp)
    clear hb1 h1 h2 B0 b0
    go_wp2
    change bodyPost _ _ _ _ _ (six w1 (w.heap.size + 1) mc0 none 0 none 0)
    have b2 := six_below b1 (b := w.heap.size + 1) (by omega) mc0 none 0 none 0
    have Z2 : Box (six w1 (w.heap.size + 1) mc0 none 0 none 0) _ _ _ _ _ _ := Z1.six mc0 none 0 none 0
    generalize six w1 (w.heap.size + 1) mc0 none 0 none 0 = w6 at *
    obtain ⟨q0, q1, q2, q3, q4, q5⟩ := Z2
    refine bodyPost_ret (v := .tuple #[mval mc0 none 0 none 0, .int .i64 (mchV m).2]) ?_ rfl (by rw [unhide H]; exact zero_post _ b2)
    unfold mval
    simp [results, Tryd.results41, go_sem, q0, q1, q2, q3, q4, q5]
  have R := right_of hz
  have HR := hide R
  have H := hide (cnV_ok hz)
  have HRC := hide (rcV_ok hz)
  have n0 := R.n0
  have n1 := R.n1
  have HNN : Hid (m.n = ((m.n.toNat : Nat) : Int)) := by show _ = _; omega
  clear R hz
  go_enter Tryd.func41, Tryd.ntmps41
  go_wp2_with fail
  refine (rreach_any m a1 c1 a2 c2 _ (h1.below b0) (h2.below b0) hn ho).mono ?_
  rintro e w1 ⟨v, vv, vs, rfl, hv, hLL, -, hb1⟩
  rw [unhide HRC] at hv hLL ⊢
  dsimp only at hv hLL ⊢
  obtain ⟨av, cv, ev, -, -, -, hvr, -⟩ := hv.shape
  subst ev
  obtain ⟨aw, cw, ew, -⟩ := hLL.rdx
  subst ew
  have b1 := bstep b0 hb1
  have B1 := B0.below hb1
  have Z1 := Z0.below hb1
  have F1 := fun i => frz_on (F0 i) hb1 (by simp)
  obtain ⟨q0, q1, q2, q3, q4, q5⟩ := id B1
  have hbw : w.heap.size + 1 < w1.heap.size := World.block_lt_of_cell? w1 _ Z1.p0
  have I := rchV_inv (unhide HR)
  have hSn := I.size (unhide HR)
  have HI := hide I
  have HPM := hide (fun pl => placed_can (pl := pl) (unhide HR))
  have hrl := (rch_len (unhide HR)).1
  clear hb1 B0 b0 Z0 F0 hv hLL I
  generalize (rchV m).1 = S at *
  go_wp2_with (at_make; refine wpl_make rfl (.tmp 20) (.tmp 20) rfl w1.heap.size _ _ m.n.toNat rfl rfl (unhide HNN) (unhide HNN) (by omega) (Nat.le_refl _) ?_; intro w2 hown2 hb2 _)
  have O2 := list_made hown2
  have L2 : Hid (((List.range m.n.toNat).map fun _ => (0 : Int)).length = m.n.toNat) := by show _ = _; simp
  clear hown2 q0 q1 q2 q3 q4 q5
  go_loopw [8] (fun a wx => ∃ (i : Nat) (pl : List Int), a = .int .i64 i ∧ i ≤ S.length ∧ Hid (pl.length = m.n.toNat) ∧ OwnL .i64 3 wx w1.heap.size (.slice (some ⟨w1.heap.size, 0, none⟩) m.n.toNat m.n.toNat) pl ∧ Hid (Placed S pl i) ∧ Below w1.heap.size w1 wx) (fun a _ => S.length - (intOf a).toNat)
  case atStart => exact ⟨0, _, rfl, Nat.zero_le _, L2, O2, (fun q hq => by omega), hb2⟩
  case round =>
    obtain ⟨i, pl, rfl, hi, hpl, hO, hPl, hbr⟩ := hrel
    clear O2 L2 hb2
    have bb3 := bstep b1 hbr
    by_cases hlt : i < S.length
    · obtain ⟨bS, oS, rfl, hcS⟩ := (hvr.below hbr).at hlt
      have hci := hcS i hlt
      have hrs := (unhide HI).rng i hlt
      obtain ⟨s, hs⟩ := Int.eq_ofNat_of_zero_le hrs.1
      rw [hs] at hci hrs
      have hsn : s < m.n.toNat := by omega
      have hsn' : (s : Int) < ((m.n.toNat : Nat) : Int) := by omega
      have hlt' : (i : Int) < (S.length : Int) := by omega
      have hO' : OwnL .i64 3 wr w1.heap.size (.slice (some ⟨w1.heap.size, 0, none⟩) pl.length m.n.toNat) pl := by rw [unhide hpl]; exact hO
      obtain ⟨g, cap, eg, -, -, -, -, hcell, hfrz⟩ := hO'.pos (by rw [unhide hpl]; omega)
      cases eg
      have hcs := hcell s (by rw [unhide hpl]; exact hsn)
      have hfs := hfrz s
      have hst := hO'.store s (i : Int)
      have HPn : Hid (Placed S (pl.set s (i : Int)) (i + 1)) := (unhide hPl).next (unhide HI).nd (fun p hp => ((unhide HI).rng p hp).1) hlt hs (by rw [unhide hpl]; exact hsn)
      rw [unhide hpl] at hst
      clear hcS hs hcell hfrz hO' hPl
      go_wp2
      go_roundw
      case rel => exact ⟨i + 1, pl.set s (i : Int), by go_num, by omega, (by show _ = _; rw [List.length_set, unhide hpl]), hst, HPn, hbr.setCell (p := ⟨w1.heap.size, s, none⟩) (Nat.le_refl _) _⟩
      case measure => simp [intOf]; omega
    · have he : i = S.length := by omega
      subst he
      have HM := hide (unhide HPM pl (unhide hPl))
      obtain ⟨p0, p1, p2, p3, p4, p5⟩ := B1.below hbr
      have Z3 := Z1.below hbr
      have F3 := fun i => frz_on (F1 i) hbr hbw
      obtain ⟨ap, cp, ep, -, -, -, hpr, -⟩ := (show OwnL .i64 3 wr w1.heap.size (.slice (some ⟨w1.heap.size, 0, none⟩) pl.length m.n.toNat) pl by rw [unhide hpl]; exact hO).shape
      cases ep
      have hplr : Hid ((pl.length : Int) = m.n) := by show _ = _; rw [unhide hpl]; omega
      have hc := pick_any m a1 c1 a2 c2 av cv S (some ⟨w1.heap.size, 0, none⟩) m.n.toNat pl wr (unhide HR) (h1.below bb3) (h2.below bb3) (hvr.below hbr) hpr (unhide HI).rng hrl (unhide hplr)
      rw [unhide hpl, unhide HM] at hc
      have HC := hide hc
      clear hc hO hPl hpr
      go_wp2_with fail
      refine (unhide HC).mono ?_
      rintro e w4 ⟨v4, rfl, d1, e1, d2, e2, rfl, o1, o2, hap, hb4⟩
      have b4 := bstep bb3 hb4
      have Z4 := Z3.below hb4
      obtain ⟨z0, z1, z2, z3, z4, z5⟩ := id Z4
      have hbz := hbr.size
      have F4 := fun i => frz_on (F3 i) hb4 (by omega)
      have g0 := F4 0
      have g1 := F4 1
      have g2 := F4 2
      have g3 := F4 3
      have g4 := F4 4
      have g5 := F4 5
      unfold mval
      clear hb4 F4 F3 F1 HC
      go_wp2
      change bodyPost _ _ _ _ _ (six w4 (w.heap.size + 1) (canM m) d1 e1 d2 e2)
      have b5 := six_below b4 (b := w.heap.size + 1) (by omega) (canM m) d1 e1 d2 e2
      have Z5 : Box (six w4 (w.heap.size + 1) (canM m) d1 e1 d2 e2) _ _ _ _ _ _ := Z4.six (canM m) d1 e1 d2 e2
      have i1 := (o1.keep fun j e => six_heap w4 (canM m) d1 e1 d2 e2 (b := w.heap.size + 1) (by have := (o1.lt e).1; omega)).mono (B' := w.heap.size) bb3.size
      have i2 := (o2.keep fun j e => six_heap w4 (canM m) d1 e1 d2 e2 (b := w.heap.size + 1) (by have := (o2.lt e).1; omega)).mono (B' := w.heap.size) bb3.size
      generalize six w4 (w.heap.size + 1) (canM m) d1 e1 d2 e2 = w6 at *
      obtain ⟨q0, q1, q2, q3, q4, q5⟩ := Z5
      refine bodyPost_ret (v := .tuple #[mval (canM m) d1 e1 d2 e2, .int .i64 0]) ?_ rfl (by rw [unhide H]; exact ⟨d1, e1, d2, e2, rfl, i1, i2, hap, b5⟩)
      unfold mval
      simp [results, Tryd.results41, go_sem, q0, q1, q2, q3, q4, q5]

end Go.Proofs.YtdnmabemollbeaaDoor
