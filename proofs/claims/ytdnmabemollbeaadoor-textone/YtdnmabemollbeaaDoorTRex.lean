/-
  The reference's Export: the same text.
-/
import Derived.Test.YtdnmabemollbeaaDoorTExp
import Derived.Test.YtdnmabemollbeaaDoorRMCheck
import Derived.Test.YtdnmabemollbeaaDoorTPut
import Derived.Test.YtdnmabemollbeaaDoorTFul
import Derived.Deep.RegionHeldLaw
namespace Go.Proofs.YtdnmabemollbeaaDoor
open Go.RowKit

theorem bdr {B : Nat} {w w' : World} (h : Below B w w') : Below B w w'.drew := ⟨h.os, h.tape, h.output, h.size, h.block⟩

set_option maxRecDepth 100000 in
set_option maxHeartbeats 8000000 in
theorem rexport_d (m : Mc) (a1 : Option Addr) (c1 : Nat) (a2 : Option Addr) (c2 : Nat) (w : World) (h1 : RdL .i64 w a1 m.nx) (h2 : RdL .i64 w a2 m.out) (hn : m.nx.length ≤ maxLen) (ho : m.out.length ≤ maxLen) (hm : (mchV m).2 = 0) (hk : m.kind = 1) :
    Calls Tryd.prog 15 #[mval m a1 c1 a2 c2] w fun e w' => ∃ v, e = .returned (.tuple #[v, .int .i64 (expV m).2]) ∧ OwnL .u8 5 w' w.heap.size v (zs (expV m).1) ∧ Below w.heap.size w w' := by
  have hbB : Below w.heap.size w (w.alloc (.cells #[.int .i64 m.kind, .int .i64 m.k, .int .i64 m.o, .int .i64 m.n, .slice a1 m.nx.length c1, .slice a2 m.out.length c2] 24)) := (Below.refl _ _).alloc (Nat.le_refl _) _
  have hc := rmcheck_any m a1 c1 a2 c2 (w.alloc (.cells #[.int .i64 m.kind, .int .i64 m.k, .int .i64 m.o, .int .i64 m.n, .slice a1 m.nx.length c1, .slice a2 m.out.length c2] 24)) (h1.below hbB) (h2.below hbB) hn ho
  have B0 := Box.alloc w m a1 c1 a2 c2 24
  have hsz0 : w.heap.size + 1 = (w.alloc (.cells #[.int .i64 m.kind, .int .i64 m.k, .int .i64 m.o, .int .i64 m.n, .slice a1 m.nx.length c1, .slice a2 m.out.length c2] 24)).heap.size := by simp
  unfold mval at hc ⊢
  have F := full_of hm
  have HX := hide (expV_ok hm)
  have hn0 : 0 < m.nx.length := by
    have := F.r.nx; have := F.r.n0; have := F.r.k0
    have : 1 * 1 ≤ m.n * m.k := Int.mul_le_mul (by omega) (by omega) (by omega) (by omega)
    omega
  have ho0 : 0 < m.out.length := by
    rcases F.r.kd with hk | hk
    · have := F.r.outD hk; have := F.r.n0; omega
    · have := F.r.outM hk; have := F.r.nx; omega
  have n1 := h1.lt hn0
  have n2 := h2.lt ho0
  have ne0 : ((mchV m).2 != 0) = false := by simp [hm]
  have HF := hide F
  have HN := hide (nN_eq F)
  have HKK := hide (kN_eq F)
  have hn1 := F.r.n1
  have hn01 := F.r.n0
  have hk64 := F.r.k1
  have hk01 := F.r.k0
  have t1 := eq_t hk
  have t2 := eq_f (a := m.kind) (b := 2) (by omega)
  have HK := hide hk
  have HH0 := hide (hdT_zero m)
  rw [if_pos hk] at HH0
  clear hm F hk
  go_enter Tryd.func15, Tryd.ntmps15
  go_wp2_with fail
  refine hc.mono ?_
  rintro e w1 ⟨rfl, hb1⟩
  obtain ⟨p0, p1, p2, p3, p4, p5⟩ := B0.below hb1
  have hs1 := hb1.size
  generalize (mchV m).1 = x1 at *
  generalize (mchV m).2 = x2 at *
  have kc : (convert 28 28 (.slice (some ⟨w1.heap.size + 1, 0, none⟩) 3 3)).run Tryd.prog ((w1.alloc (.cells #[.int .i64 m.k, .int .i64 m.n, .int .i64 0] 62)).alloc (.cells #[.int .u8 100, .int .u8 102, .int .u8 97] 5)) = .ok (.slice (some ⟨w1.heap.size + 1, 0, none⟩) 3 3) ((w1.alloc (.cells #[.int .i64 m.k, .int .i64 m.n, .int .i64 0] 62)).alloc (.cells #[.int .u8 100, .int .u8 102, .int .u8 97] 5 (3, 4))) := by
    have := conv_const (w1.alloc (.cells #[.int .i64 m.k, .int .i64 m.n, .int .i64 0] 62)) #[.int .u8 100, .int .u8 102, .int .u8 97] 3 3
    simpa using this
  have hb2 : Below w1.heap.size w1 ((w1.alloc (.cells #[.int .i64 m.k, .int .i64 m.n, .int .i64 0] 62)).alloc (.cells #[.int .u8 100, .int .u8 102, .int .u8 97] 5 (3, 4))) := balloc ((Below.refl _ _).alloc (Nat.le_refl _) _) _
  obtain ⟨r0, r1, r2, r3, r4, r5⟩ := B0.below (bstep hb1 hb2)
  go_wp2
  clear r0 r1 r2 r3 r4 r5 kc
  have hA0 : Apd ((w1.alloc (.cells #[.int .i64 m.k, .int .i64 m.n, .int .i64 0] 62)).alloc (.cells #[.int .u8 100, .int .u8 102, .int .u8 97] 5 (3, 4))) (w1.heap.size + 1) (.slice (some ⟨w1.heap.size + 1, 0, none⟩) 3 3) (hdT m 0) := by
    rw [unhide HH0]
    exact .inr ⟨w1.heap.size + 1, rfl, by simpa using RdL.const (w1.alloc (.cells #[.int .i64 m.k, .int .i64 m.n, .int .i64 0] 62)) [100, 102, 97] #[.int .u8 100, .int .u8 102, .int .u8 97] (3, 4) rfl, Nat.le_refl _, by simp⟩
  have hA := hide hA0
  clear hA0
  have hs2 : ((w1.alloc (.cells #[.int .i64 m.k, .int .i64 m.n, .int .i64 0] 62)).alloc (.cells #[.int .u8 100, .int .u8 102, .int .u8 97] 5 (3, 4))).heap.size = w1.heap.size + 1 + 1 := by simp
  have hcells : ∀ t, t < 3 → ((w1.alloc (.cells #[.int .i64 m.k, .int .i64 m.n, .int .i64 0] 62)).alloc (.cells #[.int .u8 100, .int .u8 102, .int .u8 97] 5 (3, 4))).cell? ⟨w1.heap.size, t, none⟩ = some (.int .i64 ((hdL m).getD t 0)) := by
    intro t ht
    unfold hdL
    rw [if_pos (unhide HK)]
    rcases t with _ | _ | _ | t
    · simp
    · simp
    · simp
    · omega
  have HCC := hide hcells
  clear hcells
  generalize ((w1.alloc (.cells #[.int .i64 m.k, .int .i64 m.n, .int .i64 0] 62)).alloc (.cells #[.int .u8 100, .int .u8 102, .int .u8 97] 5 (3, 4))) = w2 at *
  go_loopw [7, 9] (fun b i wr => ∃ j : Nat, j ≤ 2 ∧ i = .int .i64 (j : Int) ∧ Hid (Apd wr (w1.heap.size + 1) b (hdT m j)) ∧ Below (w1.heap.size + 1) w2 wr) (fun _ i _ => 2 - (intOf i).toNat)
  case atStart => exact ⟨0, by omega, rfl, hA, Below.refl _ _⟩
  case round =>
    obtain ⟨j, hj, rfl, HO, hbr⟩ := hrel
    have hsr := hbr.size
    have hcj : ∀ t, t < 3 → wr.cell? ⟨w1.heap.size, t, none⟩ = some (.int .i64 ((hdL m).getD t 0)) := fun t ht => by rw [hbr.cell (by exact Nat.lt_succ_self _)]; exact unhide HCC t ht
    have HCJ := hide hcj
    clear hcj
    have hb12 := bstep hb1 hb2
    obtain ⟨q0, q1, q2, q3, q4, q5⟩ := box_on (B0.below hb12) hbr (by omega)
    have hln := hdT_len (unhide HF) j
    by_cases hlt : j < 2
    · have hct := unhide HCJ j (by omega)
      have hlt' : (j : Int) < 2 := by omega
      have hlt3 : (j : Int) < 3 := by omega
      have hfit := hdL_fit (unhide HF) j
      have HS := hide (hdT_succ m j)
      have hl21 := itoa_21 (x := (hdL m).getD j 0) (by omega) (by omega)
      have hl0 := itoa_len0 ((hdL m).getD j 0)
      generalize (hdL m).getD j 0 = y at *
      have hs0 : wr.cell? ⟨w1.heap.size, j, none⟩ = some (.int .i64 y) := hct
      have hs1 : (wr.alloc (.cells #[.int .u8 32] 5)).cell? ⟨w1.heap.size, j, none⟩ = some (.int .i64 y) := by
        rw [((Below.refl _ wr).alloc (Nat.le_refl _) _).cell (by exact (by omega : w1.heap.size < wr.heap.size))]; exact hct
      have hb5 : Below (w1.heap.size + 1) wr (wr.alloc (.cells #[.int .u8 32] 5)) := (Below.refl _ wr).alloc (by omega) _
      go_wp2
      go_region_held_law (fun wz => wz.cell? ⟨w1.heap.size, j, none⟩ = some (.int .i64 y)) (first | exact hs0 | exact hs1 | exact hs3 | exact hs4 | exact hs6)
        (first
          | (refine step_pushX rfl (.tmp 44) (.tmp 45) rfl (w1.heap.size + 1) u7 (hdT m j) (by rfl) ((unhide HO).alloc _) ⟨wr.heap.size, 0, none⟩ 1 [32] (by rfl) (show RdL .u8 _ _ (zs [32]) from RdL.one _ _) (by decide) (by simp only [List.length_cons, List.length_nil]; omega) (by simp; omega) ?_; intro v3 w3 ho3 hb3; have hz3 : wr.heap.size + 1 ≤ w3.heap.size := (by have := hb3.size; simpa using this); have hs3 : w3.cell? ⟨w1.heap.size, j, none⟩ = some (.int .i64 y) := by { rw [hb3.cell (by exact Nat.lt_succ_self _)]; exact hs1 })
          | (go_at_call 24; refine (rput_any (y.natAbs + 1) y w3 (Nat.lt_succ_self _) (by omega) (by omega)).mono ?_; rintro e w4 ⟨v4, rfl, ho4, hb4⟩; have hs4 : w4.cell? ⟨w1.heap.size, j, none⟩ = some (.int .i64 y) := by { rw [hb4.cell (by exact World.block_lt_of_cell? w3 _ hs3)]; exact hs3 })
          | (refine step_pushB rfl (.tmp 46) (.tmp 50) rfl (w1.heap.size + 1) v3 (hdT m j ++ [32]) (by rfl) (ho3.grown hb4) w3.heap.size v4 (Lib.itoa y) (by rfl) ho4 hl0 (by simp only [List.length_append, List.length_cons, List.length_nil]; omega) (by have := hb4.size; omega) ?_; intro v6 w6 ho6 hb6 _ _; have hs6 : w6.cell? ⟨w1.heap.size, j, none⟩ = some (.int .i64 y) := by { rw [hb6.cell (by exact Nat.lt_succ_self _)]; exact hs4 }))
      all_goals go_wp2
      exact ⟨⟨j + 1, by omega, by go_num, hide (.inl (by rw [unhide HS]; exact ho6)), ((hbr.trans (bdr hb5)).trans hb3).trans ((hb4.mono (by omega)).trans hb6)⟩, by simp [intOf]; omega⟩
    · have hj2 : j = 2 := by omega
      subst hj2
      have hA2 := unhide HO
      rw [hdT_d (unhide HK)] at hA2
      have hzl := szT_len (unhide HF)
      have hpr := RdL.one (q := .u8) (t := 5) wr 10
      have HE0 := hide (expP_zero m)
      go_wp2_with (at_builtin; refine wpl_pushX rfl (.tmp 52) (.tmp 53) rfl (w1.heap.size + 1) u7 (szT m) rfl (hA2.alloc _) ⟨wr.heap.size, 0, none⟩ 1 [10] rfl (show RdL .u8 _ _ (zs [10]) from hpr) (by decide) (by simp only [List.length_cons, List.length_nil]; omega) (by simp; omega) ?_; intro v3 w3 ho3 hb3)
      have hb5 : Below (w1.heap.size + 1) wr (wr.alloc (.cells #[.int .u8 10] 5)) := (Below.refl _ wr).alloc (by omega) _
      have hb23 := (hbr.trans hb5).trans hb3
      have HO3 : Hid (OwnL .u8 5 w3 (w1.heap.size + 1) v3 (zs (expP m 0 ++ [10]))) := by rw [unhide HE0]; exact hide ho3
      clear hA2 hpr ho3 q0 q1 q2 q3 q4 q5 hb3 hb5 HO HCJ hbr hsr
      go_loopw [7, 10] (fun b i wr => ∃ q : Nat, q ≤ nN m ∧ i = .int .i64 (q : Int) ∧ Hid (OwnL .u8 5 wr (w1.heap.size + 1) b (zs (expP m q ++ [10]))) ∧ Below (w1.heap.size + 1) w2 wr) (fun _ i _ => nN m - (intOf i).toNat)
      case atStart => exact ⟨0, Nat.zero_le _, rfl, HO3, hb23⟩
      case round =>
        obtain ⟨q, hq, rfl, HO, hbr⟩ := hrel
        have hsr := hbr.size
        obtain ⟨q0, q1, q2, q3, q4, q5⟩ := box_on (B0.below hb12) hbr (by omega)
        have hbW : Below w.heap.size w wr := (bstep (bstep hbB hb1) hb2).trans (hbr.mono (by omega))
        have hln := expP_len (unhide HF) q
        by_cases hlt : q < nN m
        · have hlt' : (q : Int) < m.n := by have := unhide HN; omega
          have hqo : q < m.out.length := by have := (unhide HF).r.outD (unhide HK); have := unhide HN; omega
          have hqo' : (q : Int) < (m.out.length : Int) := by omega
          have hzb := (unhide HF).outB q
          have hl21 := itoa_21 hzb.1 (by omega)
          have hl0 := itoa_len0 (m.out.getD q 0)
          have HD0 := hide (dfaP_zero m q)
          obtain ⟨b5, off5, he5, hc5⟩ := (h2.below hbW).at hqo
          have hcq := hc5 q hqo
          rw [he5] at q5
          generalize m.out.getD q 0 = z at *
          clear hc5 he5
          go_wp2_with fail
          refine (rput_any (z.natAbs + 1) z wr (Nat.lt_succ_self _) (by omega) (by omega)).mono ?_
          rintro e w4 ⟨v4, rfl, ho4, hb4⟩
          have hs4 := hb4.size
          go_wp2_with (at_builtin; refine wpl_pushB rfl (.tmp 64) (.tmp 70) rfl (w1.heap.size + 1) u7 (expP m q ++ [10]) rfl ((unhide HO).grown hb4) wr.heap.size v4 (Lib.itoa z) rfl ho4 hl0 (by simp only [List.length_append, List.length_cons, List.length_nil]; have := unhide HN; omega) (by omega) ?_; intro v6 w6 ho6 hb6 _ _)
          have hb26 := hbr.trans ((hb4.mono (by omega)).trans hb6)
          have HO6 : Hid (OwnL .u8 5 w6 (w1.heap.size + 1) v6 (zs (expP m q ++ dfaP m q 0))) := by rw [unhide HD0, ← List.append_assoc]; exact hide ho6
          clear q0 q1 q2 q3 q4 q5 HO hcq ho6 hb6 HD0 ho4
          go_loopw [7, 11] (fun b i wr => ∃ x : Nat, x ≤ kN m ∧ i = .int .i64 (x : Int) ∧ Hid (OwnL .u8 5 wr (w1.heap.size + 1) b (zs (expP m q ++ dfaP m q x))) ∧ Below (w1.heap.size + 1) w2 wr) (fun _ i _ => kN m - (intOf i).toNat)
          case atStart => exact ⟨0, Nat.zero_le _, rfl, HO6, hb26⟩
          case round =>
            obtain ⟨x, hx, rfl, HO, hbr⟩ := hrel
            have hsr := hbr.size
            obtain ⟨q0, q1, q2, q3, q4, q5⟩ := box_on (B0.below hb12) hbr (by omega)
            have hbW : Below w.heap.size w wr := (bstep (bstep hbB hb1) hb2).trans (hbr.mono (by omega))
            have hdn := dfaP_len (unhide HF) q x
            by_cases hxl : x < kN m
            · obtain ⟨P, hPe, hP, hPl, g1, g2, g3⟩ := way_at (unhide HF) hlt hxl
              have hxl' : (x : Int) < m.k := by have := unhide HKK; omega
              have hPl' : (P : Int) < (m.nx.length : Int) := by omega
              have HS := hide (dfaP_succ m q x)
              rw [← hPe] at HS
              have hyb := (unhide HF).r.nxB P
              have hl21 := itoa_21 hyb.1 (by omega)
              have hl0 := itoa_len0 (m.nx.getD P 0)
              obtain ⟨b4, off4, he4, hc4⟩ := (h1.below hbW).at hPl
              have hcP := hc4 P hPl
              rw [he4] at q4
              clear hc4 hPe
              have HCP := hide (fun w' (hb' : Below w.heap.size w w') => h1.cellIn hb' he4 hPl rfl)
              have HE4 := hide he4
              clear he4
              generalize m.nx.getD P 0 = y at *
              have hpr := RdL.one (q := .u8) (t := 5) wr 32
              have hb5 : Below (w1.heap.size + 1) wr (wr.alloc (.cells #[.int .u8 32] 5)) := (Below.refl _ wr).alloc (by omega) _
              rcases Nat.eq_zero_or_pos x with h0 | h0
              · subst h0
                have hP0 : (q : Int) * m.k = (P : Int) := by simpa using hP
                clear hP
                go_wp2_with (at_builtin; refine wpl_pushX rfl (.tmp 85) (.tmp 86) rfl (w1.heap.size + 1) u7 (expP m q ++ dfaP m q 0) rfl (Apd.alloc (.inl (unhide HO)) _) ⟨wr.heap.size, 0, none⟩ 1 [32] rfl (show RdL .u8 _ _ (zs [32]) from hpr) (by decide) (by simp only [List.length_append, List.length_cons, List.length_nil]; have := unhide HN; have := unhide HKK; omega) (by simp; omega) ?_; intro v7 w7 ho7 hb7; have hbr7 := (hbr.trans hb5).trans hb7; obtain ⟨r0, r1, r2, r3, r4, r5⟩ := box_on (B0.below hb12) hbr7 (by omega); rw [unhide HE4] at r4; have hcP7 := unhide HCP w7 ((bstep (bstep hbB hb1) hb2).trans (hbr7.mono (by omega))); have hs7 := hbr7.size)
                refine (rput_any (y.natAbs + 1) y w7 (Nat.lt_succ_self _) (by omega) (by omega)).mono ?_
                rintro e w8 ⟨v8, rfl, ho8, hb8⟩
                have hs8 := hb8.size
                obtain ⟨l0, l1, l2, l3, l4, l5⟩ := box_on (B0.below hb12) (hbr7.trans (hb8.mono (by omega))) (by omega)
                go_wp2_with (at_builtin; refine wpl_pushB rfl (.tmp 88) (.tmp 99) rfl (w1.heap.size + 1) v7 _ rfl (ho7.grown hb8) w7.heap.size v8 (Lib.itoa y) rfl ho8 hl0 (by simp only [List.length_append, List.length_cons, List.length_nil]; have := unhide HN; have := unhide HKK; omega) (by omega) ?_; intro v9 w9 ho9 hb9 _ _; have hbr9 := (hbr7.trans (hb8.mono (by omega))).trans hb9; obtain ⟨k0, k1, k2, k3, k4, k5⟩ := box_on (B0.below hb12) hbr9 (by omega))
                go_roundw
                case rel => exact ⟨0 + 1, by omega, by go_num, hide (by rw [unhide HS]; simpa only [List.append_assoc] using ho9), hbr9⟩
                case measure => simp [intOf]; omega
              · have hx0 : (x : Int) > 0 := by omega
                go_wp2_with (at_builtin; refine wpl_pushX rfl (.tmp 85) (.tmp 86) rfl (w1.heap.size + 1) u7 (expP m q ++ dfaP m q x) rfl (Apd.alloc (.inl (unhide HO)) _) ⟨wr.heap.size, 0, none⟩ 1 [32] rfl (show RdL .u8 _ _ (zs [32]) from hpr) (by decide) (by simp only [List.length_append, List.length_cons, List.length_nil]; have := unhide HN; have := unhide HKK; omega) (by simp; omega) ?_; intro v7 w7 ho7 hb7; have hbr7 := (hbr.trans hb5).trans hb7; obtain ⟨r0, r1, r2, r3, r4, r5⟩ := box_on (B0.below hb12) hbr7 (by omega); rw [unhide HE4] at r4; have hcP7 := unhide HCP w7 ((bstep (bstep hbB hb1) hb2).trans (hbr7.mono (by omega))); have hs7 := hbr7.size)
                refine (rput_any (y.natAbs + 1) y w7 (Nat.lt_succ_self _) (by omega) (by omega)).mono ?_
                rintro e w8 ⟨v8, rfl, ho8, hb8⟩
                have hs8 := hb8.size
                obtain ⟨l0, l1, l2, l3, l4, l5⟩ := box_on (B0.below hb12) (hbr7.trans (hb8.mono (by omega))) (by omega)
                go_wp2_with (at_builtin; refine wpl_pushB rfl (.tmp 88) (.tmp 99) rfl (w1.heap.size + 1) v7 _ rfl (ho7.grown hb8) w7.heap.size v8 (Lib.itoa y) rfl ho8 hl0 (by simp only [List.length_append, List.length_cons, List.length_nil]; have := unhide HN; have := unhide HKK; omega) (by omega) ?_; intro v9 w9 ho9 hb9 _ _; have hbr9 := (hbr7.trans (hb8.mono (by omega))).trans hb9; obtain ⟨k0, k1, k2, k3, k4, k5⟩ := box_on (B0.below hb12) hbr9 (by omega))
                go_roundw
                case rel => exact ⟨x + 1, by omega, by go_num, hide (by rw [unhide HS]; simpa only [List.append_assoc] using ho9), hbr9⟩
                case measure => simp [intOf]; omega
            · have HXE := hide (show x = kN m by omega)
              have hge : ¬ ((x : Int) < m.k) := by have := unhide HKK; omega
              have hpr := RdL.one (q := .u8) (t := 5) wr 10
              have HS := hide (expP_succ m q)
              rw [stT_d (unhide HK), ← unhide HXE] at HS
              have hb5 : Below (w1.heap.size + 1) wr (wr.alloc (.cells #[.int .u8 10] 5)) := (Below.refl _ wr).alloc (by omega) _
              go_wp2_with (at_builtin; refine wpl_pushX rfl (.tmp 119) (.tmp 120) rfl (w1.heap.size + 1) u7 (expP m q ++ dfaP m q x) rfl (Apd.alloc (.inl (unhide HO)) _) ⟨wr.heap.size, 0, none⟩ 1 [10] rfl (show RdL .u8 _ _ (zs [10]) from hpr) (by decide) (by simp only [List.length_append, List.length_cons, List.length_nil]; have := unhide HN; have := unhide HKK; omega) (by simp; omega) ?_; intro v7 w7 ho7 hb7)
              go_roundw
              case rel => exact ⟨q + 1, by omega, by go_num, hide (by rw [unhide HS]; exact ho7), (hbr.trans hb5).trans hb7⟩
              case measure => simp [intOf]; omega
        · have HQE := hide (show q = nN m by omega)
          have hge : ¬ ((q : Int) < m.n) := by have := unhide HN; omega
          go_wp2
          go_ret2
          refine ⟨u7, ret_vi (by rw [unhide HX]), ?_, hbW⟩
          rw [unhide HX, expT, ← unhide HQE]; exact (unhide HO).mono (by omega)

end Go.Proofs.YtdnmabemollbeaaDoor
