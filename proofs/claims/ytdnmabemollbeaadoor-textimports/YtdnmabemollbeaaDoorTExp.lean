/-
  The program's Export: a machine's text, or what Check tells.
-/
import Derived.Test.YtdnmabemollbeaaDoorTWr
namespace Go.Proofs.YtdnmabemollbeaaDoor
open Go.RowKit

theorem RdL.lt {q : IntKind} {w : World} {a : Option Addr} {l : List Int} (h : RdL q w a l) (hl : 0 < l.length) : ∀ x, a = some x → x.block < w.heap.size := fun x e => by
  obtain ⟨b, off, e2, hc⟩ := h.at hl
  rw [e] at e2
  cases e2
  exact World.block_lt_of_cell? w _ (hc 0 hl)
theorem mch_ne {m : Mc} (h : (mchV m).2 ≠ 0) : ((mchV m).2 != 0) = true := by simpa using h

set_option maxRecDepth 100000 in
set_option maxHeartbeats 4000000 in
theorem export_any (m : Mc) (a1 : Option Addr) (c1 : Nat) (a2 : Option Addr) (c2 : Nat) (w : World) (h1 : RdL .i64 w a1 m.nx) (h2 : RdL .i64 w a2 m.out) (hn : m.nx.length ≤ maxLen) (ho : m.out.length ≤ maxLen) (g : Gl w) :
    Calls Tryd.prog 14 #[mval m a1 c1 a2 c2] w fun e w' => ∃ v, e = .returned (.tuple #[v, .int .i64 (expV m).2]) ∧ OwnL .u8 5 w' w.heap.size v (zs (expV m).1) ∧ Below w.heap.size w w' := by
  have hbB : Below w.heap.size w (w.alloc (.cells #[.int .i64 m.kind, .int .i64 m.k, .int .i64 m.o, .int .i64 m.n, .slice a1 m.nx.length c1, .slice a2 m.out.length c2] 24)) := (Below.refl _ _).alloc (Nat.le_refl _) _
  have hc := mcheck_any m a1 c1 a2 c2 (w.alloc (.cells #[.int .i64 m.kind, .int .i64 m.k, .int .i64 m.o, .int .i64 m.n, .slice a1 m.nx.length c1, .slice a2 m.out.length c2] 24)) (h1.below hbB) (h2.below hbB) hn ho
  have B0 := Box.alloc w m a1 c1 a2 c2 24
  have hsz0 : w.heap.size + 1 = (w.alloc (.cells #[.int .i64 m.kind, .int .i64 m.k, .int .i64 m.o, .int .i64 m.n, .slice a1 m.nx.length c1, .slice a2 m.out.length c2] 24)).heap.size := by simp
  unfold mval at hc ⊢
  have g0 := g.below hbB
  have h4 := g.sz
  by_cases hm : (mchV m).2 = 0
  · have F := full_of hm
    have HX := hide (expV_ok hm)
    have HM := hide hm
    have hn0 : 0 < m.nx.length := by
      have := F.r.nx; have := F.r.n0; have := F.r.k0
      have : 1 * 1 ≤ m.n * m.k := Int.mul_le_mul (by omega) (by omega) (by omega) (by omega)
      omega
    have ho0 : 0 < m.out.length := by
      rcases F.r.kd with hk | hk
      · have := F.r.outD hk; have := F.r.n0; omega
      · have := F.r.outM hk; have := F.r.nx; omega
    have n1 := h1.lt hn0
    have n2 := h2.lt ho0
    have ne0 : ((mchV m).2 != 0) = false := by simp [hm]
    have HF := hide F
    have HN := hide (nN_eq F)
    have hn1 := F.r.n1
    clear hm F
    go_enter Tryd.func14, Tryd.ntmps14
    go_wp2_with fail
    refine hc.mono ?_
    rintro e w1 ⟨rfl, hb1⟩
    obtain ⟨p0, p1, p2, p3, p4, p5⟩ := B0.below hb1
    have g1 := g0.below hb1
    have hs1 := hb1.size
    generalize (mchV m).1 = x1 at *
    generalize (mchV m).2 = x2 at *
    go_wp2_with fail
    refine (writeSizes_any m a1 c1 a2 c2 w1 g1 (unhide HF)).mono ?_
    rintro e w2 ⟨v2, rfl, hown2, hb2⟩
    have hbs := bstep hb1 hb2
    obtain ⟨q0, q1, q2, q3, q4, q5⟩ := B0.below hbs
    have hs2 := hb2.size
    clear p0 p1 p2 p3 p4 p5
    have hownB : OwnL .u8 5 w2 (w.heap.size + 1) v2 (zs (expP m 0)) := by rw [expP_zero]; exact hown2.mono (by omega)
    have HOB := hide hownB
    have hbw : Below (w.heap.size + 1) (w.alloc (.cells #[.int .i64 m.kind, .int .i64 m.k, .int .i64 m.o, .int .i64 m.n, .slice a1 m.nx.length c1, .slice a2 m.out.length c2] 24)) w2 := by rw [hsz0]; exact hbs
    go_wp2
    go_loopw [6, 20] (fun b i wr => ∃ j : Nat, j ≤ nN m ∧ i = .int .i64 (j : Int) ∧ Hid (OwnL .u8 5 wr (w.heap.size + 1) b (zs (expP m j))) ∧ Below (w.heap.size + 1) (w.alloc (.cells #[.int .i64 m.kind, .int .i64 m.k, .int .i64 m.o, .int .i64 m.n, .slice a1 m.nx.length c1, .slice a2 m.out.length c2] 24)) wr) (fun _ i _ => nN m - (intOf i).toNat)
    case atStart => exact ⟨0, Nat.zero_le _, rfl, HOB, hbw⟩
    case round =>
      obtain ⟨j, hj, rfl, HO, hbr⟩ := hrel
      clear q0 q1 q2 q3 q4 q5
      obtain ⟨q0, q1, q2, q3, q4, q5⟩ := box_on B0 hbr (Nat.lt_succ_self _)
      have hbW : Below w.heap.size w wr := hbB.trans (hbr.mono (by omega))
      have hsr := hbr.size
      have hln := expP_len (unhide HF) j
      have gr := g.below hbW
      by_cases hlt : j < nN m
      · have hlt' : (j : Int) < m.n := by have := unhide HN; omega
        have HS := hide (expP_succ m j)
        go_wp2_with fail
        refine (writeState_any (w.heap.size + 1) u6 (expP m j) m a1 c1 a2 c2 j wr (unhide HO) (by omega) (by omega) (by have := unhide HN; omega) gr (unhide HF) hlt (h1.below hbW) (h2.below hbW) (fun x e => Nat.lt_succ_of_lt (n1 x e)) (fun x e => Nat.lt_succ_of_lt (n2 x e))).mono ?_
        rintro e w5 ⟨v5, rfl, hown5, k5⟩
        have hb5 := hbr.trans (k5.own (by omega) (unhide HO))
        go_wp2
        go_roundw
        case rel => exact ⟨j + 1, by omega, by go_num, hide (by rw [unhide HS]; exact hown5), hb5⟩
        case measure => simp [intOf]; omega
      · have HJE := hide (show j = nN m by omega)
        have hge : ¬ ((j : Int) < m.n) := by have := unhide HN; omega
        have hlz : (zs (expP m j)).length ≤ 5000000 := by rw [zs_len]; have := unhide HN; omega
        have hown' := unhide HO
        go_wp2_with (at_builtin; refine wpl_pushL e8 rfl (.tmp 28) (.tmp 29) rfl (w.heap.size + 1) u6 (zs (expP m j)) rfl (hown'.alloc _) (some ⟨wr.heap.size, 0, none⟩) 1 [10] rfl (RdL.one wr _) (by intro h; cases h) (by simp only [List.length_cons, List.length_nil]; omega) (by simp; omega) ?_; intro v6 w6 hown6 hb6 _)
        go_ret2
        refine ⟨v6, ret_vi (by rw [unhide HX]), ?_, ?_⟩
        · rw [unhide HX, expT, ← unhide HJE, zs_app]; exact hown6.mono (by omega)
        · exact (balloc hbW _).trans (hb6.mono (by omega))
  · have HX := hide (expV_bad hm)
    have ne1 := mch_ne hm
    clear hm
    go_enter Tryd.func14, Tryd.ntmps14
    go_wp2_with fail
    refine hc.mono ?_
    rintro e w1 ⟨rfl, hb1⟩
    go_wp2
    go_ret2
    refine ⟨_, ret_vi (by rw [unhide HX]), ?_, hbB.trans (hb1.mono (by omega))⟩
    rw [unhide HX]; exact OwnL.nil _ _ _ _

end Go.Proofs.YtdnmabemollbeaaDoor
