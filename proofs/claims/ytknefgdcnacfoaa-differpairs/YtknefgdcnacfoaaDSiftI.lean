/-
  One step of sift's levels: a symbol ahead of a word of the level before is added.
-/
import Derived.Test.YtknefgdcnacfoaaDShort
namespace Go.Proofs.Ytknefgdcnacfoaa
open Go.RowKit Go.Maps

structure SfI (m : Mc) (n k B : Nat) (w0 : World) (vb gl l b e x i g0 : Nat) (wx : World) (cnt : Nat) (ls : Nat → Nat) (vk : Value) (MK : List Mrk) (M : List (List Int × Nat × Nat)) : Prop where
  so : SvO m n B wx vb gl cnt ls vk MK M
  lv : LvI m n k l b e x i ls M
  bl : Below B w0 wx
  gn : g0 ≠ vb ∧ g0 ≠ gl
  gz : g0 < wx.heap.size
  cs : ∀ j c, j < e → c < 4 → wx.cell? ⟨g0, j * 4 + c, none⟩ = (mkl (MK.getD j mk0))[c]?
section
variable {m : Mc} {n k B : Nat} {w0 : World} {vb gl l b e x i g0 : Nat} {wx : World} {cnt : Nat} {ls : Nat → Nat} {vk : Value} {MK : List Mrk} {M : List (List Int × Nat × Nat)}
theorem SfI.on (I : SfI m n k B w0 vb gl l b e x i g0 wx cnt ls vk MK M) {wz : World} (hz : Below wx.heap.size wx wz) (hB : B ≤ w0.heap.size) : SfI m n k B w0 vb gl l b e x i g0 wz cnt ls vk MK M :=
  ⟨I.so.on hz, I.lv, I.bl.trans (hz.mono (by have := I.bl.size; omega)), I.gn, Nat.lt_of_lt_of_le I.gz hz.size, fun j c hj hc => (hz.cell (by exact I.gz)).trans (I.cs j c hj hc)⟩
theorem word_short (R : Right m) (hn : m.n = (n : Int)) {D : List Int → Prop} (sv : Siv m n D ls M) {j : Nat} (hj : j < M.length) : (wdA M j).length ≤ 1024 := by
  have h := (sv.mks j hj).2
  have h1 : (((M.getD j ([], 0, 0)).1.length : Nat) : Int) < m.n := sep_short R (by omega) (by have := h.st; have := h.tn; omega) (by omega) (by have := h.tn; omega) h.isf
  have n1 := R.n1
  unfold wdA; omega
theorem sift_step (I : SfI m n k B w0 vb gl l b e x i g0 wx cnt ls vk MK M) (R : Right m) (hn : m.n = (n : Int)) (hk : m.k = (k : Int)) (o1 : m.o ≤ 64) (hB : B ≤ w0.heap.size) (hx : x < k) (hi : b + i < e) (wz : World) (hz : Below wx.heap.size wx wz) (g1 g2 : Nat) (v : Value)
    (r1 : RdL .i64 wz (some ⟨g1, 0, none⟩) [(x : Int)]) (r2 : RdV wz (some ⟨g2, 0, none⟩) 2 (fun j => if j = 0 then .slice (some ⟨g1, 0, none⟩) 1 1 else (MK.getD (b + i) mk0).wv)) (hv : Own wz wx.heap.size v n (fun s => (sdL m n (wdA M (b + i))).getD (nxt m ((s : Nat) : Int) (x : Int)).toNat 0)) :
    Calls Try.prog 52 #[.pointer (some ⟨vb, 0, none⟩), v, .slice (some ⟨g2, 0, none⟩) 2 2] wz fun e' w' => e' = .returned (.tuple #[]) ∧ (∃ cnt ls vk MK M, SfI m n k B w0 vb gl l b e x (i + 1) g0 w' cnt ls vk MK M) ∧ Bx (fun j => j = vb ∨ j = gl ∨ vk.ownBlock = some j) wz w' := by
  have hel := I.lv.el
  have hlen := I.so.len
  have hM : b + i < M.length := by omega
  have n0 := R.n0
  obtain ⟨g, cap, rfl, -, -, hg, -, -, -⟩ := hv.pos (by omega)
  have J := I.on hz hB
  have hvl := I.so.vlt
  have hgl := I.so.lo.lt.2
  have hz1 := hz.size
  have hz0 := I.bl.size
  obtain ⟨c1, c2, c3, c4⟩ := I.lv.cand R hn hk hx hi
  have hcd : Cand m n (Dl l b e M x i) ((x : Int) :: wdA M (b + i)) := ⟨c1, .inl (by simp), c2, c3, c4⟩
  have hrd : RdL .i64 wz (some ⟨g, 0, none⟩) (sdL m n ((x : Int) :: wdA M (b + i))) := rd_of_own hv (sdL_len _ _ _) fun s hs => by
    obtain ⟨q0, q1⟩ := nxt_range R (s := ((s : Nat) : Int)) (x := x) (by omega) (by omega) (by omega)
    obtain ⟨u, hu⟩ := Int.eq_ofNat_of_zero_le q0
    rw [sdL_at hs]
    have e1 : lst m ((x : Int) :: wdA M (b + i)) ((s : Nat) : Int) = lst m (wdA M (b + i)) (nxt m ((s : Nat) : Int) (x : Int)) := by
      by_cases c : wdA M (b + i) = []
      · refine lst_cons1 (I.lv.h0 ?_) _ _ _
        have := (I.lv.l1 (b + i) hi).2.1 (by omega)
        rw [c] at this; exact this.symm
      · exact lst_cons2 c _
    rw [e1, hu, Int.toNat_natCast, sdL_at (by omega)]
  obtain ⟨wa, wc, ewv, hnone, -, -, hwr, -⟩ := (J.so.wd (b + i) hM).2.shape
  have HP : ∀ W, Below wz.heap.size wz W → Calls Try.prog 46 #[.slice (some ⟨g2, 0, none⟩) 2 2] W fun e w' => ∃ v, e = .returned v ∧ OwnL .i64 3 w' W.heap.size v ((x : Int) :: wdA M (b + i)) ∧ Below W.heap.size W w' := fun W hW => by
    have := joinL_any (some ⟨g2, 0, none⟩) 2 2 (fun j => if j = 0 then .slice (some ⟨g1, 0, none⟩) 1 1 else (MK.getD (b + i) mk0).wv) (fun j => if j = 0 then [(x : Int)] else wdA M (b + i)) (fun j => if j = 0 then 1 else wc) (fun j => if j = 0 then some ⟨g1, 0, none⟩ else wa) W (r2.below hW) (by omega) (fun j hj => by
      by_cases c : j = 0
      · simp only [c, if_true]
        exact ⟨rfl, r1.below hW, fun e => (by cases e), by simp⟩
      · simp only [c, if_false]
        exact ⟨ewv, hwr.below hW, hnone, by have := word_short R hn I.lv.sv hM; omega⟩)
    exact this
  refine (add_any m n B vb gl cnt ls vk MK M (some ⟨g, 0, none⟩) cap (some ⟨g2, 0, none⟩) 2 2 _ _ wz R hn o1 J.so I.lv.sv hcd hrd (fun y ey => ?_) (by omega) HP).mono ?_
  · cases ey
    refine ⟨fun h => ?_, fun h => ?_, fun h => ?_⟩
    · have h : g = vb := h
      omega
    · have h : g = gl := h
      omega
    · have : g < wx.heap.size := (I.so.mo.lt h).2
      omega
  · rintro e' w' ⟨rfl, cnt2, ls2, vk2, MK2, M2, so, sv, hor, bx, hvk2, hold⟩
    refine ⟨rfl, ⟨cnt2, ls2, vk2, MK2, M2, so, ?_, ?_, I.gn, Nat.lt_of_lt_of_le J.gz bx.size, fun j c hj hc => ?_⟩, bx⟩
    · rcases hor with ⟨e1, e2, _⟩ | ⟨s, t, k', e2, _⟩
      · subst e1; subst e2; exact I.lv.next0 hi sv
      · subst e2; exact I.lv.next1 hi sv
    · refine J.bl.trans (bx.below (fun j hj => ?_) (by omega))
      rcases hj with hj | hj | hj
      · have := I.so.bv; omega
      · have := I.so.lo.lt.1; omega
      · exact (I.so.mo.lt hj).1
    · have eK : MK2.getD j mk0 = MK.getD j mk0 := by
        rcases hor with ⟨_, _, e3⟩ | ⟨s, t, k', _, e3⟩
        · rw [e3]
        · rw [e3]; exact gd_left _ (by omega)
      rw [eK]
      by_cases c0 : vk.ownBlock = some g0
      · exact hold g0 c0 j c (by omega) hc
      · have h4 := J.cs j c hj hc
        have h5 : c < (mkl (MK.getD j mk0)).length := hc
        rw [List.getElem?_eq_getElem h5] at h4 ⊢
        refine bx.cell h4 ?_
        rintro (h | h | h)
        · exact I.gn.1 h
        · exact I.gn.2 h
        · exact c0 h
/-- The pieces of the word in memory, in the three orders. -/
def pcV (g1 : Nat) (wv : Value) (j : Nat) : Value := if j = 0 then .slice (some ⟨g1, 0, none⟩) 1 1 else wv
theorem pcs_rd {W : World} {g1 g2 : Nat} {wv : Value} (h : W.heap[g2]? = some (.cells #[.slice (some ⟨g1, 0, none⟩) 1 1, wv] 22)) : RdV W (some ⟨g2, 0, none⟩) 2 (pcV g1 wv) := by
  refine .inr ⟨g2, 0, rfl, fun i hi => ?_⟩
  unfold World.cell?
  rw [h]
  have : i = 0 ∨ i = 1 := by omega
  rcases this with rfl | rfl <;> rfl
theorem pc_rd {W : World} {g1 : Nat} {x : Int} (h : W.heap[g1]? = some (.cells #[.int .i64 x] 3)) : RdL .i64 W (some ⟨g1, 0, none⟩) [x] := by
  refine .inr ⟨g1, 0, rfl, fun i hi => ?_⟩
  obtain rfl : i = 0 := by simp at hi; omega
  unfold World.cell?
  rw [h]
  rfl
def Pcs (wq W : World) (x : Int) (g1 g2 : Nat) (wv : Value) : Prop := Below wq.heap.size wq W ∧ RdL .i64 W (some ⟨g1, 0, none⟩) [x] ∧ RdV W (some ⟨g2, 0, none⟩) 2 (pcV g1 wv)
theorem pcs1 {wq w5 : World} {x : Int} {wv : Value} (hb : Below wq.heap.size wq w5) : Pcs wq ((w5.alloc (.cells #[.int .i64 x] 3)).alloc (.cells #[.slice (some ⟨w5.heap.size, 0, none⟩) 1 1, wv] 22)) x w5.heap.size (w5.heap.size + 1) wv := by
  have h2 := heap_alloc_new (w5.alloc (.cells #[.int .i64 x] 3)) (.cells #[.slice (some ⟨w5.heap.size, 0, none⟩) 1 1, wv] 22)
  rw [World.size_alloc] at h2
  refine ⟨bstep (bstep hb (ballo _ _)) (ballo _ _), pc_rd ((Below.heap_alloc _ _ _ (by simp)).trans (heap_alloc_new _ _)), pcs_rd h2⟩
theorem pcs2 {wq w5 : World} {x : Int} {wv : Value} (hb : Below (wq.alloc (.cells #[.int .i64 x] 3)).heap.size (wq.alloc (.cells #[.int .i64 x] 3)) w5) : Pcs wq (w5.alloc (.cells #[.slice (some ⟨wq.heap.size, 0, none⟩) 1 1, wv] 22)) x wq.heap.size w5.heap.size wv := by
  have z := hb.size
  rw [World.size_alloc] at z
  refine ⟨bstep (bstep (ballo _ _) hb) (ballo _ _), pc_rd ?_, pcs_rd (heap_alloc_new _ _)⟩
  rw [Below.heap_alloc _ _ _ (by omega), hb.block _ (by simp)]
  exact heap_alloc_new _ _
theorem pcs3 {wq w5 : World} {x : Int} {wv : Value} (hb : Below ((wq.alloc (.cells #[.int .i64 x] 3)).alloc (.cells #[.slice (some ⟨wq.heap.size, 0, none⟩) 1 1, wv] 22)).heap.size ((wq.alloc (.cells #[.int .i64 x] 3)).alloc (.cells #[.slice (some ⟨wq.heap.size, 0, none⟩) 1 1, wv] 22)) w5) : Pcs wq w5 x wq.heap.size (wq.heap.size + 1) wv := by
  have h2 := heap_alloc_new (wq.alloc (.cells #[.int .i64 x] 3)) (.cells #[.slice (some ⟨wq.heap.size, 0, none⟩) 1 1, wv] 22)
  rw [World.size_alloc] at h2
  refine ⟨bstep (bstep (ballo _ _) (ballo _ _)) hb, pc_rd ?_, pcs_rd ?_⟩
  · rw [hb.block _ (by simp; omega), Below.heap_alloc _ _ _ (by simp)]
    exact heap_alloc_new _ _
  · rw [hb.block _ (by simp)]
    exact h2
theorem pcs2d {wq w5 : World} {x : Int} {wv : Value} (hb : Below (wq.alloc (.cells #[.int .i64 x] 3)).drew.heap.size (wq.alloc (.cells #[.int .i64 x] 3)).drew w5) : Pcs wq (w5.alloc (.cells #[.slice (some ⟨wq.heap.size, 0, none⟩) 1 1, wv] 22)) x wq.heap.size w5.heap.size wv := pcs2 (((Below.refl _ _).drew).trans hb)
theorem pcs3d {wq w5 : World} {x : Int} {wv : Value} (hb : Below ((wq.alloc (.cells #[.int .i64 x] 3)).alloc (.cells #[.slice (some ⟨wq.heap.size, 0, none⟩) 1 1, wv] 22)).drew.heap.size ((wq.alloc (.cells #[.int .i64 x] 3)).alloc (.cells #[.slice (some ⟨wq.heap.size, 0, none⟩) 1 1, wv] 22)).drew w5) : Pcs wq w5 x wq.heap.size (wq.heap.size + 1) wv := pcs3 (((Below.refl _ _).drew).trans hb)
end
end Go.Proofs.Ytknefgdcnacfoaa
