/-
  What the reference's Copy returns, with the room of its last list.
-/
import Derived.Test.YtknefgdcnacfoaaK6
namespace Go.Proofs.Ytknefgdcnacfoaa
open Go.RowKit

theorem copy_own (m : Mc) (a1 : Option Addr) (c1 : Nat) (a2 : Option Addr) (c2 : Nat) (w : World) (h1 : RdL .i64 w a1 m.nx) (h2 : RdL .i64 w a2 m.out) (nil1 : a1 = none → m.nx.length = 0 ∧ c1 = 0) (nil2 : a2 = none → m.out.length = 0 ∧ c2 = 0) (hn : m.nx.length ≤ 70000) (ho : m.out.length ≤ 70000) :
    Calls Try.prog 10 #[mval m a1 c1 a2 c2] w fun e w' => ∃ d1 e1 d2 e2, e = .returned (mval m d1 e1 d2 e2) ∧ OwnL .i64 3 w' w.heap.size (.slice d1 m.nx.length e1) m.nx ∧ OwnL .i64 3 w' w.heap.size (.slice d2 m.out.length e2) m.out ∧ Below w.heap.size w w' := by
  unfold mval
  have B0 := (Box.alloc w m a1 c1 a2 c2 24).below (bstep (ballo _ (.cells #[.int .i64 0, .int .i64 0, .int .i64 0, .int .i64 0, .slice none 0 0, .slice none 0 0] 24)) (ballo _ (.cells #[] 3)))
  have C0 := (Box.alloc (w.alloc (.cells #[.int .i64 m.kind, .int .i64 m.k, .int .i64 m.o, .int .i64 m.n, .slice a1 m.nx.length c1, .slice a2 m.out.length c2] 24)) mc0 none 0 none 0 24).below (ballo _ (.cells #[] 3))
  have b0 := bstep (bstep (ballo w (.cells #[.int .i64 m.kind, .int .i64 m.k, .int .i64 m.o, .int .i64 m.n, .slice a1 m.nx.length c1, .slice a2 m.out.length c2] 24)) (ballo _ (.cells #[.int .i64 0, .int .i64 0, .int .i64 0, .int .i64 0, .slice none 0 0, .slice none 0 0] 24))) (ballo _ (.cells #[] 3))
  have h0 : OwnL .i64 3 (((w.alloc (.cells #[.int .i64 m.kind, .int .i64 m.k, .int .i64 m.o, .int .i64 m.n, .slice a1 m.nx.length c1, .slice a2 m.out.length c2] 24)).alloc (.cells #[.int .i64 0, .int .i64 0, .int .i64 0, .int .i64 0, .slice none 0 0, .slice none 0 0] 24)).alloc (.cells #[] 3)) (w.heap.size + 2) (.slice (some ⟨w.heap.size + 1 + 1, 0, none⟩) 0 0) [] := by
    have := OwnL.lit (q := .i64) (t := 3) ((w.alloc (.cells #[.int .i64 m.kind, .int .i64 m.k, .int .i64 m.o, .int .i64 m.n, .slice a1 m.nx.length c1, .slice a2 m.out.length c2] 24)).alloc (.cells #[.int .i64 0, .int .i64 0, .int .i64 0, .int .i64 0, .slice none 0 0, .slice none 0 0] 24)) (w.heap.size + 2) [] #[] (by simp) (by unfold maxLen; simp) rfl
    simpa using this
  simp only [World.size_alloc] at C0
  have F0 : ∀ b i, b < w.heap.size + 2 → w.heap.size ≤ b → (((w.alloc (.cells #[.int .i64 m.kind, .int .i64 m.k, .int .i64 m.o, .int .i64 m.n, .slice a1 m.nx.length c1, .slice a2 m.out.length c2] 24)).alloc (.cells #[.int .i64 0, .int .i64 0, .int .i64 0, .int .i64 0, .slice none 0 0, .slice none 0 0] 24)).alloc (.cells #[] 3)).frozen? ⟨b, i, none⟩ = false := by
    intro b i _ hb2
    rw [frozen?_alloc_cells, frozen?_alloc_cells, frozen?_alloc_cells]
    exact frz_new w hb2
  go_enter Try.func10, Try.ntmps10
  go_wp2_with (first | (at_builtin; refine wpl_pushL eInt rfl (.tmp 3) (.tmp 5) rfl (w.heap.size + 2) _ [] rfl h0 a1 c1 m.nx rfl (h1.below b0) nil1 (by simp only [List.length_nil]; omega) (by simp) ?_; rw [List.nil_append]; intro v1 w1 hown1 hb1 _; obtain ⟨d1, e1, rfl, -, -, -, -, -⟩ := hown1.shape; have b1 := b0.trans (hb1.mono (by omega)); have B1 := box_on B0 hb1 (by omega); have C1 := box_on C0 hb1 (by omega); have hz1 : w.heap.size + 3 ≤ w1.heap.size := Nat.le_trans (by simp) hb1.size; have F1 := fun b i hb hb2 => frz_on (F0 b i hb hb2) hb1 hb; obtain ⟨p0, p1, p2, p3, p4, p5⟩ := id B1; have f4 := F1 w.heap.size 4 (by omega) (by omega); obtain ⟨x0, x1, x2, x3, x4, x5⟩ := (B1.set4 d1 e1).below (ballo _ (.cells #[] 3))) | (at_builtin; refine wpl_pushL eInt rfl (.tmp 8) (.tmp 10) rfl (w.heap.size + 2) (.slice (some ⟨w1.heap.size, 0, none⟩) 0 0) [] rfl (OwnL.lit2 w1 _ _ (by omega)) a2 c2 m.out rfl (h2.below (bstep (b1.setCell (Nat.le_refl _) _) (ballo _ (.cells #[] 3)))) nil2 (by simp only [List.length_nil]; omega) (by simp; omega) ?_; rw [List.nil_append]; intro v2 w2 hown2 hb2 hg2; obtain ⟨d2, e2, rfl, -, -, -, -, -⟩ := hown2.shape; have b2 := (bstep (b1.setCell (p := ⟨w.heap.size, 4, none⟩) (Nat.le_refl _) (.slice d1 m.nx.length e1)) (ballo _ (.cells #[] 3))).trans (hb2.mono (by omega)); obtain ⟨y0, y1, y2, y3, y4, y5⟩ := box_on ((B1.set4 d1 e1).below (ballo _ (.cells #[] 3))) hb2 (by omega); have C2 := box_on ((C1.keep (Below.heap_setCell w1 ⟨w.heap.size, 4, none⟩ (.slice d1 m.nx.length e1) _ (by simp))).below (ballo _ (.cells #[] 3))) hb2 (by omega); obtain ⟨z0, z1, z2, z3, z4, z5⟩ := id C2; have F2 : ∀ b i, b < w.heap.size + 2 → w.heap.size ≤ b → w2.frozen? ⟨b, i, none⟩ = false := (fun b i hb hb' => frz_on (by rw [frozen?_alloc_cells, World.frozen?_setCell]; exact F1 b i hb hb') hb2 hb); have g5 := F2 w.heap.size 5 (by omega) (by omega); have k0 := F2 (w.heap.size + 1) 0 (by omega) (by omega); have k1 := F2 (w.heap.size + 1) 1 (by omega) (by omega); have k2 := F2 (w.heap.size + 1) 2 (by omega) (by omega); have k3 := F2 (w.heap.size + 1) 3 (by omega) (by omega); have k4 := F2 (w.heap.size + 1) 4 (by omega) (by omega); have k5 := F2 (w.heap.size + 1) 5 (by omega) (by omega)))
  have C3 := (C2.keep (Below.heap_setCell w2 ⟨w.heap.size, 5, none⟩ (.slice d2 m.out.length e2) _ (by simp))).six m d1 e1 d2 e2
  have K3 : ∀ g, w.heap.size + 2 ≤ g → (((((((w2.setCell ⟨w.heap.size, 5, none⟩ (.slice d2 m.out.length e2)).setCell ⟨w.heap.size + 1, 0, none⟩ (.int .i64 m.kind)).setCell ⟨w.heap.size + 1, 1, none⟩ (.int .i64 m.k)).setCell ⟨w.heap.size + 1, 2, none⟩ (.int .i64 m.o)).setCell ⟨w.heap.size + 1, 3, none⟩ (.int .i64 m.n)).setCell ⟨w.heap.size + 1, 4, none⟩ (.slice d1 m.nx.length e1)).setCell ⟨w.heap.size + 1, 5, none⟩ (.slice d2 m.out.length e2)).heap[g]? = w2.heap[g]? := fun g hg => by
    rw [Below.heap_setCell _ _ _ _ (by simp; omega), Below.heap_setCell _ _ _ _ (by simp; omega), Below.heap_setCell _ _ _ _ (by simp; omega), Below.heap_setCell _ _ _ _ (by simp; omega), Below.heap_setCell _ _ _ _ (by simp; omega), Below.heap_setCell _ _ _ _ (by simp; omega), Below.heap_setCell _ _ _ _ (by simp; omega)]
  have b3 := ((((((b2.setCell (p := ⟨w.heap.size, 5, none⟩) (Nat.le_refl _) (.slice d2 m.out.length e2)).setCell (p := ⟨w.heap.size + 1, 0, none⟩) (by simp) (.int .i64 m.kind)).setCell (p := ⟨w.heap.size + 1, 1, none⟩) (by simp) (.int .i64 m.k)).setCell (p := ⟨w.heap.size + 1, 2, none⟩) (by simp) (.int .i64 m.o)).setCell (p := ⟨w.heap.size + 1, 3, none⟩) (by simp) (.int .i64 m.n)).setCell (p := ⟨w.heap.size + 1, 4, none⟩) (by simp) (.slice d1 m.nx.length e1)).setCell (p := ⟨w.heap.size + 1, 5, none⟩) (by simp) (.slice d2 m.out.length e2)
  have I2 := hown2.keep fun g e => K3 g (hown2.lt e).1
  have I1 := hown1.keep (w' := w2) fun g e => by
    have hl := hown1.lt e
    rw [hg2.block g (by simp; omega) (fun e2 => by cases e2; exact Nat.lt_irrefl _ hl.2), Below.heap_alloc _ _ _ (by simp; omega), Below.heap_setCell _ _ _ _ (by simp; omega)]
  have I3 := I1.keep fun g e => K3 g (hown1.lt e).1
  clear I1
  generalize (((((((w2.setCell ⟨w.heap.size, 5, none⟩ (.slice d2 m.out.length e2)).setCell ⟨w.heap.size + 1, 0, none⟩ (.int .i64 m.kind)).setCell ⟨w.heap.size + 1, 1, none⟩ (.int .i64 m.k)).setCell ⟨w.heap.size + 1, 2, none⟩ (.int .i64 m.o)).setCell ⟨w.heap.size + 1, 3, none⟩ (.int .i64 m.n)).setCell ⟨w.heap.size + 1, 4, none⟩ (.slice d1 m.nx.length e1)).setCell ⟨w.heap.size + 1, 5, none⟩ (.slice d2 m.out.length e2)) = w3 at *
  obtain ⟨q0, q1, q2, q3, q4, q5⟩ := C3
  refine bodyPost_ret (v := .agg #[.int .i64 m.kind, .int .i64 m.k, .int .i64 m.o, .int .i64 m.n, .slice d1 m.nx.length e1, .slice d2 m.out.length e2]) ?_ rfl ⟨d1, e1, d2, e2, rfl, I3.mono (by omega), I2.mono (by omega), b3⟩
  simp [results, Try.results10, go_sem, q0, q1, q2, q3, q4, q5]

end Go.Proofs.Ytknefgdcnacfoaa
