/-
  Some texts of this seat, one behind the other.
-/
import Derived.Test.YtbhdcgebcmgidaaDoorK1
import Derived.Test.YtbhdcgebcmgidaaDoorK2
import Derived.Test.YtbhdcgebcmgidaaDoorRMCheck
/-
  Small words on cells and results that the walks of machines share.
-/
namespace Go.Proofs.YtbhdcgebcmgidaaDoor
open Go.RowKit

theorem ret_iv {k : IntKind} {a b : Int} {v : Value} (h : a = b) : Ending.returned (.tuple #[.int k a, v]) = .returned (.tuple #[.int k b, v]) := by rw [h]
theorem RdL.cellIn {q : IntKind} {w w' : World} {a : Option Addr} {l : List Int} {b off P : Nat} {y : Int} (h : RdL q w a l) (hb : Below w.heap.size w w') (e : a = some ⟨b, off, none⟩) (hP : P < l.length) (hy : y = l.getD P 0) : w'.cell? ⟨b, off + P, none⟩ = some (.int q y) := by
  obtain ⟨b2, off2, e2, hc⟩ := (h.below hb).at hP
  rw [e] at e2
  cases e2
  rw [hy]; exact hc P hP
theorem bdrew1 (w : World) : Below w.heap.size w w.drew := ⟨rfl, rfl, rfl, Nat.le_refl _, fun _ _ => rfl⟩


end Go.Proofs.YtbhdcgebcmgidaaDoor

/-
  What the reference's Big returns, for every table.
-/
namespace Go.Proofs.YtbhdcgebcmgidaaDoor
open Go.RowKit

def bigB (N : Int) (m : Mc) : Bool := decide (N < m.n ∨ 70000 < m.nx.length ∨ 70000 < m.out.length)
theorem big_yes {N : Int} {m : Mc} (h : N < m.n ∨ 70000 < m.nx.length ∨ 70000 < m.out.length) : bigB N m = true := by unfold bigB; exact decide_eq_true h
theorem big_no {N : Int} {m : Mc} (h : ¬ (N < m.n ∨ 70000 < m.nx.length ∨ 70000 < m.out.length)) : bigB N m = false := by unfold bigB; exact decide_eq_false h

theorem big_any (N : Int) (m : Mc) (a1 : Option Addr) (c1 : Nat) (a2 : Option Addr) (c2 : Nat) (w : World) :
    Calls Tryd.prog 6 #[mval m a1 c1 a2 c2, .int .i64 N] w fun e w' => e = .returned (.bool (bigB N m)) ∧ Below w.heap.size w w' := by
  unfold mval
  by_cases h : N < m.n
  · have H := hide (big_yes (N := N) (m := m) (.inl h))
    go_enter Tryd.func6, Tryd.ntmps6
    go_wp2
    go_ret
    exact ⟨ret_bool (unhide H).symm, ballo _ _⟩
  by_cases h2 : 70000 < m.nx.length
  · have H := hide (big_yes (N := N) (m := m) (.inr (.inl h2)))
    go_enter Tryd.func6, Tryd.ntmps6
    go_wp2
    go_ret
    exact ⟨ret_bool (unhide H).symm, ballo _ _⟩
  by_cases h3 : 70000 < m.out.length
  · have H := hide (big_yes (N := N) (m := m) (.inr (.inr h3)))
    go_enter Tryd.func6, Tryd.ntmps6
    go_wp2
    go_ret
    exact ⟨ret_bool (by rw [unhide H]; simp; omega), ballo _ _⟩
  · have H := hide (big_no (N := N) (m := m) (by omega))
    go_enter Tryd.func6, Tryd.ntmps6
    go_wp2
    go_ret
    exact ⟨ret_bool (by rw [unhide H]; simp; omega), ballo _ _⟩

end Go.Proofs.YtbhdcgebcmgidaaDoor

/-
  What the reference's Same returns, for a table and itself.
-/
namespace Go.Proofs.YtbhdcgebcmgidaaDoor
open Go.RowKit

theorem msame_any (m : Mc) (a1 : Option Addr) (c1 : Nat) (a2 : Option Addr) (c2 : Nat) (d1 : Option Addr) (e1 : Nat) (d2 : Option Addr) (e2 : Nat) (w : World) (h1 : RdL .i64 w a1 m.nx) (h2 : RdL .i64 w a2 m.out) (g1 : RdL .i64 w d1 m.nx) (g2 : RdL .i64 w d2 m.out) (hn : m.nx.length ≤ maxLen) (ho : m.out.length ≤ maxLen) :
    Calls Tryd.prog 15 #[mval m a1 c1 a2 c2, mval m d1 e1 d2 e2] w fun e w' => e = .returned (.bool true) ∧ Below w.heap.size w w' := by
  unfold mval
  have B0 := (Box.alloc w m a1 c1 a2 c2 24).below (ballo _ (.cells #[.int .i64 m.kind, .int .i64 m.k, .int .i64 m.o, .int .i64 m.n, .slice d1 m.nx.length e1, .slice d2 m.out.length e2] 24))
  have C0 := Box.alloc (w.alloc (.cells #[.int .i64 m.kind, .int .i64 m.k, .int .i64 m.o, .int .i64 m.n, .slice a1 m.nx.length c1, .slice a2 m.out.length c2] 24)) m d1 e1 d2 e2 24
  have b0 := bstep (ballo w (.cells #[.int .i64 m.kind, .int .i64 m.k, .int .i64 m.o, .int .i64 m.n, .slice a1 m.nx.length c1, .slice a2 m.out.length c2] 24)) (ballo _ (.cells #[.int .i64 m.kind, .int .i64 m.k, .int .i64 m.o, .int .i64 m.n, .slice d1 m.nx.length e1, .slice d2 m.out.length e2] 24))
  have k0 : (m.kind == m.kind) = true := by simp
  have k1 : (m.k == m.k) = true := by simp
  have k2 : (m.o == m.o) = true := by simp
  have k3 : (m.n == m.n) = true := by simp
  go_enter Tryd.func15, Tryd.ntmps15
  go_wp2_with fail
  refine (same_list a1 d1 c1 e1 m.nx m.nx _ (h1.below b0) (g1.below b0) hn).mono ?_
  rw [show decide (m.nx = m.nx) = true from decide_eq_true rfl]
  rintro e w1 ⟨rfl, hb1⟩
  have b1 := bstep b0 hb1
  obtain ⟨p0, p1, p2, p3, p4, p5⟩ := B0.below hb1
  obtain ⟨q0, q1, q2, q3, q4, q5⟩ := C0.below hb1
  clear hb1 B0 C0
  simp only [World.size_alloc] at q0 q1 q2 q3 q4 q5
  go_wp2_with fail
  refine (same_list a2 d2 c2 e2 m.out m.out w1 (h2.below b1) (g2.below b1) ho).mono ?_
  rw [show decide (m.out = m.out) = true from decide_eq_true rfl]
  rintro e w2 ⟨rfl, hb2⟩
  have b2 := bstep b1 hb2
  clear hb2
  go_wp2
  go_ret
  exact ⟨rfl, b2⟩

end Go.Proofs.YtbhdcgebcmgidaaDoor

/-
  Where the reference goes by a word, from a state of a right machine, and what it says: the same as the program.
-/
namespace Go.Proofs.YtbhdcgebcmgidaaDoor
open Go.RowKit

end Go.Proofs.YtbhdcgebcmgidaaDoor

/-
  What the reference's From and Run return, for every table, state and list.
-/
namespace Go.Proofs.YtbhdcgebcmgidaaDoor
open Go.RowKit

end Go.Proofs.YtbhdcgebcmgidaaDoor

/-
  What the references' Big, Same and Right return, for every table.
-/
namespace Go.Proofs.YtbhdcgebcmgidaaDoor
open Go.RowKit

end Go.Proofs.YtbhdcgebcmgidaaDoor

/-
  What the reference's Copy returns: the same table, its lists in memory of their own.
-/
namespace Go.Proofs.YtbhdcgebcmgidaaDoor
open Go.RowKit

theorem frz_on {w w' : World} {B b i : Nat} (h : w.frozen? ⟨b, i, none⟩ = false) (hb : Below B w w') (hB : b < B) : w'.frozen? ⟨b, i, none⟩ = false := by
  have := hb.block b hB
  unfold World.frozen? at h ⊢
  rw [this]; exact h
def mc0 : Mc := ⟨0, 0, 0, 0, [], []⟩
theorem Box.set4 {w : World} {b : Nat} {m : Mc} {a1 : Option Addr} {c1 : Nat} {a2 : Option Addr} {c2 : Nat} (h : Box w b m a1 c1 a2 c2) (a : Option Addr) (c : Nat) : Box (w.setCell ⟨b, 4, none⟩ (.slice a m.nx.length c)) b m a c a2 c2 := by
  have ot : ∀ i, i ≠ 4 → (w.setCell ⟨b, 4, none⟩ (.slice a m.nx.length c)).cell? ⟨b, i, none⟩ = w.cell? ⟨b, i, none⟩ := fun i hi => World.cell?_setCell_other (w := w) (a := ⟨b, 4, none⟩) (b := ⟨b, i, none⟩) (v := .slice a m.nx.length c) (h := fun e => hi (by injection e with _ e2 _; exact e2.symm))
  exact ⟨(ot 0 (by decide)).trans h.p0, (ot 1 (by decide)).trans h.p1, (ot 2 (by decide)).trans h.p2, (ot 3 (by decide)).trans h.p3, World.cell?_setCell_same _ _ _ h.p4, (ot 5 (by decide)).trans h.p5⟩

theorem Box.keep {w w' : World} {b : Nat} {m : Mc} {a1 : Option Addr} {c1 : Nat} {a2 : Option Addr} {c2 : Nat} (h : Box w b m a1 c1 a2 c2) (e : w'.heap[b]? = w.heap[b]?) : Box w' b m a1 c1 a2 c2 :=
  ⟨(World.cell?_of_block e).trans h.p0, (World.cell?_of_block e).trans h.p1, (World.cell?_of_block e).trans h.p2, (World.cell?_of_block e).trans h.p3, (World.cell?_of_block e).trans h.p4, (World.cell?_of_block e).trans h.p5⟩
theorem frz_new (w : World) {b i : Nat} (h : w.heap.size ≤ b) : w.frozen? ⟨b, i, none⟩ = false := by
  unfold World.frozen?
  rw [Array.getElem?_eq_none h]
theorem OwnL.lit2 (w : World) (p : Addr) (u : Value) {B : Nat} (hb : B ≤ w.heap.size) : OwnL .i64 3 ((w.setCell p u).alloc (.cells #[] 3)) B (.slice (some ⟨w.heap.size, 0, none⟩) 0 0) [] := by
  have := OwnL.lit (q := .i64) (t := 3) (w.setCell p u) B [] #[] (by simpa using hb) (by unfold maxLen; simp) rfl
  simpa using this

theorem Box.six {w : World} {b : Nat} {m0 : Mc} {a1 : Option Addr} {c1 : Nat} {a2 : Option Addr} {c2 : Nat} (h : Box w b m0 a1 c1 a2 c2) (m : Mc) (d1 : Option Addr) (e1 : Nat) (d2 : Option Addr) (e2 : Nat) :
    Box ((((((w.setCell ⟨b, 0, none⟩ (.int .i64 m.kind)).setCell ⟨b, 1, none⟩ (.int .i64 m.k)).setCell ⟨b, 2, none⟩ (.int .i64 m.o)).setCell ⟨b, 3, none⟩ (.int .i64 m.n)).setCell ⟨b, 4, none⟩ (.slice d1 m.nx.length e1)).setCell ⟨b, 5, none⟩ (.slice d2 m.out.length e2)) b m d1 e1 d2 e2 := by
  have ot : ∀ (u : World) (i j : Nat) (v : Value), i ≠ j → (u.setCell ⟨b, i, none⟩ v).cell? ⟨b, j, none⟩ = u.cell? ⟨b, j, none⟩ := fun u i j v hi => World.cell?_setCell_other (w := u) (a := ⟨b, i, none⟩) (b := ⟨b, j, none⟩) (v := v) (h := fun e => hi (by injection e with _ e2 _))
  have sm : ∀ (u : World) (i : Nat) (v x : Value), u.cell? ⟨b, i, none⟩ = some x → (u.setCell ⟨b, i, none⟩ v).cell? ⟨b, i, none⟩ = some v := fun u i v x hx => World.cell?_setCell_same u ⟨b, i, none⟩ v hx
  constructor
  · rw [ot _ 5 0 _ (by decide), ot _ 4 0 _ (by decide), ot _ 3 0 _ (by decide), ot _ 2 0 _ (by decide), ot _ 1 0 _ (by decide)]; exact sm _ 0 _ _ h.p0
  · rw [ot _ 5 1 _ (by decide), ot _ 4 1 _ (by decide), ot _ 3 1 _ (by decide), ot _ 2 1 _ (by decide)]; exact sm _ 1 _ _ ((ot _ 0 1 _ (by decide)).trans h.p1)
  · rw [ot _ 5 2 _ (by decide), ot _ 4 2 _ (by decide), ot _ 3 2 _ (by decide)]; exact sm _ 2 _ _ ((ot _ 1 2 _ (by decide)).trans ((ot _ 0 2 _ (by decide)).trans h.p2))
  · rw [ot _ 5 3 _ (by decide), ot _ 4 3 _ (by decide)]; exact sm _ 3 _ _ ((ot _ 2 3 _ (by decide)).trans ((ot _ 1 3 _ (by decide)).trans ((ot _ 0 3 _ (by decide)).trans h.p3)))
  · rw [ot _ 5 4 _ (by decide)]; exact sm _ 4 _ _ ((ot _ 3 4 _ (by decide)).trans ((ot _ 2 4 _ (by decide)).trans ((ot _ 1 4 _ (by decide)).trans ((ot _ 0 4 _ (by decide)).trans h.p4))))
  · exact sm _ 5 _ _ ((ot _ 4 5 _ (by decide)).trans ((ot _ 3 5 _ (by decide)).trans ((ot _ 2 5 _ (by decide)).trans ((ot _ 1 5 _ (by decide)).trans ((ot _ 0 5 _ (by decide)).trans h.p5)))))

theorem copy_any (m : Mc) (a1 : Option Addr) (c1 : Nat) (a2 : Option Addr) (c2 : Nat) (w : World) (h1 : RdL .i64 w a1 m.nx) (h2 : RdL .i64 w a2 m.out) (nil1 : a1 = none → m.nx.length = 0 ∧ c1 = 0) (nil2 : a2 = none → m.out.length = 0 ∧ c2 = 0) (hn : m.nx.length ≤ 70000) (ho : m.out.length ≤ 70000) :
    Calls Tryd.prog 8 #[mval m a1 c1 a2 c2] w fun e w' => ∃ d1 e1 d2 e2, e = .returned (mval m d1 e1 d2 e2) ∧ RdL .i64 w' d1 m.nx ∧ RdL .i64 w' d2 m.out ∧ Below w.heap.size w w' := by
  unfold mval
  have B0 := (Box.alloc w m a1 c1 a2 c2 24).below (bstep (ballo _ (.cells #[.int .i64 0, .int .i64 0, .int .i64 0, .int .i64 0, .slice none 0 0, .slice none 0 0] 24)) (ballo _ (.cells #[] 3)))
  have C0 := (Box.alloc (w.alloc (.cells #[.int .i64 m.kind, .int .i64 m.k, .int .i64 m.o, .int .i64 m.n, .slice a1 m.nx.length c1, .slice a2 m.out.length c2] 24)) mc0 none 0 none 0 24).below (ballo _ (.cells #[] 3))
  have b0 := bstep (bstep (ballo w (.cells #[.int .i64 m.kind, .int .i64 m.k, .int .i64 m.o, .int .i64 m.n, .slice a1 m.nx.length c1, .slice a2 m.out.length c2] 24)) (ballo _ (.cells #[.int .i64 0, .int .i64 0, .int .i64 0, .int .i64 0, .slice none 0 0, .slice none 0 0] 24))) (ballo _ (.cells #[] 3))
  have h0 : OwnL .i64 3 (((w.alloc (.cells #[.int .i64 m.kind, .int .i64 m.k, .int .i64 m.o, .int .i64 m.n, .slice a1 m.nx.length c1, .slice a2 m.out.length c2] 24)).alloc (.cells #[.int .i64 0, .int .i64 0, .int .i64 0, .int .i64 0, .slice none 0 0, .slice none 0 0] 24)).alloc (.cells #[] 3)) (w.heap.size + 2) (.slice (some ⟨w.heap.size + 1 + 1, 0, none⟩) 0 0) [] := by
    have := OwnL.lit (q := .i64) (t := 3) ((w.alloc (.cells #[.int .i64 m.kind, .int .i64 m.k, .int .i64 m.o, .int .i64 m.n, .slice a1 m.nx.length c1, .slice a2 m.out.length c2] 24)).alloc (.cells #[.int .i64 0, .int .i64 0, .int .i64 0, .int .i64 0, .slice none 0 0, .slice none 0 0] 24)) (w.heap.size + 2) [] #[] (by simp) (by unfold maxLen; simp) rfl
    simpa using this
  simp only [World.size_alloc] at C0
  have F0 : ∀ b i, b < w.heap.size + 2 → w.heap.size ≤ b → (((w.alloc (.cells #[.int .i64 m.kind, .int .i64 m.k, .int .i64 m.o, .int .i64 m.n, .slice a1 m.nx.length c1, .slice a2 m.out.length c2] 24)).alloc (.cells #[.int .i64 0, .int .i64 0, .int .i64 0, .int .i64 0, .slice none 0 0, .slice none 0 0] 24)).alloc (.cells #[] 3)).frozen? ⟨b, i, none⟩ = false := by
    intro b i _ hb2
    rw [frozen?_alloc_cells, frozen?_alloc_cells, frozen?_alloc_cells]
    exact frz_new w hb2
  go_enter Tryd.func8, Tryd.ntmps8
  go_wp2_with (first | (at_builtin; refine wpl_pushL eInt rfl (.tmp 3) (.tmp 5) rfl (w.heap.size + 2) _ [] rfl h0 a1 c1 m.nx rfl (h1.below b0) nil1 (by simp only [List.length_nil]; omega) (by simp) ?_; rw [List.nil_append]; intro v1 w1 hown1 hb1 _; obtain ⟨d1, e1, rfl, -, -, -, -, -⟩ := hown1.shape; have b1 := b0.trans (hb1.mono (by omega)); have B1 := box_on B0 hb1 (by omega); have C1 := box_on C0 hb1 (by omega); have hz1 : w.heap.size + 3 ≤ w1.heap.size := Nat.le_trans (by simp) hb1.size; have F1 := fun b i hb hb2 => frz_on (F0 b i hb hb2) hb1 hb; obtain ⟨p0, p1, p2, p3, p4, p5⟩ := id B1; have f4 := F1 w.heap.size 4 (by omega) (by omega); obtain ⟨x0, x1, x2, x3, x4, x5⟩ := (B1.set4 d1 e1).below (ballo _ (.cells #[] 3))) | (at_builtin; refine wpl_pushL eInt rfl (.tmp 8) (.tmp 10) rfl (w.heap.size + 2) (.slice (some ⟨w1.heap.size, 0, none⟩) 0 0) [] rfl (OwnL.lit2 w1 _ _ (by omega)) a2 c2 m.out rfl (h2.below (bstep (b1.setCell (Nat.le_refl _) _) (ballo _ (.cells #[] 3)))) nil2 (by simp only [List.length_nil]; omega) (by simp; omega) ?_; rw [List.nil_append]; intro v2 w2 hown2 hb2 hg2; obtain ⟨d2, e2, rfl, -, -, -, -, -⟩ := hown2.shape; have b2 := (bstep (b1.setCell (p := ⟨w.heap.size, 4, none⟩) (Nat.le_refl _) (.slice d1 m.nx.length e1)) (ballo _ (.cells #[] 3))).trans (hb2.mono (by omega)); obtain ⟨y0, y1, y2, y3, y4, y5⟩ := box_on ((B1.set4 d1 e1).below (ballo _ (.cells #[] 3))) hb2 (by omega); have C2 := box_on ((C1.keep (Below.heap_setCell w1 ⟨w.heap.size, 4, none⟩ (.slice d1 m.nx.length e1) _ (by simp))).below (ballo _ (.cells #[] 3))) hb2 (by omega); obtain ⟨z0, z1, z2, z3, z4, z5⟩ := id C2; have F2 : ∀ b i, b < w.heap.size + 2 → w.heap.size ≤ b → w2.frozen? ⟨b, i, none⟩ = false := (fun b i hb hb' => frz_on (by rw [frozen?_alloc_cells, World.frozen?_setCell]; exact F1 b i hb hb') hb2 hb); have g5 := F2 w.heap.size 5 (by omega) (by omega); have k0 := F2 (w.heap.size + 1) 0 (by omega) (by omega); have k1 := F2 (w.heap.size + 1) 1 (by omega) (by omega); have k2 := F2 (w.heap.size + 1) 2 (by omega) (by omega); have k3 := F2 (w.heap.size + 1) 3 (by omega) (by omega); have k4 := F2 (w.heap.size + 1) 4 (by omega) (by omega); have k5 := F2 (w.heap.size + 1) 5 (by omega) (by omega)))
  have C3 := (C2.keep (Below.heap_setCell w2 ⟨w.heap.size, 5, none⟩ (.slice d2 m.out.length e2) _ (by simp))).six m d1 e1 d2 e2
  have K3 : ∀ g, w.heap.size + 2 ≤ g → (((((((w2.setCell ⟨w.heap.size, 5, none⟩ (.slice d2 m.out.length e2)).setCell ⟨w.heap.size + 1, 0, none⟩ (.int .i64 m.kind)).setCell ⟨w.heap.size + 1, 1, none⟩ (.int .i64 m.k)).setCell ⟨w.heap.size + 1, 2, none⟩ (.int .i64 m.o)).setCell ⟨w.heap.size + 1, 3, none⟩ (.int .i64 m.n)).setCell ⟨w.heap.size + 1, 4, none⟩ (.slice d1 m.nx.length e1)).setCell ⟨w.heap.size + 1, 5, none⟩ (.slice d2 m.out.length e2)).heap[g]? = w2.heap[g]? := fun g hg => by
    rw [Below.heap_setCell _ _ _ _ (by simp; omega), Below.heap_setCell _ _ _ _ (by simp; omega), Below.heap_setCell _ _ _ _ (by simp; omega), Below.heap_setCell _ _ _ _ (by simp; omega), Below.heap_setCell _ _ _ _ (by simp; omega), Below.heap_setCell _ _ _ _ (by simp; omega), Below.heap_setCell _ _ _ _ (by simp; omega)]
  have b3 := ((((((b2.setCell (p := ⟨w.heap.size, 5, none⟩) (Nat.le_refl _) (.slice d2 m.out.length e2)).setCell (p := ⟨w.heap.size + 1, 0, none⟩) (by simp) (.int .i64 m.kind)).setCell (p := ⟨w.heap.size + 1, 1, none⟩) (by simp) (.int .i64 m.k)).setCell (p := ⟨w.heap.size + 1, 2, none⟩) (by simp) (.int .i64 m.o)).setCell (p := ⟨w.heap.size + 1, 3, none⟩) (by simp) (.int .i64 m.n)).setCell (p := ⟨w.heap.size + 1, 4, none⟩) (by simp) (.slice d1 m.nx.length e1)).setCell (p := ⟨w.heap.size + 1, 5, none⟩) (by simp) (.slice d2 m.out.length e2)
  have I2 := hown2.keep fun g e => K3 g (hown2.lt e).1
  have I1 := hown1.keep (w' := w2) fun g e => by
    have hl := hown1.lt e
    rw [hg2.block g (by simp; omega) (fun e2 => by cases e2; exact Nat.lt_irrefl _ hl.2), Below.heap_alloc _ _ _ (by simp; omega), Below.heap_setCell _ _ _ _ (by simp; omega)]
  have I3 := I1.keep fun g e => K3 g (hown1.lt e).1
  clear I1
  generalize (((((((w2.setCell ⟨w.heap.size, 5, none⟩ (.slice d2 m.out.length e2)).setCell ⟨w.heap.size + 1, 0, none⟩ (.int .i64 m.kind)).setCell ⟨w.heap.size + 1, 1, none⟩ (.int .i64 m.k)).setCell ⟨w.heap.size + 1, 2, none⟩ (.int .i64 m.o)).setCell ⟨w.heap.size + 1, 3, none⟩ (.int .i64 m.n)).setCell ⟨w.heap.size + 1, 4, none⟩ (.slice d1 m.nx.length e1)).setCell ⟨w.heap.size + 1, 5, none⟩ (.slice d2 m.out.length e2)) = w3 at *
  obtain ⟨q0, q1, q2, q3, q4, q5⟩ := C3
  obtain ⟨_, _, E1, _, _, _, R1, _⟩ := I3.shape
  cases E1
  obtain ⟨_, _, E2, _, _, _, R2, _⟩ := I2.shape
  cases E2
  refine bodyPost_ret (v := .agg #[.int .i64 m.kind, .int .i64 m.k, .int .i64 m.o, .int .i64 m.n, .slice d1 m.nx.length e1, .slice d2 m.out.length e2]) ?_ rfl ⟨d1, e1, d2, e2, rfl, R1, R2, b3⟩
  simp [results, Tryd.results8, go_sem, q0, q1, q2, q3, q4, q5]

end Go.Proofs.YtbhdcgebcmgidaaDoor

/-
  What the reference's Copy returns, with the room of its last list.
-/
namespace Go.Proofs.YtbhdcgebcmgidaaDoor
open Go.RowKit

theorem copy_cap (m : Mc) (a1 : Option Addr) (c1 : Nat) (a2 : Option Addr) (c2 : Nat) (w : World) (h1 : RdL .i64 w a1 m.nx) (h2 : RdL .i64 w a2 m.out) (nil1 : a1 = none → m.nx.length = 0 ∧ c1 = 0) (nil2 : a2 = none → m.out.length = 0 ∧ c2 = 0) (hn : m.nx.length ≤ 70000) (ho : m.out.length ≤ 70000) :
    Calls Tryd.prog 8 #[mval m a1 c1 a2 c2] w fun e w' => ∃ d1 e1 d2 e2, e = .returned (mval m d1 e1 d2 e2) ∧ RdL .i64 w' d1 m.nx ∧ RdL .i64 w' d2 m.out ∧ m.out.length ≤ e2 ∧ Below w.heap.size w w' := by
  unfold mval
  have B0 := (Box.alloc w m a1 c1 a2 c2 24).below (bstep (ballo _ (.cells #[.int .i64 0, .int .i64 0, .int .i64 0, .int .i64 0, .slice none 0 0, .slice none 0 0] 24)) (ballo _ (.cells #[] 3)))
  have C0 := (Box.alloc (w.alloc (.cells #[.int .i64 m.kind, .int .i64 m.k, .int .i64 m.o, .int .i64 m.n, .slice a1 m.nx.length c1, .slice a2 m.out.length c2] 24)) mc0 none 0 none 0 24).below (ballo _ (.cells #[] 3))
  have b0 := bstep (bstep (ballo w (.cells #[.int .i64 m.kind, .int .i64 m.k, .int .i64 m.o, .int .i64 m.n, .slice a1 m.nx.length c1, .slice a2 m.out.length c2] 24)) (ballo _ (.cells #[.int .i64 0, .int .i64 0, .int .i64 0, .int .i64 0, .slice none 0 0, .slice none 0 0] 24))) (ballo _ (.cells #[] 3))
  have h0 : OwnL .i64 3 (((w.alloc (.cells #[.int .i64 m.kind, .int .i64 m.k, .int .i64 m.o, .int .i64 m.n, .slice a1 m.nx.length c1, .slice a2 m.out.length c2] 24)).alloc (.cells #[.int .i64 0, .int .i64 0, .int .i64 0, .int .i64 0, .slice none 0 0, .slice none 0 0] 24)).alloc (.cells #[] 3)) (w.heap.size + 2) (.slice (some ⟨w.heap.size + 1 + 1, 0, none⟩) 0 0) [] := by
    have := OwnL.lit (q := .i64) (t := 3) ((w.alloc (.cells #[.int .i64 m.kind, .int .i64 m.k, .int .i64 m.o, .int .i64 m.n, .slice a1 m.nx.length c1, .slice a2 m.out.length c2] 24)).alloc (.cells #[.int .i64 0, .int .i64 0, .int .i64 0, .int .i64 0, .slice none 0 0, .slice none 0 0] 24)) (w.heap.size + 2) [] #[] (by simp) (by unfold maxLen; simp) rfl
    simpa using this
  simp only [World.size_alloc] at C0
  have F0 : ∀ b i, b < w.heap.size + 2 → w.heap.size ≤ b → (((w.alloc (.cells #[.int .i64 m.kind, .int .i64 m.k, .int .i64 m.o, .int .i64 m.n, .slice a1 m.nx.length c1, .slice a2 m.out.length c2] 24)).alloc (.cells #[.int .i64 0, .int .i64 0, .int .i64 0, .int .i64 0, .slice none 0 0, .slice none 0 0] 24)).alloc (.cells #[] 3)).frozen? ⟨b, i, none⟩ = false := by
    intro b i _ hb2
    rw [frozen?_alloc_cells, frozen?_alloc_cells, frozen?_alloc_cells]
    exact frz_new w hb2
  go_enter Tryd.func8, Tryd.ntmps8
  go_wp2_with (first | (at_builtin; refine wpl_pushL eInt rfl (.tmp 3) (.tmp 5) rfl (w.heap.size + 2) _ [] rfl h0 a1 c1 m.nx rfl (h1.below b0) nil1 (by simp only [List.length_nil]; omega) (by simp) ?_; rw [List.nil_append]; intro v1 w1 hown1 hb1 _; obtain ⟨d1, e1, rfl, -, -, -, -, -⟩ := hown1.shape; have b1 := b0.trans (hb1.mono (by omega)); have B1 := box_on B0 hb1 (by omega); have C1 := box_on C0 hb1 (by omega); have hz1 : w.heap.size + 3 ≤ w1.heap.size := Nat.le_trans (by simp) hb1.size; have F1 := fun b i hb hb2 => frz_on (F0 b i hb hb2) hb1 hb; obtain ⟨p0, p1, p2, p3, p4, p5⟩ := id B1; have f4 := F1 w.heap.size 4 (by omega) (by omega); obtain ⟨x0, x1, x2, x3, x4, x5⟩ := (B1.set4 d1 e1).below (ballo _ (.cells #[] 3))) | (at_builtin; refine wpl_pushL eInt rfl (.tmp 8) (.tmp 10) rfl (w.heap.size + 2) (.slice (some ⟨w1.heap.size, 0, none⟩) 0 0) [] rfl (OwnL.lit2 w1 _ _ (by omega)) a2 c2 m.out rfl (h2.below (bstep (b1.setCell (Nat.le_refl _) _) (ballo _ (.cells #[] 3)))) nil2 (by simp only [List.length_nil]; omega) (by simp; omega) ?_; rw [List.nil_append]; intro v2 w2 hown2 hb2 hg2; obtain ⟨d2, e2, rfl, -, -, -, -, -⟩ := hown2.shape; have b2 := (bstep (b1.setCell (p := ⟨w.heap.size, 4, none⟩) (Nat.le_refl _) (.slice d1 m.nx.length e1)) (ballo _ (.cells #[] 3))).trans (hb2.mono (by omega)); obtain ⟨y0, y1, y2, y3, y4, y5⟩ := box_on ((B1.set4 d1 e1).below (ballo _ (.cells #[] 3))) hb2 (by omega); have C2 := box_on ((C1.keep (Below.heap_setCell w1 ⟨w.heap.size, 4, none⟩ (.slice d1 m.nx.length e1) _ (by simp))).below (ballo _ (.cells #[] 3))) hb2 (by omega); obtain ⟨z0, z1, z2, z3, z4, z5⟩ := id C2; have F2 : ∀ b i, b < w.heap.size + 2 → w.heap.size ≤ b → w2.frozen? ⟨b, i, none⟩ = false := (fun b i hb hb' => frz_on (by rw [frozen?_alloc_cells, World.frozen?_setCell]; exact F1 b i hb hb') hb2 hb); have g5 := F2 w.heap.size 5 (by omega) (by omega); have k0 := F2 (w.heap.size + 1) 0 (by omega) (by omega); have k1 := F2 (w.heap.size + 1) 1 (by omega) (by omega); have k2 := F2 (w.heap.size + 1) 2 (by omega) (by omega); have k3 := F2 (w.heap.size + 1) 3 (by omega) (by omega); have k4 := F2 (w.heap.size + 1) 4 (by omega) (by omega); have k5 := F2 (w.heap.size + 1) 5 (by omega) (by omega)))
  have C3 := (C2.keep (Below.heap_setCell w2 ⟨w.heap.size, 5, none⟩ (.slice d2 m.out.length e2) _ (by simp))).six m d1 e1 d2 e2
  have K3 : ∀ g, w.heap.size + 2 ≤ g → (((((((w2.setCell ⟨w.heap.size, 5, none⟩ (.slice d2 m.out.length e2)).setCell ⟨w.heap.size + 1, 0, none⟩ (.int .i64 m.kind)).setCell ⟨w.heap.size + 1, 1, none⟩ (.int .i64 m.k)).setCell ⟨w.heap.size + 1, 2, none⟩ (.int .i64 m.o)).setCell ⟨w.heap.size + 1, 3, none⟩ (.int .i64 m.n)).setCell ⟨w.heap.size + 1, 4, none⟩ (.slice d1 m.nx.length e1)).setCell ⟨w.heap.size + 1, 5, none⟩ (.slice d2 m.out.length e2)).heap[g]? = w2.heap[g]? := fun g hg => by
    rw [Below.heap_setCell _ _ _ _ (by simp; omega), Below.heap_setCell _ _ _ _ (by simp; omega), Below.heap_setCell _ _ _ _ (by simp; omega), Below.heap_setCell _ _ _ _ (by simp; omega), Below.heap_setCell _ _ _ _ (by simp; omega), Below.heap_setCell _ _ _ _ (by simp; omega), Below.heap_setCell _ _ _ _ (by simp; omega)]
  have b3 := ((((((b2.setCell (p := ⟨w.heap.size, 5, none⟩) (Nat.le_refl _) (.slice d2 m.out.length e2)).setCell (p := ⟨w.heap.size + 1, 0, none⟩) (by simp) (.int .i64 m.kind)).setCell (p := ⟨w.heap.size + 1, 1, none⟩) (by simp) (.int .i64 m.k)).setCell (p := ⟨w.heap.size + 1, 2, none⟩) (by simp) (.int .i64 m.o)).setCell (p := ⟨w.heap.size + 1, 3, none⟩) (by simp) (.int .i64 m.n)).setCell (p := ⟨w.heap.size + 1, 4, none⟩) (by simp) (.slice d1 m.nx.length e1)).setCell (p := ⟨w.heap.size + 1, 5, none⟩) (by simp) (.slice d2 m.out.length e2)
  have I2 := hown2.keep fun g e => K3 g (hown2.lt e).1
  have I1 := hown1.keep (w' := w2) fun g e => by
    have hl := hown1.lt e
    rw [hg2.block g (by simp; omega) (fun e2 => by cases e2; exact Nat.lt_irrefl _ hl.2), Below.heap_alloc _ _ _ (by simp; omega), Below.heap_setCell _ _ _ _ (by simp; omega)]
  have I3 := I1.keep fun g e => K3 g (hown1.lt e).1
  clear I1
  generalize (((((((w2.setCell ⟨w.heap.size, 5, none⟩ (.slice d2 m.out.length e2)).setCell ⟨w.heap.size + 1, 0, none⟩ (.int .i64 m.kind)).setCell ⟨w.heap.size + 1, 1, none⟩ (.int .i64 m.k)).setCell ⟨w.heap.size + 1, 2, none⟩ (.int .i64 m.o)).setCell ⟨w.heap.size + 1, 3, none⟩ (.int .i64 m.n)).setCell ⟨w.heap.size + 1, 4, none⟩ (.slice d1 m.nx.length e1)).setCell ⟨w.heap.size + 1, 5, none⟩ (.slice d2 m.out.length e2)) = w3 at *
  obtain ⟨q0, q1, q2, q3, q4, q5⟩ := C3
  obtain ⟨_, _, E1, _, _, _, R1, _⟩ := I3.shape
  cases E1
  obtain ⟨_, _, E2, _, lc2, _, R2, _⟩ := I2.shape
  cases E2
  refine bodyPost_ret (v := .agg #[.int .i64 m.kind, .int .i64 m.k, .int .i64 m.o, .int .i64 m.n, .slice d1 m.nx.length e1, .slice d2 m.out.length e2]) ?_ rfl ⟨d1, e1, d2, e2, rfl, R1, R2, lc2, b3⟩
  simp [results, Tryd.results8, go_sem, q0, q1, q2, q3, q4, q5]

end Go.Proofs.YtbhdcgebcmgidaaDoor

/-
  Two words one behind the other, in plain words: where they lead, and what is said.
-/
namespace Go.Proofs.YtbhdcgebcmgidaaDoor
open Go.RowKit

theorem goV_acc {m : Mc} (hk : m.kind = 2) : ∀ (w : List Int) (s : Int) (acc : List Int), goV m s w acc = ((goV m s w []).1, acc ++ (goV m s w []).2)
  | [], s, acc => by rw [goV_nil2 (by omega), goV_nil2 (by omega)]; simp
  | x :: w, s, acc => by
    simp only [goV, hk, if_true]
    rw [goV_acc hk w _ (acc ++ _), goV_acc hk w _ ([] ++ _)]
    simp
theorem goV_app2 {m : Mc} (hk : m.kind = 2) (w : List Int) : ∀ (v : List Int) (s : Int) (acc : List Int), goV m s (v ++ w) acc = goV m (goV m s v acc).1 w (goV m s v acc).2
  | [], s, acc => by rw [goV_nil2 (by omega)]; rfl
  | x :: v, s, acc => by
    simp only [goV, List.cons_append]
    exact goV_app2 hk w v _ _
theorem goV_app1 {m : Mc} (hk : m.kind ≠ 2) (w : List Int) : ∀ (v : List Int) (s : Int), goV m s (v ++ w) [] = goV m (goV m s v []).1 w []
  | [], s => rfl
  | x :: v, s => by
    simp only [goV, List.cons_append, hk, if_false]
    exact goV_app1 hk w v _
theorem goV_len2 {m : Mc} (hk : m.kind = 2) : ∀ (w : List Int) (s : Int) (acc : List Int), (goV m s w acc).2.length = acc.length + w.length
  | [], s, acc => by rw [goV_nil2 (by omega)]; rfl
  | x :: w, s, acc => by
    simp only [goV, hk, if_true]
    rw [goV_len2 hk w]
    simp; omega
theorem goV_len1 {m : Mc} (hk : m.kind = 1) : ∀ (w : List Int) (s : Int) (acc : List Int), (goV m s w acc).2.length = 1
  | [], s, acc => by rw [goV_nil1 hk]; rfl
  | x :: w, s, acc => by
    simp only [goV]
    exact goV_len1 hk w _ _
theorem goV_state {m : Mc} (R : Right m) : ∀ (w : List Int) (s : Int) (acc : List Int), 0 ≤ s → s < m.n → (∀ i, i < w.length → 0 ≤ w.getD i 0 ∧ w.getD i 0 < m.k) → 0 ≤ (goV m s w acc).1 ∧ (goV m s w acc).1 < m.n
  | [], s, acc, s0, s1, _ => by simp only [goV]; exact ⟨s0, s1⟩
  | x :: w, s, acc, s0, s1, hw => by
    have hx := hw 0 (by simp)
    obtain ⟨P, hP, hPl, _⟩ := way_of R s0 s1 (x := x) (by simpa using hx.1) (by simpa using hx.2)
    simp only [goV]
    rw [hP, Int.toNat_natCast]
    exact goV_state R w _ _ (R.st P hPl).1 (R.st P hPl).2 fun i hi => by
      have := hw (i + 1) (by simp; omega)
      simpa using this
theorem fromV_zero {m : Mc} {s : Int} {wd : List Int} (h : (fromV m s wd).2.2 = 0) : (mchV m).2 = 0 ∧ 0 ≤ s ∧ s < m.n ∧ (wchV wd m.k).2 = 0 := by
  unfold fromV at h
  by_cases h1 : (mchV m).2 ≠ 0
  · rw [if_pos h1] at h; exact absurd h h1
  rw [if_neg h1] at h
  by_cases h2 : s < 0 ∨ m.n ≤ s
  · rw [if_pos h2] at h; cases h
  rw [if_neg h2] at h
  by_cases h3 : (wchV wd m.k).2 ≠ 0
  · rw [if_pos h3] at h; exact absurd h h3
  exact ⟨by simpa using h1, by omega, by omega, by simpa using h3⟩
theorem fromV_err {m : Mc} {s : Int} {wd : List Int} (h : (fromV m s wd).2.2 ≠ 0) : (fromV m s wd).1 = 0 := by
  unfold fromV at h ⊢
  by_cases h1 : (mchV m).2 ≠ 0
  · rw [if_pos h1]
  rw [if_neg h1] at h ⊢
  by_cases h2 : s < 0 ∨ m.n ≤ s
  · rw [if_pos h2]
  rw [if_neg h2] at h ⊢
  by_cases h3 : (wchV wd m.k).2 ≠ 0
  · rw [if_pos h3]
  rw [if_neg h3] at h
  exact absurd rfl h
theorem wch_app {v w : List Int} {k : Int} (hv : (wchV v k).2 = 0) (hl : v.length + w.length ≤ 4096) : (wchV (v ++ w) k).2 = (wchV w k).2 := by
  obtain ⟨k0, k1, _, hd⟩ := word_of_chk hv
  have hlo : ∀ j, j < v.length → badB (fun i => (v ++ w).getD i 0) k j = false := fun j hj => bad_no (by rw [getD_app_left hj]; exact (hd j hj).1) (by rw [getD_app_left hj]; exact (hd j hj).2)
  have hhi : ∀ j, badB (fun i => (v ++ w).getD i 0) k (v.length + j) = badB (fun i => w.getD i 0) k j := fun j => by unfold badB; simp only [getD_app_right]
  have hall : ∀ n, (∀ j, j < n → badB (fun i => w.getD i 0) k j = false) → ∀ j, j < v.length + n → badB (fun i => (v ++ w).getD i 0) k j = false := fun n h j hj => by
    by_cases e : j < v.length
    · exact hlo j e
    · have := hhi (j - v.length)
      rw [show v.length + (j - v.length) = j by omega] at this
      rw [this]; exact h _ (by omega)
  unfold wchV
  rcases first_cases (badB (fun i => w.getD i 0) k) w.length with ⟨_, h⟩ | ⟨i, _, hi, hb, h⟩
  · rw [chkV_ok k0 k1 (by omega) h, chkV_ok k0 k1 (by simp; omega) (fun j hj => hall _ h j (by simpa using hj))]
  · rw [chkV_sym k0 k1 (by omega) hi hb h, chkV_sym (i := v.length + i) k0 k1 (by simp; omega) (by simp; omega) ((hhi i).trans hb) (hall i h)]

theorem goV_most (m : Mc) : ∀ (wd : List Int) (s : Int) (acc : List Int), (goV m s wd acc).2.length ≤ acc.length + wd.length + 1
  | [], s, acc => by
    unfold goV
    split <;> simp
  | x :: wd, s, acc => by
    unfold goV
    refine Nat.le_trans (goV_most m wd _ _) ?_
    split <;> simp only [List.length_append, List.length_cons, List.length_nil] <;> omega
theorem fromV_most (m : Mc) (s : Int) (wd : List Int) : (fromV m s wd).2.1.length ≤ wd.length + 1 := by
  unfold fromV
  split
  · simp
  · split
    · simp
    · split
      · simp
      · have := goV_most m wd s []
        simpa using this
theorem same_ne (x : Int) : (x != x) = false := by simp

/-- What P3.5 says. -/
theorem join_facts {m : Mc} {v w : List Int} {q : Int} {F : List Int} (hl : v.length + w.length ≤ 4096) (hA : fromV m 0 v = (q, F, 0)) :
    (fromV m q w).2.2 = (fromV m 0 (v ++ w)).2.2 ∧ ((fromV m q w).2.2 = 0 → (fromV m q w).1 = (fromV m 0 (v ++ w)).1 ∧
      (m.kind = 2 → (fromV m 0 (v ++ w)).2.1 = F ++ (fromV m q w).2.1 ∧ (fromV m 0 (v ++ w)).2.1.length = v.length + w.length) ∧
      (m.kind ≠ 2 → (fromV m 0 (v ++ w)).2.1 = (fromV m q w).2.1 ∧ (fromV m 0 (v ++ w)).2.1.length = 1)) := by
  obtain ⟨hz, _, n0, hv⟩ := fromV_zero (m := m) (s := 0) (wd := v) (by rw [hA])
  have R := right_of hz
  rw [fromV_ok hz (by omega) n0 hv] at hA
  have e1 : (goV m 0 v []).1 = q := congrArg Prod.fst hA
  have e2 : (goV m 0 v []).2 = F := congrArg (fun x => x.2.1) hA
  obtain ⟨_, _, _, hd⟩ := word_of_chk hv
  have hq := goV_state R v 0 [] (by omega) n0 hd
  rw [e1] at hq
  have ha := wch_app hv hl
  by_cases hw : (wchV w m.k).2 = 0
  · rw [fromV_ok hz hq.1 hq.2 hw, fromV_ok hz (by omega) n0 (ha.trans hw)]
    refine ⟨rfl, fun _ => ?_⟩
    rcases R.kd with hk | hk
    · have h1 := goV_app1 (by omega) w v 0 (m := m)
      rw [e1] at h1
      refine ⟨by rw [h1], fun h => by omega, fun _ => ⟨by rw [h1], goV_len1 hk _ _ _⟩⟩
    · have h2 := goV_app2 hk w v 0 []
      rw [e1, e2, goV_acc hk w q F] at h2
      refine ⟨by rw [h2], fun _ => ⟨by rw [h2], ?_⟩, fun h => absurd hk h⟩
      show (goV m 0 (v ++ w) []).2.length = _
      rw [goV_len2 hk]; simp
  · rw [fromV_word hz hq.1 hq.2 hw, fromV_word hz (by omega) n0 (by rw [ha]; exact hw)]
    exact ⟨ha.symm, fun h => absurd h hw⟩

end Go.Proofs.YtbhdcgebcmgidaaDoor
