/-
  A cache of the document's answer whose twelve cells are set anew; the reference's New.
-/
import Derived.Test.YtemalidanjfmkaaCFnd
import Derived.Test.YtemalidanjfmkaaK28
import Derived.Test.YtemalidanjfmkaaK27
import Derived.Test.YtemalidanjfmkaaK19
namespace Go.Proofs.Ytemalidanjfmkaa
set_option linter.unusedVariables false
open Go.RowKit

/-- Twelve cells are set. -/
def dozen (w : World) (b : Nat) (p : Cv) : World := ((((((((((((w.setCell ⟨b, 0, none⟩ (.int .i64 p.kind)).setCell ⟨b, 1, none⟩ (.int .i64 p.k)).setCell ⟨b, 2, none⟩ (.int .i64 p.o)).setCell ⟨b, 3, none⟩ (.int .i64 0)).setCell ⟨b, 4, none⟩ (.slice none 0 0)).setCell ⟨b, 5, none⟩ (.slice none 0 0)).setCell ⟨b, 6, none⟩ (.int .i64 p.most)).setCell ⟨b, 7, none⟩ (.slice p.aw p.ws.length p.cw)).setCell ⟨b, 8, none⟩ (.slice p.ao p.os.length p.co)).setCell ⟨b, 9, none⟩ (.slice p.ab p.bg.length p.cb)).setCell ⟨b, 10, none⟩ (.int .i64 p.hits)).setCell ⟨b, 11, none⟩ (.int .i64 p.miss))
theorem dozen_heap (w : World) {b : Nat} (p : Cv) {j : Nat} (hj : j ≠ b) : (dozen w b p).heap[j]? = w.heap[j]? := by
  unfold dozen
  rw [Below.heap_setCell _ _ _ _ (by simpa using hj), Below.heap_setCell _ _ _ _ (by simpa using hj), Below.heap_setCell _ _ _ _ (by simpa using hj), Below.heap_setCell _ _ _ _ (by simpa using hj), Below.heap_setCell _ _ _ _ (by simpa using hj), Below.heap_setCell _ _ _ _ (by simpa using hj), Below.heap_setCell _ _ _ _ (by simpa using hj), Below.heap_setCell _ _ _ _ (by simpa using hj), Below.heap_setCell _ _ _ _ (by simpa using hj), Below.heap_setCell _ _ _ _ (by simpa using hj), Below.heap_setCell _ _ _ _ (by simpa using hj), Below.heap_setCell _ _ _ _ (by simpa using hj)]
theorem dozen_below {w w1 : World} {B b : Nat} (h : Below B w w1) (hb : B ≤ b) (p : Cv) : Below B w (dozen w1 b p) :=
  ((((((((((((h.setCell (p := ⟨b, 0, none⟩) hb _).setCell (p := ⟨b, 1, none⟩) hb _).setCell (p := ⟨b, 2, none⟩) hb _).setCell (p := ⟨b, 3, none⟩) hb _).setCell (p := ⟨b, 4, none⟩) hb _).setCell (p := ⟨b, 5, none⟩) hb _).setCell (p := ⟨b, 6, none⟩) hb _).setCell (p := ⟨b, 7, none⟩) hb _).setCell (p := ⟨b, 8, none⟩) hb _).setCell (p := ⟨b, 9, none⟩) hb _).setCell (p := ⟨b, 10, none⟩) hb _).setCell (p := ⟨b, 11, none⟩) hb _)
theorem Cb.set {w : World} {b : Nat} {p0 : Cv} (h : Cb w b p0) (p : Cv) : Cb (dozen w b p) b p := by
  have ot : ∀ (u : World) (i j : Nat) (v : Value), i ≠ j → (u.setCell ⟨b, i, none⟩ v).cell? ⟨b, j, none⟩ = u.cell? ⟨b, j, none⟩ := fun u i j v hi => World.cell?_setCell_other (w := u) (a := ⟨b, i, none⟩) (b := ⟨b, j, none⟩) (v := v) (h := fun e => hi (by injection e with _ e2 _))
  have sm : ∀ (u : World) (i : Nat) (v x : Value), u.cell? ⟨b, i, none⟩ = some x → (u.setCell ⟨b, i, none⟩ v).cell? ⟨b, i, none⟩ = some v := fun u i v x hx => World.cell?_setCell_same u ⟨b, i, none⟩ v hx
  unfold dozen
  constructor
  · rw [ot _ 11 0 _ (by decide), ot _ 10 0 _ (by decide), ot _ 9 0 _ (by decide), ot _ 8 0 _ (by decide), ot _ 7 0 _ (by decide), ot _ 6 0 _ (by decide), ot _ 5 0 _ (by decide), ot _ 4 0 _ (by decide), ot _ 3 0 _ (by decide), ot _ 2 0 _ (by decide), ot _ 1 0 _ (by decide)]; exact sm _ 0 _ _ h.p0
  · rw [ot _ 11 1 _ (by decide), ot _ 10 1 _ (by decide), ot _ 9 1 _ (by decide), ot _ 8 1 _ (by decide), ot _ 7 1 _ (by decide), ot _ 6 1 _ (by decide), ot _ 5 1 _ (by decide), ot _ 4 1 _ (by decide), ot _ 3 1 _ (by decide), ot _ 2 1 _ (by decide)]; exact sm _ 1 _ _ ((ot _ 0 1 _ (by decide)).trans h.p1)
  · rw [ot _ 11 2 _ (by decide), ot _ 10 2 _ (by decide), ot _ 9 2 _ (by decide), ot _ 8 2 _ (by decide), ot _ 7 2 _ (by decide), ot _ 6 2 _ (by decide), ot _ 5 2 _ (by decide), ot _ 4 2 _ (by decide), ot _ 3 2 _ (by decide)]; exact sm _ 2 _ _ ((ot _ 1 2 _ (by decide)).trans ((ot _ 0 2 _ (by decide)).trans h.p2))
  · rw [ot _ 11 3 _ (by decide), ot _ 10 3 _ (by decide), ot _ 9 3 _ (by decide), ot _ 8 3 _ (by decide), ot _ 7 3 _ (by decide), ot _ 6 3 _ (by decide), ot _ 5 3 _ (by decide), ot _ 4 3 _ (by decide)]; exact sm _ 3 _ _ ((ot _ 2 3 _ (by decide)).trans ((ot _ 1 3 _ (by decide)).trans ((ot _ 0 3 _ (by decide)).trans h.p3)))
  · rw [ot _ 11 4 _ (by decide), ot _ 10 4 _ (by decide), ot _ 9 4 _ (by decide), ot _ 8 4 _ (by decide), ot _ 7 4 _ (by decide), ot _ 6 4 _ (by decide), ot _ 5 4 _ (by decide)]; exact sm _ 4 _ _ ((ot _ 3 4 _ (by decide)).trans ((ot _ 2 4 _ (by decide)).trans ((ot _ 1 4 _ (by decide)).trans ((ot _ 0 4 _ (by decide)).trans h.p4))))
  · rw [ot _ 11 5 _ (by decide), ot _ 10 5 _ (by decide), ot _ 9 5 _ (by decide), ot _ 8 5 _ (by decide), ot _ 7 5 _ (by decide), ot _ 6 5 _ (by decide)]; exact sm _ 5 _ _ ((ot _ 4 5 _ (by decide)).trans ((ot _ 3 5 _ (by decide)).trans ((ot _ 2 5 _ (by decide)).trans ((ot _ 1 5 _ (by decide)).trans ((ot _ 0 5 _ (by decide)).trans h.p5)))))
  · rw [ot _ 11 6 _ (by decide), ot _ 10 6 _ (by decide), ot _ 9 6 _ (by decide), ot _ 8 6 _ (by decide), ot _ 7 6 _ (by decide)]; exact sm _ 6 _ _ ((ot _ 5 6 _ (by decide)).trans ((ot _ 4 6 _ (by decide)).trans ((ot _ 3 6 _ (by decide)).trans ((ot _ 2 6 _ (by decide)).trans ((ot _ 1 6 _ (by decide)).trans ((ot _ 0 6 _ (by decide)).trans h.p6))))))
  · rw [ot _ 11 7 _ (by decide), ot _ 10 7 _ (by decide), ot _ 9 7 _ (by decide), ot _ 8 7 _ (by decide)]; exact sm _ 7 _ _ ((ot _ 6 7 _ (by decide)).trans ((ot _ 5 7 _ (by decide)).trans ((ot _ 4 7 _ (by decide)).trans ((ot _ 3 7 _ (by decide)).trans ((ot _ 2 7 _ (by decide)).trans ((ot _ 1 7 _ (by decide)).trans ((ot _ 0 7 _ (by decide)).trans h.p7)))))))
  · rw [ot _ 11 8 _ (by decide), ot _ 10 8 _ (by decide), ot _ 9 8 _ (by decide)]; exact sm _ 8 _ _ ((ot _ 7 8 _ (by decide)).trans ((ot _ 6 8 _ (by decide)).trans ((ot _ 5 8 _ (by decide)).trans ((ot _ 4 8 _ (by decide)).trans ((ot _ 3 8 _ (by decide)).trans ((ot _ 2 8 _ (by decide)).trans ((ot _ 1 8 _ (by decide)).trans ((ot _ 0 8 _ (by decide)).trans h.p8))))))))
  · rw [ot _ 11 9 _ (by decide), ot _ 10 9 _ (by decide)]; exact sm _ 9 _ _ ((ot _ 8 9 _ (by decide)).trans ((ot _ 7 9 _ (by decide)).trans ((ot _ 6 9 _ (by decide)).trans ((ot _ 5 9 _ (by decide)).trans ((ot _ 4 9 _ (by decide)).trans ((ot _ 3 9 _ (by decide)).trans ((ot _ 2 9 _ (by decide)).trans ((ot _ 1 9 _ (by decide)).trans ((ot _ 0 9 _ (by decide)).trans h.p9)))))))))
  · rw [ot _ 11 10 _ (by decide)]; exact sm _ 10 _ _ ((ot _ 9 10 _ (by decide)).trans ((ot _ 8 10 _ (by decide)).trans ((ot _ 7 10 _ (by decide)).trans ((ot _ 6 10 _ (by decide)).trans ((ot _ 5 10 _ (by decide)).trans ((ot _ 4 10 _ (by decide)).trans ((ot _ 3 10 _ (by decide)).trans ((ot _ 2 10 _ (by decide)).trans ((ot _ 1 10 _ (by decide)).trans ((ot _ 0 10 _ (by decide)).trans h.p10))))))))))
  · exact sm _ 11 _ _ ((ot _ 10 11 _ (by decide)).trans ((ot _ 9 11 _ (by decide)).trans ((ot _ 8 11 _ (by decide)).trans ((ot _ 7 11 _ (by decide)).trans ((ot _ 6 11 _ (by decide)).trans ((ot _ 5 11 _ (by decide)).trans ((ot _ 4 11 _ (by decide)).trans ((ot _ 3 11 _ (by decide)).trans ((ot _ 2 11 _ (by decide)).trans ((ot _ 1 11 _ (by decide)).trans ((ot _ 0 11 _ (by decide)).trans h.p11)))))))))))

theorem Cb.keepB {w w' : World} {b : Nat} {p : Cv} (h : Cb w b p) (e : w'.heap[b]? = w.heap[b]?) : Cb w' b p := by
  have ec : ∀ i, w'.cell? ⟨b, i, none⟩ = w.cell? ⟨b, i, none⟩ := fun i => World.cell?_of_block (a := ⟨b, i, none⟩) e
  exact ⟨(ec _).trans h.p0, (ec _).trans h.p1, (ec _).trans h.p2, (ec _).trans h.p3, (ec _).trans h.p4, (ec _).trans h.p5, (ec _).trans h.p6, (ec _).trans h.p7, (ec _).trans h.p8, (ec _).trans h.p9, (ec _).trans h.p10, (ec _).trans h.p11⟩
/-- Lists that a change of one other block leaves as they are. -/
theorem LaOk.keepB {w w' : World} {x : La} {b : Nat} (h : LaOk w x) (e : ∀ j, j ≠ b → w'.heap[j]? = w.heap[j]?) (hb : ∀ y, x.a = some y → y.block ≠ b) : LaOk w' x := by
  refine ⟨?_, h.nil, h.le, h.cap⟩
  rcases h.rd with h0 | ⟨g, off, e1, hc⟩
  · exact .inl h0
  · refine .inr ⟨g, off, e1, fun i hi => ?_⟩
    rw [World.cell?_of_block (w := w) (w' := w') (a := ⟨g, off + i, none⟩) (e g (hb _ e1))]
    exact hc i hi
def cv0 : Cv := ⟨0, 0, 0, 0, [], none, 0, [], none, 0, [], none, 0, 0, 0⟩
/-- Where its lists may lie. -/
def Cok (p : Cv) : Prop := (∃ ad, p.ab = some ad) ∧ (p.aw = none → p.ws = [] ∧ p.cw = 0) ∧ (p.ao = none → p.os = [] ∧ p.co = 0)
/-- What New leaves. -/
def NwPost (w : World) (kind k o most : Int) (e : Ending) (w' : World) : Prop :=
  ∃ p : Cv, e = .returned (.tuple #[cvV p, .int .i64 (newE kind k o most)]) ∧ (newE kind k o most = 0 → p.cs = newV kind k o most ∧ RdC w' p ∧ Cok p ∧ ∀ X : Nat → Prop, (∀ j, X j → j < w.heap.size) → ∀ wz, Bx X w' wz → RdC wz p) ∧ Below w.heap.size w w'
theorem bdz (w : World) : Below w.heap.size w (w.alloc (.cells #[.int .i64 0, .int .i64 0, .int .i64 0, .int .i64 0, .slice none 0 0, .slice none 0 0, .int .i64 0, .slice none 0 0, .slice none 0 0, .slice none 0 0, .int .i64 0, .int .i64 0] 34)) := ballo _ _

set_option maxRecDepth 100000 in
set_option maxHeartbeats 4000000 in
theorem rnewC_any (kind k o most : Int) (w : World) :
    Calls Try.prog 12 #[.int .i64 kind, .int .i64 k, .int .i64 o, .int .i64 most] w (NwPost w kind k o most) := by
  by_cases h1 : kind ≠ 1 ∧ kind ≠ 2
  · have q1 : (kind != 1) = true := by simpa using h1.1
    have q2 : (kind != 2) = true := by simpa using h1.2
    have HE := hide (show newE kind k o most = 30 by unfold newE; rw [if_pos h1])
    clear h1
    go_enter Try.func12, Try.ntmps12
    go_wp2
    refine bodyPost_ret (v := .tuple #[cvV cv0, .int .i64 30]) ?_ rfl ⟨cv0, by rw [unhide HE], fun h => absurd (h.symm.trans (unhide HE)) (by decide), bdz _⟩
    simp [results, Try.results12, go_sem, cvV, cv0]
  have hk : kind = 1 ∨ kind = 2 := by omega
  by_cases h2 : k < 1 ∨ 64 < k
  · have HE := hide (show newE kind k o most = 1 by unfold newE; rw [if_neg h1, if_pos h2])
    clear h1
    rcases hk with rfl | rfl
    · rcases h2 with h2 | h2
      · have h2' : ¬ (64 < k) := by omega
        go_enter Try.func12, Try.ntmps12
        go_wp2
        refine bodyPost_ret (v := .tuple #[cvV cv0, .int .i64 1]) ?_ rfl ⟨cv0, by rw [unhide HE], fun h => absurd (h.symm.trans (unhide HE)) (by decide), bdz _⟩
        simp [results, Try.results12, go_sem, cvV, cv0]
      · have h2' : ¬ (k < 1) := by omega
        go_enter Try.func12, Try.ntmps12
        go_wp2
        refine bodyPost_ret (v := .tuple #[cvV cv0, .int .i64 1]) ?_ rfl ⟨cv0, by rw [unhide HE], fun h => absurd (h.symm.trans (unhide HE)) (by decide), bdz _⟩
        simp [results, Try.results12, go_sem, cvV, cv0]
    · rcases h2 with h2 | h2
      · have h2' : ¬ (64 < k) := by omega
        go_enter Try.func12, Try.ntmps12
        go_wp2
        refine bodyPost_ret (v := .tuple #[cvV cv0, .int .i64 1]) ?_ rfl ⟨cv0, by rw [unhide HE], fun h => absurd (h.symm.trans (unhide HE)) (by decide), bdz _⟩
        simp [results, Try.results12, go_sem, cvV, cv0]
      · have h2' : ¬ (k < 1) := by omega
        go_enter Try.func12, Try.ntmps12
        go_wp2
        refine bodyPost_ret (v := .tuple #[cvV cv0, .int .i64 1]) ?_ rfl ⟨cv0, by rw [unhide HE], fun h => absurd (h.symm.trans (unhide HE)) (by decide), bdz _⟩
        simp [results, Try.results12, go_sem, cvV, cv0]
  by_cases h3 : (kind = 1 ∧ o ≠ 2) ∨ o < 1 ∨ 64 < o
  · have HE := hide (show newE kind k o most = 33 by unfold newE; rw [if_neg h1, if_neg h2, if_pos h3])
    have k0 : ¬ (k < 1) := by omega
    have k1 : ¬ (64 < k) := by omega
    clear h1 h2
    rcases hk with rfl | rfl
    · have q3 : (o != 2) = true := by
        have : o ≠ 2 := by omega
        simpa using this
      clear h3
      go_enter Try.func12, Try.ntmps12
      go_wp2
      refine bodyPost_ret (v := .tuple #[cvV cv0, .int .i64 33]) ?_ rfl ⟨cv0, by rw [unhide HE], fun h => absurd (h.symm.trans (unhide HE)) (by decide), bdz _⟩
      simp [results, Try.results12, go_sem, cvV, cv0]
    · have h3' : o < 1 ∨ 64 < o := by omega
      clear h3
      rcases h3' with h3 | h3
      · have h3' : ¬ (64 < o) := by omega
        go_enter Try.func12, Try.ntmps12
        go_wp2
        refine bodyPost_ret (v := .tuple #[cvV cv0, .int .i64 33]) ?_ rfl ⟨cv0, by rw [unhide HE], fun h => absurd (h.symm.trans (unhide HE)) (by decide), bdz _⟩
        simp [results, Try.results12, go_sem, cvV, cv0]
      · have h3' : ¬ (o < 1) := by omega
        go_enter Try.func12, Try.ntmps12
        go_wp2
        refine bodyPost_ret (v := .tuple #[cvV cv0, .int .i64 33]) ?_ rfl ⟨cv0, by rw [unhide HE], fun h => absurd (h.symm.trans (unhide HE)) (by decide), bdz _⟩
        simp [results, Try.results12, go_sem, cvV, cv0]
  have o0 : ¬ (o < 1) := by omega
  have o1 : ¬ (64 < o) := by omega
  have k0 : ¬ (k < 1) := by omega
  have k1 : ¬ (64 < k) := by omega
  by_cases h4 : most < 1 ∨ 1048576 < most
  · have HE := hide (show newE kind k o most = 3 by unfold newE; rw [if_neg h1, if_neg h2, if_neg h3, if_pos h4])
    clear h1 h2
    rcases hk with rfl | rfl
    · have q3 : (o != 2) = false := by
        have : o = 2 := by omega
        simp [this]
      clear h3
      rcases h4 with h4 | h4
      · have h4' : ¬ (1048576 < most) := by omega
        go_enter Try.func12, Try.ntmps12
        go_wp2
        refine bodyPost_ret (v := .tuple #[cvV cv0, .int .i64 3]) ?_ rfl ⟨cv0, by rw [unhide HE], fun h => absurd (h.symm.trans (unhide HE)) (by decide), bdz _⟩
        simp [results, Try.results12, go_sem, cvV, cv0]
      · have h4' : ¬ (most < 1) := by omega
        go_enter Try.func12, Try.ntmps12
        go_wp2
        refine bodyPost_ret (v := .tuple #[cvV cv0, .int .i64 3]) ?_ rfl ⟨cv0, by rw [unhide HE], fun h => absurd (h.symm.trans (unhide HE)) (by decide), bdz _⟩
        simp [results, Try.results12, go_sem, cvV, cv0]
    · clear h3
      rcases h4 with h4 | h4
      · have h4' : ¬ (1048576 < most) := by omega
        go_enter Try.func12, Try.ntmps12
        go_wp2
        refine bodyPost_ret (v := .tuple #[cvV cv0, .int .i64 3]) ?_ rfl ⟨cv0, by rw [unhide HE], fun h => absurd (h.symm.trans (unhide HE)) (by decide), bdz _⟩
        simp [results, Try.results12, go_sem, cvV, cv0]
      · have h4' : ¬ (most < 1) := by omega
        go_enter Try.func12, Try.ntmps12
        go_wp2
        refine bodyPost_ret (v := .tuple #[cvV cv0, .int .i64 3]) ?_ rfl ⟨cv0, by rw [unhide HE], fun h => absurd (h.symm.trans (unhide HE)) (by decide), bdz _⟩
        simp [results, Try.results12, go_sem, cvV, cv0]
  have HE := hide (show newE kind k o most = 0 by unfold newE; rw [if_neg h1, if_neg h2, if_neg h3, if_neg h4])
  have m0 : ¬ (most < 1) := by omega
  have m1 : ¬ (1048576 < most) := by omega
  clear h1 h2 h4
  rcases hk with rfl | rfl
  · have q3 : (o != 2) = false := by
      have : o = 2 := by omega
      simp [this]
    clear h3
    have C1 : Cb (((w.alloc (.cells #[.int .i64 1, .int .i64 k, .int .i64 o, .int .i64 0, .slice none 0 0, .slice none 0 0, .int .i64 most, .slice none 0 0, .slice none 0 0, .slice (some ⟨w.heap.size + 1 + 1, 0, none⟩) 1 1, .int .i64 0, .int .i64 0] 34)).alloc (.cells #[] 3)).alloc (.cells #[.slice (some ⟨w.heap.size + 1, 0, none⟩) 0 0] 29)) w.heap.size ⟨1, k, o, most, [], none, 0, [], none, 0, [⟨[], some ⟨w.heap.size + 1, 0, none⟩, 0⟩], some ⟨w.heap.size + 1 + 1, 0, none⟩, 1, 0, 0⟩ := ((Cb.alloc w ⟨1, k, o, most, [], none, 0, [], none, 0, [⟨[], some ⟨w.heap.size + 1, 0, none⟩, 0⟩], some ⟨w.heap.size + 1 + 1, 0, none⟩, 1, 0, 0⟩ 34).below (ballo _ _)).below (ballo _ _)
    have b1 : Below w.heap.size w (((w.alloc (.cells #[.int .i64 1, .int .i64 k, .int .i64 o, .int .i64 0, .slice none 0 0, .slice none 0 0, .int .i64 most, .slice none 0 0, .slice none 0 0, .slice (some ⟨w.heap.size + 1 + 1, 0, none⟩) 1 1, .int .i64 0, .int .i64 0] 34)).alloc (.cells #[] 3)).alloc (.cells #[.slice (some ⟨w.heap.size + 1, 0, none⟩) 0 0] 29)) := bstep (bstep (ballo _ _) (ballo _ _)) (ballo _ _)
    have e2 : ((w.alloc (.cells #[.int .i64 1, .int .i64 k, .int .i64 o, .int .i64 0, .slice none 0 0, .slice none 0 0, .int .i64 most, .slice none 0 0, .slice none 0 0, .slice (some ⟨w.heap.size + 1 + 1, 0, none⟩) 1 1, .int .i64 0, .int .i64 0] 34)).alloc (.cells #[] 3)).heap.size = w.heap.size + 1 + 1 := by simp
    have c3 : (((w.alloc (.cells #[.int .i64 1, .int .i64 k, .int .i64 o, .int .i64 0, .slice none 0 0, .slice none 0 0, .int .i64 most, .slice none 0 0, .slice none 0 0, .slice (some ⟨w.heap.size + 1 + 1, 0, none⟩) 1 1, .int .i64 0, .int .i64 0] 34)).alloc (.cells #[] 3)).alloc (.cells #[.slice (some ⟨w.heap.size + 1, 0, none⟩) 0 0] 29)).cell? ⟨w.heap.size + 1 + 1, 0, none⟩ = some (.slice (some ⟨w.heap.size + 1, 0, none⟩) 0 0) := by
      have := (Bk.new ((w.alloc (.cells #[.int .i64 1, .int .i64 k, .int .i64 o, .int .i64 0, .slice none 0 0, .slice none 0 0, .int .i64 most, .slice none 0 0, .slice none 0 0, .slice (some ⟨w.heap.size + 1 + 1, 0, none⟩) 1 1, .int .i64 0, .int .i64 0] 34)).alloc (.cells #[] 3)) [.slice (some ⟨w.heap.size + 1, 0, none⟩) 0 0] 29).cell 0
      rw [e2] at this
      exact this
    have HC1 := hide C1
    have HB1 := hide b1
    have HC3 := hide c3
    clear C1 b1 e2 c3
    go_enter Try.func12, Try.ntmps12
    go_wp2
    generalize (((w.alloc (.cells #[.int .i64 1, .int .i64 k, .int .i64 o, .int .i64 0, .slice none 0 0, .slice none 0 0, .int .i64 most, .slice none 0 0, .slice none 0 0, .slice (some ⟨w.heap.size + 1 + 1, 0, none⟩) 1 1, .int .i64 0, .int .i64 0] 34)).alloc (.cells #[] 3)).alloc (.cells #[.slice (some ⟨w.heap.size + 1, 0, none⟩) 0 0] 29)) = w9 at *
    obtain ⟨z0, z1, z2, z3, z4, z5, z6, z7, z8, z9, z10, z11⟩ := unhide HC1
    have HS : ∀ X : Nat → Prop, (∀ j, X j → j < w.heap.size) → ∀ wz, Bx X w9 wz → RdC wz ⟨1, k, o, most, [], none, 0, [], none, 0, [⟨[], some ⟨w.heap.size + 1, 0, none⟩, 0⟩], some ⟨w.heap.size + 1 + 1, 0, none⟩, 1, 0, 0⟩ := fun X hX wz hz => by
      refine ⟨RdLs.nil _ _, RdLs.nil _ _, ⟨.inr ⟨w.heap.size + 1 + 1, 0, rfl, fun i hi => ?_⟩, fun x hx => ?_⟩, rfl, fun _ i h => absurd h (Nat.not_lt_zero _), Nat.zero_le _, (show 1 ≤ 100000000 by decide)⟩
      · obtain rfl : i = 0 := by simpa using hi
        exact hz.cell (unhide HC3) (fun k => by have : w.heap.size + 1 + 1 < w.heap.size := hX _ k; omega)
      · rw [List.mem_singleton] at hx
        subst hx
        exact ⟨.inl rfl, fun e => (by cases e), Nat.le_refl _, Nat.zero_le _⟩
    refine bodyPost_ret (v := .tuple #[cvV ⟨1, k, o, most, [], none, 0, [], none, 0, [⟨[], some ⟨w.heap.size + 1, 0, none⟩, 0⟩], some ⟨w.heap.size + 1 + 1, 0, none⟩, 1, 0, 0⟩, .int .i64 0]) ?_ rfl ⟨⟨1, k, o, most, [], none, 0, [], none, 0, [⟨[], some ⟨w.heap.size + 1, 0, none⟩, 0⟩], some ⟨w.heap.size + 1 + 1, 0, none⟩, 1, 0, 0⟩, by rw [unhide HE], fun _ => ⟨rfl, HS (fun _ => False) (fun _ q => q.elim) w9 (Bx.refl _ _), ⟨⟨_, rfl⟩, fun _ => ⟨rfl, rfl⟩, fun _ => ⟨rfl, rfl⟩⟩, HS⟩, unhide HB1⟩
    dsimp only [List.length_nil, List.length_cons] at z0 z1 z2 z3 z4 z5 z6 z7 z8 z9 z10 z11
    simp [results, Try.results12, go_sem, cvV, z0, z1, z2, z3, z4, z5, z6, z7, z8, z9, z10, z11]
  · clear h3
    have C1 : Cb (((w.alloc (.cells #[.int .i64 2, .int .i64 k, .int .i64 o, .int .i64 0, .slice none 0 0, .slice none 0 0, .int .i64 most, .slice none 0 0, .slice none 0 0, .slice (some ⟨w.heap.size + 1 + 1, 0, none⟩) 1 1, .int .i64 0, .int .i64 0] 34)).alloc (.cells #[] 3)).alloc (.cells #[.slice (some ⟨w.heap.size + 1, 0, none⟩) 0 0] 29)) w.heap.size ⟨2, k, o, most, [], none, 0, [], none, 0, [⟨[], some ⟨w.heap.size + 1, 0, none⟩, 0⟩], some ⟨w.heap.size + 1 + 1, 0, none⟩, 1, 0, 0⟩ := ((Cb.alloc w ⟨2, k, o, most, [], none, 0, [], none, 0, [⟨[], some ⟨w.heap.size + 1, 0, none⟩, 0⟩], some ⟨w.heap.size + 1 + 1, 0, none⟩, 1, 0, 0⟩ 34).below (ballo _ _)).below (ballo _ _)
    have b1 : Below w.heap.size w (((w.alloc (.cells #[.int .i64 2, .int .i64 k, .int .i64 o, .int .i64 0, .slice none 0 0, .slice none 0 0, .int .i64 most, .slice none 0 0, .slice none 0 0, .slice (some ⟨w.heap.size + 1 + 1, 0, none⟩) 1 1, .int .i64 0, .int .i64 0] 34)).alloc (.cells #[] 3)).alloc (.cells #[.slice (some ⟨w.heap.size + 1, 0, none⟩) 0 0] 29)) := bstep (bstep (ballo _ _) (ballo _ _)) (ballo _ _)
    have e2 : ((w.alloc (.cells #[.int .i64 2, .int .i64 k, .int .i64 o, .int .i64 0, .slice none 0 0, .slice none 0 0, .int .i64 most, .slice none 0 0, .slice none 0 0, .slice (some ⟨w.heap.size + 1 + 1, 0, none⟩) 1 1, .int .i64 0, .int .i64 0] 34)).alloc (.cells #[] 3)).heap.size = w.heap.size + 1 + 1 := by simp
    have c3 : (((w.alloc (.cells #[.int .i64 2, .int .i64 k, .int .i64 o, .int .i64 0, .slice none 0 0, .slice none 0 0, .int .i64 most, .slice none 0 0, .slice none 0 0, .slice (some ⟨w.heap.size + 1 + 1, 0, none⟩) 1 1, .int .i64 0, .int .i64 0] 34)).alloc (.cells #[] 3)).alloc (.cells #[.slice (some ⟨w.heap.size + 1, 0, none⟩) 0 0] 29)).cell? ⟨w.heap.size + 1 + 1, 0, none⟩ = some (.slice (some ⟨w.heap.size + 1, 0, none⟩) 0 0) := by
      have := (Bk.new ((w.alloc (.cells #[.int .i64 2, .int .i64 k, .int .i64 o, .int .i64 0, .slice none 0 0, .slice none 0 0, .int .i64 most, .slice none 0 0, .slice none 0 0, .slice (some ⟨w.heap.size + 1 + 1, 0, none⟩) 1 1, .int .i64 0, .int .i64 0] 34)).alloc (.cells #[] 3)) [.slice (some ⟨w.heap.size + 1, 0, none⟩) 0 0] 29).cell 0
      rw [e2] at this
      exact this
    have HC1 := hide C1
    have HB1 := hide b1
    have HC3 := hide c3
    clear C1 b1 e2 c3
    go_enter Try.func12, Try.ntmps12
    go_wp2
    generalize (((w.alloc (.cells #[.int .i64 2, .int .i64 k, .int .i64 o, .int .i64 0, .slice none 0 0, .slice none 0 0, .int .i64 most, .slice none 0 0, .slice none 0 0, .slice (some ⟨w.heap.size + 1 + 1, 0, none⟩) 1 1, .int .i64 0, .int .i64 0] 34)).alloc (.cells #[] 3)).alloc (.cells #[.slice (some ⟨w.heap.size + 1, 0, none⟩) 0 0] 29)) = w9 at *
    obtain ⟨z0, z1, z2, z3, z4, z5, z6, z7, z8, z9, z10, z11⟩ := unhide HC1
    have HS : ∀ X : Nat → Prop, (∀ j, X j → j < w.heap.size) → ∀ wz, Bx X w9 wz → RdC wz ⟨2, k, o, most, [], none, 0, [], none, 0, [⟨[], some ⟨w.heap.size + 1, 0, none⟩, 0⟩], some ⟨w.heap.size + 1 + 1, 0, none⟩, 1, 0, 0⟩ := fun X hX wz hz => by
      refine ⟨RdLs.nil _ _, RdLs.nil _ _, ⟨.inr ⟨w.heap.size + 1 + 1, 0, rfl, fun i hi => ?_⟩, fun x hx => ?_⟩, rfl, fun _ i h => absurd h (Nat.not_lt_zero _), Nat.zero_le _, (show 1 ≤ 100000000 by decide)⟩
      · obtain rfl : i = 0 := by simpa using hi
        exact hz.cell (unhide HC3) (fun k => by have : w.heap.size + 1 + 1 < w.heap.size := hX _ k; omega)
      · rw [List.mem_singleton] at hx
        subst hx
        exact ⟨.inl rfl, fun e => (by cases e), Nat.le_refl _, Nat.zero_le _⟩
    refine bodyPost_ret (v := .tuple #[cvV ⟨2, k, o, most, [], none, 0, [], none, 0, [⟨[], some ⟨w.heap.size + 1, 0, none⟩, 0⟩], some ⟨w.heap.size + 1 + 1, 0, none⟩, 1, 0, 0⟩, .int .i64 0]) ?_ rfl ⟨⟨2, k, o, most, [], none, 0, [], none, 0, [⟨[], some ⟨w.heap.size + 1, 0, none⟩, 0⟩], some ⟨w.heap.size + 1 + 1, 0, none⟩, 1, 0, 0⟩, by rw [unhide HE], fun _ => ⟨rfl, HS (fun _ => False) (fun _ q => q.elim) w9 (Bx.refl _ _), ⟨⟨_, rfl⟩, fun _ => ⟨rfl, rfl⟩, fun _ => ⟨rfl, rfl⟩⟩, HS⟩, unhide HB1⟩
    dsimp only [List.length_nil, List.length_cons] at z0 z1 z2 z3 z4 z5 z6 z7 z8 z9 z10 z11
    simp [results, Try.results12, go_sem, cvV, z0, z1, z2, z3, z4, z5, z6, z7, z8, z9, z10, z11]

end Go.Proofs.Ytemalidanjfmkaa
