/-
  The page's example of layer 4: live returns true in every world, and turns nothing that was there.
-/
import Derived.Test.YtdlcbjbcehpooaaTTurn
import Derived.Test.YtdlcbjbcehpooaaTRc
import Derived.Test.YtdlcbjbcehpooaaLsts
namespace Go.Proofs.Ytdlcbjbcehpooaa
open Go.RowKit Go.Maps

/-- A slice of lists reads as V. -/
structure RdLL (w : World) (a : Option Addr) (vs : Nat → Value) (V : List (List Int)) : Prop where
  rd : RdV w a V.length vs
  el : ∀ i, i < V.length → ∃ ai ci, vs i = .slice ai (V.getD i []).length ci ∧ RdL .i64 w ai (V.getD i [])
theorem RdLL.below {w w' : World} {a : Option Addr} {vs : Nat → Value} {V : List (List Int)} (h : RdLL w a vs V) (hb : Below w.heap.size w w') : RdLL w' a vs V :=
  ⟨h.rd.below hb, fun i hi => by obtain ⟨ai, ci, e, r⟩ := h.el i hi; exact ⟨ai, ci, e, r.below hb⟩⟩
theorem LLs.rd {w : World} {B : Nat} {v : Value} {vs : Nat → Value} {V : List (List Int)} (h : LLs w B v vs V) : ∃ a c, v = .slice a V.length c ∧ RdLL w a vs V := by
  obtain ⟨a, c, e, _, _, r⟩ := h.out.shape
  refine ⟨a, c, e, r, fun i hi => ?_⟩
  obtain ⟨ai, ci, e1, _, _, r1, _⟩ := (h.fam.own i hi).shape
  exact ⟨ai, ci, e1, r1⟩
theorem lists_same (a a' : Option Addr) (c c' : Nat) (vs vs' : Nat → Value) (V : List (List Int)) (w : World) (h : RdLL w a vs V) (h' : RdLL w a' vs' V) (hN : V.length ≤ maxLen) (hl : ∀ i, i < V.length → (V.getD i []).length ≤ maxLen) :
    Calls Try.prog 15 #[.slice a V.length c, .slice a' V.length c'] w fun e w' => e = .returned (.bool true) ∧ Below w.heap.size w w' :=
  lists_any a a' V.length c c' vs vs' (nsV V) (fsV V) w h.rd h'.rd hN fun i hi => by
    obtain ⟨ai, ci, e, r⟩ := h.el i hi
    obtain ⟨bi, di, e2, r2⟩ := h'.el i hi
    exact ⟨ai, ci, bi, di, e, r, e2, r2, hl i hi⟩

theorem num_any (e : Int) (w : World) : Calls Try.prog 16 #[.int .i64 e] w fun x w' => x = .returned (.int .i64 e) ∧ w' = w := by
  go_enter Try.func16, Try.ntmps16
  go_wp2
  go_ret
  exact ⟨rfl, rfl⟩

def mL : Mc := ⟨1, 1, 2, 3, [2, 1, 0], [0, 1, 1]⟩
def cL : Mc := ⟨1, 1, 2, 2, [1, 0], [0, 1]⟩
theorem rcL : rcV mL = ([0, 2], [[], [0]], 0) := by decide +kernel
theorem cnL : cnV mL = (cL, 0) := by
  have h : (mchV mL).2 = 0 := by decide
  rw [cnV_ok h]
  have h1 : canM mL = cL := by
    unfold canM pickV cL
    congr 1
  rw [h1]

set_option maxRecDepth 100000 in
set_option maxHeartbeats 1000000 in
theorem live_any (w : World) : Calls Try.prog 10 #[] w fun e w' => e = .returned (.bool true) ∧ Below w.heap.size w w' := by
  have w0e : ∃ w0, w0 = ((w.alloc (.cells #[.int .i64 2, .int .i64 1, .int .i64 0] 3)).alloc (.cells #[.int .i64 0, .int .i64 1, .int .i64 1] 3)).alloc (.cells #[.int .i64 1, .int .i64 1, .int .i64 2, .int .i64 3, .slice (some ⟨w.heap.size, 0, none⟩) 3 3, .slice (some ⟨w.heap.size + 1, 0, none⟩) 3 3] 24) := ⟨_, rfl⟩
  obtain ⟨w0, w0e⟩ := w0e
  have b0 : Below w.heap.size w w0 := by rw [w0e]; exact bstep (bstep (ballo _ _) (ballo _ _)) (ballo _ _)
  have r1 : RdL .i64 w0 (some ⟨w.heap.size, 0, none⟩) [2, 1, 0] := by
    rw [w0e]; exact (RdL.lit (q := .i64) (t := 3) w [2, 1, 0] #[.int .i64 2, .int .i64 1, .int .i64 0] (by decide) rfl).below (bstep (ballo _ _) (ballo _ _))
  have r2 : RdL .i64 w0 (some ⟨w.heap.size + 1, 0, none⟩) [0, 1, 1] := by
    have := (RdL.lit (q := .i64) (t := 3) (w.alloc (.cells #[.int .i64 2, .int .i64 1, .int .i64 0] 3)) [0, 1, 1] #[.int .i64 0, .int .i64 1, .int .i64 1] (by decide) rfl).below (ballo _ (.cells #[.int .i64 1, .int .i64 1, .int .i64 2, .int .i64 3, .slice (some ⟨w.heap.size, 0, none⟩) 3 3, .slice (some ⟨w.heap.size + 1, 0, none⟩) 3 3] 24))
    rw [World.size_alloc] at this
    rw [w0e]; exact this
  have B0 : Box w0 (w.heap.size + 1 + 1) mL (some ⟨w.heap.size, 0, none⟩) 3 (some ⟨w.heap.size + 1, 0, none⟩) 3 := by
    have := Box.alloc ((w.alloc (.cells #[.int .i64 2, .int .i64 1, .int .i64 0] 3)).alloc (.cells #[.int .i64 0, .int .i64 1, .int .i64 1] 3)) mL (some ⟨w.heap.size, 0, none⟩) 3 (some ⟨w.heap.size + 1, 0, none⟩) 3 24
    simp only [World.size_alloc] at this
    rw [w0e]; exact this
  go_enter Try.func10, Try.ntmps10
  go_wp2_with fail
  rw [← w0e]
  refine (reach_any mL (some ⟨w.heap.size, 0, none⟩) 3 (some ⟨w.heap.size + 1, 0, none⟩) 3 w0 r1 r2 (by decide) (by decide)).mono ?_
  rintro e w1 ⟨v, vv, vs, rfl, hv, hLL, -, hb1⟩
  rw [rcL] at hv hLL ⊢
  obtain ⟨av, cv, ev, -, -, -, rv, -⟩ := hv.shape
  subst ev
  obtain ⟨al, cl, el, rl⟩ := hLL.rd
  subst el
  have b1 := bstep b0 hb1
  have r1 := r1.below hb1
  have r2 := r2.below hb1
  obtain ⟨p0, p1, p2, p3, p4, p5⟩ := B0.below hb1
  clear hv hLL hb1 B0 b0 w0e
  go_wp2_with fail
  refine (canon_any mL (some ⟨w.heap.size, 0, none⟩) 3 (some ⟨w.heap.size + 1, 0, none⟩) 3 w1 r1 r2 (by decide) (by decide) (by decide)).mono ?_
  rintro e w2 ⟨d1, e1, d2, e2, rfl, i1, i2, -, hb2⟩
  rw [cnL] at i1 i2 ⊢
  obtain ⟨_, _, E1, -, -, -, s1, -⟩ := i1.shape
  cases E1
  obtain ⟨_, _, E2, -, -, -, s2, -⟩ := i2.shape
  cases E2
  have b2 := bstep b1 hb2
  have b3 := ballo w2 (.cells #[.int .i64 cL.kind, .int .i64 cL.k, .int .i64 cL.o, .int .i64 cL.n, .slice d1 cL.nx.length e1, .slice d2 cL.out.length e2] 24)
  have rv := (rv.below hb2).below b3
  have rl := (rl.below hb2).below b3
  have s1 := s1.below b3
  have s2 := s2.below b3
  have C3 := Box.alloc w2 cL d1 e1 d2 e2 24
  have bb3 := bstep b2 b3
  have z3 : (w2.alloc (.cells #[.int .i64 cL.kind, .int .i64 cL.k, .int .i64 cL.o, .int .i64 cL.n, .slice d1 cL.nx.length e1, .slice d2 cL.out.length e2] 24)).heap.size = w2.heap.size + 1 := by simp
  have w3e : ∃ w3, w3 = w2.alloc (.cells #[.int .i64 cL.kind, .int .i64 cL.k, .int .i64 cL.o, .int .i64 cL.n, .slice d1 cL.nx.length e1, .slice d2 cL.out.length e2] 24) := ⟨_, rfl⟩
  obtain ⟨w3, w3e⟩ := w3e
  have C3 : Box w3 w2.heap.size cL d1 e1 d2 e2 := by rw [w3e]; exact C3
  rw [← w3e] at rv rl s1 s2 bb3 z3
  clear i1 i2 hb2 b1 b2 r1 r2 p0 p1 p2 p3 p4 p5 b3
  unfold mval
  go_wp2_with (go_at_call 16; refine (num_any _ _).mono ?_; rintro e w' ⟨rfl, rfl⟩)
  rw [← w3e]
  have l1 : RdL .i64 (w3.alloc (.cells #[.int .i64 0, .int .i64 2] 3)) (some ⟨w2.heap.size + 1, 0, none⟩) [0, 2] := by
    have := RdL.lit (q := .i64) (t := 3) w3 [0, 2] #[.int .i64 0, .int .i64 2] (by decide) rfl
    rw [z3] at this; exact this
  have c3 := ballo w3 (.cells #[.int .i64 0, .int .i64 2] 3)
  refine (same_list av (some ⟨w2.heap.size + 1, 0, none⟩) cv 2 [0, 2] [0, 2] _ (rv.below c3) l1 (by decide)).mono ?_
  rw [show decide (([0, 2] : List Int) = [0, 2]) = true from rfl]
  rintro e w4 ⟨rfl, hb4⟩
  have b4 := bstep bb3 (bstep c3 hb4)
  have x4 := bstep c3 hb4
  have rl := rl.below x4
  have s1 := s1.below x4
  have s2 := s2.below x4
  have C4 := C3.below x4
  clear hb4 l1 rv c3 C3 bb3 z3 w3e
  have l2 : RdLL (((w4.alloc (.cells #[] 3)).alloc (.cells #[.int .i64 0] 3)).alloc (.cells #[.slice (some ⟨w4.heap.size, 0, none⟩) 0 0, .slice (some ⟨w4.heap.size + 1, 0, none⟩) 1 1] 22)) (some ⟨w4.heap.size + 1 + 1, 0, none⟩) (fun i => if i = 0 then .slice (some ⟨w4.heap.size, 0, none⟩) 0 0 else .slice (some ⟨w4.heap.size + 1, 0, none⟩) 1 1) [[], [0]] := by
    refine ⟨?_, fun i hi => ?_⟩
    · have := RdV.lit ((w4.alloc (.cells #[] 3)).alloc (.cells #[.int .i64 0] 3)) 2 (fun i => if i = 0 then .slice (some ⟨w4.heap.size, 0, none⟩) 0 0 else .slice (some ⟨w4.heap.size + 1, 0, none⟩) 1 1) #[.slice (some ⟨w4.heap.size, 0, none⟩) 0 0, .slice (some ⟨w4.heap.size + 1, 0, none⟩) 1 1] (by decide) rfl
      simp only [World.size_alloc] at this
      exact this
    · match i, hi with
      | 0, _ => exact ⟨_, _, rfl, .inl rfl⟩
      | 1, _ =>
        have := (RdL.one (q := .i64) (t := 3) (w4.alloc (.cells #[] 3)) 0).below (ballo _ (.cells #[.slice (some ⟨w4.heap.size, 0, none⟩) 0 0, .slice (some ⟨w4.heap.size + 1, 0, none⟩) 1 1] 22))
        rw [World.size_alloc] at this
        exact ⟨_, _, rfl, this⟩
      | n + 2, h => exact absurd h (by show ¬ n + 2 < 2; omega)
  have c5 := bstep (bstep (ballo w4 (.cells #[] 3)) (ballo _ (.cells #[.int .i64 0] 3))) (ballo _ (.cells #[.slice (some ⟨w4.heap.size, 0, none⟩) 0 0, .slice (some ⟨w4.heap.size + 1, 0, none⟩) 1 1] 22))
  have rl5 := rl.below c5
  have hl5 : ∀ i, i < ([[], [0]] : List (List Int)).length → (([[], [0]] : List (List Int)).getD i []).length ≤ maxLen := fun i hi => by
    match i, hi with
    | 0, _ => decide
    | 1, _ => decide
    | n + 2, h => exact absurd h (by show ¬ n + 2 < 2; omega)
  go_wp2_with fail
  refine (lists_same al (some ⟨w4.heap.size + 1 + 1, 0, none⟩) cl 2 vs _ [[], [0]] _ rl5 l2 (by decide) hl5).mono ?_
  rintro e w6 ⟨rfl, hb6⟩
  have x6 := bstep c5 hb6
  have b6 := bstep b4 x6
  have s1 := s1.below x6
  have s2 := s2.below x6
  have C6 := C4.below x6
  obtain ⟨q0, q1, q2, q3, q4, q5⟩ := id C6
  clear hb6 l2 rl5 c5 rl x6 b4 C4 hl5
  have c6 := ballo w6 (.cells #[.int .i64 1, .int .i64 0] 3)
  go_wp2_with fail
  refine (same_list d1 (some ⟨w6.heap.size, 0, none⟩) e1 2 [1, 0] [1, 0] (w6.alloc (.cells #[.int .i64 1, .int .i64 0] 3)) (s1.below c6) (RdL.lit w6 [1, 0] _ (by decide) rfl) (by decide)).mono ?_
  rw [show decide (([1, 0] : List Int) = [1, 0]) = true from rfl]
  rintro e w7 ⟨rfl, hb7⟩
  have x7 := bstep c6 hb7
  have b7 := bstep b6 x7
  have s2 := s2.below x7
  obtain ⟨t0, t1, t2, t3, t4, t5⟩ := C6.below x7
  have c7 := ballo w7 (.cells #[.int .i64 0, .int .i64 1] 3)
  clear hb7 x7 q0 q1 q2 q3 q4 q5 C6 b6
  go_wp2_with fail
  refine (same_list d2 (some ⟨w7.heap.size, 0, none⟩) e2 2 [0, 1] [0, 1] (w7.alloc (.cells #[.int .i64 0, .int .i64 1] 3)) (s2.below c7) (RdL.lit w7 [0, 1] _ (by decide) rfl) (by decide)).mono ?_
  rw [show decide (([0, 1] : List Int) = [0, 1]) = true from rfl]
  rintro e w8 ⟨rfl, hb8⟩
  have b8 := bstep b7 (bstep c7 hb8)
  go_wp2
  go_ret
  exact ⟨rfl, b8⟩

end Go.Proofs.Ytdlcbjbcehpooaa
