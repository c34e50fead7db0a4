/-
  What the program's Reach returns, for every table.
-/
import Derived.Test.YtdlcbjbcehpooaaTWords
namespace Go.Proofs.Ytdlcbjbcehpooaa
open Go.RowKit Go.Maps

/-- A slice of lists, each in memory of its own. -/
structure LLs (w : World) (B : Nat) (v : Value) (vs : Nat → Value) (V : List (List Int)) : Prop where
  out : OwnV w B v V.length vs
  fam : Fam w B V.length vs (nsV V) (fsV V)
  ap : ∀ b, v.ownBlock = some b → ∀ i, i < V.length → (vs i).ownBlock ≠ some b
theorem LLs.nil (w : World) (B : Nat) (vs : Nat → Value) : LLs w B (.slice none 0 0) vs [] := ⟨OwnV.nil _ _ _, Fam.zero _ _ _ _ _, fun b e => by cases e⟩
theorem LLs.below {w w' : World} {B : Nat} {v : Value} {vs : Nat → Value} {V : List (List Int)} (h : LLs w B v vs V) (hb : Below w.heap.size w w') : LLs w' B v vs V := ⟨h.out.below hb, h.fam.below hb, h.ap⟩
theorem LLs.base {w : World} {B B' : Nat} {v : Value} {vs : Nat → Value} {V : List (List Int)} (h : LLs w B v vs V) (hb : B' ≤ B) : LLs w B' v vs V := ⟨h.out.base hb, ⟨fun i hi => (h.fam.own i hi).base hb, h.fam.apart⟩, h.ap⟩

/-- Reach, as the document has it: the states, the words, the error. -/
def rcV (m : Mc) : List Int × List (List Int) × Int := if (mchV m).2 ≠ 0 then ([], [], (mchV m).2) else ((rchV m).1, (rchV m).2, 0)
theorem rcV_err {m : Mc} (h : (mchV m).2 ≠ 0) : rcV m = ([], [], (mchV m).2) := by unfold rcV; rw [if_pos h]
theorem rcV_ok {m : Mc} (h : (mchV m).2 = 0) : rcV m = ((rchV m).1, (rchV m).2, 0) := by unfold rcV; rw [if_neg (by simp [h])]

/-- What Reach leaves. -/
def RcPost (m : Mc) (w : World) (e : Ending) (w' : World) : Prop :=
  ∃ v vv vs, e = .returned (.tuple #[v, vv, .int .i64 (rcV m).2.2]) ∧ OwnL .i64 3 w' w.heap.size v (rcV m).1 ∧ LLs w' w.heap.size vv vs (rcV m).2.1 ∧ (∀ b, v.ownBlock = some b → vv.ownBlock ≠ some b ∧ ∀ i, i < (rcV m).2.1.length → (vs i).ownBlock ≠ some b) ∧ Below w.heap.size w w'

set_option maxHeartbeats 1000000 in
theorem reach_any (m : Mc) (a1 : Option Addr) (c1 : Nat) (a2 : Option Addr) (c2 : Nat) (w : World) (h1 : RdL .i64 w a1 m.nx) (h2 : RdL .i64 w a2 m.out) (hn : m.nx.length ≤ maxLen) (ho : m.out.length ≤ maxLen) :
    Calls Try.prog 12 #[mval m a1 c1 a2 c2] w fun e w' => RcPost m w e w' := by
  unfold mval
  have B0 := Box.alloc w m a1 c1 a2 c2 24
  have b0 := ballo w (.cells #[.int .i64 m.kind, .int .i64 m.k, .int .i64 m.o, .int .i64 m.n, .slice a1 m.nx.length c1, .slice a2 m.out.length c2] 24)
  by_cases hz : (mchV m).2 = 0
  rotate_left
  · have H := hide (rcV_err hz)
    have tz := ne_bne hz
    clear hz
    go_enter Try.func12, Try.ntmps12
    go_wp2_with fail
    refine (mcheck_any m a1 c1 a2 c2 _ (h1.below b0) (h2.below b0) hn ho).mono ?_
    rintro e w1 ⟨rfl, hb1⟩
    have b1 := bstep b0 hb1
    clear hb1 h1 h2 B0 b0
    go_wp2
    go_ret3
    refine ⟨.slice none 0 0, .slice none 0 0, fun _ => .slice none 0 0, by rw [unhide H]; rfl, by rw [unhide H]; exact OwnL.nil _ _ _ _, by rw [unhide H]; exact LLs.nil _ _ _, (fun b e => by cases e), b1⟩
  have R := right_of hz
  have HZ := hide hz
  have HR := hide R
  have H := hide (rcV_ok hz)
  clear R hz
  go_enter Try.func12, Try.ntmps12
  go_wp2_with fail
  refine (mcheck_any m a1 c1 a2 c2 _ (h1.below b0) (h2.below b0) hn ho).mono ?_
  rw [unhide HZ]
  rintro e w1 ⟨rfl, hb1⟩
  have b1 := bstep b0 hb1
  have B1 := B0.below hb1
  obtain ⟨q0, q1, q2, q3, q4, q5⟩ := id B1
  have hbw := World.block_lt_of_cell? w1 _ q0
  clear hb1 B0 b0
  go_wp2_with fail
  refine (search_any m a1 c1 a2 c2 w1 (unhide HR) (h1.below b1)).mono ?_
  rintro e w2 ⟨v, vw, W, rfl, hv, hN, hw, hy, hb2⟩
  have b2 := bstep b1 hb2
  have B2 := B1.below hb2
  have hz2 := hb2.size
  obtain ⟨p0, p1, p2, p3, p4, p5⟩ := B2.below (ballo w2 (.cells #[v, .map (some (w1.heap.size + 3))] 58))
  obtain ⟨av, cv, rfl, -, -, -, -, hva⟩ := hv.shape
  obtain ⟨aw, cw, rfl, -, -, -, hwr, -⟩ := hw.shape
  clear B1 B2 q0 q1 q2 q3 q4 q5
  have b3 : Below w2.heap.size w2 (w2.alloc (.cells #[.slice av (rchV m).1.length cv, .map (some (w1.heap.size + 3))] 58)).drew := bstep (ballo _ _) (bdrew1 _)
  have z3 : (w2.alloc (.cells #[.slice av (rchV m).1.length cv, .map (some (w1.heap.size + 3))] 58)).drew.heap.size = w2.heap.size + 1 := by simp
  have hN3 := hN.below b3
  have hw3 := hwr.below b3
  have hv3 := hv.grown b3
  have t0 : (w2.alloc (.cells #[.slice av (rchV m).1.length cv, .map (some (w1.heap.size + 3))] 58)).drew.cell? ⟨w2.heap.size, 0, none⟩ = some (.slice av (rchV m).1.length cv) := by simp
  have t1 : (w2.alloc (.cells #[.slice av (rchV m).1.length cv, .map (some (w1.heap.size + 3))] 58)).drew.cell? ⟨w2.heap.size, 1, none⟩ = some (.map (some (w1.heap.size + 3))) := by simp
  go_wp2
  go_region_with (go_at_call 32; go_loud (refine (access_any m av cv (w1.heap.size + 3) aw cw (rchV m).1 (rchV m).2 W _ (unhide HR) (rchV_inv (unhide HR)) hy hN3 hw3).mono ?_; rintro e w4 ⟨vv, vs, rfl, hO, hF, hA, hb4⟩; have b4 := bstep (bstep b2 b3) hb4; have hv4 := hv3.grown hb4; have x0 := (hb4.cell (p := ⟨w2.heap.size, 0, none⟩) (by rw [z3]; exact Nat.lt_succ_self _)).trans t0; have x1 := (hb4.cell (p := ⟨w2.heap.size, 1, none⟩) (by rw [z3]; exact Nat.lt_succ_self _)).trans t1; have LL : LLs w4 (w2.heap.size + 1) vv vs (rchV m).2 := ⟨z3 ▸ hO, z3 ▸ hF, hA⟩; clear hO hF hA hb4; obtain ⟨avv, cvv, evv, -, -, -⟩ := LL.out.shape; subst evv))
  all_goals
    go_wp2
    go_ret3
    have hzw := b1.size
    refine ⟨_, _, vs, by rw [unhide H]; rfl, by rw [unhide H]; exact hv4.mono hzw, by rw [unhide H]; exact LL.base (by omega), fun b e => ?_, b4⟩
    have hb := (hv.lt e).2
    rw [unhide H]
    exact ⟨fun e2 => by have := (LL.out.lt e2).1; omega, fun i hi e2 => by have := ((LL.fam.own i hi).lt e2).1; omega⟩

end Go.Proofs.Ytdlcbjbcehpooaa
