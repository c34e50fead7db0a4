/-
  The program's reader of answers: a line; the answer that a reply is.
-/
import Derived.Test.YtagoilabphmdfaaDoorHSrc
import Derived.Test.YtagoilabphmdfaaDoorHRep
namespace Go.Proofs.YtagoilabphmdfaaDoor
open Go.RowKit

/-- An answer has no more than its kind has. -/
def Nrm (p : Pa) : Prop :=
  (∃ l a c, p = ⟨⟨1, l, []⟩, a, c, none, 0⟩) ∨ p = ⟨⟨2, [], []⟩, none, 0, none, 0⟩ ∨ ∃ l a c, p = ⟨⟨3, [], l⟩, none, 0, a, c⟩
/-- What line leaves. -/
def LiPost (w : World) (sb : Nat) (a : Option Addr) (c : Nat) (b : List UInt8) (r : An × Nat × Int) (e : Ending) (w' : World) : Prop :=
  ∃ rv, e = .returned (.tuple #[rv, .int .i64 r.2.2]) ∧ Sr w' sb a c b r.2.1 ∧ w.grownBy w' (some sb) ∧
    (r.2.2 = 0 → ∃ p : Pa, Nrm p ∧ rv = rpV p ∧ p.an = r.1 ∧ OwnL .i64 3 w' w.heap.size (.slice p.a1 p.an.out.length p.c1) p.an.out ∧ OwnL .i64 3 w' w.heap.size (.slice p.a2 p.an.word.length p.c2) p.an.word)

theorem linP_y {b : List UInt8} {x : Nat} (h : bt8 b x = 121) : linP b x = (if (brkP b (x + 1)).2 = 0 then ⟨2, [], []⟩ else an0, brkP b (x + 1)) := by unfold linP; rw [if_pos h]
theorem linP_e {b : List UInt8} {x : Nat} (h : bt8 b x = 111 ∨ bt8 b x = 110) (h2 : (nmsP b b.length [] (x + 1)).2.2 ≠ 0) : linP b x = (an0, (nmsP b b.length [] (x + 1)).2.1, (nmsP b b.length [] (x + 1)).2.2) := by
  unfold linP; rw [if_neg (by omega), if_pos h]; simp only; rw [if_pos h2]
theorem linP_o {b : List UInt8} {x : Nat} (h : bt8 b x = 111) (h2 : (nmsP b b.length [] (x + 1)).2.2 = 0) : linP b x = (if (brkP b (nmsP b b.length [] (x + 1)).2.1).2 = 0 then ⟨1, (nmsP b b.length [] (x + 1)).1, []⟩ else an0, brkP b (nmsP b b.length [] (x + 1)).2.1) := by
  unfold linP; rw [if_neg (by omega), if_pos (.inl h)]; simp only; rw [if_neg (by simpa using h2), if_pos h]
theorem linP_n {b : List UInt8} {x : Nat} (h : bt8 b x = 110) (h2 : (nmsP b b.length [] (x + 1)).2.2 = 0) : linP b x = (if (brkP b (nmsP b b.length [] (x + 1)).2.1).2 = 0 then ⟨3, [], (nmsP b b.length [] (x + 1)).1⟩ else an0, brkP b (nmsP b b.length [] (x + 1)).2.1) := by
  unfold linP; rw [if_neg (by omega), if_pos (.inr h)]; simp only; rw [if_neg (by simpa using h2)]; rw [if_neg (show ¬ bt8 b x = 111 by omega)]
theorem linP_no {b : List UInt8} {x : Nat} (h1 : bt8 b x ≠ 111) (h2 : bt8 b x ≠ 121) (h3 : bt8 b x ≠ 110) : linP b x = (an0, x, 6) := by
  unfold linP; rw [if_neg h2, if_neg (by omega)]

set_option maxRecDepth 100000 in
set_option maxHeartbeats 4000000 in
theorem line_any (sb : Nat) (a : Option Addr) (c : Nat) (b : List UInt8) (x : Nat) (w : World) (h : Sr w sb a c b x) (hx : x < b.length) (hb : b.length ≤ 16777216) :
    Calls Tryd.prog 22 #[.pointer (some ⟨sb, 0, none⟩)] w (LiPost w sb a c b (linP b x)) := by
  have hsb := h.lt
  have HA := hide h.blk
  have HS := hide h
  obtain ⟨p0, p1, pf, prd, ple, poff⟩ := id h
  obtain ⟨g, off, rfl, hc⟩ := prd.byte hx
  have hci := hc x hx
  have hx' : (x : Int) < (b.length : Int) := by omega
  clear hc prd poff ple h
  by_cases z1 : bt8 b x = 111
  · have t1 : (bt8 b x == 111) = true := by simpa using z1
    have hEe := fun h2 => linP_e (b := b) (x := x) (.inl z1) h2
    have hEo := fun h2 => linP_o (b := b) (x := x) z1 h2
    have HEe := hide hEe
    have HEo := hide hEo
    clear hEe hEo z1
    generalize bt8 b x = z at *
    go_enter Tryd.func22, Tryd.ntmps22
    go_wp2
    go_quiet (fail)
    go_wp2_with fail
    have hn := numbers_any sb (some ⟨g, off, none⟩) c b x (w.drewN nq) ((unhide HS).drewN nq) hx hb
    refine hn.mono ?_
    rintro e w1 ⟨v1, rfl, ho1, hs1, hg1⟩
    have hg : w.grownBy w1 (some sb) := gr_trans (gr_drewN (gr_refl _ _) nq) hg1
    have hz : (w.drewN nq).heap.size = w.heap.size := by simp
    rw [hz] at ho1
    obtain ⟨a1, c1, rfl, -⟩ := ho1.shape
    clear hn hg1 hci p0 p1 pf hz
    by_cases h2 : (nmsP b b.length [] (x + 1)).2.2 = 0
    · have HE := hide (unhide HEo h2)
      have t2 : ((nmsP b b.length [] (x + 1)).2.2 != 0) = false := by simp [h2]
      clear HEe HEo h2
      generalize nmsP b b.length [] (x + 1) = r at *
      have hlb := lineBreak_any sb (some ⟨g, off, none⟩) c b r.2.1 w1 hs1 hb
      go_wp2_with fail
      refine hlb.mono ?_
      rintro e w2 ⟨rfl, hs2, hg2⟩
      go_wp2
      go_ret2
      refine ⟨_, by rw [unhide HE]; rfl, by rw [unhide HE]; exact hs2, gr_trans hg hg2, fun h0 => ?_⟩
      rw [unhide HE] at h0 ⊢
      exact ⟨⟨⟨1, r.1, []⟩, a1, c1, none, 0⟩, .inl ⟨_, _, _, rfl⟩, by unfold rpV; rw [if_pos rfl]; rfl, by simp only at h0 ⊢; rw [if_pos h0], ho1.gr hg2 hsb, OwnL.nil _ _ _ _⟩
    · have HE := hide (unhide HEe h2)
      have t2 : ((nmsP b b.length [] (x + 1)).2.2 != 0) = true := by simpa using h2
      have H2 := hide h2
      clear HEe HEo h2
      generalize nmsP b b.length [] (x + 1) = r at *
      go_wp2
      go_ret2
      refine ⟨_, by rw [unhide HE]; rfl, by rw [unhide HE]; exact hs1, hg, fun h0 => ?_⟩
      rw [unhide HE] at h0
      exact absurd h0 (unhide H2)
  have t1 : (bt8 b x == 111) = false := by simpa using z1
  by_cases z2 : bt8 b x = 121
  · have t2 : (bt8 b x == 121) = true := by simpa using z2
    have HE := hide (linP_y (b := b) (x := x) z2)
    clear z1 z2
    generalize bt8 b x = z at *
    have hlb := fun n => lineBreak_any sb (some ⟨g, off, none⟩) c b (x + 1) _ (Sr.set (j := x + 1) ((unhide HS).drewN n) (show x + 1 ≤ b.length by omega)) hb
    go_enter Tryd.func22, Tryd.ntmps22
    go_wp2
    go_quiet (fail)
    go_wp2_with fail
    refine (hlb nq).mono ?_
    rintro e w2 ⟨rfl, hs2, hg2⟩
    go_wp2
    go_ret2
    refine ⟨_, by rw [unhide HE]; rfl, by rw [unhide HE]; exact hs2, gr_trans (gr_set (gr_drewN (gr_refl _ _) nq) _ _) hg2, fun h0 => ?_⟩
    rw [unhide HE] at h0 ⊢
    exact ⟨⟨⟨2, [], []⟩, none, 0, none, 0⟩, .inr (.inl rfl), by unfold rpV; rw [if_neg (by decide), if_pos rfl]; rfl, by simp only at h0 ⊢; rw [if_pos h0], OwnL.nil _ _ _ _, OwnL.nil _ _ _ _⟩
  have t2 : (bt8 b x == 121) = false := by simpa using z2
  by_cases z3 : bt8 b x = 110
  · have t3 : (bt8 b x == 110) = true := by simpa using z3
    clear z1 z2
    have z1 := z3
    clear z3
    have hEe := fun h2 => linP_e (b := b) (x := x) (.inr z1) h2
    have hEo := fun h2 => linP_n (b := b) (x := x) z1 h2
    have HEe := hide hEe
    have HEo := hide hEo
    clear hEe hEo z1
    generalize bt8 b x = z at *
    go_enter Tryd.func22, Tryd.ntmps22
    go_wp2
    go_quiet (fail)
    go_wp2_with fail
    have hn := numbers_any sb (some ⟨g, off, none⟩) c b x (w.drewN nq) ((unhide HS).drewN nq) hx hb
    refine hn.mono ?_
    rintro e w1 ⟨v1, rfl, ho1, hs1, hg1⟩
    have hg : w.grownBy w1 (some sb) := gr_trans (gr_drewN (gr_refl _ _) nq) hg1
    have hz : (w.drewN nq).heap.size = w.heap.size := by simp
    rw [hz] at ho1
    obtain ⟨a1, c1, rfl, -⟩ := ho1.shape
    clear hn hg1 hci p0 p1 pf hz
    by_cases h2 : (nmsP b b.length [] (x + 1)).2.2 = 0
    · have HE := hide (unhide HEo h2)
      have t2 : ((nmsP b b.length [] (x + 1)).2.2 != 0) = false := by simp [h2]
      clear HEe HEo h2
      generalize nmsP b b.length [] (x + 1) = r at *
      have hlb := lineBreak_any sb (some ⟨g, off, none⟩) c b r.2.1 w1 hs1 hb
      go_wp2_with fail
      refine hlb.mono ?_
      rintro e w2 ⟨rfl, hs2, hg2⟩
      go_wp2
      go_ret2
      refine ⟨_, by rw [unhide HE]; rfl, by rw [unhide HE]; exact hs2, gr_trans hg hg2, fun h0 => ?_⟩
      rw [unhide HE] at h0 ⊢
      exact ⟨⟨⟨3, [], r.1⟩, none, 0, a1, c1⟩, .inr (.inr ⟨_, _, _, rfl⟩), by unfold rpV; rw [if_neg (by simp), if_neg (by simp), if_pos rfl]; rfl, by simp only at h0 ⊢; rw [if_pos h0], OwnL.nil _ _ _ _, ho1.gr hg2 hsb⟩
    · have HE := hide (unhide HEe h2)
      have t2 : ((nmsP b b.length [] (x + 1)).2.2 != 0) = true := by simpa using h2
      have H2 := hide h2
      clear HEe HEo h2
      generalize nmsP b b.length [] (x + 1) = r at *
      go_wp2
      go_ret2
      refine ⟨_, by rw [unhide HE]; rfl, by rw [unhide HE]; exact hs1, hg, fun h0 => ?_⟩
      rw [unhide HE] at h0
      exact absurd h0 (unhide H2)
  have t3 : (bt8 b x == 110) = false := by simpa using z3
  have HE := hide (linP_no (b := b) (x := x) z1 z2 z3)
  clear z1 z2 z3
  generalize bt8 b x = z at *
  go_enter Tryd.func22, Tryd.ntmps22
  go_wp2
  go_quiet (fail)
  go_wp2
  go_ret2
  refine ⟨_, by rw [unhide HE]; rfl, by rw [unhide HE]; exact (unhide HS).drewN _, gr_drewN (gr_refl _ _) _, fun h0 => ?_⟩
  rw [unhide HE] at h0
  exact absurd (show (6 : Int) = 0 from h0) (by decide)

/-! ### The answer that a reply is -/
theorem methS (v : Value) (w : World) : (Go.method 212 56 v "tutor/teach.answer").run Tryd.prog w = .ok (62, v) w := by kernel_rfl
theorem methY (v : Value) (w : World) : (Go.method 212 59 v "tutor/teach.answer").run Tryd.prog w = .ok (63, v) w := by kernel_rfl
theorem methN (v : Value) (w : World) : (Go.method 212 61 v "tutor/teach.answer").run Tryd.prog w = .ok (64, v) w := by kernel_rfl

set_option maxRecDepth 100000 in
set_option maxHeartbeats 4000000 in
theorem ansS_any (a : Option Addr) (n c : Nat) (w : World) : Calls Tryd.prog 62 #[.agg #[.slice a n c]] w fun e w' => e = .returned (.agg #[.int .i64 1, .slice a n c, .slice none 0 0]) ∧ Below w.heap.size w w' := by
  go_enter Tryd.func62, Tryd.ntmps62
  go_wp2
  refine bodyPost_ret (v := .agg #[.int .i64 1, .slice a n c, .slice none 0 0]) ?_ rfl ?_
  · simp [results, Tryd.results62, go_sem]
  · exact ⟨rfl, bstep (ballo _ _) (ballo _ _)⟩

set_option maxRecDepth 100000 in
set_option maxHeartbeats 4000000 in
theorem ansN_any (a : Option Addr) (n c : Nat) (w : World) : Calls Tryd.prog 64 #[.agg #[.slice a n c]] w fun e w' => e = .returned (.agg #[.int .i64 3, .slice none 0 0, .slice a n c]) ∧ Below w.heap.size w w' := by
  go_enter Tryd.func64, Tryd.ntmps64
  go_wp2
  refine bodyPost_ret (v := .agg #[.int .i64 3, .slice none 0 0, .slice a n c]) ?_ rfl ?_
  · simp [results, Tryd.results64, go_sem]
  · exact ⟨rfl, bstep (ballo _ _) (ballo _ _)⟩

set_option maxRecDepth 100000 in
set_option maxHeartbeats 4000000 in
theorem ansY_any  (w : World) : Calls Tryd.prog 63 #[.agg #[]] w fun e w' => e = .returned (.agg #[.int .i64 2, .slice none 0 0, .slice none 0 0]) ∧ Below w.heap.size w w' := by
  go_enter Tryd.func63, Tryd.ntmps63
  go_wp2
  refine bodyPost_ret (v := .agg #[.int .i64 2, .slice none 0 0, .slice none 0 0]) ?_ rfl ?_
  · simp [results, Tryd.results63, go_sem]
  · exact ⟨rfl, bstep (ballo _ _) (ballo _ _)⟩

end Go.Proofs.YtagoilabphmdfaaDoor
