/-
  The program reads the first line; the end of a text.
-/
import Derived.Test.YtdnmabemollbeaaDoorTRdS
namespace Go.Proofs.YtdnmabemollbeaaDoor
open Go.RowKit

section
variable {w w' : World} {mb B : Nat} {kd k o n : Int} {vn vo : Value} {nx out : List Int}
theorem Mo.set0 (h : Mo w mb B kd k o n vn vo nx out) (hB : mb < B) (kd' : Int) : Mo (w.setCell ⟨mb, 0, none⟩ (.int .i64 kd')) mb B kd' k o n vn vo nx out := by
  obtain ⟨p0, p1, p2, p3, p4, p5, pf, on, oo, ap⟩ := h
  have e : ∀ {x : Value} {l : List Int} {w : World}, OwnL .i64 3 w B x l → x.ownBlock ≠ some mb := fun ho e => by have := (ho.lt e).1; omega
  have d : ∀ {i j : Nat}, i ≠ j → (⟨mb, i, none⟩ : Addr) ≠ ⟨mb, j, none⟩ := fun h e => h (by injection e)
  exact ⟨by rw [World.cell?_setCell_same _ _ _ p0], by rw [World.cell?_setCell_other _ _ _ _ (d (by decide))]; exact p1, by rw [World.cell?_setCell_other _ _ _ _ (d (by decide))]; exact p2, by rw [World.cell?_setCell_other _ _ _ _ (d (by decide))]; exact p3, by rw [World.cell?_setCell_other _ _ _ _ (d (by decide))]; exact p4, by rw [World.cell?_setCell_other _ _ _ _ (d (by decide))]; exact p5, fun i => fz_set (pf i), on.set (e on) _, oo.set (e oo) _, ap⟩
theorem Mo.set1 (h : Mo w mb B kd k o n vn vo nx out) (hB : mb < B) (k' : Int) : Mo (w.setCell ⟨mb, 1, none⟩ (.int .i64 k')) mb B kd k' o n vn vo nx out := by
  obtain ⟨p0, p1, p2, p3, p4, p5, pf, on, oo, ap⟩ := h
  have e : ∀ {x : Value} {l : List Int} {w : World}, OwnL .i64 3 w B x l → x.ownBlock ≠ some mb := fun ho e => by have := (ho.lt e).1; omega
  have d : ∀ {i j : Nat}, i ≠ j → (⟨mb, i, none⟩ : Addr) ≠ ⟨mb, j, none⟩ := fun h e => h (by injection e)
  exact ⟨by rw [World.cell?_setCell_other _ _ _ _ (d (by decide))]; exact p0, by rw [World.cell?_setCell_same _ _ _ p1], by rw [World.cell?_setCell_other _ _ _ _ (d (by decide))]; exact p2, by rw [World.cell?_setCell_other _ _ _ _ (d (by decide))]; exact p3, by rw [World.cell?_setCell_other _ _ _ _ (d (by decide))]; exact p4, by rw [World.cell?_setCell_other _ _ _ _ (d (by decide))]; exact p5, fun i => fz_set (pf i), on.set (e on) _, oo.set (e oo) _, ap⟩
theorem Mo.set2 (h : Mo w mb B kd k o n vn vo nx out) (hB : mb < B) (o' : Int) : Mo (w.setCell ⟨mb, 2, none⟩ (.int .i64 o')) mb B kd k o' n vn vo nx out := by
  obtain ⟨p0, p1, p2, p3, p4, p5, pf, on, oo, ap⟩ := h
  have e : ∀ {x : Value} {l : List Int} {w : World}, OwnL .i64 3 w B x l → x.ownBlock ≠ some mb := fun ho e => by have := (ho.lt e).1; omega
  have d : ∀ {i j : Nat}, i ≠ j → (⟨mb, i, none⟩ : Addr) ≠ ⟨mb, j, none⟩ := fun h e => h (by injection e)
  exact ⟨by rw [World.cell?_setCell_other _ _ _ _ (d (by decide))]; exact p0, by rw [World.cell?_setCell_other _ _ _ _ (d (by decide))]; exact p1, by rw [World.cell?_setCell_same _ _ _ p2], by rw [World.cell?_setCell_other _ _ _ _ (d (by decide))]; exact p3, by rw [World.cell?_setCell_other _ _ _ _ (d (by decide))]; exact p4, by rw [World.cell?_setCell_other _ _ _ _ (d (by decide))]; exact p5, fun i => fz_set (pf i), on.set (e on) _, oo.set (e oo) _, ap⟩
theorem Mo.set3 (h : Mo w mb B kd k o n vn vo nx out) (hB : mb < B) (n' : Int) : Mo (w.setCell ⟨mb, 3, none⟩ (.int .i64 n')) mb B kd k o n' vn vo nx out := by
  obtain ⟨p0, p1, p2, p3, p4, p5, pf, on, oo, ap⟩ := h
  have e : ∀ {x : Value} {l : List Int} {w : World}, OwnL .i64 3 w B x l → x.ownBlock ≠ some mb := fun ho e => by have := (ho.lt e).1; omega
  have d : ∀ {i j : Nat}, i ≠ j → (⟨mb, i, none⟩ : Addr) ≠ ⟨mb, j, none⟩ := fun h e => h (by injection e)
  exact ⟨by rw [World.cell?_setCell_other _ _ _ _ (d (by decide))]; exact p0, by rw [World.cell?_setCell_other _ _ _ _ (d (by decide))]; exact p1, by rw [World.cell?_setCell_other _ _ _ _ (d (by decide))]; exact p2, by rw [World.cell?_setCell_same _ _ _ p3], by rw [World.cell?_setCell_other _ _ _ _ (d (by decide))]; exact p4, by rw [World.cell?_setCell_other _ _ _ _ (d (by decide))]; exact p5, fun i => fz_set (pf i), on.set (e on) _, oo.set (e oo) _, ap⟩
theorem Mo.set4 (h : Mo w mb B kd k o n vn vo nx out) (hB : mb < B) : Mo (w.setCell ⟨mb, 4, none⟩ vn) mb B kd k o n vn vo nx out := by
  obtain ⟨p0, p1, p2, p3, p4, p5, pf, on, oo, ap⟩ := h
  have e : ∀ {x : Value} {l : List Int} {w : World}, OwnL .i64 3 w B x l → x.ownBlock ≠ some mb := fun ho e => by have := (ho.lt e).1; omega
  have d : ∀ {i j : Nat}, i ≠ j → (⟨mb, i, none⟩ : Addr) ≠ ⟨mb, j, none⟩ := fun h e => h (by injection e)
  exact ⟨by rw [World.cell?_setCell_other _ _ _ _ (d (by decide))]; exact p0, by rw [World.cell?_setCell_other _ _ _ _ (d (by decide))]; exact p1, by rw [World.cell?_setCell_other _ _ _ _ (d (by decide))]; exact p2, by rw [World.cell?_setCell_other _ _ _ _ (d (by decide))]; exact p3, by rw [World.cell?_setCell_same _ _ _ p4], by rw [World.cell?_setCell_other _ _ _ _ (d (by decide))]; exact p5, fun i => fz_set (pf i), on.set (e on) _, oo.set (e oo) _, ap⟩
theorem Mo.set5 (h : Mo w mb B kd k o n vn vo nx out) (hB : mb < B) : Mo (w.setCell ⟨mb, 5, none⟩ vo) mb B kd k o n vn vo nx out := by
  obtain ⟨p0, p1, p2, p3, p4, p5, pf, on, oo, ap⟩ := h
  have e : ∀ {x : Value} {l : List Int} {w : World}, OwnL .i64 3 w B x l → x.ownBlock ≠ some mb := fun ho e => by have := (ho.lt e).1; omega
  have d : ∀ {i j : Nat}, i ≠ j → (⟨mb, i, none⟩ : Addr) ≠ ⟨mb, j, none⟩ := fun h e => h (by injection e)
  exact ⟨by rw [World.cell?_setCell_other _ _ _ _ (d (by decide))]; exact p0, by rw [World.cell?_setCell_other _ _ _ _ (d (by decide))]; exact p1, by rw [World.cell?_setCell_other _ _ _ _ (d (by decide))]; exact p2, by rw [World.cell?_setCell_other _ _ _ _ (d (by decide))]; exact p3, by rw [World.cell?_setCell_other _ _ _ _ (d (by decide))]; exact p4, by rw [World.cell?_setCell_same _ _ _ p5], fun i => fz_set (pf i), on.set (e on) _, oo.set (e oo) _, ap⟩
theorem Mo.six (h : Mo w mb B kd k o n vn vo nx out) (hB : mb < B) (kd' k' o' n' : Int) : Mo ((((((w.setCell ⟨mb, 0, none⟩ (.int .i64 kd')).setCell ⟨mb, 1, none⟩ (.int .i64 k')).setCell ⟨mb, 2, none⟩ (.int .i64 o')).setCell ⟨mb, 3, none⟩ (.int .i64 n')).setCell ⟨mb, 4, none⟩ vn).setCell ⟨mb, 5, none⟩ vo) mb B kd' k' o' n' vn vo nx out :=
  (((((h.set0 hB kd').set1 hB k').set2 hB o').set3 hB n').set4 hB).set5 hB
end
theorem Mo.made (w : World) (B : Nat) (kd k o n : Int) (t : TypeId) : Mo (w.alloc (.cells #[.int .i64 kd, .int .i64 k, .int .i64 o, .int .i64 n, .slice none 0 0, .slice none 0 0] t)) w.heap.size B kd k o n (.slice none 0 0) (.slice none 0 0) [] [] :=
  ⟨by simp, by simp, by simp, by simp, by simp, by simp, fun i => by simp, OwnL.nil _ _ _ _, OwnL.nil _ _ _ _, fun x h => by cases h⟩

theorem Sr.six {w1 : World} {sb mb : Nat} {a : Option Addr} {c : Nat} {b : List UInt8} {i : Nat} (h : Sr w1 sb a c b i) (hm : mb ≠ sb) (ha : 0 < b.length → ∀ x, a = some x → x.block ≠ mb) (u0 u1 u2 u3 u4 u5 : Value) : Sr ((((((w1.setCell ⟨mb, 0, none⟩ u0).setCell ⟨mb, 1, none⟩ u1).setCell ⟨mb, 2, none⟩ u2).setCell ⟨mb, 3, none⟩ u3).setCell ⟨mb, 4, none⟩ u4).setCell ⟨mb, 5, none⟩ u5) sb a c b i :=
  (((((h.setB (p := ⟨mb, 0, none⟩) hm ha u0).setB (p := ⟨mb, 1, none⟩) hm ha u1).setB (p := ⟨mb, 2, none⟩) hm ha u2).setB (p := ⟨mb, 3, none⟩) hm ha u3).setB (p := ⟨mb, 4, none⟩) hm ha u4).setB (p := ⟨mb, 5, none⟩) hm ha u5
theorem gr_new {w w1 : World} {r : Option Nat} (h : w.grownBy w1 r) {p : Addr} (hp : w.heap.size ≤ p.block) (u : Value) : w.grownBy (w1.setCell p u) r :=
  ⟨h.os, h.tape, h.output, by simpa using h.size, fun i hi hne => (Below.heap_setCell w1 _ u i (by omega)).trans (h.block i hi hne)⟩
theorem gr_six {w w1 : World} {r : Option Nat} (h : w.grownBy w1 r) {mb : Nat} (hp : w.heap.size ≤ mb) (u0 u1 u2 u3 u4 u5 : Value) : w.grownBy ((((((w1.setCell ⟨mb, 0, none⟩ u0).setCell ⟨mb, 1, none⟩ u1).setCell ⟨mb, 2, none⟩ u2).setCell ⟨mb, 3, none⟩ u3).setCell ⟨mb, 4, none⟩ u4).setCell ⟨mb, 5, none⟩ u5) r :=
  gr_new (gr_new (gr_new (gr_new (gr_new (gr_new h hp _) hp _) hp _) hp _) hp _) hp _
theorem gr_alloc {w w1 : World} {r : Option Nat} (o : Obj) (h : (w.alloc o).grownBy w1 r) : w.grownBy w1 r :=
  (World.grownBy_alloc w o r).trans h

theorem tk_stop0 {b : List UInt8} {i j : Nat} {ps qs : List Pc} {l : List (Int × Int)} {x : Nat × Int} (h : tk b i ps = .ok (l, j)) (h' : tk b j qs = .error x) : tk b i (ps ++ qs) = .error x := by
  rw [tk_app_ok h, h']; rfl

/-- What holds behind the first line. -/
def HdPost (w w' : World) (sb : Nat) (a : Option Addr) (c : Nat) (b : List UInt8) (kd k o n : Int) (r : Except (Nat × Int) (List (Int × Int) × Nat)) : Prop :=
  (∃ j, Sr w' sb a c b j ∧ ∀ l q, r = .ok (l, q) → j = q ∧ l = hdV kd k o n ∧ (kd = 1 → o = 2) ∧ 1 ≤ k ∧ k ≤ 64 ∧ 1 ≤ o ∧ o ≤ 64 ∧ 1 ≤ n ∧ n ≤ 1024) ∧ w.grownBy w' (some sb)
def hdA (kd k o n : Int) : Value := .agg #[.int .i64 kd, .int .i64 k, .int .i64 o, .int .i64 n, .slice none 0 0, .slice none 0 0]

set_option maxRecDepth 100000 in
set_option maxHeartbeats 4000000 in
theorem readSizes_d (sb : Nat) (a : Option Addr) (c : Nat) (b : List UInt8) (w : World) (hS : Sr w sb a c b 0) (hb : b.length ≤ 140737488355328) (ha : 0 < b.length → ∀ x, a = some x → x.block < w.heap.size) :
    Calls Tryd.prog 48 #[fv sb, .int .i64 1] w fun e w' => ∃ k o n, e = .returned (.tuple #[hdA 1 k o n, rdE (tk b 0 (hdP 1))]) ∧ HdPost w w' sb a c b 1 k o n (tk b 0 (hdP 1)) := by
  unfold fv
  have hl := hS.lt
  have hM0 := Mo.made w (w.heap.size + 1) 1 0 2 0 24
  have hS0 := hS.alloc (.cells #[.int .i64 1, .int .i64 0, .int .i64 2, .int .i64 0, .slice none 0 0, .slice none 0 0] 24)
  have ha' : 0 < b.length → ∀ x, a = some x → x.block ≠ w.heap.size := fun h0 x hx => by have := ha h0 x hx; omega
  have hst := step_any sb a c b 0 [100, 102, 97, 32] 1 64 1 _ hS0 (by decide) hb
  go_enter Tryd.func48, Tryd.ntmps48
  go_wp2_with fail
  refine hst.mono ?_
  rintro e w1 ⟨rfl, ⟨j1, hS1, hj1⟩, hg1⟩
  have hM1 := hM0.src hg1 (by omega) (by omega)
  have hgw1 := gr_alloc _ hg1
  cases hr : rdT b 0 [100, 102, 97, 32] 1 64 1 with
  | error z =>
    have HR : Hid (tk b 0 (hdP 1) = .error z) := by rw [hd_d]; exact hide (tk_app_bad hr)
    clear hst hj1 hr
    rw [show rdE (.error z) = flt z.2 z.1 from rfl, show rdN (.error z) = 0 from rfl]
    unfold flt
    obtain ⟨m0, m1, m2, m3, m4, m5, mf, -, -, -⟩ := id hM1
    have hM2 := hM1.set1 (Nat.lt_succ_self _) 0
    have hS2 := hS1.setB (p := ⟨w.heap.size, 1, none⟩) (by simp; omega) ha' (.int .i64 0)
    have hg2 := gr_new hgw1 (p := ⟨w.heap.size, 1, none⟩) (Nat.le_refl _) (.int .i64 0)
    go_wp2
    obtain ⟨q0, q1, q2, q3, q4, q5, -, -, -, -⟩ := (hM2).six (Nat.lt_succ_self _) 1 0 2 0
    have hfs := (hS2).six (mb := w.heap.size) (by omega) ha' (.int .i64 1) (.int .i64 0) (.int .i64 2) (.int .i64 0) (.slice none 0 0) (.slice none 0 0)
    have hfg := gr_six (hg2) (Nat.le_refl w.heap.size) (.int .i64 1) (.int .i64 0) (.int .i64 2) (.int .i64 0) (.slice none 0 0) (.slice none 0 0)
    have HFS := hide hfs
    have HFG := hide hfg
    clear hfs hfg
    refine bodyPost_ret (v := .tuple #[hdA 1 0 2 0, .iface 69 (.agg #[.int .i64 z.2, .int .i64 (z.1 : Int)])]) ?_ rfl ⟨0, 2, 0, by rw [unhide HR]; rfl, ⟨_, unhide HFS, fun l q e => by rw [unhide HR] at e; cases e⟩, unhide HFG⟩
    simp [results, Tryd.results48, go_sem, hdA, q0, q1, q2, q3, q4, q5]
  | ok lj =>
    obtain ⟨l1, q1⟩ := lj
    obtain ⟨y1, rfl, hy0, hy1⟩ := rd_shape hr
    obtain rfl := hj1 _ _ hr
    have HT1 : Hid (tk b 0 [.tx [100, 102, 97, 32], .nm 1 64 1] = .ok ([(1, y1)], j1)) := hide hr
    clear hst hr hj1
    rw [show rdE (.ok ([((1 : Int), y1)], j1)) = .nilIface from rfl, show rdN (.ok ([((1 : Int), y1)], j1)) = y1 from rfl]
    obtain ⟨m0, m1, m2, m3, m4, m5, mf, -, -, -⟩ := id hM1
    have hM2 := hM1.set1 (Nat.lt_succ_self _) y1
    have hS2 := hS1.setB (p := ⟨w.heap.size, 1, none⟩) (by simp; omega) ha' (.int .i64 y1)
    have hg2 := gr_new hgw1 (p := ⟨w.heap.size, 1, none⟩) (Nat.le_refl _) (.int .i64 y1)
    have hst := step_any sb a c b j1 [32] 1 1024 3 _ hS2 (by decide) hb
    go_wp2_with fail
    refine hst.mono ?_
    rintro e w3 ⟨rfl, ⟨j3, hS3, hj3⟩, hg3⟩
    have hM3 := hM2.src hg3 (by omega) (by omega)
    have hgw3 := hg2.trans hg3
    clear m0 m1 m2 m3 m4 m5 mf
    obtain ⟨m0, m1, m2, m3, m4, m5, mf, -, -, -⟩ := id hM3
    cases hr : rdT b j1 [32] 1 1024 3 with
    | error z =>
      have HR : Hid (tk b 0 (hdP 1) = .error z) := by rw [hd_d]; exact hide (tk_stop0 (unhide HT1) hr)
      clear hst hj3 hr
      rw [show rdE (.error z) = flt z.2 z.1 from rfl, show rdN (.error z) = 0 from rfl]
      unfold flt
      have hM4 := hM3.set3 (Nat.lt_succ_self _) 0
      have hS4 := hS3.setB (p := ⟨w.heap.size, 3, none⟩) (by simp; omega) ha' (.int .i64 0)
      have hg4 := gr_new hgw3 (p := ⟨w.heap.size, 3, none⟩) (Nat.le_refl _) (.int .i64 0)
      go_wp2
      obtain ⟨q0, q1, q2, q3, q4, q5, -, -, -, -⟩ := (hM4).six (Nat.lt_succ_self _) 1 y1 2 0
      have hfs := (hS4).six (mb := w.heap.size) (by omega) ha' (.int .i64 1) (.int .i64 y1) (.int .i64 2) (.int .i64 0) (.slice none 0 0) (.slice none 0 0)
      have hfg := gr_six (hg4) (Nat.le_refl w.heap.size) (.int .i64 1) (.int .i64 y1) (.int .i64 2) (.int .i64 0) (.slice none 0 0) (.slice none 0 0)
      have HFS := hide hfs
      have HFG := hide hfg
      clear hfs hfg
      refine bodyPost_ret (v := .tuple #[hdA 1 y1 2 0, .iface 69 (.agg #[.int .i64 z.2, .int .i64 (z.1 : Int)])]) ?_ rfl ⟨y1, 2, 0, by rw [unhide HR]; rfl, ⟨_, unhide HFS, fun l q e => by rw [unhide HR] at e; cases e⟩, unhide HFG⟩
      simp [results, Tryd.results48, go_sem, hdA, q0, q1, q2, q3, q4, q5]
    | ok lj =>
      obtain ⟨l3, q3⟩ := lj
      obtain ⟨y3, rfl, hn0, hn1⟩ := rd_shape hr
      obtain rfl := hj3 _ _ hr
      have HR : Hid (tk b 0 (hdP 1) = .ok ([(1, y1)] ++ [(3, y3)], j3)) := by rw [hd_d]; exact hide (tk_more (unhide HT1) hr)
      clear hst hr hj3
      rw [show rdE (.ok ([((3 : Int), y3)], j3)) = .nilIface from rfl, show rdN (.ok ([((3 : Int), y3)], j3)) = y3 from rfl]
      have hM4 := hM3.set3 (Nat.lt_succ_self _) y3
      have hS4 := hS3.setB (p := ⟨w.heap.size, 3, none⟩) (by simp; omega) ha' (.int .i64 y3)
      have hg4 := gr_new hgw3 (p := ⟨w.heap.size, 3, none⟩) (Nat.le_refl _) (.int .i64 y3)
      go_wp2
      obtain ⟨q0, q1, q2, q3, q4, q5, -, -, -, -⟩ := (hM4).six (Nat.lt_succ_self _) 1 y1 2 y3
      have hfs := (hS4).six (mb := w.heap.size) (by omega) ha' (.int .i64 1) (.int .i64 y1) (.int .i64 2) (.int .i64 y3) (.slice none 0 0) (.slice none 0 0)
      have hfg := gr_six (hg4) (Nat.le_refl w.heap.size) (.int .i64 1) (.int .i64 y1) (.int .i64 2) (.int .i64 y3) (.slice none 0 0) (.slice none 0 0)
      have HFS := hide hfs
      have HFG := hide hfg
      clear hfs hfg
      refine bodyPost_ret (v := .tuple #[hdA 1 y1 2 y3, .nilIface]) ?_ rfl ⟨y1, 2, y3, by rw [unhide HR]; rfl, ⟨_, unhide HFS, fun l q e => by rw [unhide HR] at e; cases e; exact ⟨rfl, rfl, fun _ => rfl, hy0, hy1, by omega, by omega, hn0, hn1⟩⟩, unhide HFG⟩
      simp [results, Tryd.results48, go_sem, hdA, q0, q1, q2, q3, q4, q5]

set_option maxRecDepth 100000 in
set_option maxHeartbeats 4000000 in
theorem readSizes_m (sb : Nat) (a : Option Addr) (c : Nat) (b : List UInt8) (w : World) (hS : Sr w sb a c b 0) (hb : b.length ≤ 140737488355328) (ha : 0 < b.length → ∀ x, a = some x → x.block < w.heap.size) :
    Calls Tryd.prog 48 #[fv sb, .int .i64 2] w fun e w' => ∃ k o n, e = .returned (.tuple #[hdA 2 k o n, rdE (tk b 0 (hdP 2))]) ∧ HdPost w w' sb a c b 2 k o n (tk b 0 (hdP 2)) := by
  unfold fv
  have hl := hS.lt
  have hM0 := Mo.made w (w.heap.size + 1) 2 0 2 0 24
  have hS0 := hS.alloc (.cells #[.int .i64 2, .int .i64 0, .int .i64 2, .int .i64 0, .slice none 0 0, .slice none 0 0] 24)
  have ha' : 0 < b.length → ∀ x, a = some x → x.block ≠ w.heap.size := fun h0 x hx => by have := ha h0 x hx; omega
  have hst := step_any sb a c b 0 [109, 101, 97, 108, 121, 32] 1 64 1 _ hS0 (by decide) hb
  go_enter Tryd.func48, Tryd.ntmps48
  go_wp2_with fail
  refine hst.mono ?_
  rintro e w1 ⟨rfl, ⟨j1, hS1, hj1⟩, hg1⟩
  have hM1 := hM0.src hg1 (by omega) (by omega)
  have hgw1 := gr_alloc _ hg1
  cases hr : rdT b 0 [109, 101, 97, 108, 121, 32] 1 64 1 with
  | error z =>
    have HR : Hid (tk b 0 (hdP 2) = .error z) := by rw [hd_m]; exact hide (by rw [List.append_assoc]; exact tk_app_bad hr)
    clear hst hj1 hr
    rw [show rdE (.error z) = flt z.2 z.1 from rfl, show rdN (.error z) = 0 from rfl]
    unfold flt
    obtain ⟨m0, m1, m2, m3, m4, m5, mf, -, -, -⟩ := id hM1
    have hM2 := hM1.set1 (Nat.lt_succ_self _) 0
    have hS2 := hS1.setB (p := ⟨w.heap.size, 1, none⟩) (by simp; omega) ha' (.int .i64 0)
    have hg2 := gr_new hgw1 (p := ⟨w.heap.size, 1, none⟩) (Nat.le_refl _) (.int .i64 0)
    go_wp2
    obtain ⟨q0, q1, q2, q3, q4, q5, -, -, -, -⟩ := (hM2).six (Nat.lt_succ_self _) 2 0 2 0
    have hfs := (hS2).six (mb := w.heap.size) (by omega) ha' (.int .i64 2) (.int .i64 0) (.int .i64 2) (.int .i64 0) (.slice none 0 0) (.slice none 0 0)
    have hfg := gr_six (hg2) (Nat.le_refl w.heap.size) (.int .i64 2) (.int .i64 0) (.int .i64 2) (.int .i64 0) (.slice none 0 0) (.slice none 0 0)
    have HFS := hide hfs
    have HFG := hide hfg
    clear hfs hfg
    refine bodyPost_ret (v := .tuple #[hdA 2 0 2 0, .iface 69 (.agg #[.int .i64 z.2, .int .i64 (z.1 : Int)])]) ?_ rfl ⟨0, 2, 0, by rw [unhide HR]; rfl, ⟨_, unhide HFS, fun l q e => by rw [unhide HR] at e; cases e⟩, unhide HFG⟩
    simp [results, Tryd.results48, go_sem, hdA, q0, q1, q2, q3, q4, q5]
  | ok lj =>
    obtain ⟨l1, q1⟩ := lj
    obtain ⟨y1, rfl, hy0, hy1⟩ := rd_shape hr
    obtain rfl := hj1 _ _ hr
    have HT1 : Hid (tk b 0 [.tx [109, 101, 97, 108, 121, 32], .nm 1 64 1] = .ok ([(1, y1)], j1)) := hide hr
    clear hst hr hj1
    rw [show rdE (.ok ([((1 : Int), y1)], j1)) = .nilIface from rfl, show rdN (.ok ([((1 : Int), y1)], j1)) = y1 from rfl]
    obtain ⟨m0, m1, m2, m3, m4, m5, mf, -, -, -⟩ := id hM1
    have hM2 := hM1.set1 (Nat.lt_succ_self _) y1
    have hS2 := hS1.setB (p := ⟨w.heap.size, 1, none⟩) (by simp; omega) ha' (.int .i64 y1)
    have hg2 := gr_new hgw1 (p := ⟨w.heap.size, 1, none⟩) (Nat.le_refl _) (.int .i64 y1)
    have hst := step_any sb a c b j1 [32] 1 64 33 _ hS2 (by decide) hb
    go_wp2_with fail
    refine hst.mono ?_
    rintro e w3 ⟨rfl, ⟨j3, hS3, hj3⟩, hg3⟩
    have hM3 := hM2.src hg3 (by omega) (by omega)
    have hgw3 := hg2.trans hg3
    clear m0 m1 m2 m3 m4 m5 mf
    obtain ⟨m0, m1, m2, m3, m4, m5, mf, -, -, -⟩ := id hM3
    cases hr : rdT b j1 [32] 1 64 33 with
    | error z =>
      have HR : Hid (tk b 0 (hdP 2) = .error z) := by rw [hd_m]; exact hide (tk_stop (unhide HT1) hr _)
      clear hst hj3 hr
      rw [show rdE (.error z) = flt z.2 z.1 from rfl, show rdN (.error z) = 0 from rfl]
      unfold flt
      have hM4 := hM3.set2 (Nat.lt_succ_self _) 0
      have hS4 := hS3.setB (p := ⟨w.heap.size, 2, none⟩) (by simp; omega) ha' (.int .i64 0)
      have hg4 := gr_new hgw3 (p := ⟨w.heap.size, 2, none⟩) (Nat.le_refl _) (.int .i64 0)
      go_wp2
      obtain ⟨q0, q1, q2, q3, q4, q5, -, -, -, -⟩ := (hM4).six (Nat.lt_succ_self _) 2 y1 0 0
      have hfs := (hS4).six (mb := w.heap.size) (by omega) ha' (.int .i64 2) (.int .i64 y1) (.int .i64 0) (.int .i64 0) (.slice none 0 0) (.slice none 0 0)
      have hfg := gr_six (hg4) (Nat.le_refl w.heap.size) (.int .i64 2) (.int .i64 y1) (.int .i64 0) (.int .i64 0) (.slice none 0 0) (.slice none 0 0)
      have HFS := hide hfs
      have HFG := hide hfg
      clear hfs hfg
      refine bodyPost_ret (v := .tuple #[hdA 2 y1 0 0, .iface 69 (.agg #[.int .i64 z.2, .int .i64 (z.1 : Int)])]) ?_ rfl ⟨y1, 0, 0, by rw [unhide HR]; rfl, ⟨_, unhide HFS, fun l q e => by rw [unhide HR] at e; cases e⟩, unhide HFG⟩
      simp [results, Tryd.results48, go_sem, hdA, q0, q1, q2, q3, q4, q5]
    | ok lj =>
      obtain ⟨l3, q3⟩ := lj
      obtain ⟨y3, rfl, ho0, ho1⟩ := rd_shape hr
      obtain rfl := hj3 _ _ hr
      have HT3 : Hid (tk b 0 ([.tx [109, 101, 97, 108, 121, 32], .nm 1 64 1] ++ [.tx [32], .nm 1 64 33]) = .ok ([(1, y1)] ++ [(33, y3)], j3)) := hide (tk_more (unhide HT1) hr)
      clear hst hr hj3
      rw [show rdE (.ok ([((33 : Int), y3)], j3)) = .nilIface from rfl, show rdN (.ok ([((33 : Int), y3)], j3)) = y3 from rfl]
      have hM4 := hM3.set2 (Nat.lt_succ_self _) y3
      have hS4 := hS3.setB (p := ⟨w.heap.size, 2, none⟩) (by simp; omega) ha' (.int .i64 y3)
      have hg4 := gr_new hgw3 (p := ⟨w.heap.size, 2, none⟩) (Nat.le_refl _) (.int .i64 y3)
      have hst := step_any sb a c b j3 [32] 1 1024 3 _ hS4 (by decide) hb
      go_wp2_with fail
      refine hst.mono ?_
      rintro e w5 ⟨rfl, ⟨j5, hS5, hj5⟩, hg5⟩
      have hM5 := hM4.src hg5 (by omega) (by omega)
      have hgw5 := hg4.trans hg5
      clear m0 m1 m2 m3 m4 m5 mf
      obtain ⟨m0, m1, m2, m3, m4, m5, mf, -, -, -⟩ := id hM5
      cases hr : rdT b j3 [32] 1 1024 3 with
      | error z =>
        have HR : Hid (tk b 0 (hdP 2) = .error z) := by rw [hd_m]; exact hide (tk_stop0 (unhide HT3) hr)
        clear hst hj5 hr
        rw [show rdE (.error z) = flt z.2 z.1 from rfl, show rdN (.error z) = 0 from rfl]
        unfold flt
        have hM6 := hM5.set3 (Nat.lt_succ_self _) 0
        have hS6 := hS5.setB (p := ⟨w.heap.size, 3, none⟩) (by simp; omega) ha' (.int .i64 0)
        have hg6 := gr_new hgw5 (p := ⟨w.heap.size, 3, none⟩) (Nat.le_refl _) (.int .i64 0)
        go_wp2
        obtain ⟨q0, q1, q2, q3, q4, q5, -, -, -, -⟩ := (hM6).six (Nat.lt_succ_self _) 2 y1 y3 0
        have hfs := (hS6).six (mb := w.heap.size) (by omega) ha' (.int .i64 2) (.int .i64 y1) (.int .i64 y3) (.int .i64 0) (.slice none 0 0) (.slice none 0 0)
        have hfg := gr_six (hg6) (Nat.le_refl w.heap.size) (.int .i64 2) (.int .i64 y1) (.int .i64 y3) (.int .i64 0) (.slice none 0 0) (.slice none 0 0)
        have HFS := hide hfs
        have HFG := hide hfg
        clear hfs hfg
        refine bodyPost_ret (v := .tuple #[hdA 2 y1 y3 0, .iface 69 (.agg #[.int .i64 z.2, .int .i64 (z.1 : Int)])]) ?_ rfl ⟨y1, y3, 0, by rw [unhide HR]; rfl, ⟨_, unhide HFS, fun l q e => by rw [unhide HR] at e; cases e⟩, unhide HFG⟩
        simp [results, Tryd.results48, go_sem, hdA, q0, q1, q2, q3, q4, q5]
      | ok lj =>
        obtain ⟨l5, q5⟩ := lj
        obtain ⟨y5, rfl, hn0, hn1⟩ := rd_shape hr
        obtain rfl := hj5 _ _ hr
        have HR : Hid (tk b 0 (hdP 2) = .ok ([(1, y1)] ++ [(33, y3)] ++ [(3, y5)], j5)) := by rw [hd_m]; exact hide (tk_more (unhide HT3) hr)
        clear hst hr hj5
        rw [show rdE (.ok ([((3 : Int), y5)], j5)) = .nilIface from rfl, show rdN (.ok ([((3 : Int), y5)], j5)) = y5 from rfl]
        have hM6 := hM5.set3 (Nat.lt_succ_self _) y5
        have hS6 := hS5.setB (p := ⟨w.heap.size, 3, none⟩) (by simp; omega) ha' (.int .i64 y5)
        have hg6 := gr_new hgw5 (p := ⟨w.heap.size, 3, none⟩) (Nat.le_refl _) (.int .i64 y5)
        go_wp2
        obtain ⟨q0, q1, q2, q3, q4, q5, -, -, -, -⟩ := (hM6).six (Nat.lt_succ_self _) 2 y1 y3 y5
        have hfs := (hS6).six (mb := w.heap.size) (by omega) ha' (.int .i64 2) (.int .i64 y1) (.int .i64 y3) (.int .i64 y5) (.slice none 0 0) (.slice none 0 0)
        have hfg := gr_six (hg6) (Nat.le_refl w.heap.size) (.int .i64 2) (.int .i64 y1) (.int .i64 y3) (.int .i64 y5) (.slice none 0 0) (.slice none 0 0)
        have HFS := hide hfs
        have HFG := hide hfg
        clear hfs hfg
        refine bodyPost_ret (v := .tuple #[hdA 2 y1 y3 y5, .nilIface]) ?_ rfl ⟨y1, y3, y5, by rw [unhide HR]; rfl, ⟨_, unhide HFS, fun l q e => by rw [unhide HR] at e; cases e; exact ⟨rfl, rfl, (fun h => absurd h (by decide)), hy0, hy1, ho0, ho1, hn0, hn1⟩⟩, unhide HFG⟩
        simp [results, Tryd.results48, go_sem, hdA, q0, q1, q2, q3, q4, q5]

/-- The end: a line break, and nothing behind it. -/
def edR (b : List UInt8) (i : Nat) : Except (Nat × Int) Nat := match skp b i [10] with
  | .error p => .error (p, 6)
  | .ok j => if j < b.length then .error (j, 6) else .ok j
def edE : Except (Nat × Int) Nat → Value
  | .error x => flt x.2 x.1
  | .ok _ => .nilIface
theorem ed_skip {b : List UInt8} {i p : Nat} (h : skp b i [10] = .error p) : edR b i = .error (p, 6) := by unfold edR; rw [h]
theorem ed_more {b : List UInt8} {i j : Nat} (h : skp b i [10] = .ok j) (hj : j < b.length) : edR b i = .error (j, 6) := by unfold edR; rw [h]; simp only []; rw [if_pos hj]
theorem ed_ok {b : List UInt8} {i j : Nat} (h : skp b i [10] = .ok j) (hj : ¬ j < b.length) : edR b i = .ok j := by unfold edR; rw [h]; simp only []; rw [if_neg hj]

set_option maxRecDepth 100000 in
set_option maxHeartbeats 4000000 in
theorem end_any (sb : Nat) (a : Option Addr) (c : Nat) (b : List UInt8) (i0 : Nat) (w : World) (h : Sr w sb a c b i0) (hb : b.length ≤ 140737488355328) :
    Calls Tryd.prog 51 #[.pointer (some ⟨sb, 0, none⟩)] w fun e w' => e = .returned (edE (edR b i0)) ∧ (∃ j, Sr w' sb a c b j) ∧ w.grownBy w' (some sb) := by
  have hsk := skip_any sb a c b i0 [10] w h (by decide) hb
  go_enter Tryd.func51, Tryd.ntmps51
  go_wp2_with fail
  refine hsk.mono ?_
  rintro e w1 ⟨rfl, h1, hg1⟩
  cases hk : skp b i0 [10] with
  | error p =>
    have HR := hide (ed_skip hk)
    rw [hk] at h1
    clear hsk hk
    unfold skE flt
    go_wp2
    go_ret
    exact ⟨by rw [unhide HR]; rfl, ⟨_, h1⟩, hg1⟩
  | ok j =>
    rw [hk] at h1
    have h1' : Sr w1 sb a c b j := h1
    clear h1
    obtain ⟨p0, p1, pf, prd, ple, poff⟩ := id h1'
    unfold skE
    by_cases hj : j < b.length
    · have HR := hide (ed_more hk hj)
      have hj' : (j : Int) < (b.length : Int) := by omega
      clear hsk hk
      go_wp2
      go_quiet (fail)
      go_wp2
      go_ret
      exact ⟨by rw [unhide HR]; rfl, ⟨_, h1'.drewN _⟩, gr_drewN hg1 _⟩
    · have HR := hide (ed_ok hk hj)
      have hj' : ¬ ((j : Int) < (b.length : Int)) := by omega
      clear hsk hk
      go_wp2
      go_quiet (fail)
      go_wp2
      go_ret
      exact ⟨by rw [unhide HR]; rfl, ⟨_, h1'.drewN _⟩, gr_drewN hg1 _⟩

end Go.Proofs.YtdnmabemollbeaaDoor
