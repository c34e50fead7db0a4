/-
  TeachChecks, walked: for every input the call returns true.
-/
import Derived.Test.YtagoilabphmdfaaHLive
import Derived.Test.YtagoilabphmdfaaHWB
import Derived.Test.YtagoilabphmdfaaEChk
import Derived.Deep.RegionHeld
namespace Go.Proofs.Ytagoilabphmdfaa
set_option linter.unusedVariables false
open Go.RowKit

set_option maxRecDepth 100000 in
set_option maxHeartbeats 4000000 in
theorem teachChecks_walk (q : Pq) (p : Pa) (w : World) (h0 : ArgPq w q) (h1 : ArgPa w p) :
    Calls Try.prog 3 #[pqV q, paV p] w fun e w' => e = .returned (.bool true) ∧ Below w.heap.size w w' := by
  have F0 := Ft.start w q p
  have F3 := F0.below (ballo _ (.cells #[.int .i64 p.an.kind, .slice p.a1 p.an.out.length p.c1, .slice p.a2 p.an.word.length p.c2] 28))
  have hrp := h1.rd
  have hhu := rhuge_any (some ⟨((w.alloc (.cells #[.int .i64 q.q.kind, .slice q.aw q.q.word.length q.cw, .int .i64 q.q.hyp.kind, .int .i64 q.q.hyp.k, .int .i64 q.q.hyp.o, .int .i64 q.q.hyp.n, .slice q.a1 q.q.hyp.nx.length q.c1, .slice q.a2 q.q.hyp.out.length q.c2] 26)).alloc (.cells #[.int .i64 p.an.kind, .slice p.a1 p.an.out.length p.c1, .slice p.a2 p.an.word.length p.c2] 28)).heap.size, 0, none⟩) 1 [p] 20000 _ (RdPs.one _ p 28 ⟨hrp.out.below F3.b, hrp.word.below F3.b⟩) (by decide) (by decide)
  have hz2 : ((w.alloc (.cells #[.int .i64 q.q.kind, .slice q.aw q.q.word.length q.cw, .int .i64 q.q.hyp.kind, .int .i64 q.q.hyp.k, .int .i64 q.q.hyp.o, .int .i64 q.q.hyp.n, .slice q.a1 q.q.hyp.nx.length q.c1, .slice q.a2 q.q.hyp.out.length q.c2] 26)).alloc (.cells #[.int .i64 p.an.kind, .slice p.a1 p.an.out.length p.c1, .slice p.a2 p.an.word.length p.c2] 28)).heap.size = w.heap.size + 1 + 1 := by simp
  rw [hz2] at hhu
  unfold pqV paV
  by_cases c1 : (q.q.word.length : Int) > 20000
  · have HB := hide F0.b
    clear hhu F3 F0 hz2
    go_enter Try.func3, Try.ntmps3
    go_wp2_with fail
    refine (live_any _).mono ?_
    rintro e w1 ⟨rfl, hb1⟩
    go_wp2
    go_ret
    exact ⟨rfl, bstep (unhide HB) hb1⟩
  cases hhv : hugV 20000 (anL [p])
  rotate_left
  · rw [hhv] at hhu
    have HB := hide F3.b
    clear F3 F0 hz2 hhv
    go_enter Try.func3, Try.ntmps3
    go_wp2_with fail
    refine hhu.mono ?_
    rintro e w1 ⟨rfl, rfl⟩
    go_wp2_with fail
    refine (live_any _).mono ?_
    rintro e w1 ⟨rfl, hb1⟩
    go_wp2
    go_ret
    exact ⟨rfl, bstep (unhide HB) hb1⟩
  rw [hhv] at hhu
  obtain ⟨m1, m2⟩ := hugV_each hhv p.an (by simp [anL])
  have m1' : p.an.out.length ≤ 20000 := by omega
  have m2' : p.an.word.length ≤ 20000 := by omega
  have HKP : Hid (∀ wz, Below (((w.alloc (.cells #[.int .i64 q.q.kind, .slice q.aw q.q.word.length q.cw, .int .i64 q.q.hyp.kind, .int .i64 q.q.hyp.k, .int .i64 q.q.hyp.o, .int .i64 q.q.hyp.n, .slice q.a1 q.q.hyp.nx.length q.c1, .slice q.a2 q.q.hyp.out.length q.c2] 26)).alloc (.cells #[.int .i64 p.an.kind, .slice p.a1 p.an.out.length p.c1, .slice p.a2 p.an.word.length p.c2] 28)).alloc (.cells #[.int .i64 p.an.kind, .slice p.a1 p.an.out.length p.c1, .slice p.a2 p.an.word.length p.c2] 28)).heap.size (((w.alloc (.cells #[.int .i64 q.q.kind, .slice q.aw q.q.word.length q.cw, .int .i64 q.q.hyp.kind, .int .i64 q.q.hyp.k, .int .i64 q.q.hyp.o, .int .i64 q.q.hyp.n, .slice q.a1 q.q.hyp.nx.length q.c1, .slice q.a2 q.q.hyp.out.length q.c2] 26)).alloc (.cells #[.int .i64 p.an.kind, .slice p.a1 p.an.out.length p.c1, .slice p.a2 p.an.word.length p.c2] 28)).alloc (.cells #[.int .i64 p.an.kind, .slice p.a1 p.an.out.length p.c1, .slice p.a2 p.an.word.length p.c2] 28)) wz → (wz.cell? ⟨w.heap.size, 0, none⟩ = some (.int .i64 q.q.kind) ∧ wz.cell? ⟨w.heap.size, 1, none⟩ = some (.slice q.aw q.q.word.length q.cw) ∧ wz.cell? ⟨w.heap.size, 2, none⟩ = some (.int .i64 q.q.hyp.kind) ∧ wz.cell? ⟨w.heap.size, 3, none⟩ = some (.int .i64 q.q.hyp.k) ∧ wz.cell? ⟨w.heap.size, 4, none⟩ = some (.int .i64 q.q.hyp.o) ∧ wz.cell? ⟨w.heap.size, 5, none⟩ = some (.int .i64 q.q.hyp.n) ∧ wz.cell? ⟨w.heap.size, 6, none⟩ = some (.slice q.a1 q.q.hyp.nx.length q.c1) ∧ wz.cell? ⟨w.heap.size, 7, none⟩ = some (.slice q.a2 q.q.hyp.out.length q.c2)) ∧ wz.cell? ⟨w.heap.size + 1, 0, none⟩ = some (.int .i64 p.an.kind) ∧ wz.cell? ⟨w.heap.size + 1, 1, none⟩ = some (.slice p.a1 p.an.out.length p.c1) ∧ wz.cell? ⟨w.heap.size + 1, 2, none⟩ = some (.slice p.a2 p.an.word.length p.c2)) := fun wz hz => by
    obtain ⟨⟨x0, x1, x2, x3, x4, x5, x6, x7⟩, ⟨y0, y1, y2⟩, -⟩ := F3.below hz
    exact ⟨⟨x0, x1, x2, x3, x4, x5, x6, x7⟩, y0, y1, y2⟩
  have HC : Hid (∀ wz, Below w.heap.size w wz → Calls Try.prog 10 #[.agg #[.int .i64 q.q.kind, .slice q.aw q.q.word.length q.cw, .int .i64 q.q.hyp.kind, .int .i64 q.q.hyp.k, .int .i64 q.q.hyp.o, .int .i64 q.q.hyp.n, .slice q.a1 q.q.hyp.nx.length q.c1, .slice q.a2 q.q.hyp.out.length q.c2], .agg #[.int .i64 p.an.kind, .slice p.a1 p.an.out.length p.c1, .slice p.a2 p.an.word.length p.c2]] wz fun e w' => e = .returned (.int .i64 (chkA q.q p.an)) ∧ Below wz.heap.size wz w') := fun wz hz => tcheck_any q p wz ⟨hrp.out.below hz, hrp.word.below hz⟩ (by unfold maxLen; omega) (by unfold maxLen; omega)
  have HR : Hid (∀ wz, Below w.heap.size w wz → Calls Try.prog 11 #[.agg #[.int .i64 q.q.kind, .slice q.aw q.q.word.length q.cw, .int .i64 q.q.hyp.kind, .int .i64 q.q.hyp.k, .int .i64 q.q.hyp.o, .int .i64 q.q.hyp.n, .slice q.a1 q.q.hyp.nx.length q.c1, .slice q.a2 q.q.hyp.out.length q.c2], .agg #[.int .i64 p.an.kind, .slice p.a1 p.an.out.length p.c1, .slice p.a2 p.an.word.length p.c2]] wz fun e w' => e = .returned (.int .i64 (chkA q.q p.an)) ∧ Below wz.heap.size wz w') := fun wz hz => rchk_any q p wz ⟨hrp.out.below hz, hrp.word.below hz⟩ (by omega) (by unfold maxLen; omega)
  have HB3 := hide F3.b
  have hs0 := unhide HKP _ (Below.refl _ _).drew
  have hb0 : Below (((w.alloc (.cells #[.int .i64 q.q.kind, .slice q.aw q.q.word.length q.cw, .int .i64 q.q.hyp.kind, .int .i64 q.q.hyp.k, .int .i64 q.q.hyp.o, .int .i64 q.q.hyp.n, .slice q.a1 q.q.hyp.nx.length q.c1, .slice q.a2 q.q.hyp.out.length q.c2] 26)).alloc (.cells #[.int .i64 p.an.kind, .slice p.a1 p.an.out.length p.c1, .slice p.a2 p.an.word.length p.c2] 28)).alloc (.cells #[.int .i64 p.an.kind, .slice p.a1 p.an.out.length p.c1, .slice p.a2 p.an.word.length p.c2] 28)).heap.size (((w.alloc (.cells #[.int .i64 q.q.kind, .slice q.aw q.q.word.length q.cw, .int .i64 q.q.hyp.kind, .int .i64 q.q.hyp.k, .int .i64 q.q.hyp.o, .int .i64 q.q.hyp.n, .slice q.a1 q.q.hyp.nx.length q.c1, .slice q.a2 q.q.hyp.out.length q.c2] 26)).alloc (.cells #[.int .i64 p.an.kind, .slice p.a1 p.an.out.length p.c1, .slice p.a2 p.an.word.length p.c2] 28)).alloc (.cells #[.int .i64 p.an.kind, .slice p.a1 p.an.out.length p.c1, .slice p.a2 p.an.word.length p.c2] 28)) (((w.alloc (.cells #[.int .i64 q.q.kind, .slice q.aw q.q.word.length q.cw, .int .i64 q.q.hyp.kind, .int .i64 q.q.hyp.k, .int .i64 q.q.hyp.o, .int .i64 q.q.hyp.n, .slice q.a1 q.q.hyp.nx.length q.c1, .slice q.a2 q.q.hyp.out.length q.c2] 26)).alloc (.cells #[.int .i64 p.an.kind, .slice p.a1 p.an.out.length p.c1, .slice p.a2 p.an.word.length p.c2] 28)).alloc (.cells #[.int .i64 p.an.kind, .slice p.a1 p.an.out.length p.c1, .slice p.a2 p.an.word.length p.c2] 28)).drew := (Below.refl _ _).drew
  have HB0 := hide hb0
  have hcc : (chkA q.q p.an == chkA q.q p.an) = true := by simp
  clear F3 F0 hz2 hhv hb0 h0 h1 hrp m1 m2
  go_enter Try.func3, Try.ntmps3
  go_wp2_with fail
  refine hhu.mono ?_
  rintro e w1 ⟨rfl, hw1⟩
  rw [hw1]
  clear hw1 w1 hhu
  generalize (((w.alloc (.cells #[.int .i64 q.q.kind, .slice q.aw q.q.word.length q.cw, .int .i64 q.q.hyp.kind, .int .i64 q.q.hyp.k, .int .i64 q.q.hyp.o, .int .i64 q.q.hyp.n, .slice q.a1 q.q.hyp.nx.length q.c1, .slice q.a2 q.q.hyp.out.length q.c2] 26)).alloc (.cells #[.int .i64 p.an.kind, .slice p.a1 p.an.out.length p.c1, .slice p.a2 p.an.word.length p.c2] 28)).alloc (.cells #[.int .i64 p.an.kind, .slice p.a1 p.an.out.length p.c1, .slice p.a2 p.an.word.length p.c2] 28)) = W at *
  generalize chkA q.q p.an = r at *
  go_wp2_with fail
  go_region_held (fun wz => (wz.cell? ⟨w.heap.size, 0, none⟩ = some (.int .i64 q.q.kind) ∧ wz.cell? ⟨w.heap.size, 1, none⟩ = some (.slice q.aw q.q.word.length q.cw) ∧ wz.cell? ⟨w.heap.size, 2, none⟩ = some (.int .i64 q.q.hyp.kind) ∧ wz.cell? ⟨w.heap.size, 3, none⟩ = some (.int .i64 q.q.hyp.k) ∧ wz.cell? ⟨w.heap.size, 4, none⟩ = some (.int .i64 q.q.hyp.o) ∧ wz.cell? ⟨w.heap.size, 5, none⟩ = some (.int .i64 q.q.hyp.n) ∧ wz.cell? ⟨w.heap.size, 6, none⟩ = some (.slice q.a1 q.q.hyp.nx.length q.c1) ∧ wz.cell? ⟨w.heap.size, 7, none⟩ = some (.slice q.a2 q.q.hyp.out.length q.c2)) ∧ wz.cell? ⟨w.heap.size + 1, 0, none⟩ = some (.int .i64 p.an.kind) ∧ wz.cell? ⟨w.heap.size + 1, 1, none⟩ = some (.slice p.a1 p.an.out.length p.c1) ∧ wz.cell? ⟨w.heap.size + 1, 2, none⟩ = some (.slice p.a2 p.an.word.length p.c2)) (first | exact hsC | exact hsB | exact hsA | exact hs0) (first | (go_at_call 10; refine (unhide HC W.drew (bstep (unhide HB3) (unhide HB0))).mono ?_; rintro e wA ⟨rfl, hbA⟩; have hbA2 := bstep (unhide HB0) hbA; have hsA := unhide HKP wA hbA2) | (go_at_call 9; refine (num_any r wA).mono ?_; rintro e wn ⟨rfl, hwn⟩; rw [hwn]; clear hwn) | (go_at_call 11; refine (unhide HR wA (bstep (unhide HB3) hbA2)).mono ?_; rintro e wB ⟨rfl, hbB⟩; have hbB2 := bstep hbA2 hbB; have hsB := unhide HKP wB hbB2) | (go_at_call 8; refine (live_any wB).mono ?_; rintro e wC ⟨rfl, hbC⟩; have hbC2 := bstep hbB2 hbC; have hsC := unhide HKP wC hbC2))
  have HE := hide (bstep (unhide HB3) hbC2)
  clear hs0 hsA hsB hsC hbA hbA2 hbB hbB2 hbC hbC2 HC HR HKP
  go_wp2
  go_ret
  exact ⟨rfl, unhide HE⟩

end Go.Proofs.Ytagoilabphmdfaa
