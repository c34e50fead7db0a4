/-
  What firstSplit of differ returns: the first pair that a word would part.
-/
import Derived.Test.YtknefgdcnacfoaaK20
import Derived.Test.YtknefgdcnacfoaaDGrp
namespace Go.Proofs.Ytknefgdcnacfoaa
open Go.RowKit Go.Maps

/-- The first pair among those of the first j states. -/
def FsI (ls : Nat → Nat) (sd : Nat → Int) (j : Nat) (sp : Bool) (s t : Nat) : Prop :=
  (sp = false → ∀ u, u < j → sd (ls u) = sd u) ∧ (sp = true → t < j ∧ s = ls t ∧ sd s ≠ sd t ∧ ∀ u, u < j → sd (ls u) ≠ sd u → s < ls u ∨ (s = ls u ∧ t ≤ u))
section
variable {ls : Nat → Nat} {sd : Nat → Int} {j s t : Nat} {sp : Bool}
theorem FsI.start : FsI ls sd 0 false 0 0 := ⟨fun _ u hu => by omega, fun h => by cases h⟩
theorem FsI.same (h : FsI ls sd j sp s t) (e : sd (ls j) = sd j) : FsI ls sd (j + 1) sp s t := by
  refine ⟨fun hs u hu => ?_, fun hs => ?_⟩
  · by_cases c : u = j
    · subst c; exact e
    · exact h.1 hs u (by omega)
  · obtain ⟨h1, h2, h3, h4⟩ := h.2 hs
    refine ⟨by omega, h2, h3, fun u hu hne => ?_⟩
    by_cases c : u = j
    · subst c; exact absurd e hne
    · exact h4 u (by omega) hne
theorem FsI.first (h : FsI ls sd j false s t) (e : sd (ls j) ≠ sd j) : FsI ls sd (j + 1) true (ls j) j := by
  refine ⟨fun hs => (by cases hs), fun _ => ⟨by omega, rfl, e, fun u hu hne => ?_⟩⟩
  by_cases c : u = j
  · subst c; exact .inr ⟨rfl, Nat.le_refl _⟩
  · exact absurd (h.1 rfl u (by omega)) hne
theorem FsI.less (h : FsI ls sd j true s t) (e : sd (ls j) ≠ sd j) (hl : ls j < s) : FsI ls sd (j + 1) true (ls j) j := by
  refine ⟨fun hs => (by cases hs), fun _ => ⟨by omega, rfl, e, fun u hu hne => ?_⟩⟩
  by_cases c : u = j
  · subst c; exact .inr ⟨rfl, Nat.le_refl _⟩
  · have := (h.2 rfl).2.2.2 u (by omega) hne
    left; omega
theorem FsI.keep (h : FsI ls sd j true s t) (hl : ¬ ls j < s) : FsI ls sd (j + 1) true s t := by
  obtain ⟨h1, h2, h3, h4⟩ := h.2 rfl
  refine ⟨fun hs => (by cases hs), fun _ => ⟨by omega, h2, h3, fun u hu hne => ?_⟩⟩
  by_cases c : u = j
  · subst c; omega
  · exact h4 u (by omega) hne
end
/-- The sieve's cells. -/
abbrev svC (gl n cnt : Nat) (vk : Value) : Obj := .cells #[.slice (some ⟨gl, 0, none⟩) n n, .int .i64 (cnt : Int), vk] 96
theorem sv_cells {w : World} {vb gl n cnt : Nat} {vk : Value} (h : w.heap[vb]? = some (svC gl n cnt vk)) : w.cell? ⟨vb, 0, none⟩ = some (.slice (some ⟨gl, 0, none⟩) n n) ∧ w.cell? ⟨vb, 1, none⟩ = some (.int .i64 (cnt : Int)) ∧ w.cell? ⟨vb, 2, none⟩ = some vk ∧ w.frozen? ⟨vb, 0, none⟩ = false ∧ w.frozen? ⟨vb, 1, none⟩ = false ∧ w.frozen? ⟨vb, 2, none⟩ = false := by
  unfold World.cell? World.frozen?
  rw [h]
  exact ⟨rfl, rfl, rfl, rfl, rfl, rfl⟩
def FsPost (n : Nat) (ls : Nat → Nat) (sd : Nat → Int) (w : World) (e : Ending) (w' : World) : Prop :=
  ∃ (s t : Nat) (sp : Bool), e = .returned (.tuple #[.agg #[.int .i64 (s : Int), .int .i64 (t : Int)], .bool sp]) ∧ FsI ls sd n sp s t ∧ Below w.heap.size w w'

set_option maxRecDepth 100000 in
set_option maxHeartbeats 4000000 in
theorem firstSplit_any (n : Nat) (ls : Nat → Nat) (sd : List Int) (B vb gl cnt : Nat) (vk : Value) (sa : Option Addr) (sc : Nat) (w : World) (hO : w.heap[vb]? = some (svC gl n cnt vk)) (lo : OwT w B gl n n ls) (hr : RdL .i64 w sa sd) (hl : sd.length = n) (hls : ∀ t, t < n → ls t < n) (h1 : 1 ≤ n) (hn : n ≤ 1048576) :
    Calls Try.prog 67 #[.pointer (some ⟨vb, 0, none⟩), .slice sa n sc] w fun e w' => FsPost n ls (fun i => sd.getD i 0) w e w' := by
  obtain ⟨w0, hw0⟩ : ∃ w0, w0 = w.alloc (.cells #[.int .i64 0, .int .i64 0] 62) := ⟨_, rfl⟩
  have b0 : Below w.heap.size w w0 := by rw [hw0]; exact ballo _ _
  have P0 : Bxp w0 w.heap.size ((0 : Int), (0 : Int)) := by
    refine Bxp.of (t := 62) ?_
    rw [hw0]; exact heap_alloc_new _ _
  have hvl : vb < w.heap.size := (Array.getElem?_eq_some_iff.1 hO).1
  have hgl := lo.lt.2
  have O0 : w0.heap[vb]? = some (svC gl n cnt vk) := (b0.block _ hvl).trans hO
  obtain ⟨k0, k1, k2, -, -, -⟩ := sv_cells O0
  obtain ⟨ab, ao, ea, hrc⟩ := hr.at (i := 0) (by omega)
  subst ea
  have hab : ab < w.heap.size := World.block_lt_of_cell? w _ (hrc 0 (by omega))
  have HP0 : Hid (Bxp w0 w.heap.size (((0 : Nat) : Int), ((0 : Nat) : Int))) := P0
  have HO0 := hide O0
  have HLO := hide (lo.below b0)
  have HRC : Hid (∀ i, i < n → w0.cell? ⟨ab, ao + i, none⟩ = some (.int .i64 (sd.getD i 0))) := fun i hi => (b0.cell hab).trans (hrc i (by omega))
  have HB0 := hide b0
  have HLS := hide hls
  rw [hw0] at k0
  clear hO lo hr hrc P0 O0 b0 hls k1 k2
  go_enter Try.func67, Try.ntmps67
  go_wp2
  rw [← hw0]
  have z0 : w0.heap.size = w.heap.size + 1 := by rw [hw0]; simp
  have HZ0 := hide z0
  clear k0 hw0 z0
  go_loopw [5, 13] (fun vs vj wx => ∃ (j : Nat) (sp : Bool) (s t : Nat), vs = .bool sp ∧ vj = .int .i64 j ∧ j ≤ n ∧ Hid (FsI ls (fun i => sd.getD i 0) j sp s t) ∧ Bxp wx w.heap.size ((s : Int), (t : Int)) ∧ Bx (fun k => k = w.heap.size) w0 wx) (fun _ vj _ => n - (intOf vj).toNat)
  case atStart => exact ⟨0, false, 0, 0, rfl, rfl, Nat.zero_le _, FsI.start, unhide HP0, Bx.refl _ _⟩
  case round =>
    obtain ⟨j, sp, s, t, rfl, rfl, hj, hfs, hP, hbx⟩ := hrel
    clear HP0
    have HPX := hide hP
    have HBX := hide hbx
    obtain ⟨y0, y1, f0, f1⟩ := hP
    have y0 : wr.cell? ⟨w.heap.size, 0, none⟩ = some (.int .i64 (s : Int)) := y0
    have y1 : wr.cell? ⟨w.heap.size, 1, none⟩ = some (.int .i64 (t : Int)) := y1
    by_cases hlt : j < n
    · have hlt' : (j : Int) < (n : Int) := by omega
      have hcg : wr.cell? ⟨gl, j, none⟩ = some (.int .i64 ((ls j : Nat) : Int)) := hbx.cell (((unhide HLO).at (by omega)).2.1 j hlt) (by show ¬ gl = w.heap.size; omega)
      have hlsj := unhide HLS j hlt
      have hcj : wr.cell? ⟨ab, ao + j, none⟩ = some (.int .i64 (sd.getD j 0)) := hbx.cell (unhide HRC j hlt) (by show ¬ ab = w.heap.size; omega)
      have hcl : wr.cell? ⟨ab, ao + ls j, none⟩ = some (.int .i64 (sd.getD (ls j) 0)) := hbx.cell (unhide HRC (ls j) hlsj) (by show ¬ ab = w.heap.size; omega)
      obtain ⟨q, hq⟩ : ∃ q, q = ls j := ⟨_, rfl⟩
      have HQ := hide hq
      rw [← hq] at hcg hlsj hcl
      obtain ⟨X, hX⟩ : ∃ X, X = sd.getD j 0 := ⟨_, rfl⟩
      obtain ⟨Y, hY⟩ : ∃ Y, Y = sd.getD q 0 := ⟨_, rfl⟩
      have HX := hide hX
      have HY := hide hY
      rw [← hX] at hcj
      rw [← hY] at hcl
      have hlsj' : (q : Int) < (n : Int) := by omega
      clear hbx hq hX hY
      have hset : ∀ (W : World), Bxp W w.heap.size ((s : Int), (t : Int)) → Bx (fun k => k = w.heap.size) w0 W → Bxp ((W.setCell ⟨w.heap.size, 0, none⟩ (.int .i64 (q : Int))).setCell ⟨w.heap.size, 1, none⟩ (.int .i64 (j : Int))) w.heap.size ((q : Int), (j : Int)) ∧ Bx (fun k => k = w.heap.size) w0 ((W.setCell ⟨w.heap.size, 0, none⟩ (.int .i64 (q : Int))).setCell ⟨w.heap.size, 1, none⟩ (.int .i64 (j : Int))) := fun W h3 h4 =>
        ⟨h3.set _ _, (h4.setCell (p := ⟨w.heap.size, 0, none⟩) rfl _).setCell (p := ⟨w.heap.size, 1, none⟩) rfl _⟩
      have HSET := hide hset
      have HPD : Hid (∀ nq, Bxp (wr.drewN nq) w.heap.size ((s : Int), (t : Int)) ∧ Bx (fun k => k = w.heap.size) w0 (wr.drewN nq)) := fun nq => ⟨(unhide HPX).keep rfl, (unhide HBX).draws nq⟩
      clear hset
      by_cases hXY : Y = X
      · have tXY : (Y != X) = false := by simp [hXY]
        have HE : Hid (sd.getD (ls j) 0 = sd.getD j 0) := by show _ = _; rw [← unhide HQ, ← unhide HY, ← unhide HX, hXY]
        clear hXY
        go_wp2
        go_quiet (fail)
        go_wp2
        go_roundw
        case rel => exact ⟨j + 1, sp, s, t, rfl, by go_num, hlt, (unhide hfs).same (unhide HE), (unhide HPD nq).1, (unhide HPD nq).2⟩
        case measure => simp [intOf]; omega
      · have tXY : (Y != X) = true := bne_iff_ne.2 hXY
        have HE : Hid (sd.getD (ls j) 0 ≠ sd.getD j 0) := by show _ ≠ _; rw [← unhide HQ, ← unhide HY, ← unhide HX]; exact hXY
        clear hXY
        cases sp
        · go_wp2
          go_quiet (fail)
          go_wp2
          go_roundw
          case rel =>
            refine ⟨j + 1, true, q, j, rfl, by go_num, hlt, ?_, (unhide HSET _ (unhide HPD nq).1 (unhide HPD nq).2).1, (unhide HSET _ (unhide HPD nq).1 (unhide HPD nq).2).2⟩
            rw [unhide HQ]; exact (unhide hfs).first (unhide HE)
          case measure => simp [intOf]; omega
        · by_cases hq : q < s
          · have tq : decide ((q : Int) < (s : Int)) = true := decide_eq_true (by omega)
            have tq2 : decide (q < s) = true := decide_eq_true hq
            have HQS := hide hq
            clear hq
            go_wp2
            go_quiet (fail)
            go_wp2
            go_roundw
            case rel =>
              refine ⟨j + 1, true, q, j, rfl, by go_num, hlt, ?_, (unhide HSET _ (unhide HPD nq).1 (unhide HPD nq).2).1, (unhide HSET _ (unhide HPD nq).1 (unhide HPD nq).2).2⟩
              have h9 := unhide HQS
              rw [unhide HQ] at h9 ⊢
              exact (unhide hfs).less (unhide HE) h9
            case measure => simp [intOf]; omega
          · have tq : decide ((q : Int) < (s : Int)) = false := decide_eq_false (by omega)
            have tq2 : decide (q < s) = false := decide_eq_false hq
            have HQS : Hid (¬ ls j < s) := by show ¬ _; rw [← unhide HQ]; exact hq
            clear hq
            go_wp2
            go_quiet (fail)
            go_wp2
            go_roundw
            case rel => exact ⟨j + 1, true, s, t, rfl, by go_num, hlt, (unhide hfs).keep (unhide HQS), (unhide HPD nq).1, (unhide HPD nq).2⟩
            case measure => simp [intOf]; omega
    · have hlt' : ¬ (j : Int) < (n : Int) := by omega
      have ej : j = n := by omega
      subst ej
      clear hbx
      obtain ⟨w2, hw2⟩ : ∃ w2, w2 = (wr.setCell ⟨w.heap.size, 0, none⟩ (.int .i64 (s : Int))).setCell ⟨w.heap.size, 1, none⟩ (.int .i64 (t : Int)) := ⟨_, rfl⟩
      have P2 : Bxp w2 w.heap.size ((s : Int), (t : Int)) := by rw [hw2]; exact (unhide HPX).set _ _
      have FIN : FsPost j ls (fun i => sd.getD i 0) w (.returned (.tuple #[.agg #[.int .i64 (s : Int), .int .i64 (t : Int)], .bool sp])) w2 := by
        refine ⟨s, t, sp, rfl, unhide hfs, ?_⟩
        rw [hw2]
        exact (((unhide HB0).trans ((unhide HBX).below (fun k e => by have e2 : k = w.heap.size := e; omega) (by have := unhide HZ0; omega))).setCell (p := ⟨w.heap.size, 0, none⟩) (Nat.le_refl _) _).setCell (p := ⟨w.heap.size, 1, none⟩) (Nat.le_refl _) _
      have HFN := hide FIN
      have HP2 := hide P2
      clear FIN P2
      go_wp2
      rw [← hw2]
      obtain ⟨x0, x1, -, -⟩ := unhide HP2
      have x0 : w2.cell? ⟨w.heap.size, 0, none⟩ = some (.int .i64 (s : Int)) := x0
      have x1 : w2.cell? ⟨w.heap.size, 1, none⟩ = some (.int .i64 (t : Int)) := x1
      refine bodyPost_ret (v := .tuple #[.agg #[.int .i64 (s : Int), .int .i64 (t : Int)], .bool sp]) ?_ rfl (unhide HFN)
      simp [results, Try.results67, go_sem, x0, x1]
end Go.Proofs.Ytknefgdcnacfoaa
