/-
  Which states lead to each one by each symbol: leadingTo.
-/
import Derived.Test.YtnakadlhafggkaaQBkt
import Derived.Test.YtnakadlhafggkaaK3
import Derived.Test.YtnakadlhafggkaaK2
import Derived.Deep.RegionHeld3
import Derived.Deep.CutRange
namespace Go.Proofs.Ytnakadlhafggkaa
open Go.RowKit

/-- The states that lead, by one of the first j ways, to the place i. -/
def ldL (nx : List Int) (K j i : Nat) : List Int := ((List.range j).filter fun y => decide ((nx.getD y 0).toNat * K + y % K = i)).map fun y => ((y / K : Nat) : Int)
theorem ldL_next (nx : List Int) (K j : Nat) : ldL nx K (j + 1) = updV (ldL nx K j) ((nx.getD j 0).toNat * K + j % K) (ldL nx K j ((nx.getD j 0).toNat * K + j % K) ++ [((j / K : Nat) : Int)]) := by
  funext i
  unfold ldL updV
  rw [List.range_succ, List.filter_append, List.map_append]
  by_cases e : i = (nx.getD j 0).toNat * K + j % K
  · subst e; simp
  · rw [if_neg e]
    have : decide ((nx.getD j 0).toNat * K + j % K = i) = false := decide_eq_false fun h => e h.symm
    rw [List.filter_cons_of_neg (by rw [this]; simp)]
    simp
theorem ldL_len (nx : List Int) (K j i : Nat) : (ldL nx K j i).length ≤ j := by
  unfold ldL
  rw [List.length_map]
  exact Nat.le_trans (List.length_filter_le _ _) (by simp)
theorem ldL_mem {nx : List Int} {K j i : Nat} {s : Int} : s ∈ ldL nx K j i ↔ ∃ y, y < j ∧ (nx.getD y 0).toNat * K + y % K = i ∧ s = ((y / K : Nat) : Int) := by
  unfold ldL
  simp only [List.mem_map, List.mem_filter, List.mem_range, decide_eq_true_eq]
  constructor
  · rintro ⟨y, ⟨h1, h2⟩, rfl⟩; exact ⟨y, h1, h2, rfl⟩
  · rintro ⟨y, h1, h2, rfl⟩; exact ⟨y, ⟨h1, h2⟩, rfl⟩

theorem Bkt.base {w w1 wx : World} {g n : Nat} {vs : Nat → Value} {L : Nat → List Int} (h : Bkt w1 wx g n vs L) (hb : Below w.heap.size w w1) : Bkt w wx g n vs L :=
  ⟨Nat.le_trans hb.size h.lo, h.cell, fun i hi => (h.own i hi).mono hb.size, h.ne, h.dis, hb.trans (h.bl.mono hb.size)⟩

set_option maxRecDepth 100000 in
set_option maxHeartbeats 4000000 in
theorem lead_any (m : Mc) (a1 : Option Addr) (c1 : Nat) (a2 : Option Addr) (c2 : Nat) (w : World) (R : Right m) (h1 : RdL .i64 w a1 m.nx) :
    Calls Try.prog 54 #[mval m a1 c1 a2 c2] w fun e w' => ∃ g c vs, e = .returned (.slice (some ⟨g, 0, none⟩) m.nx.length c) ∧ Bkt w w' g m.nx.length vs (ldL m.nx m.k.toNat m.nx.length) := by
  unfold mval
  have B0 := Box.alloc w m a1 c1 a2 c2 51
  have b0 := ballo w (.cells #[.int .i64 m.kind, .int .i64 m.k, .int .i64 m.o, .int .i64 m.n, .slice a1 m.nx.length c1, .slice a2 m.out.length c2] 51)
  obtain ⟨kk, hkk⟩ : ∃ kk : Nat, m.k = (kk : Int) := ⟨m.k.toNat, by have := R.k0; omega⟩
  obtain ⟨nn, hnn⟩ : ∃ nn : Nat, m.n = (nn : Int) := ⟨m.n.toNat, by have := R.n0; omega⟩
  have hk0 : 1 ≤ kk := by have := R.k0; omega
  have hk1 : kk ≤ 64 := by have := R.k1; omega
  have hn1 : nn ≤ 1024 := by have := R.n1; omega
  have hn0 : 1 ≤ nn := by have := R.n0; omega
  have hlen : m.nx.length = nn * kk := by have := R.nx; rw [hkk, hnn] at this; exact_mod_cast this
  have hln : m.nx.length ≤ 65536 := by
    have := Nat.mul_le_mul hn1 hk1
    omega
  have hl0 : 0 < m.nx.length := by rw [hlen]; exact Nat.mul_pos hn0 hk0
  have hst : ∀ j, j < m.nx.length → ∃ t : Nat, t < nn ∧ m.nx.getD j 0 = (t : Int) := fun j hj => by
    have := R.st j (by omega)
    exact ⟨(m.nx.getD j 0).toNat, by omega, by omega⟩
  clear R
  obtain ⟨kind, k, o, n, nx, out⟩ := m
  simp only at hkk hnn hlen hln hl0 hst B0 b0 h1 ⊢
  subst hkk
  subst hnn
  rw [Int.toNat_natCast]
  have HST := hide hst
  have HLN := hide hlen
  obtain ⟨wb, hwb⟩ : ∃ wb, wb = w.alloc (.cells #[.int .i64 kind, .int .i64 (kk : Int), .int .i64 o, .int .i64 (nn : Int), .slice a1 nx.length c1, .slice a2 out.length c2] 51) := ⟨_, rfl⟩
  have hwz : wb.heap.size = w.heap.size + 1 := by rw [hwb]; simp
  rw [← hwb] at b0 B0
  have h1' := h1.below b0
  clear hst hlen h1
  go_enter Try.func54, Try.ntmps54
  go_upto_region 1 with fail
  rw [← hwb]
  obtain ⟨p0, p1, p2, p3, p4, p5⟩ := B0
  have HB0 := hide b0
  clear hwb b0
  simp only at p1 p4
  go_wp2_with (at_make; refine wplE_make eInts rfl (.tmp 9) (.tmp 9) rfl wb.heap.size _ _ nx.length rfl rfl rfl rfl (by omega) (Nat.le_refl _) ?_; intro w1 hown1 hb1; have q1 : w1.cell? ⟨w.heap.size, 1, none⟩ = some (.int .i64 (kk : Int)) := (hb1.cell (by show w.heap.size < _; omega)).trans p1; have q4 : w1.cell? ⟨w.heap.size, 4, none⟩ = some (.slice a1 nx.length c1) := (hb1.cell (by show w.heap.size < _; omega)).trans p4)
  have K0 := Bkt.start (n := nx.length) hown1 hl0 hb1
  rw [hwz] at K0
  have HK0 := hide K0
  have HR := hide h1'
  clear K0 hown1 hb1 h1' q1 q4 p0 p2 p3 p5
  go_loopw [4, 5, 6, 14] (fun _ _ _ i wx => ∃ (j : Nat) (vs : Nat → Value), j ≤ nx.length ∧ i = .int .i64 j ∧ Bkt wb wx (w.heap.size + 1) nx.length vs (ldL nx kk j)) (fun _ _ _ i _ => nx.length - (intOf i).toNat)
  case atStart =>
    have e : ldL nx kk 0 = fun _ => [] := by funext i; rfl
    exact ⟨0, _, Nat.zero_le _, rfl, by rw [e]; exact unhide HK0⟩
  case round =>
    obtain ⟨j, vs, hj, rfl, hk⟩ := hrel
    clear HK0
    have q1 : wr.cell? ⟨w.heap.size, 1, none⟩ = some (.int .i64 (kk : Int)) := (hk.bl.cell (by show w.heap.size < _; omega)).trans p1
    by_cases hlt : j < nx.length
    · obtain ⟨ab, ao, rfl, hc⟩ := ((unhide HR).below hk.bl).at hlt
      have hcj := hc j hlt
      obtain ⟨t, ht, et⟩ := unhide HST j hlt
      rw [et] at hcj
      clear hc
      obtain ⟨x, hx⟩ : ∃ x, x = j % kk := ⟨_, rfl⟩
      obtain ⟨d, hd⟩ : ∃ d, d = j / kk := ⟨_, rfl⟩
      obtain ⟨pr, hpr⟩ : ∃ pr, pr = t * kk := ⟨_, rfl⟩
      have hxk : x < kk := by rw [hx]; exact Nat.mod_lt _ (by omega)
      have hprl : pr + kk ≤ nn * kk := by rw [hpr, ← Nat.succ_mul]; exact Nat.mul_le_mul_right _ ht
      have hrem : (j : Int) % (kk : Int) = (x : Int) := by rw [hx]; simp
      have hquo : (j : Int) / (kk : Int) = (d : Int) := by rw [hd]; simp
      have hmul : (t : Int) * (kk : Int) = (pr : Int) := by rw [hpr]; simp
      obtain ⟨ix, hix⟩ : ∃ ix, ix = pr + x := ⟨_, rfl⟩
      have hsum : (pr : Int) + (x : Int) = (ix : Int) := by omega
      have hixl : ix < nx.length := by rw [unhide HLN]; omega
      have hixl' : (ix : Int) < (nx.length : Int) := by omega
      have hix0 : (0 : Int) ≤ (ix : Int) := Int.natCast_nonneg _
      have wr0 : IntKind.i64.wrap ((t : Int) * (kk : Int)) = (pr : Int) := by rw [IntKind.wrap_i64, hmul]; omega
      have wr1 : IntKind.i64.wrap (pr : Int) = (pr : Int) := by rw [IntKind.wrap_i64]; omega
      have wr2 : IntKind.i64.wrap (ix : Int) = (ix : Int) := by rw [IntKind.wrap_i64]; omega
      have wr3 : IntKind.i64.wrap ((pr : Int) + (x : Int)) = (ix : Int) := by rw [IntKind.wrap_i64]; omega
      have hdj : d ≤ j := by rw [hd]; exact Nat.div_le_self _ _
      have wr4 : IntKind.i64.wrap (d : Int) = (d : Int) := by rw [IntKind.wrap_i64]; omega
      have hkz : ¬ (kk : Int) = 0 := by omega
      have hkz' : ¬ kk = 0 := by omega
      have HIX : Hid (ix = (nx.getD j 0).toNat * kk + j % kk) := by show _ = _; rw [hix, hpr, hx, et]; simp
      have HD := hide hd
      clear hix hpr hx hd et hprl
      obtain ⟨hcx, hfx⟩ := hk.cell ix hixl
      have hox := hk.own ix hixl
      have hgx := hk.ne ix hixl
      have hwx := hk.lt hixl
      have hll := ldL_len nx kk j ix
      obtain ⟨v0, hv0⟩ : ∃ v0, v0 = vs ix := ⟨_, rfl⟩
      rw [← hv0] at hcx hox hgx
      have hbw : v0.ownBlock ≠ some w.heap.size := fun e => by have := (hox.lt e).1; omega
      have HV0 := hide hv0
      have HK := hide hk
      clear hk hv0
      obtain ⟨l0, hl0'⟩ : ∃ l0, l0 = ldL nx kk j ix := ⟨_, rfl⟩
      rw [← hl0'] at hox hll
      have HL0 := hide hl0'
      clear hl0'
      obtain ⟨av, cv, rfl, -, -, -, -, -⟩ := hox.shape
      have hs0 : wr.cell? ⟨w.heap.size, 1, none⟩ = some (.int .i64 (kk : Int)) ∧ wr.cell? ⟨w.heap.size + 1, ix, none⟩ = some (.slice av l0.length cv) := ⟨q1, hcx⟩
      have hwx0 : w.heap.size < wr.heap.size := by omega
      have hsa : ∀ o, (wr.drew.alloc o).cell? ⟨w.heap.size, 1, none⟩ = some (.int .i64 (kk : Int)) ∧ (wr.drew.alloc o).cell? ⟨w.heap.size + 1, ix, none⟩ = some (.slice av l0.length cv) := fun o => ⟨(World.cell?_of_block (a := ⟨w.heap.size, 1, none⟩) (Below.heap_alloc wr.drew o _ hwx0)).trans q1, (World.cell?_of_block (a := ⟨w.heap.size + 1, ix, none⟩) (Below.heap_alloc wr.drew o _ hwx)).trans hcx⟩
      have hfa : ∀ o, (wr.drew.alloc o).frozen? ⟨w.heap.size + 1, ix, none⟩ = false := fun o => (World.frozen?_of_block (a := ⟨w.heap.size + 1, ix, none⟩) (Below.heap_alloc wr.drew o _ hwx)).trans hfx
      have HOX := hide (fun o => hox.drew.alloc o)
      have HRO := hide (RdL.one (q := .i64) (t := 3) wr (d : Int))
      clear hox
      go_wp2
      go_region_law (refine step_pushA eInt rfl (.tmp 38) (.tmp 43) rfl wb.heap.size (.slice av l0.length cv) l0 (by rfl) ((unhide HOX) _) ⟨wr.heap.size, 0, none⟩ 1 [(d : Int)] (by rfl) (RdL.one _ _) (by simp only [List.length_cons, List.length_nil]; omega) (by simp; omega) ?_; intro v4 w4 ho4 hb4 hg4 hat4; have k0 := hg4.block w.heap.size (by simp; omega) (fun e => hbw e.symm); have k1 := hg4.block (w.heap.size + 1) (by simp; omega) (fun e => hgx e.symm); have s40 := (World.cell?_of_block (a := ⟨w.heap.size, 1, none⟩) k0).trans (hsa _).1; have s41 := (World.cell?_of_block (a := ⟨w.heap.size + 1, ix, none⟩) k1).trans (hsa _).2; have f4 := (World.frozen?_of_block (a := ⟨w.heap.size + 1, ix, none⟩) k1).trans (hfa _); obtain ⟨a4, c4, rfl, -, -, -, -, -⟩ := ho4.shape)
      all_goals go_wp2
      all_goals go_roundw
      all_goals first
        | (refine ⟨j + 1, updV vs ix (.slice a4 (l0.length + 1) c4), by omega, by go_num, ?_⟩
           have e := ldL_next nx kk j
           rw [← unhide HIX, ← unhide HD, ← unhide HL0] at e
           rw [e]
           rw [show (l0 ++ [(d : Int)]).length = l0.length + 1 by simp] at ho4 hat4
           exact (unhide HK).push hixl (Below.drew (ballo wr (.cells #[.int .i64 (d : Int)] 3))) (by rw [← unhide HV0]; exact hg4) ho4 (by rw [← unhide HV0]; exact hat4))
        | (simp [intOf]; omega)
    · obtain rfl : j = nx.length := by omega
      have HK := hide hk
      clear hk
      go_wp2
      go_ret
      exact ⟨_, _, vs, rfl, (unhide HK).base (unhide HB0)⟩
end Go.Proofs.Ytnakadlhafggkaa
