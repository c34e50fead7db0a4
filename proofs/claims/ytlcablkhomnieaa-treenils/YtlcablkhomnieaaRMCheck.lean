/-
  What the reference's Check of machines returns, for every table: the same as the program's.
-/
import Derived.Test.YtlcablkhomnieaaK3
namespace Go.Proofs.Ytlcablkhomnieaa
open Go.RowKit

theorem bdAt_at {l : List Int} {n : Int} {j : Nat} (hj : j < l.length) (hb : ¬ (0 ≤ l.getD j 0 ∧ l.getD j 0 < n)) (hg : ∀ i, i < j → badB (fun i => l.getD i 0) n i = false) : bdAt l n = some j :=
  first_some hj (bad_yes (by omega)) hg
theorem good_next {l : List Int} {n : Int} {j : Nat} (hb : 0 ≤ l.getD j 0 ∧ l.getD j 0 < n) (hg : ∀ i, i < j → badB (fun i => l.getD i 0) n i = false) : ∀ i, i < j + 1 → badB (fun i => l.getD i 0) n i = false := fun i hi => by
  by_cases e : i = j
  · subst e; exact bad_no hb.1 hb.2
  · exact hg i (by omega)
theorem bdAt_none {l : List Int} {n : Int} (hg : ∀ i, i < l.length → badB (fun i => l.getD i 0) n i = false) : bdAt l n = none := first_none hg
theorem ne_t {a b : Int} (h : a ≠ b) : (a != b) = true := by simpa using h
theorem ne_f {a b : Int} (h : a = b) : (a != b) = false := by simpa using h
theorem eq_t {a b : Int} (h : a = b) : (a == b) = true := by simpa using h
theorem eq_f {a b : Int} (h : a ≠ b) : (a == b) = false := by simpa using h

theorem box_on {w : World} {B : Nat} {w' : World} {b : Nat} {m : Mc} {a1 : Option Addr} {c1 : Nat} {a2 : Option Addr} {c2 : Nat} (h : Box w b m a1 c1 a2 c2) (hb : Below B w w') (hB : b < B) : Box w' b m a1 c1 a2 c2 :=
  ⟨by rw [hb.cell (by exact hB)]; exact h.p0, by rw [hb.cell (by exact hB)]; exact h.p1, by rw [hb.cell (by exact hB)]; exact h.p2, by rw [hb.cell (by exact hB)]; exact h.p3, by rw [hb.cell (by exact hB)]; exact h.p4, by rw [hb.cell (by exact hB)]; exact h.p5⟩

set_option maxHeartbeats 4000000 in
theorem rmcheck_d (m : Mc) (a1 : Option Addr) (c1 : Nat) (a2 : Option Addr) (c2 : Nat) (w : World) (h1 : RdL .i64 w a1 m.nx) (h2 : RdL .i64 w a2 m.out) (hn : m.nx.length ≤ maxLen) (ho : m.out.length ≤ maxLen) (hk : m.kind = 1) :
    Calls Try.prog 62 #[mval m a1 c1 a2 c2] w fun e w' => e = .returned (.tuple #[.int .i64 (mchV m).1, .int .i64 (mchV m).2]) ∧ Below w.heap.size w w' := by
  unfold mval
  unfold maxLen at hn ho
  have B0 := Box.alloc w m a1 c1 a2 c2 31
  have b0 := ballo w (.cells #[.int .i64 m.kind, .int .i64 m.k, .int .i64 m.o, .int .i64 m.n, .slice a1 m.nx.length c1, .slice a2 m.out.length c2] 31)
  have t1 := eq_t hk
  have t1' := ne_f hk
  have t2 := eq_f (a := m.kind) (b := 2) (by omega)
  by_cases h : m.k < 1
  · have Z := szV_arg (m := m) (lo := 2) (hi := 2) (p := 1) (.inl h)
    have H := hide ((mchV_d1 hk (by rw [Z]; decide)).trans (by rw [Z]))
    clear Z hk
    go_enter Try.func62, Try.ntmps62
    go_wp2
    go_ret2
    exact ⟨by rw [unhide H]; rfl, b0⟩
  by_cases h' : 64 < m.k
  · have Z := szV_arg (m := m) (lo := 2) (hi := 2) (p := 1) (.inr h')
    have H := hide ((mchV_d1 hk (by rw [Z]; decide)).trans (by rw [Z]))
    clear Z hk
    go_enter Try.func62, Try.ntmps62
    go_wp2
    go_ret2
    exact ⟨by rw [unhide H]; rfl, b0⟩
  have k0 : 1 ≤ m.k := by omega
  have k1 : m.k ≤ 64 := by omega
  clear h h'
  by_cases h : m.o = 2
  rotate_left
  · have Z := szV_o (m := m) (lo := 2) (hi := 2) (p := 1) k0 k1 (by omega)
    have to := ne_t h
    clear h
    have H := hide ((mchV_d1 hk (by rw [Z]; decide)).trans (by rw [Z]))
    clear Z hk
    go_enter Try.func62, Try.ntmps62
    go_wp2
    go_ret2
    exact ⟨by rw [unhide H]; rfl, b0⟩
  have to := ne_f h
  have o0 : 2 ≤ m.o := by omega
  have o1 : m.o ≤ 2 := by omega
  clear h
  by_cases hinl : m.n < 1
  · have Z := szV_n (m := m) (lo := 2) (hi := 2) (p := 1) k0 k1 o0 o1 (.inl hinl)
    have H := hide ((mchV_d1 hk (by rw [Z]; decide)).trans (by rw [Z]))
    clear Z hk
    go_enter Try.func62, Try.ntmps62
    go_wp2
    go_ret2
    exact ⟨by rw [unhide H]; rfl, b0⟩
  by_cases hinr : 1024 < m.n
  · have Z := szV_n (m := m) (lo := 2) (hi := 2) (p := 1) k0 k1 o0 o1 (.inr hinr)
    have H := hide ((mchV_d1 hk (by rw [Z]; decide)).trans (by rw [Z]))
    clear Z hk
    go_enter Try.func62, Try.ntmps62
    go_wp2
    go_ret2
    exact ⟨by rw [unhide H]; rfl, b0⟩
  have n0 : 1 ≤ m.n := by omega
  have n1 : m.n ≤ 1024 := by omega
  clear hinl hinr
  have hm0 : 0 ≤ m.n * m.k := Int.mul_nonneg (by omega) (by omega)
  have hm1 : m.n * m.k ≤ 1024 * 64 := Int.mul_le_mul n1 k1 (by omega) (by omega)
  by_cases h3 : (m.nx.length : Int) = m.n * m.k
  rotate_left
  · have Z := szV_shape (m := m) (lo := 2) (hi := 2) (p := 1) k0 k1 o0 o1 n0 n1 (.inl h3)
    have t3 := ne_t h3
    clear h3
    have H := hide ((mchV_d1 hk (by rw [Z]; decide)).trans (by rw [Z]))
    clear Z hk
    go_enter Try.func62, Try.ntmps62
    go_wp2
    go_ret2
    exact ⟨by rw [unhide H]; rfl, b0⟩
  have t3 := ne_f h3
  by_cases h4 : (m.out.length : Int) = m.n
  rotate_left
  · have Z := szV_shape (m := m) (lo := 2) (hi := 2) (p := 1) k0 k1 o0 o1 n0 n1 (.inr (by rw [Int.mul_one]; exact h4))
    have t4 := ne_t h4
    clear h3 h4
    have H := hide ((mchV_d1 hk (by rw [Z]; decide)).trans (by rw [Z]))
    clear Z hk
    go_enter Try.func62, Try.ntmps62
    go_wp2
    go_ret2
    exact ⟨by rw [unhide H]; rfl, b0⟩
  have t4 := ne_f h4
  have HM := hide (mchV_d0 hk (szV_ok (lo := 2) (hi := 2) (p := 1) k0 k1 o0 o1 n0 n1 h3 (by rw [Int.mul_one]; exact h4)))
  clear h3 h4 hk
  go_enter Try.func62, Try.ntmps62
  go_wp2
  go_loopw [5] (fun i wr => ∃ j : Nat, j ≤ m.nx.length ∧ i = .int .i64 j ∧ Hid (∀ i, i < j → badB (fun i => m.nx.getD i 0) m.n i = false) ∧ Below w.heap.size w wr ∧ Below (w.heap.size + 1) (w.alloc (.cells #[.int .i64 m.kind, .int .i64 m.k, .int .i64 m.o, .int .i64 m.n, .slice a1 m.nx.length c1, .slice a2 m.out.length c2] 31)) wr) (fun i _ => m.nx.length - (intOf i).toNat)
  case atStart => exact ⟨0, Nat.zero_le _, rfl, hide (fun i hi => by omega), b0, Below.refl _ _⟩
  case round =>
    obtain ⟨j, hj, rfl, HG, b1, d1⟩ := hrel
    obtain ⟨q0, q1, q2, q3, q4, q5⟩ := box_on B0 d1 (Nat.lt_succ_self _)
    by_cases hlt : j < m.nx.length
    · obtain ⟨b, off, rfl, hc⟩ := (h1.below b1).at hlt
      have hcj := hc j hlt
      have hlt' : (j : Int) < (m.nx.length : Int) := by omega
      have HY : Hid (¬ (0 ≤ m.nx.getD j 0 ∧ m.nx.getD j 0 < m.n) → bdAt m.nx m.n = some j) := fun h => bdAt_at hlt h (unhide HG)
      have HN : Hid (0 ≤ m.nx.getD j 0 ∧ m.nx.getD j 0 < m.n → ∀ i, i < j + 1 → badB (fun i => m.nx.getD i 0) m.n i = false) := fun h => good_next h (unhide HG)
      clear hc HG
      generalize m.nx.getD j 0 = y at *
      by_cases hy0 : y < 0
      · have H := hide (enV_state (unhide HY (by omega)))
        clear HN HY
        go_wp2
        go_quiet (fail)
        go_wp2
        go_ret2
        exact ⟨by rw [unhide HM, unhide H]; rfl, bstep b1 (bdrew _ _)⟩
      by_cases hy1 : m.n ≤ y
      · have H := hide (enV_state (unhide HY (by omega)))
        clear HN HY
        go_wp2
        go_quiet (fail)
        go_wp2
        go_ret2
        exact ⟨by rw [unhide HM, unhide H]; rfl, bstep b1 (bdrew _ _)⟩
      · have HS := hide (unhide HN (by omega))
        clear HN HY
        go_wp2
        go_quiet (fail)
        go_wp2
        go_roundw
        case rel => exact ⟨j + 1, by omega, by go_num, HS, bstep b1 (bdrew _ _), below_drewN d1 _⟩
        case measure => simp [intOf]; omega
    · have he : j = m.nx.length := by omega
      subst he
      have HA := hide (bdAt_none (unhide HG))
      clear HG hj hlt
      go_wp2
      go_loopw [6] (fun i wr => ∃ j : Nat, j ≤ m.out.length ∧ i = .int .i64 j ∧ Hid (∀ i, i < j → badB (fun i => m.out.getD i 0) m.o i = false) ∧ Below w.heap.size w wr ∧ Below (w.heap.size + 1) (w.alloc (.cells #[.int .i64 m.kind, .int .i64 m.k, .int .i64 m.o, .int .i64 m.n, .slice a1 m.nx.length c1, .slice a2 m.out.length c2] 31)) wr) (fun i _ => m.out.length - (intOf i).toNat)
      case atStart => exact ⟨0, Nat.zero_le _, rfl, hide (fun i hi => by omega), b1, d1⟩
      case round =>
        obtain ⟨j, hj, rfl, HG, b1, d1⟩ := hrel
        obtain ⟨q0, q1, q2, q3, q4, q5⟩ := box_on B0 d1 (Nat.lt_succ_self _)
        by_cases hlt : j < m.out.length
        · obtain ⟨b, off, rfl, hc⟩ := (h2.below b1).at hlt
          have hcj := hc j hlt
          have hlt' : (j : Int) < (m.out.length : Int) := by omega
          have HY : Hid (¬ (0 ≤ m.out.getD j 0 ∧ m.out.getD j 0 < m.o) → bdAt m.out m.o = some j) := fun h => bdAt_at hlt h (unhide HG)
          have HN : Hid (0 ≤ m.out.getD j 0 ∧ m.out.getD j 0 < m.o → ∀ i, i < j + 1 → badB (fun i => m.out.getD i 0) m.o i = false) := fun h => good_next h (unhide HG)
          clear hc HG
          generalize m.out.getD j 0 = y at *
          by_cases hy0 : y < 0
          · have H := hide (enV_out (unhide HA) (unhide HY (by omega)))
            clear HN HY
            go_wp2
            go_quiet (fail)
            go_wp2
            go_ret2
            exact ⟨by rw [unhide HM, unhide H]; rfl, bstep b1 (bdrew _ _)⟩
          by_cases hy1 : m.o ≤ y
          · have H := hide (enV_out (unhide HA) (unhide HY (by omega)))
            clear HN HY
            go_wp2
            go_quiet (fail)
            go_wp2
            go_ret2
            exact ⟨by rw [unhide HM, unhide H]; rfl, bstep b1 (bdrew _ _)⟩
          · have HS := hide (unhide HN (by omega))
            clear HN HY
            go_wp2
            go_quiet (fail)
            go_wp2
            go_roundw
            case rel => exact ⟨j + 1, by omega, by go_num, HS, bstep b1 (bdrew _ _), below_drewN d1 _⟩
            case measure => simp [intOf]; omega
        · have he : j = m.out.length := by omega
          subst he
          have HB := hide (bdAt_none (unhide HG))
          clear HG hj hlt
          have H := hide (enV_ok (unhide HA) (unhide HB))
          go_wp2
          go_ret2
          exact ⟨by rw [unhide HM, unhide H]; rfl, b1⟩

set_option maxHeartbeats 4000000 in
theorem rmcheck_m (m : Mc) (a1 : Option Addr) (c1 : Nat) (a2 : Option Addr) (c2 : Nat) (w : World) (h1 : RdL .i64 w a1 m.nx) (h2 : RdL .i64 w a2 m.out) (hn : m.nx.length ≤ maxLen) (ho : m.out.length ≤ maxLen) (hk : m.kind = 2) :
    Calls Try.prog 62 #[mval m a1 c1 a2 c2] w fun e w' => e = .returned (.tuple #[.int .i64 (mchV m).1, .int .i64 (mchV m).2]) ∧ Below w.heap.size w w' := by
  unfold mval
  unfold maxLen at hn ho
  have B0 := Box.alloc w m a1 c1 a2 c2 31
  have b0 := ballo w (.cells #[.int .i64 m.kind, .int .i64 m.k, .int .i64 m.o, .int .i64 m.n, .slice a1 m.nx.length c1, .slice a2 m.out.length c2] 31)
  have t1 := eq_f (a := m.kind) (b := 1) (by omega)
  have t1' := ne_t (a := m.kind) (b := 1) (by omega)
  have t2 := eq_t hk
  have t2' := ne_f hk
  by_cases h : m.k < 1
  · have Z := szV_arg (m := m) (lo := 1) (hi := 64) (p := m.k) (.inl h)
    have H := hide ((mchV_m1 hk (by rw [Z]; decide)).trans (by rw [Z]))
    clear Z hk
    go_enter Try.func62, Try.ntmps62
    go_wp2
    go_ret2
    exact ⟨by rw [unhide H]; rfl, b0⟩
  by_cases h' : 64 < m.k
  · have Z := szV_arg (m := m) (lo := 1) (hi := 64) (p := m.k) (.inr h')
    have H := hide ((mchV_m1 hk (by rw [Z]; decide)).trans (by rw [Z]))
    clear Z hk
    go_enter Try.func62, Try.ntmps62
    go_wp2
    go_ret2
    exact ⟨by rw [unhide H]; rfl, b0⟩
  have k0 : 1 ≤ m.k := by omega
  have k1 : m.k ≤ 64 := by omega
  clear h h'
  by_cases h : m.o < 1
  · have Z := szV_o (m := m) (lo := 1) (hi := 64) (p := m.k) k0 k1 (.inl h)
    have H := hide ((mchV_m1 hk (by rw [Z]; decide)).trans (by rw [Z]))
    clear Z hk
    go_enter Try.func62, Try.ntmps62
    go_wp2
    go_ret2
    exact ⟨by rw [unhide H]; rfl, b0⟩
  by_cases h' : 64 < m.o
  · have Z := szV_o (m := m) (lo := 1) (hi := 64) (p := m.k) k0 k1 (.inr h')
    have H := hide ((mchV_m1 hk (by rw [Z]; decide)).trans (by rw [Z]))
    clear Z hk
    go_enter Try.func62, Try.ntmps62
    go_wp2
    go_ret2
    exact ⟨by rw [unhide H]; rfl, b0⟩
  have o0 : 1 ≤ m.o := by omega
  have o1 : m.o ≤ 64 := by omega
  clear h h'
  by_cases hinl : m.n < 1
  · have Z := szV_n (m := m) (lo := 1) (hi := 64) (p := m.k) k0 k1 o0 o1 (.inl hinl)
    have H := hide ((mchV_m1 hk (by rw [Z]; decide)).trans (by rw [Z]))
    clear Z hk
    go_enter Try.func62, Try.ntmps62
    go_wp2
    go_ret2
    exact ⟨by rw [unhide H]; rfl, b0⟩
  by_cases hinr : 1024 < m.n
  · have Z := szV_n (m := m) (lo := 1) (hi := 64) (p := m.k) k0 k1 o0 o1 (.inr hinr)
    have H := hide ((mchV_m1 hk (by rw [Z]; decide)).trans (by rw [Z]))
    clear Z hk
    go_enter Try.func62, Try.ntmps62
    go_wp2
    go_ret2
    exact ⟨by rw [unhide H]; rfl, b0⟩
  have n0 : 1 ≤ m.n := by omega
  have n1 : m.n ≤ 1024 := by omega
  clear hinl hinr
  have hm0 : 0 ≤ m.n * m.k := Int.mul_nonneg (by omega) (by omega)
  have hm1 : m.n * m.k ≤ 1024 * 64 := Int.mul_le_mul n1 k1 (by omega) (by omega)
  by_cases h3 : (m.nx.length : Int) = m.n * m.k
  rotate_left
  · have Z := szV_shape (m := m) (lo := 1) (hi := 64) (p := m.k) k0 k1 o0 o1 n0 n1 (.inl h3)
    have t3 := ne_t h3
    clear h3
    have H := hide ((mchV_m1 hk (by rw [Z]; decide)).trans (by rw [Z]))
    clear Z hk
    go_enter Try.func62, Try.ntmps62
    go_wp2
    go_ret2
    exact ⟨by rw [unhide H]; rfl, b0⟩
  have t3 := ne_f h3
  by_cases h4 : (m.out.length : Int) = m.n * m.k
  rotate_left
  · have Z := szV_shape (m := m) (lo := 1) (hi := 64) (p := m.k) k0 k1 o0 o1 n0 n1 (.inr (by skip; exact h4))
    have t4 := ne_t h4
    clear h3 h4
    have H := hide ((mchV_m1 hk (by rw [Z]; decide)).trans (by rw [Z]))
    clear Z hk
    go_enter Try.func62, Try.ntmps62
    go_wp2
    go_ret2
    exact ⟨by rw [unhide H]; rfl, b0⟩
  have t4 := ne_f h4
  have HM := hide (mchV_m0 hk (szV_ok (lo := 1) (hi := 64) (p := m.k) k0 k1 o0 o1 n0 n1 h3 (by skip; exact h4)))
  clear h3 h4 hk
  go_enter Try.func62, Try.ntmps62
  go_wp2
  go_loopw [5] (fun i wr => ∃ j : Nat, j ≤ m.nx.length ∧ i = .int .i64 j ∧ Hid (∀ i, i < j → badB (fun i => m.nx.getD i 0) m.n i = false) ∧ Below w.heap.size w wr ∧ Below (w.heap.size + 1) (w.alloc (.cells #[.int .i64 m.kind, .int .i64 m.k, .int .i64 m.o, .int .i64 m.n, .slice a1 m.nx.length c1, .slice a2 m.out.length c2] 31)) wr) (fun i _ => m.nx.length - (intOf i).toNat)
  case atStart => exact ⟨0, Nat.zero_le _, rfl, hide (fun i hi => by omega), b0, Below.refl _ _⟩
  case round =>
    obtain ⟨j, hj, rfl, HG, b1, d1⟩ := hrel
    obtain ⟨q0, q1, q2, q3, q4, q5⟩ := box_on B0 d1 (Nat.lt_succ_self _)
    by_cases hlt : j < m.nx.length
    · obtain ⟨b, off, rfl, hc⟩ := (h1.below b1).at hlt
      have hcj := hc j hlt
      have hlt' : (j : Int) < (m.nx.length : Int) := by omega
      have HY : Hid (¬ (0 ≤ m.nx.getD j 0 ∧ m.nx.getD j 0 < m.n) → bdAt m.nx m.n = some j) := fun h => bdAt_at hlt h (unhide HG)
      have HN : Hid (0 ≤ m.nx.getD j 0 ∧ m.nx.getD j 0 < m.n → ∀ i, i < j + 1 → badB (fun i => m.nx.getD i 0) m.n i = false) := fun h => good_next h (unhide HG)
      clear hc HG
      generalize m.nx.getD j 0 = y at *
      by_cases hy0 : y < 0
      · have H := hide (enV_state (unhide HY (by omega)))
        clear HN HY
        go_wp2
        go_quiet (fail)
        go_wp2
        go_ret2
        exact ⟨by rw [unhide HM, unhide H]; rfl, bstep b1 (bdrew _ _)⟩
      by_cases hy1 : m.n ≤ y
      · have H := hide (enV_state (unhide HY (by omega)))
        clear HN HY
        go_wp2
        go_quiet (fail)
        go_wp2
        go_ret2
        exact ⟨by rw [unhide HM, unhide H]; rfl, bstep b1 (bdrew _ _)⟩
      · have HS := hide (unhide HN (by omega))
        clear HN HY
        go_wp2
        go_quiet (fail)
        go_wp2
        go_roundw
        case rel => exact ⟨j + 1, by omega, by go_num, HS, bstep b1 (bdrew _ _), below_drewN d1 _⟩
        case measure => simp [intOf]; omega
    · have he : j = m.nx.length := by omega
      subst he
      have HA := hide (bdAt_none (unhide HG))
      clear HG hj hlt
      go_wp2
      go_loopw [6] (fun i wr => ∃ j : Nat, j ≤ m.out.length ∧ i = .int .i64 j ∧ Hid (∀ i, i < j → badB (fun i => m.out.getD i 0) m.o i = false) ∧ Below w.heap.size w wr ∧ Below (w.heap.size + 1) (w.alloc (.cells #[.int .i64 m.kind, .int .i64 m.k, .int .i64 m.o, .int .i64 m.n, .slice a1 m.nx.length c1, .slice a2 m.out.length c2] 31)) wr) (fun i _ => m.out.length - (intOf i).toNat)
      case atStart => exact ⟨0, Nat.zero_le _, rfl, hide (fun i hi => by omega), b1, d1⟩
      case round =>
        obtain ⟨j, hj, rfl, HG, b1, d1⟩ := hrel
        obtain ⟨q0, q1, q2, q3, q4, q5⟩ := box_on B0 d1 (Nat.lt_succ_self _)
        by_cases hlt : j < m.out.length
        · obtain ⟨b, off, rfl, hc⟩ := (h2.below b1).at hlt
          have hcj := hc j hlt
          have hlt' : (j : Int) < (m.out.length : Int) := by omega
          have HY : Hid (¬ (0 ≤ m.out.getD j 0 ∧ m.out.getD j 0 < m.o) → bdAt m.out m.o = some j) := fun h => bdAt_at hlt h (unhide HG)
          have HN : Hid (0 ≤ m.out.getD j 0 ∧ m.out.getD j 0 < m.o → ∀ i, i < j + 1 → badB (fun i => m.out.getD i 0) m.o i = false) := fun h => good_next h (unhide HG)
          clear hc HG
          generalize m.out.getD j 0 = y at *
          by_cases hy0 : y < 0
          · have H := hide (enV_out (unhide HA) (unhide HY (by omega)))
            clear HN HY
            go_wp2
            go_quiet (fail)
            go_wp2
            go_ret2
            exact ⟨by rw [unhide HM, unhide H]; rfl, bstep b1 (bdrew _ _)⟩
          by_cases hy1 : m.o ≤ y
          · have H := hide (enV_out (unhide HA) (unhide HY (by omega)))
            clear HN HY
            go_wp2
            go_quiet (fail)
            go_wp2
            go_ret2
            exact ⟨by rw [unhide HM, unhide H]; rfl, bstep b1 (bdrew _ _)⟩
          · have HS := hide (unhide HN (by omega))
            clear HN HY
            go_wp2
            go_quiet (fail)
            go_wp2
            go_roundw
            case rel => exact ⟨j + 1, by omega, by go_num, HS, bstep b1 (bdrew _ _), below_drewN d1 _⟩
            case measure => simp [intOf]; omega
        · have he : j = m.out.length := by omega
          subst he
          have HB := hide (bdAt_none (unhide HG))
          clear HG hj hlt
          have H := hide (enV_ok (unhide HA) (unhide HB))
          go_wp2
          go_ret2
          exact ⟨by rw [unhide HM, unhide H]; rfl, b1⟩

theorem rmcheck_any (m : Mc) (a1 : Option Addr) (c1 : Nat) (a2 : Option Addr) (c2 : Nat) (w : World) (h1 : RdL .i64 w a1 m.nx) (h2 : RdL .i64 w a2 m.out) (hn : m.nx.length ≤ maxLen) (ho : m.out.length ≤ maxLen) :
    Calls Try.prog 62 #[mval m a1 c1 a2 c2] w fun e w' => e = .returned (.tuple #[.int .i64 (mchV m).1, .int .i64 (mchV m).2]) ∧ Below w.heap.size w w' := by
  by_cases hk : m.kind = 1
  · exact rmcheck_d m a1 c1 a2 c2 w h1 h2 hn ho hk
  by_cases hk2 : m.kind = 2
  · exact rmcheck_m m a1 c1 a2 c2 w h1 h2 hn ho hk2
  unfold mval
  have t1 := eq_f hk
  have t1' := ne_t hk
  have t2 := eq_f hk2
  have t2' := ne_t hk2
  have H := hide (mchV_no hk hk2)
  clear hk hk2
  go_enter Try.func62, Try.ntmps62
  go_wp2
  go_ret2
  exact ⟨by rw [unhide H]; rfl, ballo _ _⟩

end Go.Proofs.Ytlcablkhomnieaa
