/-
  Some texts of this seat, one behind the other.
-/
import Derived.Test.YtepmdnggiajkbaaK1
import Derived.Test.YtepmdnggiajkbaaK2
/-
  What the program's Check of machines returns, and the functions that it calls, for every table.
-/
namespace Go.Proofs.Ytepmdnggiajkbaa
open Go.RowKit

def witB (x lo hi : Int) : Bool := decide (lo ≤ x ∧ x ≤ hi)
theorem wit_yes {x lo hi : Int} (h1 : lo ≤ x) (h2 : x ≤ hi) : witB x lo hi = true := by unfold witB; simp [h1, h2]
theorem wit_no {x lo hi : Int} (h : x < lo ∨ hi < x) : witB x lo hi = false := by unfold witB; simp; omega

theorem within_any (x lo hi : Int) (w : World) : Calls Try.prog 85 #[.int .i64 x, .int .i64 lo, .int .i64 hi] w fun e w' => e = .returned (.bool (witB x lo hi)) ∧ w' = w := by
  by_cases h1 : lo ≤ x
  · by_cases h2 : x ≤ hi
    · have H := hide (wit_yes h1 h2)
      go_enter Try.func85, Try.ntmps85
      go_wp2
      go_ret
      exact ⟨ret_bool (by rw [unhide H]), rfl⟩
    · have H := hide (wit_no (x := x) (lo := lo) (hi := hi) (by omega))
      go_enter Try.func85, Try.ntmps85
      go_wp2
      go_ret
      exact ⟨ret_bool (by rw [unhide H]), rfl⟩
  · have H := hide (wit_no (x := x) (lo := lo) (hi := hi) (by omega))
    go_enter Try.func85, Try.ntmps85
    go_wp2
    go_ret
    exact ⟨ret_bool (by rw [unhide H]), rfl⟩

theorem firstOutside_any (a : Option Addr) (c : Nat) (l : List Int) (n : Int) (w : World) (hr : RdL .i64 w a l) (hl : l.length ≤ maxLen) (h0 : 1 ≤ n) (h1 : n ≤ 1024) :
    Calls Try.prog 86 #[.slice a l.length c, .int .i64 n] w fun e w' => e = .returned (.int .i64 (bdV l n)) ∧ w' = w := by
  unfold maxLen at hl
  go_enter Try.func86, Try.ntmps86
  go_wp2
  go_loopw [8] (fun i wr => wr = w ∧ ∃ j : Nat, j ≤ l.length ∧ i = .int .i64 j ∧ Hid (∀ i, i < j → badB (fun i => l.getD i 0) n i = false)) (fun i _ => l.length - (intOf i).toNat)
  case atStart => exact ⟨rfl, 0, Nat.zero_le _, rfl, hide (fun i hi => by omega)⟩
  case round =>
    obtain ⟨rfl, j, hj, rfl, HG⟩ := hrel
    by_cases hlt : j < l.length
    · obtain ⟨b, off, rfl, hc⟩ := hr.at hlt
      have hcj := hc j hlt
      have hlt' : (j : Int) < (l.length : Int) := by omega
      have HY : Hid (¬ (0 ≤ l.getD j 0 ∧ l.getD j 0 ≤ n - 1) → bdV l n = j) := fun h => bdV_at hlt (bad_yes (by omega)) (unhide HG)
      have HN : Hid (0 ≤ l.getD j 0 ∧ l.getD j 0 ≤ n - 1 → ∀ i, i < j + 1 → badB (fun i => l.getD i 0) n i = false) := fun h i hi => by
        by_cases e : i = j
        · subst e; exact bad_no (by omega) (by omega)
        · exact unhide HG i (by omega)
      clear hc HG
      generalize l.getD j 0 = y at *
      by_cases hy : 0 ≤ y ∧ y ≤ n - 1
      · have W := wit_yes hy.1 hy.2
        have HS := hide (unhide HN hy)
        clear HN HY hy
        go_wp2_with (go_at_call 85; refine (within_any _ _ _ _).mono ?_; rintro e w' ⟨rfl, rfl⟩)
        go_roundw
        case rel => exact ⟨trivial, j + 1, by omega, by go_num, HS⟩
        case measure => simp [intOf]; omega
      · have W := wit_no (x := y) (lo := 0) (hi := n - 1) (by omega)
        have HS := hide (unhide HY hy)
        clear HN HY hy
        go_wp2_with (go_at_call 85; refine (within_any _ _ _ _).mono ?_; rintro e w' ⟨rfl, rfl⟩)
        go_ret
        exact ⟨ret_int (unhide HS).symm, rfl⟩
    · have he : j = l.length := by omega
      subst he
      have HS := hide (bdV_none (unhide HG))
      go_wp2
      go_ret
      exact ⟨ret_int (unhide HS).symm, rfl⟩

/-- A machine as a value: its table, and where its lists lie. -/
def mval (m : Mc) (a1 : Option Addr) (c1 : Nat) (a2 : Option Addr) (c2 : Nat) : Value :=
  .agg #[.int .i64 m.kind, .int .i64 m.k, .int .i64 m.o, .int .i64 m.n, .slice a1 m.nx.length c1, .slice a2 m.out.length c2]

/-- The block b holds the machine's six parts. -/
structure Box (w : World) (b : Nat) (m : Mc) (a1 : Option Addr) (c1 : Nat) (a2 : Option Addr) (c2 : Nat) : Prop where
  p0 : w.cell? ⟨b, 0, none⟩ = some (.int .i64 m.kind)
  p1 : w.cell? ⟨b, 1, none⟩ = some (.int .i64 m.k)
  p2 : w.cell? ⟨b, 2, none⟩ = some (.int .i64 m.o)
  p3 : w.cell? ⟨b, 3, none⟩ = some (.int .i64 m.n)
  p4 : w.cell? ⟨b, 4, none⟩ = some (.slice a1 m.nx.length c1)
  p5 : w.cell? ⟨b, 5, none⟩ = some (.slice a2 m.out.length c2)
theorem Box.alloc (w : World) (m : Mc) (a1 : Option Addr) (c1 : Nat) (a2 : Option Addr) (c2 : Nat) (t : TypeId) :
    Box (w.alloc (.cells #[.int .i64 m.kind, .int .i64 m.k, .int .i64 m.o, .int .i64 m.n, .slice a1 m.nx.length c1, .slice a2 m.out.length c2] t)) w.heap.size m a1 c1 a2 c2 := by
  constructor <;> simp
theorem Box.below {w w' : World} {b : Nat} {m : Mc} {a1 : Option Addr} {c1 : Nat} {a2 : Option Addr} {c2 : Nat} (h : Box w b m a1 c1 a2 c2) (hb : Below w.heap.size w w') : Box w' b m a1 c1 a2 c2 := by
  have hlt := World.block_lt_of_cell? w _ h.p0
  exact ⟨by rw [hb.cell (by exact hlt)]; exact h.p0, by rw [hb.cell (by exact hlt)]; exact h.p1, by rw [hb.cell (by exact hlt)]; exact h.p2, by rw [hb.cell (by exact hlt)]; exact h.p3, by rw [hb.cell (by exact hlt)]; exact h.p4, by rw [hb.cell (by exact hlt)]; exact h.p5⟩
theorem bstep {w w1 w2 : World} (h : Below w.heap.size w w1) (hb : Below w1.heap.size w1 w2) : Below w.heap.size w w2 := h.trans (hb.mono h.size)
theorem balloc {w w1 : World} (h : Below w.heap.size w w1) (o : Obj) : Below w.heap.size w (w1.alloc o) := h.alloc h.size o
theorem ballo (w : World) (o : Obj) : Below w.heap.size w (w.alloc o) := (Below.refl _ _).alloc (Nat.le_refl _) o

theorem entryFault_any (m : Mc) (a1 : Option Addr) (c1 : Nat) (a2 : Option Addr) (c2 : Nat) (w : World) (h1 : RdL .i64 w a1 m.nx) (h2 : RdL .i64 w a2 m.out) (hn : m.nx.length ≤ maxLen) (ho : m.out.length ≤ maxLen)
    (n0 : 1 ≤ m.n) (n1 : m.n ≤ 1024) (o0 : 1 ≤ m.o) (o1 : m.o ≤ 1024) :
    Calls Try.prog 74 #[mval m a1 c1 a2 c2] w fun e w' => e = .returned (.tuple #[.int .i64 (enV m).1, .int .i64 (enV m).2]) ∧ Below w.heap.size w w' := by
  unfold mval
  have hn' := hn
  have ho' := ho
  unfold maxLen at hn' ho'
  have r1 := h1.below (ballo w (.cells #[.int .i64 m.kind, .int .i64 m.k, .int .i64 m.o, .int .i64 m.n, .slice a1 m.nx.length c1, .slice a2 m.out.length c2] 27))
  have r2 := h2.below (ballo w (.cells #[.int .i64 m.kind, .int .i64 m.k, .int .i64 m.o, .int .i64 m.n, .slice a1 m.nx.length c1, .slice a2 m.out.length c2] 27))
  rcases bdAt_cases m.nx m.n with ⟨h, _⟩ | ⟨i, h, hi⟩
  · rcases bdAt_cases m.out m.o with ⟨h', _⟩ | ⟨i, h', hi⟩
    · have H := hide (enV_ok h h')
      have E := hide (bdV_no h)
      have E' := hide (bdV_no h')
      clear h h'
      go_enter Try.func74, Try.ntmps74
      go_wp2_with fail
      refine (firstOutside_any a1 c1 m.nx m.n _ r1 hn n0 n1).mono ?_
      rw [unhide E]
      rintro e w' ⟨rfl, rfl⟩
      go_wp2_with fail
      refine (firstOutside_any a2 c2 m.out m.o _ r2 ho o0 o1).mono ?_
      rw [unhide E']
      rintro e w' ⟨rfl, rfl⟩
      go_wp2
      go_ret2
      exact ⟨by rw [unhide H]; rfl, ballo _ _⟩
    · have H := hide (enV_out h h')
      have E := hide (bdV_no h)
      have E' := hide (bdV_some h')
      have hlt : (i : Int) < (m.out.length : Int) := by omega
      clear h h'
      go_enter Try.func74, Try.ntmps74
      go_wp2_with fail
      refine (firstOutside_any a1 c1 m.nx m.n _ r1 hn n0 n1).mono ?_
      rw [unhide E]
      rintro e w' ⟨rfl, rfl⟩
      go_wp2_with fail
      refine (firstOutside_any a2 c2 m.out m.o _ r2 ho o0 o1).mono ?_
      rw [unhide E']
      rintro e w' ⟨rfl, rfl⟩
      go_wp2
      go_ret2
      exact ⟨by rw [unhide H]; rfl, ballo _ _⟩
  · have H := hide (enV_state h)
    have E := hide (bdV_some h)
    have hlt : (i : Int) < (m.nx.length : Int) := by omega
    clear h
    go_enter Try.func74, Try.ntmps74
    go_wp2_with (go_at_call 86; refine (firstOutside_any a1 c1 m.nx m.n _ r1 hn n0 n1).mono ?_; rw [unhide E]; rintro e w' ⟨rfl, rfl⟩)
    go_ret2
    exact ⟨by rw [unhide H]; rfl, ballo _ _⟩

/-- What sizeFault returns; its world: one block more. -/
theorem sizeFault_any (m : Mc) (a1 : Option Addr) (c1 : Nat) (a2 : Option Addr) (c2 : Nat) (lo hi p : Int) (w : World) (p0 : 1 ≤ p) (p1 : m.k ≤ 64 → p ≤ 64) :
    Calls Try.prog 73 #[mval m a1 c1 a2 c2, .int .i64 lo, .int .i64 hi, .int .i64 p] w fun e w' => e = .returned (.int .i64 (szV m lo hi p)) ∧ Below w.heap.size w w' := by
  unfold mval
  by_cases h : 1 ≤ m.k ∧ m.k ≤ 64
  · obtain ⟨k0, k1⟩ := h
    have W1 := wit_yes k0 k1
    have p1 := p1 k1
    by_cases h : lo ≤ m.o ∧ m.o ≤ hi
    · obtain ⟨o0, o1⟩ := h
      have W2 := wit_yes o0 o1
      have HO := hide o0
      have HO' := hide o1
      clear o0 o1
      by_cases h : 1 ≤ m.n ∧ m.n ≤ 1024
      · obtain ⟨n0, n1⟩ := h
        have W3 := wit_yes n0 n1
        have hm0 : 0 ≤ m.n * m.k := Int.mul_nonneg (by omega) (by omega)
        have hm1 : m.n * m.k ≤ 1024 * 64 := Int.mul_le_mul n1 k1 (by omega) (by omega)
        have hq0 : 0 ≤ m.n * p := Int.mul_nonneg (by omega) (by omega)
        have hq1 : m.n * p ≤ 1024 * 64 := Int.mul_le_mul n1 p1 (by omega) (by omega)
        by_cases h3 : (m.nx.length : Int) = m.n * m.k
        · by_cases h4 : (m.out.length : Int) = m.n * p
          · have H := hide (szV_ok (lo := lo) (hi := hi) k0 k1 (unhide HO) (unhide HO') n0 n1 h3 h4)
            have t3 : ((m.nx.length : Int) != m.n * m.k) = false := by simpa using h3
            have t4 : ((m.out.length : Int) != m.n * p) = false := by simpa using h4
            clear h3 h4
            go_enter Try.func73, Try.ntmps73
            go_wp2_with (go_at_call 85; refine (within_any _ _ _ _).mono ?_; rintro e w' ⟨rfl, rfl⟩)
            go_ret
            exact ⟨ret_int (unhide H).symm, ballo _ _⟩
          · have H := hide (szV_shape (lo := lo) (hi := hi) k0 k1 (unhide HO) (unhide HO') n0 n1 (.inr h4))
            have t3 : ((m.nx.length : Int) != m.n * m.k) = false := by simpa using h3
            have t4 : ((m.out.length : Int) != m.n * p) = true := by simpa using h4
            clear h3 h4
            go_enter Try.func73, Try.ntmps73
            go_wp2_with (go_at_call 85; refine (within_any _ _ _ _).mono ?_; rintro e w' ⟨rfl, rfl⟩)
            go_ret
            exact ⟨ret_int (unhide H).symm, ballo _ _⟩
        · have H := hide (szV_shape (p := p) (lo := lo) (hi := hi) k0 k1 (unhide HO) (unhide HO') n0 n1 (.inl h3))
          have t3 : ((m.nx.length : Int) != m.n * m.k) = true := by simpa using h3
          clear h3
          go_enter Try.func73, Try.ntmps73
          go_wp2_with (go_at_call 85; refine (within_any _ _ _ _).mono ?_; rintro e w' ⟨rfl, rfl⟩)
          go_ret
          exact ⟨ret_int (unhide H).symm, ballo _ _⟩
      · have W3 := wit_no (x := m.n) (lo := 1) (hi := 1024) (by omega)
        have H := hide (szV_n (p := p) (lo := lo) (hi := hi) k0 k1 (unhide HO) (unhide HO') (by omega))
        clear h
        go_enter Try.func73, Try.ntmps73
        go_wp2_with (go_at_call 85; refine (within_any _ _ _ _).mono ?_; rintro e w' ⟨rfl, rfl⟩)
        go_ret
        exact ⟨ret_int (unhide H).symm, ballo _ _⟩
    · have W2 := wit_no (x := m.o) (lo := lo) (hi := hi) (by omega)
      have H := hide (szV_o (p := p) (lo := lo) (hi := hi) k0 k1 (by omega))
      clear h
      go_enter Try.func73, Try.ntmps73
      go_wp2_with (go_at_call 85; refine (within_any _ _ _ _).mono ?_; rintro e w' ⟨rfl, rfl⟩)
      go_ret
      exact ⟨ret_int (unhide H).symm, ballo _ _⟩
  · have W1 := wit_no (x := m.k) (lo := 1) (hi := 64) (by omega)
    have H := hide (szV_arg (m := m) (p := p) (lo := lo) (hi := hi) (by omega))
    clear h
    go_enter Try.func73, Try.ntmps73
    go_wp2_with (go_at_call 85; refine (within_any _ _ _ _).mono ?_; rintro e w' ⟨rfl, rfl⟩)
    go_ret
    exact ⟨ret_int (unhide H).symm, ballo _ _⟩

end Go.Proofs.Ytepmdnggiajkbaa

/-
  What the program's Check of machines returns, for every table.
-/
namespace Go.Proofs.Ytepmdnggiajkbaa
open Go.RowKit

theorem bdrew (w : World) (n : Nat) : Below w.heap.size w (w.drewN n) := below_drewN (Below.refl _ _) n
theorem ne_bne {x : Int} (h : x ≠ 0) : (x != 0) = true := by simpa using h
theorem mchV_d0 {m : Mc} (h : m.kind = 1) (hz : szV m 2 2 1 = 0) : mchV m = enV m := by unfold mchV; rw [if_pos h, if_pos hz]
theorem mchV_d1 {m : Mc} (h : m.kind = 1) (hz : szV m 2 2 1 ≠ 0) : mchV m = (0, szV m 2 2 1) := by unfold mchV; rw [if_pos h, if_neg hz]
theorem mchV_m0 {m : Mc} (h : m.kind = 2) (hz : szV m 1 64 m.k = 0) : mchV m = enV m := by unfold mchV; rw [if_neg (by omega), if_pos h, if_pos hz]
theorem mchV_m1 {m : Mc} (h : m.kind = 2) (hz : szV m 1 64 m.k ≠ 0) : mchV m = (0, szV m 1 64 m.k) := by unfold mchV; rw [if_neg (by omega), if_pos h, if_neg hz]
theorem mchV_no {m : Mc} (h : m.kind ≠ 1) (h2 : m.kind ≠ 2) : mchV m = (0, 30) := by unfold mchV; rw [if_neg h, if_neg h2]
/-- What sizeFault returns where more is said of k than need be. -/
theorem sizeFault_mealy (m : Mc) (a1 : Option Addr) (c1 : Nat) (a2 : Option Addr) (c2 : Nat) (w : World) :
    Calls Try.prog 73 #[mval m a1 c1 a2 c2, .int .i64 1, .int .i64 64, .int .i64 m.k] w fun e w' => e = .returned (.int .i64 (szV m 1 64 m.k)) ∧ Below w.heap.size w w' := by
  by_cases h : 1 ≤ m.k
  · exact sizeFault_any m a1 c1 a2 c2 1 64 m.k w h id
  · unfold mval
    have W1 := wit_no (x := m.k) (lo := 1) (hi := 64) (by omega)
    have H := hide (szV_arg (m := m) (p := m.k) (lo := 1) (hi := 64) (by omega))
    clear h
    go_enter Try.func73, Try.ntmps73
    go_wp2_with (go_at_call 85; refine (within_any _ _ _ _).mono ?_; rintro e w' ⟨rfl, rfl⟩)
    go_ret
    exact ⟨ret_int (unhide H).symm, ballo _ _⟩

theorem mcheck_any (m : Mc) (a1 : Option Addr) (c1 : Nat) (a2 : Option Addr) (c2 : Nat) (w : World) (h1 : RdL .i64 w a1 m.nx) (h2 : RdL .i64 w a2 m.out) (hn : m.nx.length ≤ maxLen) (ho : m.out.length ≤ maxLen) :
    Calls Try.prog 51 #[mval m a1 c1 a2 c2] w fun e w' => e = .returned (.tuple #[.int .i64 (mchV m).1, .int .i64 (mchV m).2]) ∧ Below w.heap.size w w' := by
  unfold mval
  have B0 := Box.alloc w m a1 c1 a2 c2 27
  have b0 := ballo w (.cells #[.int .i64 m.kind, .int .i64 m.k, .int .i64 m.o, .int .i64 m.n, .slice a1 m.nx.length c1, .slice a2 m.out.length c2] 27)
  by_cases hk : m.kind = 1
  · have t1 : (m.kind == 1) = true := by simpa using hk
    rcases szV_cases m 2 2 1 with ⟨hz, hs⟩ | ⟨hz, _, _⟩
    · have H := hide (mchV_d0 hk hz)
      have n0 := hs.n0
      have n1 := hs.n1
      have o0 : 1 ≤ m.o := Int.le_trans (by decide) hs.o0
      have o1 : m.o ≤ 1024 := Int.le_trans hs.o1 (by decide)
      clear hs hk
      have HZ := hide hz
      clear hz
      go_enter Try.func51, Try.ntmps51
      go_wp2
      go_quiet (fail)
      go_wp2_with fail
      refine (sizeFault_any m a1 c1 a2 c2 2 2 1 _ (by decide) (fun _ => by decide)).mono ?_
      rw [unhide HZ]
      rintro e w1 ⟨rfl, hb1⟩
      have b1 := bstep (bstep b0 (bdrew _ _)) hb1
      obtain ⟨q0, q1, q2, q3, q4, q5⟩ := (B0.below (bdrew _ _)).below hb1
      have r1 := h1.below b1
      have r2 := h2.below b1
      clear hb1 h1 h2 B0 b0 HZ
      go_wp2_with fail
      refine (entryFault_any m a1 c1 a2 c2 w1 r1 r2 hn ho n0 n1 o0 o1).mono ?_
      rw [← unhide H]
      rintro e w2 ⟨rfl, hb2⟩
      go_wp2
      go_ret2
      exact ⟨rfl, bstep b1 hb2⟩
    · have H := hide (mchV_d1 hk hz)
      have hz' := ne_bne hz
      clear hz hk
      go_enter Try.func51, Try.ntmps51
      go_wp2
      go_quiet (fail)
      go_wp2_with fail
      refine (sizeFault_any m a1 c1 a2 c2 2 2 1 _ (by decide) (fun _ => by decide)).mono ?_
      rintro e w1 ⟨rfl, hb1⟩
      have b1 := bstep (bstep b0 (bdrew _ _)) hb1
      clear hb1 h1 h2 B0 b0
      go_wp2
      go_ret2
      exact ⟨by rw [unhide H]; rfl, b1⟩
  have t1 : (m.kind == 1) = false := by simpa using hk
  have HK := hide hk
  clear hk
  by_cases hk : m.kind = 2
  · have t2 : (m.kind == 2) = true := by simpa using hk
    clear HK
    rcases szV_cases m 1 64 m.k with ⟨hz, hs⟩ | ⟨hz, _, _⟩
    · have H := hide (mchV_m0 hk hz)
      have n0 := hs.n0
      have n1 := hs.n1
      have o0 : 1 ≤ m.o := Int.le_trans (by decide) hs.o0
      have o1 : m.o ≤ 1024 := Int.le_trans hs.o1 (by decide)
      clear hs hk
      have HZ := hide hz
      clear hz
      go_enter Try.func51, Try.ntmps51
      go_wp2
      go_quiet (fail)
      go_wp2_with fail
      refine (sizeFault_mealy m a1 c1 a2 c2 _).mono ?_
      rw [unhide HZ]
      rintro e w1 ⟨rfl, hb1⟩
      have b1 := bstep (bstep b0 (bdrew _ _)) hb1
      obtain ⟨q0, q1, q2, q3, q4, q5⟩ := (B0.below (bdrew _ _)).below hb1
      have r1 := h1.below b1
      have r2 := h2.below b1
      clear hb1 h1 h2 B0 b0 HZ
      go_wp2_with fail
      refine (entryFault_any m a1 c1 a2 c2 w1 r1 r2 hn ho n0 n1 o0 o1).mono ?_
      rw [← unhide H]
      rintro e w2 ⟨rfl, hb2⟩
      go_wp2
      go_ret2
      exact ⟨rfl, bstep b1 hb2⟩
    · have H := hide (mchV_m1 hk hz)
      have hz' := ne_bne hz
      clear hz hk
      go_enter Try.func51, Try.ntmps51
      go_wp2
      go_quiet (fail)
      go_wp2_with fail
      refine (sizeFault_mealy m a1 c1 a2 c2 _).mono ?_
      rintro e w1 ⟨rfl, hb1⟩
      have b1 := bstep (bstep b0 (bdrew _ _)) hb1
      clear hb1 h1 h2 B0 b0
      go_wp2
      go_ret2
      exact ⟨by rw [unhide H]; rfl, b1⟩
  · have t2 : (m.kind == 2) = false := by simpa using hk
    have H := hide (mchV_no (unhide HK) hk)
    clear hk
    go_enter Try.func51, Try.ntmps51
    go_wp2
    go_quiet (fail)
    go_wp2
    go_ret2
    exact ⟨by rw [unhide H]; rfl, bstep b0 (bdrew _ _)⟩

end Go.Proofs.Ytepmdnggiajkbaa
