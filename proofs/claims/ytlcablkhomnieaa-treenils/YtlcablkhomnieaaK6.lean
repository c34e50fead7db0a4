/-
  Some texts of this seat, one behind the other.
-/
import Derived.Test.YtlcablkhomnieaaK1
import Derived.Test.YtlcablkhomnieaaK2
import Derived.Test.YtlcablkhomnieaaRMCheck
/-
  Small words on cells and results that the walks of machines share.
-/
namespace Go.Proofs.Ytlcablkhomnieaa
open Go.RowKit

theorem ret_iv {k : IntKind} {a b : Int} {v : Value} (h : a = b) : Ending.returned (.tuple #[.int k a, v]) = .returned (.tuple #[.int k b, v]) := by rw [h]
theorem RdL.cellIn {q : IntKind} {w w' : World} {a : Option Addr} {l : List Int} {b off P : Nat} {y : Int} (h : RdL q w a l) (hb : Below w.heap.size w w') (e : a = some ⟨b, off, none⟩) (hP : P < l.length) (hy : y = l.getD P 0) : w'.cell? ⟨b, off + P, none⟩ = some (.int q y) := by
  obtain ⟨b2, off2, e2, hc⟩ := (h.below hb).at hP
  rw [e] at e2
  cases e2
  rw [hy]; exact hc P hP
theorem bdrew1 (w : World) : Below w.heap.size w w.drew := ⟨rfl, rfl, rfl, Nat.le_refl _, fun _ _ => rfl⟩


end Go.Proofs.Ytlcablkhomnieaa

/-
  What the reference's Big returns, for every table.
-/
namespace Go.Proofs.Ytlcablkhomnieaa
open Go.RowKit

def bigB (N : Int) (m : Mc) : Bool := decide (N < m.n ∨ 70000 < m.nx.length ∨ 70000 < m.out.length)
theorem big_yes {N : Int} {m : Mc} (h : N < m.n ∨ 70000 < m.nx.length ∨ 70000 < m.out.length) : bigB N m = true := by unfold bigB; exact decide_eq_true h
theorem big_no {N : Int} {m : Mc} (h : ¬ (N < m.n ∨ 70000 < m.nx.length ∨ 70000 < m.out.length)) : bigB N m = false := by unfold bigB; exact decide_eq_false h

theorem big_any (N : Int) (m : Mc) (a1 : Option Addr) (c1 : Nat) (a2 : Option Addr) (c2 : Nat) (w : World) :
    Calls Try.prog 30 #[mval m a1 c1 a2 c2, .int .i64 N] w fun e w' => e = .returned (.bool (bigB N m)) ∧ Below w.heap.size w w' := by
  unfold mval
  by_cases h : N < m.n
  · have H := hide (big_yes (N := N) (m := m) (.inl h))
    go_enter Try.func30, Try.ntmps30
    go_wp2
    go_ret
    exact ⟨ret_bool (unhide H).symm, ballo _ _⟩
  by_cases h2 : 70000 < m.nx.length
  · have H := hide (big_yes (N := N) (m := m) (.inr (.inl h2)))
    go_enter Try.func30, Try.ntmps30
    go_wp2
    go_ret
    exact ⟨ret_bool (unhide H).symm, ballo _ _⟩
  by_cases h3 : 70000 < m.out.length
  · have H := hide (big_yes (N := N) (m := m) (.inr (.inr h3)))
    go_enter Try.func30, Try.ntmps30
    go_wp2
    go_ret
    exact ⟨ret_bool (by rw [unhide H]; simp; omega), ballo _ _⟩
  · have H := hide (big_no (N := N) (m := m) (by omega))
    go_enter Try.func30, Try.ntmps30
    go_wp2
    go_ret
    exact ⟨ret_bool (by rw [unhide H]; simp; omega), ballo _ _⟩

end Go.Proofs.Ytlcablkhomnieaa

/-
  What the reference's Same returns, for a table and itself.
-/
namespace Go.Proofs.Ytlcablkhomnieaa
open Go.RowKit

end Go.Proofs.Ytlcablkhomnieaa

/-
  Where the reference goes by a word, from a state of a right machine, and what it says: the same as the program.
-/
namespace Go.Proofs.Ytlcablkhomnieaa
open Go.RowKit

set_option maxHeartbeats 1000000 in
theorem rgo_d (m : Mc) (a1 : Option Addr) (c1 : Nat) (a2 : Option Addr) (c2 : Nat) (s : Int) (a3 : Option Addr) (c3 : Nat) (wd : List Int) (w : World) (R : Right m) (hk : m.kind = 1) (s0 : 0 ≤ s) (s1 : s < m.n) (hw : ∀ i, i < wd.length → 0 ≤ wd.getD i 0 ∧ wd.getD i 0 < m.k) (hl : wd.length ≤ 4096)
    (h1 : RdL .i64 w a1 m.nx) (h2 : RdL .i64 w a2 m.out) (h3 : RdL .i64 w a3 wd) :
    Calls Try.prog 36 #[mval m a1 c1 a2 c2, .int .i64 s, .slice a3 wd.length c3] w fun e w' => ∃ v, e = .returned (.tuple #[.int .i64 (goV m s wd []).1, v]) ∧ OwnL .i64 3 w' w.heap.size v (goV m s wd []).2 ∧ Below w.heap.size w w' := by
  unfold mval
  have B0 := Box.alloc w m a1 c1 a2 c2 31
  have b0 := ballo w (.cells #[.int .i64 m.kind, .int .i64 m.k, .int .i64 m.o, .int .i64 m.n, .slice a1 m.nx.length c1, .slice a2 m.out.length c2] 31)
  have t1 := eq_t hk
  have t2 := eq_f (a := m.kind) (b := 2) (by omega)
  have HK := hide hk
  have HR := hide R
  have HW := hide hw
  clear hk R hw
  go_enter Try.func36, Try.ntmps36
  go_wp2
  go_loopw [1, 8, 9] (fun ls v i wr => ∃ (j : Nat) (q : Int) (acc : List Int), j ≤ wd.length ∧ i = .int .i64 j ∧ ls = .int .i64 q ∧ 0 ≤ q ∧ q < m.n ∧ OwnL .i64 3 wr (w.heap.size + 1) v acc ∧ acc.length ≤ j ∧ Hid (goV m q (wd.drop j) acc = goV m s wd []) ∧ Below w.heap.size w wr ∧ Below (w.heap.size + 1) (w.alloc (.cells #[.int .i64 m.kind, .int .i64 m.k, .int .i64 m.o, .int .i64 m.n, .slice a1 m.nx.length c1, .slice a2 m.out.length c2] 31)) wr) (fun _ _ i _ => wd.length - (intOf i).toNat)
  case atStart => exact ⟨0, s, [], Nat.zero_le _, rfl, rfl, s0, s1, OwnL.nil _ _ _ _, by simp, hide rfl, b0, Below.refl _ _⟩
  case round =>
    obtain ⟨j, q, acc, hj, rfl, rfl, q0, q1, hI, hal, H, b1, d1⟩ := hrel
    obtain ⟨p0, p1, p2, p3, p4, p5⟩ := box_on B0 d1 (Nat.lt_succ_self _)
    obtain ⟨av, cv, rfl, hnil, hlc, hcm, -, -⟩ := hI.shape
    have hsz := d1.size
    have hsz2 : w.heap.size + 1 ≤ wr.heap.size := by have := d1.size; simp at this; omega
    clear hsz
    by_cases hlt : j < wd.length
    · obtain ⟨b, off, rfl, hc⟩ := (h3.below b1).at hlt
      have hcj := hc j hlt
      have hlt' : (j : Int) < (wd.length : Int) := by omega
      have hx := unhide HW j hlt
      have HD := hide (drop_at hlt)
      obtain ⟨x, hxe⟩ : ∃ x, x = wd.getD j 0 := ⟨_, rfl⟩
      rw [← hxe] at hcj hx HD
      have HX := hide hxe
      clear hc hxe
      obtain ⟨x0, x1⟩ := hx
      obtain ⟨P, hP, hPl, g0, g1, g2⟩ := way_of (unhide HR) q0 q1 x0 x1
      have hPl' : (P : Int) < (m.nx.length : Int) := by omega
      obtain ⟨b', off', rfl, hn⟩ := (h1.below b1).at hPl
      have hnP := hn P hPl
      have hy := (unhide HR).st P hPl
      have H1 : Hid (goV m (m.nx.getD P 0) (wd.drop (j + 1)) acc = goV m s wd []) := by rw [← goV_cons1 (by rw [unhide HK]; decide) hP, ← unhide HD]; exact unhide H
      obtain ⟨y, hye⟩ : ∃ y, y = m.nx.getD P 0 := ⟨_, rfl⟩
      rw [← hye] at hnP hy H1
      have HY := hide hye
      clear hn hye H HD
      obtain ⟨y0, y1⟩ := hy
      go_wp2
      go_quiet (fail)
      go_wp2
      go_roundw
      case rel => exact ⟨j + 1, y, acc, by omega, by go_num, rfl, y0, y1, hI.grown (bdrew _ _), by omega, H1, bstep b1 (bdrew _ _), below_drewN d1 _⟩
      case measure => simp [intOf]; omega
    · have he : j = wd.length := by omega
      have HDR : Hid (wd.drop j = []) := List.drop_eq_nil_of_le (by omega)
      have H1 : Hid (goV m s wd [] = (q, [m.out.getD q.toNat 0])) := by rw [← unhide H, unhide HDR, goV_nil1 (unhide HK)]; exact rfl
      obtain ⟨Q, rfl⟩ := Int.eq_ofNat_of_zero_le q0
      rw [Int.toNat_natCast] at H1
      have hQ : Q < m.out.length := by have := (unhide HR).outD (unhide HK); omega
      have hQ' : (Q : Int) < (m.out.length : Int) := by omega
      obtain ⟨b2, off2, rfl, hm⟩ := (h2.below b1).at hQ
      have hoQ := hm Q hQ
      generalize m.out.getD Q 0 = z at *
      clear hm H HDR
      subst he
      go_wp2
      go_ret2
      refine ⟨_, ret_iv (by rw [unhide H1]), ?_, balloc b1 _⟩
      rw [unhide H1]
      exact (OwnL.lit wr (w.heap.size + 1) [z] _ hsz2 (by unfold maxLen; simp) rfl).mono (by omega)

set_option maxHeartbeats 1000000 in
theorem rgo_m (m : Mc) (a1 : Option Addr) (c1 : Nat) (a2 : Option Addr) (c2 : Nat) (s : Int) (a3 : Option Addr) (c3 : Nat) (wd : List Int) (w : World) (R : Right m) (hk : m.kind = 2) (s0 : 0 ≤ s) (s1 : s < m.n) (hw : ∀ i, i < wd.length → 0 ≤ wd.getD i 0 ∧ wd.getD i 0 < m.k) (hl : wd.length ≤ 4096)
    (h1 : RdL .i64 w a1 m.nx) (h2 : RdL .i64 w a2 m.out) (h3 : RdL .i64 w a3 wd) :
    Calls Try.prog 36 #[mval m a1 c1 a2 c2, .int .i64 s, .slice a3 wd.length c3] w fun e w' => ∃ v, e = .returned (.tuple #[.int .i64 (goV m s wd []).1, v]) ∧ OwnL .i64 3 w' w.heap.size v (goV m s wd []).2 ∧ Below w.heap.size w w' := by
  unfold mval
  have B0 := Box.alloc w m a1 c1 a2 c2 31
  have b0 := ballo w (.cells #[.int .i64 m.kind, .int .i64 m.k, .int .i64 m.o, .int .i64 m.n, .slice a1 m.nx.length c1, .slice a2 m.out.length c2] 31)
  have t1 := eq_f (a := m.kind) (b := 1) (by omega)
  have t2 := eq_t hk
  have HK := hide hk
  have HR := hide R
  have HW := hide hw
  clear hk R hw
  go_enter Try.func36, Try.ntmps36
  go_wp2
  go_loopw [1, 8, 9] (fun ls v i wr => ∃ (j : Nat) (q : Int) (acc : List Int), j ≤ wd.length ∧ i = .int .i64 j ∧ ls = .int .i64 q ∧ 0 ≤ q ∧ q < m.n ∧ OwnL .i64 3 wr (w.heap.size + 1) v acc ∧ acc.length ≤ j ∧ Hid (goV m q (wd.drop j) acc = goV m s wd []) ∧ Below w.heap.size w wr ∧ Below (w.heap.size + 1) (w.alloc (.cells #[.int .i64 m.kind, .int .i64 m.k, .int .i64 m.o, .int .i64 m.n, .slice a1 m.nx.length c1, .slice a2 m.out.length c2] 31)) wr) (fun _ _ i _ => wd.length - (intOf i).toNat)
  case atStart => exact ⟨0, s, [], Nat.zero_le _, rfl, rfl, s0, s1, OwnL.nil _ _ _ _, by simp, hide rfl, b0, Below.refl _ _⟩
  case round =>
    obtain ⟨j, q, acc, hj, rfl, rfl, q0, q1, hI, hal, H, b1, d1⟩ := hrel
    obtain ⟨p0, p1, p2, p3, p4, p5⟩ := box_on B0 d1 (Nat.lt_succ_self _)
    obtain ⟨av, cv, rfl, hnil, hlc, hcm, -, -⟩ := hI.shape
    have hsz := d1.size
    have hsz2 : w.heap.size + 1 ≤ wr.heap.size := by have := d1.size; simp at this; omega
    clear hsz
    by_cases hlt : j < wd.length
    · obtain ⟨b, off, rfl, hc⟩ := (h3.below b1).at hlt
      have hcj := hc j hlt
      have hlt' : (j : Int) < (wd.length : Int) := by omega
      have hx := unhide HW j hlt
      have HD := hide (drop_at hlt)
      obtain ⟨x, hxe⟩ : ∃ x, x = wd.getD j 0 := ⟨_, rfl⟩
      rw [← hxe] at hcj hx HD
      have HX := hide hxe
      clear hc hxe
      obtain ⟨x0, x1⟩ := hx
      obtain ⟨P, hP, hPl, g0, g1, g2⟩ := way_of (unhide HR) q0 q1 x0 x1
      have hPl' : (P : Int) < (m.nx.length : Int) := by omega
      obtain ⟨b', off', rfl, hn⟩ := (h1.below b1).at hPl
      have hnP := hn P hPl
      have hy := (unhide HR).st P hPl
      have hPo : P < m.out.length := by have := (unhide HR).nx; have := (unhide HR).outM (unhide HK); omega
      have hPo' : (P : Int) < (m.out.length : Int) := by omega
      obtain ⟨b2, off2, rfl, hm⟩ := (h2.below b1).at hPo
      have hoP := hm P hPo
      have H1 : Hid (goV m (m.nx.getD P 0) (wd.drop (j + 1)) (acc ++ [m.out.getD P 0]) = goV m s wd []) := by rw [← goV_cons2 (unhide HK) hP, ← unhide HD]; exact unhide H
      generalize m.out.getD P 0 = z at *
      clear hm
      obtain ⟨y, hye⟩ : ∃ y, y = m.nx.getD P 0 := ⟨_, rfl⟩
      rw [← hye] at hnP hy H1
      have HY := hide hye
      clear hn hye H HD
      obtain ⟨y0, y1⟩ := hy
      have wr1 : IntKind.i64.wrap (q * m.k) = q * m.k := by rw [IntKind.wrap_i64]; omega
      have wr2 : IntKind.i64.wrap (P : Int) = P := by rw [IntKind.wrap_i64]; omega
      have I1 := hI.drew
      have bb := bstep b1 (bdrew1 wr)
      have dd : Below (w.heap.size + 1) (w.alloc (.cells #[.int .i64 m.kind, .int .i64 m.k, .int .i64 m.o, .int .i64 m.n, .slice (some ⟨b', off', none⟩) m.nx.length c1, .slice (some ⟨b2, off2, none⟩) m.out.length c2] 31)) wr.drew := d1.trans (bdrew1 wr |>.mono hsz2)
      go_wp2
      go_region_law (refine step_pushL eInt rfl (.tmp 19) (.tmp 33) rfl (w.heap.size + 1) (.slice av acc.length cv) acc (by simp [Act.eval]) (I1.alloc _) ⟨wr.heap.size, 0, none⟩ 1 [z] (by simp [Act.eval]) (RdL.one _ _) (by simp only [List.length_cons, List.length_nil]; omega) (by simp; omega) ?_; intro v2 w2 hown2 hb2)
      all_goals
        have e2 := (balloc bb (.cells #[.int .i64 z] 3)).trans (hb2.mono (by omega))
        have f2 := (dd.alloc (by simp; omega) (.cells #[.int .i64 z] 3)).trans hb2
        obtain ⟨u0, u1, u2, u3, u4, u5⟩ := box_on B0 f2 (Nat.lt_succ_self _)
        have hn2 := h1.cellIn e2 rfl hPl (unhide HY)
        have hw2 := h3.cellIn e2 rfl hlt (unhide HX)
        go_wp2
        go_quiet (fail)
        go_wp2
        go_roundw
        case rel => exact ⟨j + 1, y, acc ++ [z], by omega, by go_num, rfl, y0, y1, hown2.grown (bdrew _ _), by simp only [List.length_append, List.length_cons, List.length_nil]; omega, H1, bstep e2 (bdrew _ _), below_drewN f2 _⟩
        case measure => simp [intOf]; omega
    · have he : j = wd.length := by omega
      have HDR : Hid (wd.drop j = []) := List.drop_eq_nil_of_le (by omega)
      have H1 : Hid (goV m s wd [] = (q, acc)) := by rw [← unhide H, unhide HDR, goV_nil2 (by rw [unhide HK]; decide)]; exact rfl
      clear H HDR
      subst he
      go_wp2
      go_ret2
      refine ⟨_, ret_iv (by rw [unhide H1]), ?_, b1⟩
      rw [unhide H1]
      exact hI.mono (by omega)

theorem rgo_any (m : Mc) (a1 : Option Addr) (c1 : Nat) (a2 : Option Addr) (c2 : Nat) (s : Int) (a3 : Option Addr) (c3 : Nat) (wd : List Int) (w : World) (R : Right m) (s0 : 0 ≤ s) (s1 : s < m.n) (hw : ∀ i, i < wd.length → 0 ≤ wd.getD i 0 ∧ wd.getD i 0 < m.k) (hl : wd.length ≤ 4096)
    (h1 : RdL .i64 w a1 m.nx) (h2 : RdL .i64 w a2 m.out) (h3 : RdL .i64 w a3 wd) :
    Calls Try.prog 36 #[mval m a1 c1 a2 c2, .int .i64 s, .slice a3 wd.length c3] w fun e w' => ∃ v, e = .returned (.tuple #[.int .i64 (goV m s wd []).1, v]) ∧ OwnL .i64 3 w' w.heap.size v (goV m s wd []).2 ∧ Below w.heap.size w w' := by
  rcases R.kd with hk | hk
  · exact rgo_d m a1 c1 a2 c2 s a3 c3 wd w R hk s0 s1 hw hl h1 h2 h3
  · exact rgo_m m a1 c1 a2 c2 s a3 c3 wd w R hk s0 s1 hw hl h1 h2 h3

end Go.Proofs.Ytlcablkhomnieaa

/-
  What the reference's From and Run return, for every table, state and list.
-/
namespace Go.Proofs.Ytlcablkhomnieaa
open Go.RowKit

set_option maxHeartbeats 1000000 in
theorem rfrom_any (m : Mc) (a1 : Option Addr) (c1 : Nat) (a2 : Option Addr) (c2 : Nat) (s : Int) (a3 : Option Addr) (c3 : Nat) (wd : List Int) (w : World) (h1 : RdL .i64 w a1 m.nx) (h2 : RdL .i64 w a2 m.out) (h3 : RdL .i64 w a3 wd) (hn : m.nx.length ≤ maxLen) (ho : m.out.length ≤ maxLen) (hl : wd.length ≤ maxLen) :
    Calls Try.prog 70 #[mval m a1 c1 a2 c2, .int .i64 s, .slice a3 wd.length c3] w fun e w' => ∃ v, e = .returned (.tuple #[.int .i64 (fromV m s wd).1, v, .int .i64 (fromV m s wd).2.2]) ∧ OwnL .i64 3 w' w.heap.size v (fromV m s wd).2.1 ∧ Below w.heap.size w w' := by
  unfold mval
  have B0 := Box.alloc w m a1 c1 a2 c2 31
  have b0 := ballo w (.cells #[.int .i64 m.kind, .int .i64 m.k, .int .i64 m.o, .int .i64 m.n, .slice a1 m.nx.length c1, .slice a2 m.out.length c2] 31)
  by_cases hz : (mchV m).2 = 0
  rotate_left
  · have H := hide (fromV_mach (s := s) (wd := wd) hz)
    have tz := ne_bne hz
    clear hz
    go_enter Try.func70, Try.ntmps70
    go_wp2_with fail
    refine (rmcheck_any m a1 c1 a2 c2 _ (h1.below b0) (h2.below b0) hn ho).mono ?_
    rintro e w1 ⟨rfl, hb1⟩
    have b1 := bstep b0 hb1
    clear hb1 h1 h2 h3 B0 b0
    go_wp2
    go_ret3
    exact ⟨_, ret_ivi (by rw [unhide H]) (by rw [unhide H]), by rw [unhide H]; exact OwnL.nil _ _ _ _, b1⟩
  have R := right_of hz
  have HZ := hide hz
  have HR := hide R
  have n0 := R.n0
  have n1 := R.n1
  clear R hz
  by_cases hs : s < 0
  · have H := hide (fromV_state (s := s) (wd := wd) (unhide HZ) (.inl hs))
    go_enter Try.func70, Try.ntmps70
    go_wp2_with fail
    refine (rmcheck_any m a1 c1 a2 c2 _ (h1.below b0) (h2.below b0) hn ho).mono ?_
    rw [unhide HZ]
    rintro e w1 ⟨rfl, hb1⟩
    have b1 := bstep b0 hb1
    obtain ⟨q0, q1, q2, q3, q4, q5⟩ := B0.below hb1
    go_wp2
    go_ret3
    exact ⟨_, ret_ivi (by rw [unhide H]) (by rw [unhide H]), by rw [unhide H]; exact OwnL.nil _ _ _ _, b1⟩
  by_cases hs2 : m.n ≤ s
  · have H := hide (fromV_state (s := s) (wd := wd) (unhide HZ) (.inr hs2))
    go_enter Try.func70, Try.ntmps70
    go_wp2_with fail
    refine (rmcheck_any m a1 c1 a2 c2 _ (h1.below b0) (h2.below b0) hn ho).mono ?_
    rw [unhide HZ]
    rintro e w1 ⟨rfl, hb1⟩
    have b1 := bstep b0 hb1
    obtain ⟨q0, q1, q2, q3, q4, q5⟩ := B0.below hb1
    go_wp2
    go_ret3
    exact ⟨_, ret_ivi (by rw [unhide H]) (by rw [unhide H]), by rw [unhide H]; exact OwnL.nil _ _ _ _, b1⟩
  have s0 : 0 ≤ s := by omega
  have s1 : s < m.n := by omega
  clear hs hs2
  by_cases hw : (wchV wd m.k).2 = 0
  rotate_left
  · have H := hide (fromV_word (unhide HZ) s0 s1 hw)
    have tz := ne_bne hw
    clear hw
    go_enter Try.func70, Try.ntmps70
    go_wp2_with fail
    refine (rmcheck_any m a1 c1 a2 c2 _ (h1.below b0) (h2.below b0) hn ho).mono ?_
    rw [unhide HZ]
    rintro e w1 ⟨rfl, hb1⟩
    have b1 := bstep b0 hb1
    obtain ⟨q0, q1, q2, q3, q4, q5⟩ := B0.below hb1
    go_wp2_with fail
    refine (rcheck_any a3 wd.length c3 (fun i => wd.getD i 0) m.k w1 (h3.below b1) hl).mono ?_
    rw [show chkV wd.length (fun i => wd.getD i 0) m.k = wchV wd m.k from rfl]
    rintro e w2 ⟨rfl, rfl⟩
    go_wp2
    go_ret3
    exact ⟨_, ret_ivi (by rw [unhide H]) (by rw [unhide H]), by rw [unhide H]; exact OwnL.nil _ _ _ _, b1⟩
  · have H := hide (fromV_ok (unhide HZ) s0 s1 hw)
    obtain ⟨_, _, hl4, hwd⟩ := word_of_chk hw
    have HW := hide hwd
    have HC : Hid ((chkV wd.length (fun i => wd.getD i 0) m.k).2 = 0) := hw
    clear hwd hw
    go_enter Try.func70, Try.ntmps70
    go_wp2_with fail
    refine (rmcheck_any m a1 c1 a2 c2 _ (h1.below b0) (h2.below b0) hn ho).mono ?_
    rw [unhide HZ]
    rintro e w1 ⟨rfl, hb1⟩
    have b1 := bstep b0 hb1
    obtain ⟨q0, q1, q2, q3, q4, q5⟩ := B0.below hb1
    go_wp2_with fail
    refine (rcheck_any a3 wd.length c3 (fun i => wd.getD i 0) m.k w1 (h3.below b1) hl).mono ?_
    rw [unhide HC]
    rintro e w2 ⟨rfl, rfl⟩
    go_wp2_with fail
    refine (rgo_any m a1 c1 a2 c2 s a3 c3 wd _ (unhide HR) s0 s1 (unhide HW) hl4 (h1.below b1) (h2.below b1) (h3.below b1)).mono ?_
    rintro e w3 ⟨v, rfl, hI, hb3⟩
    have b3 := bstep b1 hb3
    obtain ⟨av, cv, rfl, -, -, -, -, -⟩ := hI.shape
    go_wp2
    go_ret3
    exact ⟨_, ret_ivi (by rw [unhide H]) (by rw [unhide H]), by rw [unhide H]; exact hI.mono b1.size, b3⟩

theorem rrun_any (m : Mc) (a1 : Option Addr) (c1 : Nat) (a2 : Option Addr) (c2 : Nat) (a3 : Option Addr) (c3 : Nat) (wd : List Int) (w : World) (h1 : RdL .i64 w a1 m.nx) (h2 : RdL .i64 w a2 m.out) (h3 : RdL .i64 w a3 wd) (hn : m.nx.length ≤ maxLen) (ho : m.out.length ≤ maxLen) (hl : wd.length ≤ maxLen) :
    Calls Try.prog 63 #[mval m a1 c1 a2 c2, .slice a3 wd.length c3] w fun e w' => ∃ v, e = .returned (.tuple #[v, .int .i64 (fromV m 0 wd).2.2]) ∧ OwnL .i64 3 w' w.heap.size v (fromV m 0 wd).2.1 ∧ Below w.heap.size w w' := by
  unfold mval
  have b0 := ballo w (.cells #[.int .i64 m.kind, .int .i64 m.k, .int .i64 m.o, .int .i64 m.n, .slice a1 m.nx.length c1, .slice a2 m.out.length c2] 31)
  go_enter Try.func63, Try.ntmps63
  go_wp2_with fail
  refine (rfrom_any m a1 c1 a2 c2 0 a3 c3 wd _ (h1.below b0) (h2.below b0) (h3.below b0) hn ho hl).mono ?_
  rintro e w1 ⟨v, rfl, hI, hb1⟩
  have b1 := bstep b0 hb1
  obtain ⟨av, cv, rfl, -, -, -, -, -⟩ := hI.shape
  go_wp2
  go_ret2
  exact ⟨_, rfl, hI.mono b0.size, b1⟩

end Go.Proofs.Ytlcablkhomnieaa

/-
  What the references' Big, Same and Right return, for every table.
-/
namespace Go.Proofs.Ytlcablkhomnieaa
open Go.RowKit

theorem right_any (m : Mc) (a1 : Option Addr) (c1 : Nat) (a2 : Option Addr) (c2 : Nat) (w : World) (h1 : RdL .i64 w a1 m.nx) (h2 : RdL .i64 w a2 m.out) (hn : m.nx.length ≤ maxLen) (ho : m.out.length ≤ maxLen) :
    Calls Try.prog 31 #[mval m a1 c1 a2 c2] w fun e w' => e = .returned (.bool ((mchV m).2 == 0)) ∧ Below w.heap.size w w' := by
  unfold mval
  have b0 := ballo w (.cells #[.int .i64 m.kind, .int .i64 m.k, .int .i64 m.o, .int .i64 m.n, .slice a1 m.nx.length c1, .slice a2 m.out.length c2] 31)
  by_cases hz : (mchV m).2 = 0
  · have H := hide hz
    clear hz
    go_enter Try.func31, Try.ntmps31
    go_wp2_with fail
    refine (rmcheck_any m a1 c1 a2 c2 _ (h1.below b0) (h2.below b0) hn ho).mono ?_
    rw [unhide H]
    rintro e w1 ⟨rfl, hb1⟩
    have b1 := bstep b0 hb1
    go_wp2
    go_ret
    exact ⟨ret_bool (eq_t (unhide H)).symm, b1⟩
  · have H := eq_f hz
    clear hz
    go_enter Try.func31, Try.ntmps31
    go_wp2_with fail
    refine (rmcheck_any m a1 c1 a2 c2 _ (h1.below b0) (h2.below b0) hn ho).mono ?_
    rintro e w1 ⟨rfl, hb1⟩
    have b1 := bstep b0 hb1
    go_wp2
    go_ret
    exact ⟨ret_bool H.symm, b1⟩

end Go.Proofs.Ytlcablkhomnieaa

/-
  What the reference's Copy returns: the same table, its lists in memory of their own.
-/
namespace Go.Proofs.Ytlcablkhomnieaa
open Go.RowKit

theorem frz_on {w w' : World} {B b i : Nat} (h : w.frozen? ⟨b, i, none⟩ = false) (hb : Below B w w') (hB : b < B) : w'.frozen? ⟨b, i, none⟩ = false := by
  have := hb.block b hB
  unfold World.frozen? at h ⊢
  rw [this]; exact h
def mc0 : Mc := ⟨0, 0, 0, 0, [], []⟩
theorem Box.set4 {w : World} {b : Nat} {m : Mc} {a1 : Option Addr} {c1 : Nat} {a2 : Option Addr} {c2 : Nat} (h : Box w b m a1 c1 a2 c2) (a : Option Addr) (c : Nat) : Box (w.setCell ⟨b, 4, none⟩ (.slice a m.nx.length c)) b m a c a2 c2 := by
  have ot : ∀ i, i ≠ 4 → (w.setCell ⟨b, 4, none⟩ (.slice a m.nx.length c)).cell? ⟨b, i, none⟩ = w.cell? ⟨b, i, none⟩ := fun i hi => World.cell?_setCell_other (w := w) (a := ⟨b, 4, none⟩) (b := ⟨b, i, none⟩) (v := .slice a m.nx.length c) (h := fun e => hi (by injection e with _ e2 _; exact e2.symm))
  exact ⟨(ot 0 (by decide)).trans h.p0, (ot 1 (by decide)).trans h.p1, (ot 2 (by decide)).trans h.p2, (ot 3 (by decide)).trans h.p3, World.cell?_setCell_same _ _ _ h.p4, (ot 5 (by decide)).trans h.p5⟩

theorem Box.keep {w w' : World} {b : Nat} {m : Mc} {a1 : Option Addr} {c1 : Nat} {a2 : Option Addr} {c2 : Nat} (h : Box w b m a1 c1 a2 c2) (e : w'.heap[b]? = w.heap[b]?) : Box w' b m a1 c1 a2 c2 :=
  ⟨(World.cell?_of_block e).trans h.p0, (World.cell?_of_block e).trans h.p1, (World.cell?_of_block e).trans h.p2, (World.cell?_of_block e).trans h.p3, (World.cell?_of_block e).trans h.p4, (World.cell?_of_block e).trans h.p5⟩
theorem frz_new (w : World) {b i : Nat} (h : w.heap.size ≤ b) : w.frozen? ⟨b, i, none⟩ = false := by
  unfold World.frozen?
  rw [Array.getElem?_eq_none h]
theorem OwnL.lit2 (w : World) (p : Addr) (u : Value) {B : Nat} (hb : B ≤ w.heap.size) : OwnL .i64 3 ((w.setCell p u).alloc (.cells #[] 3)) B (.slice (some ⟨w.heap.size, 0, none⟩) 0 0) [] := by
  have := OwnL.lit (q := .i64) (t := 3) (w.setCell p u) B [] #[] (by simpa using hb) (by unfold maxLen; simp) rfl
  simpa using this

theorem Box.six {w : World} {b : Nat} {m0 : Mc} {a1 : Option Addr} {c1 : Nat} {a2 : Option Addr} {c2 : Nat} (h : Box w b m0 a1 c1 a2 c2) (m : Mc) (d1 : Option Addr) (e1 : Nat) (d2 : Option Addr) (e2 : Nat) :
    Box ((((((w.setCell ⟨b, 0, none⟩ (.int .i64 m.kind)).setCell ⟨b, 1, none⟩ (.int .i64 m.k)).setCell ⟨b, 2, none⟩ (.int .i64 m.o)).setCell ⟨b, 3, none⟩ (.int .i64 m.n)).setCell ⟨b, 4, none⟩ (.slice d1 m.nx.length e1)).setCell ⟨b, 5, none⟩ (.slice d2 m.out.length e2)) b m d1 e1 d2 e2 := by
  have ot : ∀ (u : World) (i j : Nat) (v : Value), i ≠ j → (u.setCell ⟨b, i, none⟩ v).cell? ⟨b, j, none⟩ = u.cell? ⟨b, j, none⟩ := fun u i j v hi => World.cell?_setCell_other (w := u) (a := ⟨b, i, none⟩) (b := ⟨b, j, none⟩) (v := v) (h := fun e => hi (by injection e with _ e2 _))
  have sm : ∀ (u : World) (i : Nat) (v x : Value), u.cell? ⟨b, i, none⟩ = some x → (u.setCell ⟨b, i, none⟩ v).cell? ⟨b, i, none⟩ = some v := fun u i v x hx => World.cell?_setCell_same u ⟨b, i, none⟩ v hx
  constructor
  · rw [ot _ 5 0 _ (by decide), ot _ 4 0 _ (by decide), ot _ 3 0 _ (by decide), ot _ 2 0 _ (by decide), ot _ 1 0 _ (by decide)]; exact sm _ 0 _ _ h.p0
  · rw [ot _ 5 1 _ (by decide), ot _ 4 1 _ (by decide), ot _ 3 1 _ (by decide), ot _ 2 1 _ (by decide)]; exact sm _ 1 _ _ ((ot _ 0 1 _ (by decide)).trans h.p1)
  · rw [ot _ 5 2 _ (by decide), ot _ 4 2 _ (by decide), ot _ 3 2 _ (by decide)]; exact sm _ 2 _ _ ((ot _ 1 2 _ (by decide)).trans ((ot _ 0 2 _ (by decide)).trans h.p2))
  · rw [ot _ 5 3 _ (by decide), ot _ 4 3 _ (by decide)]; exact sm _ 3 _ _ ((ot _ 2 3 _ (by decide)).trans ((ot _ 1 3 _ (by decide)).trans ((ot _ 0 3 _ (by decide)).trans h.p3)))
  · rw [ot _ 5 4 _ (by decide)]; exact sm _ 4 _ _ ((ot _ 3 4 _ (by decide)).trans ((ot _ 2 4 _ (by decide)).trans ((ot _ 1 4 _ (by decide)).trans ((ot _ 0 4 _ (by decide)).trans h.p4))))
  · exact sm _ 5 _ _ ((ot _ 4 5 _ (by decide)).trans ((ot _ 3 5 _ (by decide)).trans ((ot _ 2 5 _ (by decide)).trans ((ot _ 1 5 _ (by decide)).trans ((ot _ 0 5 _ (by decide)).trans h.p5)))))

end Go.Proofs.Ytlcablkhomnieaa

/-
  What the reference's Copy returns, with the room of its last list.
-/
namespace Go.Proofs.Ytlcablkhomnieaa
open Go.RowKit

end Go.Proofs.Ytlcablkhomnieaa

/-
  Two words one behind the other, in plain words: where they lead, and what is said.
-/
namespace Go.Proofs.Ytlcablkhomnieaa
open Go.RowKit

theorem goV_acc {m : Mc} (hk : m.kind = 2) : ∀ (w : List Int) (s : Int) (acc : List Int), goV m s w acc = ((goV m s w []).1, acc ++ (goV m s w []).2)
  | [], s, acc => by rw [goV_nil2 (by omega), goV_nil2 (by omega)]; simp
  | x :: w, s, acc => by
    simp only [goV, hk, if_true]
    rw [goV_acc hk w _ (acc ++ _), goV_acc hk w _ ([] ++ _)]
    simp
theorem goV_app2 {m : Mc} (hk : m.kind = 2) (w : List Int) : ∀ (v : List Int) (s : Int) (acc : List Int), goV m s (v ++ w) acc = goV m (goV m s v acc).1 w (goV m s v acc).2
  | [], s, acc => by rw [goV_nil2 (by omega)]; rfl
  | x :: v, s, acc => by
    simp only [goV, List.cons_append]
    exact goV_app2 hk w v _ _
theorem goV_app1 {m : Mc} (hk : m.kind ≠ 2) (w : List Int) : ∀ (v : List Int) (s : Int), goV m s (v ++ w) [] = goV m (goV m s v []).1 w []
  | [], s => rfl
  | x :: v, s => by
    simp only [goV, List.cons_append, hk, if_false]
    exact goV_app1 hk w v _
theorem goV_len2 {m : Mc} (hk : m.kind = 2) : ∀ (w : List Int) (s : Int) (acc : List Int), (goV m s w acc).2.length = acc.length + w.length
  | [], s, acc => by rw [goV_nil2 (by omega)]; rfl
  | x :: w, s, acc => by
    simp only [goV, hk, if_true]
    rw [goV_len2 hk w]
    simp; omega
theorem goV_len1 {m : Mc} (hk : m.kind = 1) : ∀ (w : List Int) (s : Int) (acc : List Int), (goV m s w acc).2.length = 1
  | [], s, acc => by rw [goV_nil1 hk]; rfl
  | x :: w, s, acc => by
    simp only [goV]
    exact goV_len1 hk w _ _
theorem goV_state {m : Mc} (R : Right m) : ∀ (w : List Int) (s : Int) (acc : List Int), 0 ≤ s → s < m.n → (∀ i, i < w.length → 0 ≤ w.getD i 0 ∧ w.getD i 0 < m.k) → 0 ≤ (goV m s w acc).1 ∧ (goV m s w acc).1 < m.n
  | [], s, acc, s0, s1, _ => by simp only [goV]; exact ⟨s0, s1⟩
  | x :: w, s, acc, s0, s1, hw => by
    have hx := hw 0 (by simp)
    obtain ⟨P, hP, hPl, _⟩ := way_of R s0 s1 (x := x) (by simpa using hx.1) (by simpa using hx.2)
    simp only [goV]
    rw [hP, Int.toNat_natCast]
    exact goV_state R w _ _ (R.st P hPl).1 (R.st P hPl).2 fun i hi => by
      have := hw (i + 1) (by simp; omega)
      simpa using this
theorem fromV_zero {m : Mc} {s : Int} {wd : List Int} (h : (fromV m s wd).2.2 = 0) : (mchV m).2 = 0 ∧ 0 ≤ s ∧ s < m.n ∧ (wchV wd m.k).2 = 0 := by
  unfold fromV at h
  by_cases h1 : (mchV m).2 ≠ 0
  · rw [if_pos h1] at h; exact absurd h h1
  rw [if_neg h1] at h
  by_cases h2 : s < 0 ∨ m.n ≤ s
  · rw [if_pos h2] at h; cases h
  rw [if_neg h2] at h
  by_cases h3 : (wchV wd m.k).2 ≠ 0
  · rw [if_pos h3] at h; exact absurd h h3
  exact ⟨by simpa using h1, by omega, by omega, by simpa using h3⟩
theorem fromV_err {m : Mc} {s : Int} {wd : List Int} (h : (fromV m s wd).2.2 ≠ 0) : (fromV m s wd).1 = 0 := by
  unfold fromV at h ⊢
  by_cases h1 : (mchV m).2 ≠ 0
  · rw [if_pos h1]
  rw [if_neg h1] at h ⊢
  by_cases h2 : s < 0 ∨ m.n ≤ s
  · rw [if_pos h2]
  rw [if_neg h2] at h ⊢
  by_cases h3 : (wchV wd m.k).2 ≠ 0
  · rw [if_pos h3]
  rw [if_neg h3] at h
  exact absurd rfl h
theorem wch_app {v w : List Int} {k : Int} (hv : (wchV v k).2 = 0) (hl : v.length + w.length ≤ 4096) : (wchV (v ++ w) k).2 = (wchV w k).2 := by
  obtain ⟨k0, k1, _, hd⟩ := word_of_chk hv
  have hlo : ∀ j, j < v.length → badB (fun i => (v ++ w).getD i 0) k j = false := fun j hj => bad_no (by rw [getD_app_left hj]; exact (hd j hj).1) (by rw [getD_app_left hj]; exact (hd j hj).2)
  have hhi : ∀ j, badB (fun i => (v ++ w).getD i 0) k (v.length + j) = badB (fun i => w.getD i 0) k j := fun j => by unfold badB; simp only [getD_app_right]
  have hall : ∀ n, (∀ j, j < n → badB (fun i => w.getD i 0) k j = false) → ∀ j, j < v.length + n → badB (fun i => (v ++ w).getD i 0) k j = false := fun n h j hj => by
    by_cases e : j < v.length
    · exact hlo j e
    · have := hhi (j - v.length)
      rw [show v.length + (j - v.length) = j by omega] at this
      rw [this]; exact h _ (by omega)
  unfold wchV
  rcases first_cases (badB (fun i => w.getD i 0) k) w.length with ⟨_, h⟩ | ⟨i, _, hi, hb, h⟩
  · rw [chkV_ok k0 k1 (by omega) h, chkV_ok k0 k1 (by simp; omega) (fun j hj => hall _ h j (by simpa using hj))]
  · rw [chkV_sym k0 k1 (by omega) hi hb h, chkV_sym (i := v.length + i) k0 k1 (by simp; omega) (by simp; omega) ((hhi i).trans hb) (hall i h)]

theorem goV_most (m : Mc) : ∀ (wd : List Int) (s : Int) (acc : List Int), (goV m s wd acc).2.length ≤ acc.length + wd.length + 1
  | [], s, acc => by
    unfold goV
    split <;> simp
  | x :: wd, s, acc => by
    unfold goV
    refine Nat.le_trans (goV_most m wd _ _) ?_
    split <;> simp only [List.length_append, List.length_cons, List.length_nil] <;> omega
theorem fromV_most (m : Mc) (s : Int) (wd : List Int) : (fromV m s wd).2.1.length ≤ wd.length + 1 := by
  unfold fromV
  split
  · simp
  · split
    · simp
    · split
      · simp
      · have := goV_most m wd s []
        simpa using this
theorem same_ne (x : Int) : (x != x) = false := by simp

/-- What P3.5 says. -/
theorem join_facts {m : Mc} {v w : List Int} {q : Int} {F : List Int} (hl : v.length + w.length ≤ 4096) (hA : fromV m 0 v = (q, F, 0)) :
    (fromV m q w).2.2 = (fromV m 0 (v ++ w)).2.2 ∧ ((fromV m q w).2.2 = 0 → (fromV m q w).1 = (fromV m 0 (v ++ w)).1 ∧
      (m.kind = 2 → (fromV m 0 (v ++ w)).2.1 = F ++ (fromV m q w).2.1 ∧ (fromV m 0 (v ++ w)).2.1.length = v.length + w.length) ∧
      (m.kind ≠ 2 → (fromV m 0 (v ++ w)).2.1 = (fromV m q w).2.1 ∧ (fromV m 0 (v ++ w)).2.1.length = 1)) := by
  obtain ⟨hz, _, n0, hv⟩ := fromV_zero (m := m) (s := 0) (wd := v) (by rw [hA])
  have R := right_of hz
  rw [fromV_ok hz (by omega) n0 hv] at hA
  have e1 : (goV m 0 v []).1 = q := congrArg Prod.fst hA
  have e2 : (goV m 0 v []).2 = F := congrArg (fun x => x.2.1) hA
  obtain ⟨_, _, _, hd⟩ := word_of_chk hv
  have hq := goV_state R v 0 [] (by omega) n0 hd
  rw [e1] at hq
  have ha := wch_app hv hl
  by_cases hw : (wchV w m.k).2 = 0
  · rw [fromV_ok hz hq.1 hq.2 hw, fromV_ok hz (by omega) n0 (ha.trans hw)]
    refine ⟨rfl, fun _ => ?_⟩
    rcases R.kd with hk | hk
    · have h1 := goV_app1 (by omega) w v 0 (m := m)
      rw [e1] at h1
      refine ⟨by rw [h1], fun h => by omega, fun _ => ⟨by rw [h1], goV_len1 hk _ _ _⟩⟩
    · have h2 := goV_app2 hk w v 0 []
      rw [e1, e2, goV_acc hk w q F] at h2
      refine ⟨by rw [h2], fun _ => ⟨by rw [h2], ?_⟩, fun h => absurd hk h⟩
      show (goV m 0 (v ++ w) []).2.length = _
      rw [goV_len2 hk]; simp
  · rw [fromV_word hz hq.1 hq.2 hw, fromV_word hz (by omega) n0 (by rw [ha]; exact hw)]
    exact ⟨ha.symm, fun h => absurd h hw⟩

end Go.Proofs.Ytlcablkhomnieaa
