/-
  Where the program goes by a word, from a state of a right machine, and what it says.
-/
import Derived.Test.YtagoilabphmdfaaK6
namespace Go.Proofs.Ytagoilabphmdfaa
open Go.RowKit

set_option maxHeartbeats 1000000 in
theorem walk_d (m : Mc) (a1 : Option Addr) (c1 : Nat) (a2 : Option Addr) (c2 : Nat) (s : Int) (a3 : Option Addr) (c3 : Nat) (wd : List Int) (w : World) (R : Right m) (hk : m.kind = 1) (s0 : 0 ≤ s) (s1 : s < m.n) (hw : ∀ i, i < wd.length → 0 ≤ wd.getD i 0 ∧ wd.getD i 0 < m.k) (hl : wd.length ≤ 4096)
    (h1 : RdL .i64 w a1 m.nx) (h2 : RdL .i64 w a2 m.out) (h3 : RdL .i64 w a3 wd) :
    Calls Try.prog 60 #[mval m a1 c1 a2 c2, .int .i64 s, .slice a3 wd.length c3] w fun e w' => ∃ v, e = .returned (.tuple #[.int .i64 (goV m s wd []).1, v]) ∧ OwnL .i64 3 w' w.heap.size v (goV m s wd []).2 ∧ Below w.heap.size w w' := by
  unfold mval
  have B0 := Box.alloc w m a1 c1 a2 c2 24
  have b0 := ballo w (.cells #[.int .i64 m.kind, .int .i64 m.k, .int .i64 m.o, .int .i64 m.n, .slice a1 m.nx.length c1, .slice a2 m.out.length c2] 24)
  have t1 := eq_t hk
  have t2 := eq_f (a := m.kind) (b := 2) (by omega)
  have HK := hide hk
  have HR := hide R
  have HW := hide hw
  clear hk R hw
  go_enter Try.func60, Try.ntmps60
  go_wp2
  go_loopw [6, 7, 13] (fun ls v i wr => ∃ (j : Nat) (q : Int) (acc : List Int), j ≤ wd.length ∧ i = .int .i64 j ∧ ls = .int .i64 q ∧ 0 ≤ q ∧ q < m.n ∧ OwnL .i64 3 wr (w.heap.size + 1) v acc ∧ acc.length ≤ j ∧ Hid (goV m q (wd.drop j) acc = goV m s wd []) ∧ Below w.heap.size w wr ∧ Below (w.heap.size + 1) (w.alloc (.cells #[.int .i64 m.kind, .int .i64 m.k, .int .i64 m.o, .int .i64 m.n, .slice a1 m.nx.length c1, .slice a2 m.out.length c2] 24)) wr) (fun _ _ i _ => wd.length - (intOf i).toNat)
  case atStart => exact ⟨0, s, [], Nat.zero_le _, rfl, rfl, s0, s1, OwnL.nil _ _ _ _, by simp, hide rfl, b0, Below.refl _ _⟩
  case round =>
    obtain ⟨j, q, acc, hj, rfl, rfl, q0, q1, hI, hal, H, b1, d1⟩ := hrel
    obtain ⟨p0, p1, p2, p3, p4, p5⟩ := box_on B0 d1 (Nat.lt_succ_self _)
    obtain ⟨av, cv, rfl, hnil, hlc, hcm, -, -⟩ := hI.shape
    have hsz := d1.size
    have hsz2 : w.heap.size + 1 ≤ wr.heap.size := by have := d1.size; simp at this; omega
    clear hsz
    by_cases hlt : j < wd.length
    · obtain ⟨b, off, rfl, hc⟩ := (h3.below b1).at hlt
      have hcj := hc j hlt
      have hlt' : (j : Int) < (wd.length : Int) := by omega
      have hx := unhide HW j hlt
      have HD := hide (drop_at hlt)
      obtain ⟨x, hxe⟩ : ∃ x, x = wd.getD j 0 := ⟨_, rfl⟩
      rw [← hxe] at hcj hx HD
      have HX := hide hxe
      clear hc hxe
      obtain ⟨x0, x1⟩ := hx
      obtain ⟨P, hP, hPl, g0, g1, g2⟩ := way_of (unhide HR) q0 q1 x0 x1
      have hPl' : (P : Int) < (m.nx.length : Int) := by omega
      obtain ⟨b', off', rfl, hn⟩ := (h1.below b1).at hPl
      have hnP := hn P hPl
      have hy := (unhide HR).st P hPl
      have H1 : Hid (goV m (m.nx.getD P 0) (wd.drop (j + 1)) acc = goV m s wd []) := by rw [← goV_cons1 (by rw [unhide HK]; decide) hP, ← unhide HD]; exact unhide H
      obtain ⟨y, hye⟩ : ∃ y, y = m.nx.getD P 0 := ⟨_, rfl⟩
      rw [← hye] at hnP hy H1
      have HY := hide hye
      clear hn hye H HD
      obtain ⟨y0, y1⟩ := hy
      go_wp2
      go_quiet (fail)
      go_wp2
      go_roundw
      case rel => exact ⟨j + 1, y, acc, by omega, by go_num, rfl, y0, y1, hI.grown (bdrew _ _), by omega, H1, bstep b1 (bdrew _ _), below_drewN d1 _⟩
      case measure => simp [intOf]; omega
    · have he : j = wd.length := by omega
      have HDR : Hid (wd.drop j = []) := List.drop_eq_nil_of_le (by omega)
      have H1 : Hid (goV m s wd [] = (q, [m.out.getD q.toNat 0])) := by rw [← unhide H, unhide HDR, goV_nil1 (unhide HK)]; exact rfl
      obtain ⟨Q, rfl⟩ := Int.eq_ofNat_of_zero_le q0
      rw [Int.toNat_natCast] at H1
      have hQ : Q < m.out.length := by have := (unhide HR).outD (unhide HK); omega
      have hQ' : (Q : Int) < (m.out.length : Int) := by omega
      obtain ⟨b2, off2, rfl, hm⟩ := (h2.below b1).at hQ
      have hoQ := hm Q hQ
      generalize m.out.getD Q 0 = z at *
      clear hm H HDR
      subst he
      go_wp2
      go_ret2
      refine ⟨_, ret_iv (by rw [unhide H1]), ?_, balloc b1 _⟩
      rw [unhide H1]
      exact (OwnL.lit wr (w.heap.size + 1) [z] _ hsz2 (by unfold maxLen; simp) rfl).mono (by omega)

set_option maxHeartbeats 1000000 in
theorem walk_m (m : Mc) (a1 : Option Addr) (c1 : Nat) (a2 : Option Addr) (c2 : Nat) (s : Int) (a3 : Option Addr) (c3 : Nat) (wd : List Int) (w : World) (R : Right m) (hk : m.kind = 2) (s0 : 0 ≤ s) (s1 : s < m.n) (hw : ∀ i, i < wd.length → 0 ≤ wd.getD i 0 ∧ wd.getD i 0 < m.k) (hl : wd.length ≤ 4096)
    (h1 : RdL .i64 w a1 m.nx) (h2 : RdL .i64 w a2 m.out) (h3 : RdL .i64 w a3 wd) :
    Calls Try.prog 60 #[mval m a1 c1 a2 c2, .int .i64 s, .slice a3 wd.length c3] w fun e w' => ∃ v, e = .returned (.tuple #[.int .i64 (goV m s wd []).1, v]) ∧ OwnL .i64 3 w' w.heap.size v (goV m s wd []).2 ∧ Below w.heap.size w w' := by
  unfold mval
  have B0 := Box.alloc w m a1 c1 a2 c2 24
  have b0 := ballo w (.cells #[.int .i64 m.kind, .int .i64 m.k, .int .i64 m.o, .int .i64 m.n, .slice a1 m.nx.length c1, .slice a2 m.out.length c2] 24)
  have t1 := eq_f (a := m.kind) (b := 1) (by omega)
  have t2 := eq_t hk
  have HK := hide hk
  have HR := hide R
  have HW := hide hw
  clear hk R hw
  go_enter Try.func60, Try.ntmps60
  go_wp2
  go_loopw [6, 7, 13] (fun ls v i wr => ∃ (j : Nat) (q : Int) (acc : List Int), j ≤ wd.length ∧ i = .int .i64 j ∧ ls = .int .i64 q ∧ 0 ≤ q ∧ q < m.n ∧ OwnL .i64 3 wr (w.heap.size + 1) v acc ∧ acc.length ≤ j ∧ Hid (goV m q (wd.drop j) acc = goV m s wd []) ∧ Below w.heap.size w wr ∧ Below (w.heap.size + 1) (w.alloc (.cells #[.int .i64 m.kind, .int .i64 m.k, .int .i64 m.o, .int .i64 m.n, .slice a1 m.nx.length c1, .slice a2 m.out.length c2] 24)) wr) (fun _ _ i _ => wd.length - (intOf i).toNat)
  case atStart => exact ⟨0, s, [], Nat.zero_le _, rfl, rfl, s0, s1, OwnL.nil _ _ _ _, by simp, hide rfl, b0, Below.refl _ _⟩
  case round =>
    obtain ⟨j, q, acc, hj, rfl, rfl, q0, q1, hI, hal, H, b1, d1⟩ := hrel
    obtain ⟨p0, p1, p2, p3, p4, p5⟩ := box_on B0 d1 (Nat.lt_succ_self _)
    obtain ⟨av, cv, rfl, hnil, hlc, hcm, -, -⟩ := hI.shape
    have hsz := d1.size
    have hsz2 : w.heap.size + 1 ≤ wr.heap.size := by have := d1.size; simp at this; omega
    clear hsz
    by_cases hlt : j < wd.length
    · obtain ⟨b, off, rfl, hc⟩ := (h3.below b1).at hlt
      have hcj := hc j hlt
      have hlt' : (j : Int) < (wd.length : Int) := by omega
      have hx := unhide HW j hlt
      have HD := hide (drop_at hlt)
      obtain ⟨x, hxe⟩ : ∃ x, x = wd.getD j 0 := ⟨_, rfl⟩
      rw [← hxe] at hcj hx HD
      have HX := hide hxe
      clear hc hxe
      obtain ⟨x0, x1⟩ := hx
      obtain ⟨P, hP, hPl, g0, g1, g2⟩ := way_of (unhide HR) q0 q1 x0 x1
      have hPl' : (P : Int) < (m.nx.length : Int) := by omega
      obtain ⟨b', off', rfl, hn⟩ := (h1.below b1).at hPl
      have hnP := hn P hPl
      have hy := (unhide HR).st P hPl
      have hPo : P < m.out.length := by have := (unhide HR).nx; have := (unhide HR).outM (unhide HK); omega
      have hPo' : (P : Int) < (m.out.length : Int) := by omega
      obtain ⟨b2, off2, rfl, hm⟩ := (h2.below b1).at hPo
      have hoP := hm P hPo
      have H1 : Hid (goV m (m.nx.getD P 0) (wd.drop (j + 1)) (acc ++ [m.out.getD P 0]) = goV m s wd []) := by rw [← goV_cons2 (unhide HK) hP, ← unhide HD]; exact unhide H
      generalize m.out.getD P 0 = z at *
      clear hm
      obtain ⟨y, hye⟩ : ∃ y, y = m.nx.getD P 0 := ⟨_, rfl⟩
      rw [← hye] at hnP hy H1
      have HY := hide hye
      clear hn hye H HD
      obtain ⟨y0, y1⟩ := hy
      go_wp2
      go_quiet (fail)
      have I1 := hI.grown (bdrew wr nq)
      have bb := bstep b1 (bdrew wr nq)
      have dd := below_drewN d1 nq
      go_wp2_with (at_builtin; refine wpl_pushL eInt rfl (.tmp 28) (.tmp 34) rfl (w.heap.size + 1) _ acc rfl (I1.alloc _) (some ⟨wr.heap.size, 0, none⟩) 1 [z] rfl (RdL.one _ _) (by intro h; cases h) (by simp only [List.length_cons, List.length_nil]; omega) (by simp; omega) ?_; intro v2 w2 hown2 hb2 _; have e2 := (balloc bb (.cells #[.int .i64 z] 3)).trans (hb2.mono (by omega)); have f2 := (dd.alloc (by simp; omega) (.cells #[.int .i64 z] 3)).trans hb2; obtain ⟨u0, u1, u2, u3, u4, u5⟩ := box_on B0 f2 (Nat.lt_succ_self _); have hn2 := h1.cellIn e2 rfl hPl (unhide HY))
      go_roundw
      case rel => exact ⟨j + 1, y, acc ++ [z], by omega, by go_num, rfl, y0, y1, hown2, by simp only [List.length_append, List.length_cons, List.length_nil]; omega, H1, e2, f2⟩
      case measure => simp [intOf]; omega
    · have he : j = wd.length := by omega
      have HDR : Hid (wd.drop j = []) := List.drop_eq_nil_of_le (by omega)
      have H1 : Hid (goV m s wd [] = (q, acc)) := by rw [← unhide H, unhide HDR, goV_nil2 (by rw [unhide HK]; decide)]; exact rfl
      clear H HDR
      subst he
      go_wp2
      go_ret2
      refine ⟨_, ret_iv (by rw [unhide H1]), ?_, b1⟩
      rw [unhide H1]
      exact hI.mono (by omega)

theorem walk_any (m : Mc) (a1 : Option Addr) (c1 : Nat) (a2 : Option Addr) (c2 : Nat) (s : Int) (a3 : Option Addr) (c3 : Nat) (wd : List Int) (w : World) (R : Right m) (s0 : 0 ≤ s) (s1 : s < m.n) (hw : ∀ i, i < wd.length → 0 ≤ wd.getD i 0 ∧ wd.getD i 0 < m.k) (hl : wd.length ≤ 4096)
    (h1 : RdL .i64 w a1 m.nx) (h2 : RdL .i64 w a2 m.out) (h3 : RdL .i64 w a3 wd) :
    Calls Try.prog 60 #[mval m a1 c1 a2 c2, .int .i64 s, .slice a3 wd.length c3] w fun e w' => ∃ v, e = .returned (.tuple #[.int .i64 (goV m s wd []).1, v]) ∧ OwnL .i64 3 w' w.heap.size v (goV m s wd []).2 ∧ Below w.heap.size w w' := by
  rcases R.kd with hk | hk
  · exact walk_d m a1 c1 a2 c2 s a3 c3 wd w R hk s0 s1 hw hl h1 h2 h3
  · exact walk_m m a1 c1 a2 c2 s a3 c3 wd w R hk s0 s1 hw hl h1 h2 h3

end Go.Proofs.Ytagoilabphmdfaa
