/-
  Some texts of this seat, one behind the other.
-/
import Derived.Test.YtdnmabemollbeaaDoorK13
import Derived.Test.YtdnmabemollbeaaDoorK15
import Derived.Test.YtdnmabemollbeaaDoorK6
/-
  What the reference's now returns.
-/
namespace Go.Proofs.YtdnmabemollbeaaDoor
open Go.RowKit Go.Maps

theorem now_one {m : Mc} (hk : m.kind = 1) {s t : Nat} : nowB m s t = decide (m.out.getD s 0 = m.out.getD t 0) := by
  have hp : pp m = 1 := by unfold pp; rw [if_pos hk]
  have e : ∀ s : Nat, (rowO m (s : Int) 1).getD 0 0 = m.out.getD s 0 := fun s => by
    have h1 := rowO_get m (s : Int) (n := 1) (x := 0) (by omega)
    rw [hp, show ((s : Int) * ((1 : Nat) : Int) + ((0 : Nat) : Int)).toNat = s by omega] at h1
    exact h1
  apply Bool.eq_iff_iff.2
  rw [now_iff, hp, decide_eq_true_eq]
  exact ⟨fun h => by have := h 0 (by omega); rwa [e, e] at this, fun h i hi => by have c : i = 0 := (by omega); subst c; rw [e, e, h]⟩
theorem pp_two {m : Mc} (hk : ¬ m.kind = 1) : pp m = m.k.toNat := by unfold pp; rw [if_neg hk]
theorem said_two {m : Mc} (hk : ¬ m.kind = 1) (k0 : 1 ≤ m.k) (s : Int) {x : Nat} (hx : x < pp m) : (rowO m s (pp m)).getD x 0 = m.out.getD (s * m.k + x).toNat 0 := by
  rw [rowO_get m s hx, show ((pp m : Nat) : Int) = m.k by rw [pp_two hk]; omega]
theorem outp_two {m : Mc} (R : Right m) (hk : ¬ m.kind = 1) {s x : Int} (s0 : 0 ≤ s) (s1 : s < m.n) (x0 : 0 ≤ x) (x1 : x < m.k) : ∃ P : Nat, s * m.k + x = (P : Int) ∧ P < m.out.length ∧ 0 ≤ s * m.k ∧ s * m.k ≤ 65536 ∧ P ≤ 65536 := by
  obtain ⟨P, h1, h2, h3, h4, h5⟩ := way_of R s0 s1 x0 x1
  refine ⟨P, h1, ?_, h3, h4, h5⟩
  have hk2 : m.kind = 2 := by rcases R.kd with h | h; { exact absurd h hk }; exact h
  have := R.outM hk2
  have := R.nx
  omega

set_option maxHeartbeats 1000000 in
theorem now_any (m : Mc) (a1 : Option Addr) (c1 : Nat) (a2 : Option Addr) (c2 : Nat) (s t : Nat) (w : World) (R : Right m) (h2 : RdL .i64 w a2 m.out) (hs : (s : Int) < m.n) (ht : (t : Int) < m.n) :
    Calls Tryd.prog 74 #[mval m a1 c1 a2 c2, .int .i64 s, .int .i64 t] w fun e w' => e = .returned (.bool (nowB m s t)) ∧ Below w.heap.size w w' := by
  unfold mval
  have b0 := ballo w (.cells #[.int .i64 m.kind, .int .i64 m.k, .int .i64 m.o, .int .i64 m.n, .slice a1 m.nx.length c1, .slice a2 m.out.length c2] 24)
  have B0 := Box.alloc w m a1 c1 a2 c2 24
  have k0 := R.k0
  have k1 := R.k1
  have n1 := R.n1
  by_cases hk : m.kind = 1
  · have tk : (m.kind == 1) = true := by simpa using hk
    have hol := R.outD hk
    obtain ⟨b, off, rfl, hc⟩ := (h2.below b0).at (i := s) (by omega)
    have hcs := hc s (by omega)
    have hct := hc t (by omega)
    have l1 : (s : Int) < (m.out.length : Int) := by omega
    have l2 : (t : Int) < (m.out.length : Int) := by omega
    have HE := hide (now_one hk (s := s) (t := t))
    clear hc hk hol
    generalize m.out.getD s 0 = x at *
    generalize m.out.getD t 0 = y at *
    by_cases hxy : x = y
    · have tx : (x == y) = true := by simpa using hxy
      have HX := hide hxy
      clear hxy
      go_enter Tryd.func74, Tryd.ntmps74
      go_wp2
      go_quiet (fail)
      go_wp2
      go_ret
      exact ⟨ret_bool (by rw [unhide HE, decide_eq_true (unhide HX)]), below_drewN b0 _⟩
    · have tx : (x == y) = false := by simpa using hxy
      have HX := hide hxy
      clear hxy
      go_enter Tryd.func74, Tryd.ntmps74
      go_wp2
      go_quiet (fail)
      go_wp2
      go_ret
      exact ⟨ret_bool (by rw [unhide HE, decide_eq_false (unhide HX)]), below_drewN b0 _⟩
  have tk : (m.kind == 1) = false := by simpa using hk
  have HK := hide hk
  have HR := hide R
  have hpk := pp_two hk
  have HPK := hide hpk
  have HB := hide b0
  obtain ⟨w0, hw0⟩ : ∃ w0, w0 = w.alloc (.cells #[.int .i64 m.kind, .int .i64 m.k, .int .i64 m.o, .int .i64 m.n, .slice a1 m.nx.length c1, .slice a2 m.out.length c2] 24) := ⟨_, rfl⟩
  rw [← hw0] at B0 HB
  clear hk R hpk b0
  go_enter Tryd.func74, Tryd.ntmps74
  go_wp2
  rw [← hw0]
  clear hw0
  go_loopw [7] (fun a wx => ∃ x : Nat, a = .int .i64 x ∧ (x : Int) ≤ m.k ∧ Hid (∀ i, i < x → (rowO m s (pp m)).getD i 0 = (rowO m t (pp m)).getD i 0) ∧ Below w0.heap.size w0 wx) (fun a _ => m.k.toNat - (intOf a).toNat)
  case atStart => exact ⟨0, rfl, by omega, hide (fun i hi => by omega), Below.refl _ _⟩
  case round =>
    obtain ⟨x, rfl, hxk, HG, hb⟩ := hrel
    obtain ⟨p0, p1, p2, p3, p4, p5⟩ := B0.below hb
    have b1 := bstep (unhide HB) hb
    by_cases hx : (x : Int) < m.k
    · obtain ⟨P, hP, hPl, t0, t1, t2⟩ := outp_two (unhide HR) (unhide HK) (s := (s : Int)) (by omega) hs (x := (x : Int)) (by omega) hx
      obtain ⟨Q, hQ, hQl, u0, u1, u2⟩ := outp_two (unhide HR) (unhide HK) (s := (t : Int)) (by omega) ht (x := (x : Int)) (by omega) hx
      obtain ⟨b, off, rfl, hc⟩ := (h2.below b1).at hPl
      have hcP := hc P hPl
      have hcQ := hc Q hQl
      have l1 : (P : Int) < (m.out.length : Int) := by omega
      have l2 : (Q : Int) < (m.out.length : Int) := by omega
      have hxp : x < pp m := by rw [unhide HPK]; omega
      have E1 := hide (said_two (unhide HK) k0 (s : Int) hxp)
      have E2 := hide (said_two (unhide HK) k0 (t : Int) hxp)
      rw [hP, Int.toNat_natCast] at E1
      rw [hQ, Int.toNat_natCast] at E2
      have HX := hide hxp
      clear hc hxp
      generalize m.out.getD P 0 = y at *
      generalize m.out.getD Q 0 = z at *
      by_cases hyz : y = z
      · have tx : (y != z) = false := by simpa using hyz
        have HY := hide hyz
        clear hyz
        go_wp2
        go_quiet (fail)
        go_wp2
        go_roundw
        case rel =>
          refine ⟨x + 1, by go_num, by omega, hide (fun i hi => ?_), below_drewN hb _⟩
          by_cases c : i = x
          · subst c; rw [unhide E1, unhide E2, unhide HY]
          · exact unhide HG i (by omega)
        case measure => simp [intOf]; omega
      · have tx : (y != z) = true := by simpa using hyz
        have HY := hide hyz
        clear hyz
        go_wp2
        go_quiet (fail)
        go_wp2
        go_ret
        refine ⟨ret_bool ?_, below_drewN b1 _⟩
        cases e : nowB m s t
        · rfl
        · have := now_iff.1 e x (unhide HX)
          rw [unhide E1, unhide E2] at this
          exact absurd this (unhide HY)
    · have HX : Hid (pp m = x) := by show _ = _; rw [unhide HPK]; omega
      go_wp2
      go_ret
      exact ⟨ret_bool (now_iff.2 (by rw [unhide HX]; have := unhide HG; rwa [unhide HX] at this)).symm, b1⟩

end Go.Proofs.YtdnmabemollbeaaDoor

/-
  What the reference's start returns: the pairs that are apart by the empty word.
-/
namespace Go.Proofs.YtdnmabemollbeaaDoor
open Go.RowKit Go.Maps

/-- Which pairs are apart after n rounds. -/
def apR (m : Mc) (n : Nat) (s t : Nat) : Bool := !(alkR m n s t)
theorem ap_one {m : Mc} (hk : m.kind = 1) (s t : Nat) : apR m 0 s t = !(nowB m s t) := by unfold apR alkR alk; rw [if_pos hk]
theorem ap_two {m : Mc} (hk : ¬ m.kind = 1) (s t : Nat) : apR m 0 s t = false := by unfold apR alkR alk; rw [if_neg hk]; rfl
/-- What start and round leave: a square of Booleans. -/
def MtPost (N : Nat) (A : Nat → Nat → Bool) (w : World) (v : Value) (w' : World) : Prop := ∃ g c, v = .slice (some ⟨g, 0, none⟩) N c ∧ Mat w' g N A ∧ Below w.heap.size w w'

theorem setB_next {f : Nat → Bool} {t : Nat} {b : Bool} (h : b = f t) (i : Nat) : setV t (.bool b) (bv fun i => decide (i < t) && f i) i = bv (fun i => decide (i < t + 1) && f i) i := by
  unfold setV bv
  by_cases e : i = t
  · subst e; rw [if_pos rfl, h]; simp
  · rw [if_neg e]
    have : (i < t) ↔ (i < t + 1) := by omega
    simp only [this]

set_option maxRecDepth 100000 in
set_option maxHeartbeats 2000000 in
theorem start_any (m : Mc) (a1 : Option Addr) (c1 : Nat) (a2 : Option Addr) (c2 : Nat) (N : Nat) (w : World) (R : Right m) (h2 : RdL .i64 w a2 m.out) (hN : m.n = (N : Int)) :
    Calls Tryd.prog 60 #[mval m a1 c1 a2 c2] w fun e w' => ∃ v, e = .returned v ∧ MtPost N (apR m 0) w v w' := by
  unfold mval
  obtain ⟨w0, hw0⟩ : ∃ w0, w0 = w.alloc (.cells #[.int .i64 m.kind, .int .i64 m.k, .int .i64 m.o, .int .i64 m.n, .slice a1 m.nx.length c1, .slice a2 m.out.length c2] 24) := ⟨_, rfl⟩
  have b0 : Below w.heap.size w w0 := by rw [hw0]; exact ballo _ _
  have B0 : Box w0 w.heap.size m a1 c1 a2 c2 := by rw [hw0]; exact Box.alloc w m a1 c1 a2 c2 24
  have n0 := R.n0
  have n1 := R.n1
  have hN0 : 0 < N := by omega
  have hN1 : N ≤ 1024 := by omega
  have HR := hide R
  have HN := hide hN
  clear R hN
  go_enter Tryd.func60, Tryd.ntmps60
  go_wp2
  rw [← hw0]
  clear hw0
  go_loopw [3, 4] (fun v a wx => ∃ (s : Nat) (vs : Nat → Value), a = .int .i64 s ∧ s ≤ N ∧ MatB w0 wx v s N (apR m 0) vs) (fun _ a _ => N - (intOf a).toNat)
  case atStart => exact ⟨0, _, rfl, Nat.zero_le _, MatB.start w0 N (apR m 0)⟩
  case round =>
    obtain ⟨s, vs, rfl, hs, hinv⟩ := hrel
    obtain ⟨wp, hwp⟩ : ∃ wp, wp = wr := ⟨wr, rfl⟩
    subst hwp
    have HI := hide hinv
    obtain ⟨p0, p1, p2, p3, p4, p5⟩ := B0.below hinv.bl
    obtain ⟨av, cv, ev⟩ := hinv.out.shape
    subst ev
    have hbw := bstep b0 hinv.bl
    by_cases hlt : s < N
    rotate_left
    · have he : s = N := by omega
      subst he
      have HX : Hid (¬ (s : Int) < m.n) := by show ¬ _; have := unhide HN; omega
      have hx := unhide HX
      obtain ⟨g, c, e, hm⟩ := hinv.mat hN0
      cases e
      clear hinv
      go_wp2
      go_ret
      exact ⟨_, rfl, g, _, rfl, hm, hbw⟩
    have hlt' : (s : Int) < m.n := by have := unhide HN; omega
    have hsz0 := b0.size
    have hzz := hinv.bl.size
    clear hinv
    go_wp2_with (at_make; refine wplE_make eBool rfl (.tmp 14) (.tmp 14) rfl wp.heap.size _ _ N rfl rfl (unhide HN) (unhide HN) (by omega) (Nat.le_refl _) ?_; intro w1 hown1 hb1; obtain ⟨q0, q1, q2, q3, q4, q5⟩ := B0.below ((unhide HI).on hb1).bl)
    have HO := hide (hown1.congr (g := bv fun i => decide (i < 0) && apR m 0 s i) fun i _ => by unfold bv; simp)
    have HB1 := hide hb1
    clear hown1 hb1 p0 p1 p2 p3 p4 p5 q0 q1 q2 q3 q4 q5
    go_loopw [6] (fun a wx => ∃ t : Nat, a = .int .i64 t ∧ t ≤ N ∧ OwnE 4 wx wp.heap.size (.slice (some ⟨wp.heap.size, 0, none⟩) N N) N (bv fun i => decide (i < t) && apR m 0 s i) ∧ Below wp.heap.size wp wx) (fun a _ => N - (intOf a).toNat)
    case atStart => exact ⟨0, rfl, Nat.zero_le _, unhide HO, unhide HB1⟩
    case round =>
      obtain ⟨t, rfl, ht, hown, hb⟩ := hrel
      clear HO HB1
      have HO := hide hown
      have HB1 := hide hb
      have hI2 := (unhide HI).on hb
      obtain ⟨p0, p1, p2, p3, p4, p5⟩ := B0.below hI2.bl
      have hbx := bstep b0 hI2.bl
      by_cases hltt : t < N
      · have hltt' : (t : Int) < m.n := by have := unhide HN; omega
        have hltN : (t : Int) < (N : Int) := by omega
        by_cases hk : m.kind = 1
        · have tk : (m.kind == 1) = true := by simpa using hk
          have HE := hide (ap_one hk s t)
          have HC := hide (now_any m a1 c1 a2 c2 s t wr (unhide HR) (h2.below hbx) hlt' hltt')
          clear hk hown hb hI2
          go_wp2_with (go_at_call 74; refine (unhide HC).mono ?_; rintro e w2 ⟨rfl, hb2⟩; have O2 := (unhide HO).below hb2; obtain ⟨g, cap, eg, -, -, -, -, hc, hf⟩ := O2.pos (by omega); cases eg; have hct := hc t hltt; have hft := hf t; clear hc hf)
          go_roundw
          case rel =>
            refine ⟨t + 1, by go_num, by omega, (O2.store t _).congr fun i _ => setB_next (unhide HE).symm i, ((unhide HB1).trans (hb2.mono (unhide HB1).size)).setCell (p := ⟨wp.heap.size, t, none⟩) (Nat.le_refl _) _⟩
          case measure => simp [intOf]; omega
        · have tk : (m.kind == 1) = false := by simpa using hk
          have HE := hide (ap_two hk s t)
          obtain ⟨g, cap, eg, -, -, -, -, hc, hf⟩ := hown.pos (by omega)
          cases eg
          have hct := hc t hltt
          have hft := hf t
          clear hk hown hb hI2 hc hf
          go_wp2
          go_roundw
          case rel =>
            refine ⟨t + 1, by go_num, by omega, ((unhide HO).store t _).congr fun i _ => setB_next (unhide HE).symm i, (unhide HB1).setCell (p := ⟨wp.heap.size, t, none⟩) (Nat.le_refl _) _⟩
          case measure => simp [intOf]; omega
      · have he : t = N := by omega
        subst he
        have HX : Hid (¬ (t : Int) < m.n) := by show ¬ _; have := unhide HN; omega
        have hx := unhide HX
        have HW := hide (hown.congr (g := bv (apR m 0 s)) fun i hi => by unfold bv; simp [hi])
        have OV := hI2.out
        have zz := hI2.bl.size
        clear hown hb hI2
        go_wp2_with (at_builtin; refine wplE_push eBools rfl (.tmp 35) (.tmp 37) rfl w0.heap.size _ s vs rfl (World.ownsRow.alloc OV _) wr.heap.size 1 (.slice (some ⟨wp.heap.size, 0, none⟩) t t) rfl (by simp) rfl (by omega) (by simp; omega) ?_; intro v3 w3 ho3 hb3 hg3 hat3)
        go_roundw
        case rel => exact ⟨s + 1, _, by go_num, by omega, (unhide HI).step hN0 (unhide HB1) (unhide HW) _ ho3 hb3 hg3 hat3⟩
        case measure => simp [intOf]; omega

end Go.Proofs.YtdnmabemollbeaaDoor

/-
  What the reference's round returns: the pairs that are apart by one symbol more, and whether there are more of them.
-/
namespace Go.Proofs.YtdnmabemollbeaaDoor
open Go.RowKit Go.Maps

theorem any_succ (n : Nat) (f : Nat → Bool) : (List.range (n + 1)).any f = ((List.range n).any f || f n) := by rw [List.range_succ, List.any_append]; simp
/-- What is seen ahead of the steps. -/
def ap0 (m : Mc) (n : Nat) (s t : Nat) : Bool := apR m n s t || (decide (m.kind = 2) && !(nowB m s t))
/-- What is seen after x steps. -/
def apX (m : Mc) (n : Nat) (s t x : Nat) : Bool := ap0 m n s t || (List.range x).any fun y : Nat => !(alk m n (nxt m s y) (nxt m t y))
theorem apX_zero (m : Mc) (n s t : Nat) : apX m n s t 0 = ap0 m n s t := by unfold apX; simp
theorem apX_succ (m : Mc) (n s t x : Nat) : apX m n s t (x + 1) = (apX m n s t x || !(alk m n (nxt m s x) (nxt m t x))) := by unfold apX; rw [any_succ, Bool.or_assoc]
theorem apX_all (m : Mc) (n s t : Nat) : apX m n s t m.k.toNat = apR m (n + 1) s t := by
  have e : alkR m (n + 1) s t = (alk m n s t && (if m.kind = 2 then nowB m s t else true) && (List.range m.k.toNat).all fun x : Nat => alk m n (nxt m s x) (nxt m t x)) := rfl
  unfold apX ap0 apR
  rw [e]
  have e2 : alkR m n s t = alk m n s t := rfl
  rw [e2]
  have e3 : (List.range m.k.toNat).any (fun y : Nat => !(alk m n (nxt m s y) (nxt m t y))) = !((List.range m.k.toNat).all fun x : Nat => alk m n (nxt m s x) (nxt m t x)) := by
    rw [List.not_all_eq_any_not]
  rw [e3]
  by_cases hk : m.kind = 2
  · rw [if_pos hk, decide_eq_true hk]
    cases alk m n s t <;> cases nowB m s t <;> simp
  · rw [if_neg hk, decide_eq_false hk]
    cases alk m n s t <;> simp
theorem apX_mono {m : Mc} {n s t x y : Nat} (h : apX m n s t x = true) (hxy : x ≤ y) : apX m n s t y = true := by
  induction y with
  | zero => obtain rfl : x = 0 := by omega
            exact h
  | succ y ih =>
    by_cases e : x = y + 1
    · subst e; exact h
    · rw [apX_succ, ih (by omega)]; rfl
/-- Whether a pair is newly apart. -/
def dif (m : Mc) (n s t : Nat) : Bool := apR m (n + 1) s t != apR m n s t
/-- Whether one of the pairs so far is. -/
def mrP (m : Mc) (n N s t : Nat) : Bool := ((List.range s).any fun s' => (List.range N).any fun t' => dif m n s' t') || (List.range t).any (dif m n s)
theorem mrP_zero (m : Mc) (n N : Nat) : mrP m n N 0 0 = false := rfl
theorem mrP_next (m : Mc) (n N s t : Nat) : mrP m n N s (t + 1) = (mrP m n N s t || dif m n s t) := by unfold mrP; rw [any_succ, Bool.or_assoc]
theorem mrP_row (m : Mc) (n N s : Nat) : mrP m n N s N = mrP m n N (s + 1) 0 := by
  unfold mrP
  rw [any_succ]; simp
theorem dif_iff {m : Mc} {n s t : Nat} : dif m n s t = true ↔ alk m n s t = true ∧ alk m (n + 1) s t = false := by
  have e1 : apR m (n + 1) s t = !(alk m (n + 1) s t) := rfl
  have e2 : apR m n s t = !(alk m n s t) := rfl
  unfold dif
  rw [e1, e2]
  have h := @alk_less m n s t
  cases a : alk m (n + 1) (s : Int) (t : Int)
  · cases b : alk m n (s : Int) (t : Int) <;> simp
  · rw [h a]; simp
/-- A round finds more just where it splits. -/
theorem mrP_all {m : Mc} {N : Nat} (hN : m.n = (N : Int)) (n : Nat) : mrP m n N N 0 = true ↔ ¬ Still m n := by
  unfold mrP
  simp only [List.range_zero, List.any_nil, Bool.or_false, List.any_eq_true, List.mem_range]
  constructor
  · rintro ⟨s, hs, t, ht, h⟩ hst
    obtain ⟨h1, h2⟩ := dif_iff.1 h
    rw [hst s t (by omega) (by omega) (by omega) (by omega) h1] at h2
    cases h2
  · intro h
    cases c : mrP m n N N 0
    · refine absurd ?_ h
      intro s t s0 s1 t0 t1 e
      obtain ⟨a, rfl⟩ := Int.eq_ofNat_of_zero_le s0
      obtain ⟨b, rfl⟩ := Int.eq_ofNat_of_zero_le t0
      cases d : alk m (n + 1) (a : Int) (b : Int)
      · have h1 : dif m n a b = true := dif_iff.2 ⟨e, d⟩
        have h2 : mrP m n N N 0 = true := by
          unfold mrP
          simp only [List.range_zero, List.any_nil, Bool.or_false, List.any_eq_true, List.mem_range]
          exact ⟨a, by omega, b, by omega, h1⟩
        rw [c] at h2; cases h2
      · rfl
    · unfold mrP at c
      simpa only [List.range_zero, List.any_nil, Bool.or_false, List.any_eq_true, List.mem_range] using c

/-- A row in the making: t numbers are right, the next one is b. -/
def rwB (f : Nat → Bool) (t : Nat) (b : Bool) (i : Nat) : Bool := if i = t then b else decide (i < t) && f i
theorem rwB_set (f : Nat → Bool) (t : Nat) (b c : Bool) (i : Nat) : setV t (.bool c) (bv (rwB f t b)) i = bv (rwB f t c) i := by
  unfold setV bv rwB
  by_cases e : i = t
  · rw [if_pos e, if_pos e]
  · rw [if_neg e, if_neg e, if_neg e]
theorem rwB_zero (f : Nat → Bool) (t i : Nat) : bv (fun i => decide (i < t) && f i) i = bv (rwB f t false) i := by
  unfold bv rwB
  by_cases e : i = t
  · rw [if_pos e, e]; simp
  · rw [if_neg e]
theorem rwB_next {f : Nat → Bool} {t : Nat} {b : Bool} (h : b = f t) (i : Nat) : bv (rwB f t b) i = bv (fun i => decide (i < t + 1) && f i) i := by
  unfold bv rwB
  by_cases e : i = t
  · rw [if_pos e, e, h]; simp
  · rw [if_neg e]
    have : (i < t) ↔ (i < t + 1) := by omega
    simp only [this]
theorem rwB_at (f : Nat → Bool) (t : Nat) (b : Bool) : bv (rwB f t b) t = .bool b := by unfold bv rwB; rw [if_pos rfl]

/-- What holds while a row is made. -/
structure RwI (wp wx : World) (N : Nat) (f : Nat → Bool) : Prop where
  own : OwnE 4 wx wp.heap.size (.slice (some ⟨wp.heap.size, 0, none⟩) N N) N (bv f)
  bl : Below wp.heap.size wp wx
theorem RwI.on {wp wx wy : World} {N : Nat} {f : Nat → Bool} (h : RwI wp wx N f) (hb : Below wx.heap.size wx wy) : RwI wp wy N f := ⟨h.own.below hb, h.bl.trans (hb.mono h.bl.size)⟩
theorem RwI.cell {wp wx : World} {N : Nat} {f : Nat → Bool} (h : RwI wp wx N f) {t : Nat} (ht : t < N) : wx.cell? ⟨wp.heap.size, t, none⟩ = some (.bool (f t)) ∧ wx.frozen? ⟨wp.heap.size, t, none⟩ = false := by
  obtain ⟨g, cap, eg, -, -, -, -, hc, hf⟩ := h.own.pos (by omega)
  cases eg
  exact ⟨hc t ht, hf t⟩
theorem RwI.store {wp wx : World} {N : Nat} {f g : Nat → Bool} (h : RwI wp wx N f) {t : Nat} {c : Bool} (k : ∀ i, setV t (.bool c) (bv f) i = bv g i) : RwI wp (wx.setCell ⟨wp.heap.size, t, none⟩ (.bool c)) N g :=
  ⟨(h.own.store t _).congr fun i _ => k i, h.bl.setCell (p := ⟨wp.heap.size, t, none⟩) (Nat.le_refl _) _⟩
theorem RwI.congr {wp wx : World} {N : Nat} {f g : Nat → Bool} (h : RwI wp wx N f) (k : ∀ i, bv f i = bv g i) : RwI wp wx N g := ⟨h.own.congr fun i _ => k i, h.bl⟩

end Go.Proofs.YtdnmabemollbeaaDoor
