/-
  The law DifferStates, walked: it returns true, whatever the input.
-/
import Derived.Test.YtknefgdcnacfoaaDLive
import Derived.Test.YtknefgdcnacfoaaK5
namespace Go.Proofs.Ytknefgdcnacfoaa
open Go.RowKit

theorem ArgM.ma {w : World} {m : Mc} {a1 : Option Addr} {c1 : Nat} {a2 : Option Addr} {c2 : Nat} (h : ArgM w m a1 c1 a2 c2) (ln : m.nx.length ≤ 70000) (lo : m.out.length ≤ 70000) (hn : m.n ≤ 512) : MA w m a1 c1 a2 c2 := ⟨h.nx.rd, h.out.rd, h.nx.le, h.out.le, ln, lo, hn⟩

set_option maxRecDepth 100000 in
set_option maxHeartbeats 2000000 in
theorem differStates_walkC (C : DCtr) (m : Mc) (a1 : Option Addr) (c1 : Nat) (a2 : Option Addr) (c2 : Nat) (s t : Int) (w : World) (h0 : ArgM w m a1 c1 a2 c2) :
    Calls Try.prog 4 #[mval m a1 c1 a2 c2, .int .i64 s, .int .i64 t] w fun e w' => e = .returned (.bool true) ∧ Below w.heap.size w w' := by
  unfold mval
  have B0 := Box.alloc w m a1 c1 a2 c2 24
  have b0 := ballo w (.cells #[.int .i64 m.kind, .int .i64 m.k, .int .i64 m.o, .int .i64 m.n, .slice a1 m.nx.length c1, .slice a2 m.out.length c2] 24)
  cases hbig : bigB 60 m
  rotate_left
  · go_enter Try.func4, Try.ntmps4
    go_wp2_with fail
    refine (big_any 60 m a1 c1 a2 c2 _).mono ?_
    rw [hbig]
    rintro e w1 ⟨rfl, hb1⟩
    have b1 := bstep b0 hb1
    go_wp2_with (go_at_call 9; refine (live_any C _).mono ?_; rintro e wl ⟨rfl, hbl⟩)
    go_ret
    exact ⟨rfl, bstep b1 hbl⟩
  obtain ⟨n60, ln, lo⟩ := big_bounds hbig
  have HM := hide (h0.ma ln lo (by omega))
  obtain ⟨o, ho⟩ := ap_ex m s t
  have HO := hide ho
  clear ho
  go_enter Try.func4, Try.ntmps4
  go_wp2_with fail
  refine (big_any 60 m a1 c1 a2 c2 _).mono ?_
  rw [hbig]
  rintro e w1 ⟨rfl, hb1⟩
  have b1 := bstep b0 hb1
  have B1 := B0.below hb1
  obtain ⟨p0, p1, p2, p3, p4, p5⟩ := id B1
  clear hb1 B0 b0 hbig
  have HC := hide (C.ap m a1 c1 a2 c2 s t w1 o ((unhide HM).below b1) (unhide HO))
  unfold mval at HC
  go_wp2_with fail
  refine (unhide HC).mono ?_
  rintro e w2 ⟨v, rfl, hv, hb2⟩
  obtain ⟨av, cv, ev, -, lv, mv, rv, -⟩ := hv.shape
  subst ev
  have hml : (o.getD []).length ≤ maxLen := by omega
  have b2 := bstep b1 hb2
  have B2 := B1.below hb2
  clear p0 p1 p2 p3 p4 p5 hb2 B1 b1 hv HC lv mv
  obtain ⟨p0, p1, p2, p3, p4, p5⟩ := id B2
  have HC := hide (rapart_any m a1 c1 a2 c2 s t w2 o ((unhide HM).below b2).r1 ((unhide HM).below b2).r2 (unhide HM).m1 (unhide HM).m2 (unhide HO))
  unfold mval at HC
  go_wp2_with fail
  refine (unhide HC).mono ?_
  rintro e w3 ⟨v', rfl, hv', hb3⟩
  obtain ⟨av', cv', ev', -, -, -, rv', -⟩ := hv'.shape
  subst ev'
  have b3 := bstep b2 hb3
  have rv := rv.below hb3
  have te := self_eq (apE m s t)
  clear p0 p1 p2 p3 p4 p5 hb3 B2 b2 hv' HC
  generalize apE m s t = E at *
  generalize o.getD [] = l at *
  have HS := hide (same_list av av' cv cv' l l w3 rv rv' hml)
  rw [show decide (l = l) = true from decide_eq_true rfl] at HS
  cases o.isSome
  all_goals
    go_wp2_with fail
    refine (unhide HS).mono ?_
    rintro e w5 ⟨rfl, hb5⟩
    have b5 := bstep b3 hb5
    go_wp2_with (first | (go_at_call 15; refine (num_any _ _).mono ?_; rintro e w' ⟨rfl, hw'⟩; subst w') | (go_at_call 9; refine (live_any C _).mono ?_; rintro e wl ⟨rfl, hbl⟩))
    go_ret
    exact ⟨rfl, bstep b5 hbl⟩
end Go.Proofs.Ytknefgdcnacfoaa
