/-
  The law PointPlays, walked: it returns true, whatever comes in.
-/
import Derived.Test.YtaldjpjlggnhhaaJLive
import Derived.Test.YtaldjpjlggnhhaaJReg
import Derived.Test.YtaldjpjlggnhhaaArgBl
namespace Go.Proofs.Ytaldjpjlggnhhaa
set_option linter.unusedVariables false
open Go.RowKit

theorem quietJ {P : Program} {f : FuncId} {args : Array Value} {w : World} {n : Nat} {v : Value} (h : Calls P f args (w.drewN n) fun e w' => e = .returned v ∧ w' = w.drewN n) :
    Calls P f args (w.drewN n) fun e w'' => e = .returned v ∧ ∃ m, w'' = w.drewN m :=
  h.mono fun _ _ ⟨he, hm⟩ => ⟨he, n, hm⟩
theorem Bk.bx {w w' : World} {k : Nat} {cs : List Value} {t : TypeId} {X : Nat → Prop} (h : Bk w k cs t) (hb : Bx X w w') (hx : ¬ X k) : Bk w' k cs t := (hb.block k h.lt hx).trans h
def sixL (s : Sc) (x : Int) : List Value := [.int .i64 (s.how : Int), .int .i64 (s.low : Int), .int .i64 (s.high : Int), .int .i64 x, .bool s.no, .int .i64 (s.asked : Int)]
/-- What holds ahead of each round. -/
structure Jz (n : Nat) (w0 w : World) (b tb : Nat) (s : Sc) (x : Int) : Prop where
  sx : Sx n w b s
  tk : Bk w tb (sixL s x) 28
  st : StOk s x
  bl : Below w0.heap.size w0 w
  hb : w0.heap.size ≤ b
  ht : w0.heap.size ≤ tb
  ne : b ≠ tb
theorem Jz.step {n : Nat} {w0 w : World} {b tb : Nat} {s : Sc} {x : Int} (h : Jz n w0 w b tb s x) : s.how = 3 → s.no = false → s.high ≠ s.low + 1 → s.step ≤ 4096 := fun h1 h2 => h.sx.step h1 h2
theorem Jz.below {n : Nat} {w0 w w' : World} {b tb : Nat} {s : Sc} {x : Int} (h : Jz n w0 w b tb s x) (hb : Below w.heap.size w w') : Jz n w0 w' b tb s x := ⟨h.sx.below hb, h.tk.below hb, h.st, bstep h.bl hb, h.hb, h.ht, h.ne⟩
theorem Jz.ask {n : Nat} {w0 w : World} {b tb : Nat} {s : Sc} {x : Int} (h : Jz n w0 w b tb s x) : s.asked + 1 ≤ n := by have := h.sx.ok.sum; have := h.sx.ok.lt; omega
/-- What is told makes of it; the reference's object set anew. -/
theorem Jz.told {n : Nat} {w0 w X : World} {b tb : Nat} {s s' : Sc} {x x' : Int} (h : Jz n w0 w b tb s x) (hX : Below w.heap.size w X) (sx : Sx n w b s') (st : StOk s' x') :
    Jz n w0 (((((((X.setCell ⟨tb, 0, none⟩ (.int .i64 (s'.how : Int))).setCell ⟨tb, 1, none⟩ (.int .i64 (s'.low : Int))).setCell ⟨tb, 2, none⟩ (.int .i64 (s'.high : Int))).setCell ⟨tb, 3, none⟩ (.int .i64 x')).setCell ⟨tb, 4, none⟩ (.bool s'.no)).setCell ⟨tb, 5, none⟩ (.int .i64 (s'.asked : Int)))) b tb s' x' := by
  have z := h.ne
  refine ⟨⟨?_, sx.ok, sx.le, sx.hw, sx.ms⟩, (h.tk.below hX).six _ _ _ _ _ _, st, six_belowS (bstep h.bl hX) h.ht _ _ _ _ _ _, h.hb, h.ht, h.ne⟩
  exact ((((((sx.o.below hX).other ⟨tb, 0, none⟩ z _).other ⟨tb, 1, none⟩ z _).other ⟨tb, 2, none⟩ z _).other ⟨tb, 3, none⟩ z _).other ⟨tb, 4, none⟩ z _).other ⟨tb, 5, none⟩ z _

set_option maxRecDepth 100000 in
set_option maxHeartbeats 16000000 in
theorem pointPlays_walk (how n : Int) (a : Option Addr) (c : Nat) (l : List Bool) (w : World) (_ : Fits how) (_ : Fits n) (h : ArgBl w a c l) :
    Calls Try.prog 3 #[.int .i64 how, .int .i64 n, .slice a l.length c] w fun e w' => e = .returned (.bool true) ∧ Below w.heap.size w w' := by
  have hrd := h.rd
  have hmx : l.length ≤ maxLen := Nat.le_trans h.le h.max
  have hn1 := snew_any how n w
  clear h
  go_enter Try.func3, Try.ntmps3
  go_wp2_with fail
  refine hn1.mono ?_
  rintro e w1 (⟨hne, rfl, hw1⟩ | ⟨h0, H, N, hH, hN, rfl, sx, b1⟩)
  · subst w1
    have hrn := rsnew_any how n w
    have t0 : (nwE how n != nwE how n) = false := by simp
    have t1 : (nwE how n != 0) = true := by simp [hne]
    have hpost : ∀ (e : Ending) (w' : World), (Below w.heap.size w w' ∧ ((nwE how n ≠ 0 ∧ e = .returned (.tuple #[zsV, .int .i64 (nwE how n)])) ∨ (nwE how n = 0 ∧ e = .returned (.tuple #[.agg #[.int .i64 how, .int .i64 0, .int .i64 n, .int .i64 1, .bool false, .int .i64 0], .int .i64 0])))) → Below w.heap.size w w' ∧ e = .returned (.tuple #[zsV, .int .i64 (nwE how n)]) := fun e w' h => ⟨h.1, h.2.elim (fun q => q.2) fun q => absurd q.1 hne⟩
    have hrn' := hrn.mono hpost
    clear hrn hpost hn1
    generalize nwE how n = E at *
    clear hne
    go_wp2_with fail
    refine hrn'.mono ?_
    rintro e w2 ⟨hb2, rfl⟩
    unfold zsV
    go_wp2_with (first | (go_at_call 10; refine (jnum_any _ _).mono ?_; rintro e w' ⟨rfl, hw'⟩; subst w') | (go_at_call 11; refine (jlive_any _).mono ?_; rintro e w9 ⟨rfl, hb9⟩))
    go_ret
    exact ⟨rfl, bstep hb2 (bstep (ballo _ _) hb9)⟩
  subst hH
  subst hN
  have hrn := rsnew_any (H : Int) (N : Int) w1
  have hpost : ∀ (e : Ending) (w' : World), (Below w1.heap.size w1 w' ∧ ((nwE (H : Int) (N : Int) ≠ 0 ∧ e = .returned (.tuple #[zsV, .int .i64 (nwE (H : Int) (N : Int))])) ∨ (nwE (H : Int) (N : Int) = 0 ∧ e = .returned (.tuple #[.agg #[.int .i64 (H : Int), .int .i64 0, .int .i64 (N : Int), .int .i64 1, .bool false, .int .i64 0], .int .i64 0])))) → Below w1.heap.size w1 w' ∧ e = .returned (.tuple #[.agg #[.int .i64 (H : Int), .int .i64 0, .int .i64 (N : Int), .int .i64 1, .bool false, .int .i64 0], .int .i64 0]) := fun e w' h => ⟨h.1, h.2.elim (fun q => absurd h0 q.1) fun q => q.2⟩
  have hrn' := hrn.mono hpost
  have hle := sx.le
  have HSX := hide sx
  have HB1 := hide b1
  have hbl := sx.blt
  clear hrn hpost hn1 h0 sx b1
  go_wp2_with fail
  refine hrn'.mono ?_
  rintro e w2 ⟨hb2, rfl⟩
  have hz2 := hb2.size
  have hJ : Jz N w (w2.alloc (.cells #[.int .i64 (H : Int), .int .i64 0, .int .i64 (N : Int), .int .i64 1, .bool false, .int .i64 0] 28)) w.heap.size w2.heap.size (Sc.new H N) 1 :=
    ⟨((unhide HSX).below hb2).below (ballo _ _), Bk.new w2 _ _, fun _ _ => rfl, bstep (bstep (unhide HB1) hb2) (ballo _ _), Nat.le_refl _, by omega, by omega⟩
  have HJ := hide hJ
  clear hJ hrn'
  go_wp2_with (first | (go_at_call 10; refine (jnum_any _ _).mono ?_; rintro e w' ⟨rfl, hw'⟩; subst w') | fail)
  have HA0 : Hid ((Sc.new H N).asked = 0) := rfl
  generalize (Sc.new H N) = s0 at *
  have HTB : Hid (w.heap.size ≤ w.heap.size ∧ w.heap.size ≤ w2.heap.size ∧ w.heap.size ≠ w2.heap.size) := ⟨Nat.le_refl _, by omega, by omega⟩
  generalize w2.heap.size = tb at *
  generalize hbb : w.heap.size = b at HJ HTB
  clear hbl hz2 hb2 HSX HB1
  go_loopw [11] (fun v wr => ∃ (t : Nat) (s : Sc) (x : Int), v = .int .i64 (t : Int) ∧ t = s.asked ∧ t + 1 ≤ N ∧ Hid (Jz N w wr b tb s x)) (fun v _ => N - (intOf v).toNat)
  case atStart => exact ⟨0, s0, 1, rfl, (unhide HA0).symm, by have := (unhide HJ).ask; have := unhide HA0; omega, HJ⟩
  case round =>
    obtain ⟨t, s, x, rfl, hts, htN, HZ⟩ := hrel
    clear HJ HA0
    have hlt : (t : Int) < (N : Int) + 2 := by omega
    have hk := (unhide HZ).sx
    have hask := ask_any hk
    cases hi : s.ask with
    | none =>
      rw [hi] at hask
      unfold oaV at hask
      go_wp2_with fail
      refine hask.mono ?_
      rintro e w3 ⟨rfl, hb3⟩
      have Z3 := (unhide HZ).below hb3
      have HZ3 := hide Z3
      clear HZ hask hk
      obtain ⟨⟨p0, p1, p2, p3, p4, p5⟩, -, -, -, -, -, -⟩ := Z3.tk.c6
      have hra := rask_any Z3.sx.ok hle x Z3.st Z3.step w3
      rw [hi] at hra
      unfold oaV scV at hra
      go_wp2_with fail
      refine hra.mono ?_
      rintro e w4 ⟨rfl, hb4⟩
      have Z4 := (unhide HZ3).below hb4
      have HZ4 := hide Z4
      have hak := ask_any Z4.sx
      rw [hi] at hak
      unfold oaV at hak
      clear Z3 HZ3 p0 p1 p2 p3 p4 p5 hra
      go_wp2_with fail
      refine hak.mono ?_
      rintro e w5 ⟨rfl, hb5⟩
      have Z5 := (unhide HZ4).below hb5
      have HZ5 := hide Z5
      have hfd := found_any Z5.sx
      have hne : s.high = s.low + 1 := Sc.ended Z5.sx.ok hi
      unfold fndV at hfd
      rw [if_pos hne] at hfd
      clear hne
      clear Z4 HZ4 hak
      go_wp2_with fail
      refine hfd.mono ?_
      rintro e w6 ⟨rfl, q, hw6⟩
      have Z6 := (unhide HZ5).below (show Below w5.heap.size w5 w6 by rw [hw6]; exact below_drewN (Below.refl _ _) q)
      clear hw6
      have HZ6 := hide Z6
      obtain ⟨⟨p0, p1, p2, p3, p4, p5⟩, -, -, -, -, -, -⟩ := Z6.tk.c6
      have HAS : Hid (∀ k, Calls Try.prog 15 #[.pointer (some ⟨b, 0, none⟩)] (w6.drewN k) fun e w' => e = .returned (.int .i64 (s.asked : Int)) ∧ w' = w6.drewN k) := fun k => asked_any (Z6.sx.below (below_drewN (Below.refl _ _) k))
      have e1 : ((s.low : Int) != (s.low : Int)) = false := by simp
      have e2 : ((s.asked : Int) != (s.asked : Int)) = false := by simp
      clear Z5 HZ5 hfd Z6
      go_wp2
      go_quiet ((go_at_call 15; with_reducible exact quietJ (unhide HAS _)))
      go_wp2_with fail
      clear HAS p0 p1 p2 p3 p4 p5 e1 e2
      have Z7 := (unhide HZ6).below (below_drewN (Below.refl _ _) nq)
      generalize w6.drewN nq = w7 at *
      have HZ7 := hide Z7
      have ht7 := told_any a c l s.asked w7 (hrd.below Z7.bl) hmx (by have := Z7.ask; omega)
      have HT : Hid (∀ wz, Below w.heap.size w wz → Calls Try.prog 17 #[.slice a l.length c, .int .i64 (s.asked : Int)] wz fun e w' => e = .returned (.bool (tdV l s.asked)) ∧ w' = wz) := fun wz hz => told_any a c l s.asked wz (hrd.below hz) hmx (by have := Z7.ask; omega)
      have hpt := tell_end Z7.sx (tdV l s.asked) hi
      have HR : Hid (∀ wz, Calls Try.prog 18 #[scV s x, .bool (tdV l s.asked)] wz fun e w' => Below wz.heap.size wz w' ∧ e = .returned (.tuple #[scV s x, .int .i64 7])) := fun wz => (rtell_end Z7.sx.ok hle x Z7.st Z7.step hi (tdV l s.asked) wz).mono fun e w' h => ⟨h.2, h.1⟩
      generalize tdV l s.asked = V at *
      clear HZ6 Z7 hi
      go_wp2_with (first | (go_at_call 17; refine ht7.mono ?_; rintro e w' ⟨rfl, hw'⟩; subst w') | fail)
      refine hpt.mono ?_
      rintro e w8 ⟨rfl, -, x8⟩
      have TK8 := (unhide HZ7).tk.below x8
      have B8 : Below w.heap.size w w8 := bstep (unhide HZ7).bl x8
      have HTL : Hid (w.heap.size ≤ tb) := (unhide HZ7).ht
      have HTK := hide TK8
      have HB8 := hide B8
      clear hpt ht7 x8 TK8 B8
      go_wp2_with fail
      refine ja_region w8 tb a l.length c (s.asked : Int) (s.how : Int) (s.low : Int) (s.high : Int) x (s.asked : Int) (s.how : Int) (s.low : Int) (s.high : Int) x (s.asked : Int) 7 s.no s.no V _ _ _ _ _ _ _ _ _ _ _ _ _ _ _ _ _ _ _ _ _ _ _ _ _ _ _ _ _ _ _ _ _ _ _ _ _ _ _ _ _ _ _ _ _ _ _ _ _ _ _ _ _ _ _ _ _ _ _ _ _ _ _ _ _ _ _ _ _ _ _ _ _ _ _ _ _ _ _ _ _ _ _ _ _ _ _ _ _ _ _ _ _ _ _ _ _ _ _ _ _ _ _ _ _ _ _ _ _ _ _ _ _ _ _ _ _ _ _ _ _ _ _ _ _ _ _ _ _ _ _ _ _ _ _ _ _ _ _ _ (unhide HTK) (fun X hX => unhide HT X (bstep (unhide HB8) hX)) (fun X hX => unhide HR X) ?_
      intro X u126 u127 u128 u129 u130 u131 u132 u133 nb hX hnb hU
      obtain ⟨⟨p0, p1, p2, p3, p4, p5⟩, -, -, -, -, -, -⟩ := hU.c6
      obtain ⟨⟨y0, y1, y2, y3, y4, y5⟩, g0, g1, g2, g3, g4, g5⟩ := ((unhide HTK).below hX).c6
      have HXX := hide hX
      clear hX hU hnb
      have HF : Hid (Below w.heap.size w (((((((X.setCell ⟨tb, 0, none⟩ (.int .i64 (s.how : Int))).setCell ⟨tb, 1, none⟩ (.int .i64 (s.low : Int))).setCell ⟨tb, 2, none⟩ (.int .i64 (s.high : Int))).setCell ⟨tb, 3, none⟩ (.int .i64 x)).setCell ⟨tb, 4, none⟩ (.bool s.no)).setCell ⟨tb, 5, none⟩ (.int .i64 (s.asked : Int))))) := six_belowS (bstep (unhide HB8) (unhide HXX)) (unhide HTL) _ _ _ _ _ _
      clear HTK HB8 HT HR HZ7 HTL
      go_wp2_with (first | (go_at_call 10; refine (jnum_any _ _).mono ?_; rintro e w' ⟨rfl, hw'⟩; subst w') | (go_at_call 11; refine (jlive_any _).mono ?_; rintro e w9 ⟨rfl, hb9⟩))
      go_ret
      exact ⟨rfl, bstep (unhide HF) hb9⟩
    | some i =>
      rw [hi] at hask
      unfold oaV at hask
      go_wp2_with fail
      refine hask.mono ?_
      rintro e w3 ⟨rfl, hb3⟩
      have Z3 := (unhide HZ).below hb3
      have HZ3 := hide Z3
      clear HZ hask hk
      obtain ⟨⟨p0, p1, p2, p3, p4, p5⟩, -, -, -, -, -, -⟩ := Z3.tk.c6
      have hra := rask_any Z3.sx.ok hle x Z3.st Z3.step w3
      rw [hi] at hra
      unfold oaV scV at hra
      go_wp2_with fail
      refine hra.mono ?_
      rintro e w4 ⟨rfl, hb4⟩
      have Z4 := (unhide HZ3).below hb4
      have HZ4 := hide Z4
      have hak := ask_any Z4.sx
      rw [hi] at hak
      unfold oaV at hak
      clear Z3 HZ3 p0 p1 p2 p3 p4 p5 hra
      go_wp2_with fail
      refine hak.mono ?_
      rintro e w5 ⟨rfl, hb5⟩
      have Z5 := (unhide HZ4).below hb5
      have HZ5 := hide Z5
      have hfd := found_any Z5.sx
      have hne : s.high ≠ s.low + 1 := fun e => by rw [Sc.ask_end e] at hi; cases hi
      unfold fndV at hfd
      rw [if_neg hne] at hfd
      clear Z4 HZ4 hak
      go_wp2_with fail
      refine hfd.mono ?_
      rintro e w6 ⟨rfl, q, hw6⟩
      have Z6 := (unhide HZ5).below (show Below w5.heap.size w5 w6 by rw [hw6]; exact below_drewN (Below.refl _ _) q)
      clear hw6
      have HZ6 := hide Z6
      obtain ⟨⟨p0, p1, p2, p3, p4, p5⟩, -, -, -, -, -, -⟩ := Z6.tk.c6
      have HAS : Hid (∀ k, Calls Try.prog 15 #[.pointer (some ⟨b, 0, none⟩)] (w6.drewN k) fun e w' => e = .returned (.int .i64 (s.asked : Int)) ∧ w' = w6.drewN k) := fun k => asked_any (Z6.sx.below (below_drewN (Below.refl _ _) k))
      have e1 : ((i : Int) != (i : Int)) = false := by simp
      have e2 : ((s.asked : Int) != (s.asked : Int)) = false := by simp
      clear Z5 HZ5 hfd Z6
      go_wp2
      go_quiet ((go_at_call 15; with_reducible exact quietJ (unhide HAS _)))
      go_wp2_with fail
      clear HAS p0 p1 p2 p3 p4 p5 e1 e2
      have Z7 := (unhide HZ6).below (below_drewN (Below.refl _ _) nq)
      generalize w6.drewN nq = w7 at *
      have HZ7 := hide Z7
      have ht7 := told_any a c l s.asked w7 (hrd.below Z7.bl) hmx (by have := Z7.ask; omega)
      have HT : Hid (∀ wz, Below w.heap.size w wz → Calls Try.prog 17 #[.slice a l.length c, .int .i64 (s.asked : Int)] wz fun e w' => e = .returned (.bool (tdV l s.asked)) ∧ w' = wz) := fun wz hz => told_any a c l s.asked wz (hrd.below hz) hmx (by have := Z7.ask; omega)
      have hpt := tell_put Z7.sx (tdV l s.asked) hi
      have HR : Hid (∀ wz, Calls Try.prog 18 #[scV s x, .bool (tdV l s.asked)] wz fun e w' => Below wz.heap.size wz w' ∧ e = .returned (.tuple #[scV (s.put i (tdV l s.asked)) (nxS s x), .int .i64 0])) := fun wz => (rtell_put Z7.sx.ok hle x Z7.st Z7.step hi (tdV l s.asked) wz).mono fun e w' h => ⟨h.1, h.2.2⟩
      have HST : Hid (StOk (s.put i (tdV l s.asked)) (nxS s x)) := nxS_ok x Z7.st (tdV l s.asked)
      generalize tdV l s.asked = V at *
      have HAK : Hid ((s.put i V).asked = s.asked + 1) := rfl
      generalize hsp : s.put i V = sp at *
      clear HZ6 Z7 hi
      go_wp2_with (first | (go_at_call 17; refine ht7.mono ?_; rintro e w' ⟨rfl, hw'⟩; subst w') | fail)
      refine hpt.mono ?_
      rintro e w8 ⟨rfl, sx8, x8⟩
      have TK8 := (unhide HZ7).tk.bx x8 (fun e => (unhide HZ7).ne e.symm)
      have B8 : Below w.heap.size w w8 := (unhide HZ7).bl.trans (x8.below (fun k hk => by cases hk; exact (unhide HZ7).hb) (unhide HZ7).bl.size)
      have hasl : sp.asked + 1 ≤ N := by have := sx8.ok.sum; have := sx8.ok.lt; omega
      have HZ8 : Hid (∀ X, Below w8.heap.size w8 X → Jz N w (((((((X.setCell ⟨tb, 0, none⟩ (.int .i64 (sp.how : Int))).setCell ⟨tb, 1, none⟩ (.int .i64 (sp.low : Int))).setCell ⟨tb, 2, none⟩ (.int .i64 (sp.high : Int))).setCell ⟨tb, 3, none⟩ (.int .i64 (nxS s x))).setCell ⟨tb, 4, none⟩ (.bool sp.no)).setCell ⟨tb, 5, none⟩ (.int .i64 (sp.asked : Int)))) b tb sp (nxS s x)) := fun X hX => by
        have z := (unhide HZ7).ne
        refine ⟨⟨?_, sx8.ok, sx8.le, sx8.hw, sx8.ms⟩, (TK8.below hX).six _ _ _ _ _ _, unhide HST, six_belowS (bstep B8 hX) (unhide HZ7).ht _ _ _ _ _ _, (unhide HZ7).hb, (unhide HZ7).ht, z⟩
        exact ((((((sx8.o.below hX).other ⟨tb, 0, none⟩ z _).other ⟨tb, 1, none⟩ z _).other ⟨tb, 2, none⟩ z _).other ⟨tb, 3, none⟩ z _).other ⟨tb, 4, none⟩ z _).other ⟨tb, 5, none⟩ z _
      have HTK := hide TK8
      have HB8 := hide B8
      clear hpt ht7 sx8 x8 TK8 B8
      go_wp2_with fail
      refine ja_region w8 tb a l.length c (s.asked : Int) (s.how : Int) (s.low : Int) (s.high : Int) x (s.asked : Int) (sp.how : Int) (sp.low : Int) (sp.high : Int) (nxS s x) (sp.asked : Int) 0 s.no sp.no V _ _ _ _ _ _ _ _ _ _ _ _ _ _ _ _ _ _ _ _ _ _ _ _ _ _ _ _ _ _ _ _ _ _ _ _ _ _ _ _ _ _ _ _ _ _ _ _ _ _ _ _ _ _ _ _ _ _ _ _ _ _ _ _ _ _ _ _ _ _ _ _ _ _ _ _ _ _ _ _ _ _ _ _ _ _ _ _ _ _ _ _ _ _ _ _ _ _ _ _ _ _ _ _ _ _ _ _ _ _ _ _ _ _ _ _ _ _ _ _ _ _ _ _ _ _ _ _ _ _ _ _ _ _ _ _ _ _ _ _ (unhide HTK) (fun X hX => unhide HT X (bstep (unhide HB8) hX)) (fun X hX => unhide HR X) ?_
      intro X u126 u127 u128 u129 u130 u131 u132 u133 nb hX hnb hU
      obtain ⟨⟨p0, p1, p2, p3, p4, p5⟩, -, -, -, -, -, -⟩ := hU.c6
      obtain ⟨⟨y0, y1, y2, y3, y4, y5⟩, g0, g1, g2, g3, g4, g5⟩ := ((unhide HTK).below hX).c6
      have HXX := hide hX
      clear hX hU hnb
      have HF := hide (unhide HZ8 X (unhide HXX))
      have HAL : Hid (sp.asked + 1 ≤ N) := hasl
      clear HZ8 HTK HB8 HT HR HST HZ7 hasl
      go_wp2_with (first | (go_at_call 10; refine (jnum_any _ _).mono ?_; rintro e w' ⟨rfl, hw'⟩; subst w'))
      go_roundw
      case rel => exact ⟨s.asked + 1, sp, nxS s x, by go_num, (unhide HAK).symm, by have := unhide HAL; have := unhide HAK; omega, HF⟩
      case measure => simp [intOf]; omega

end Go.Proofs.Ytaldjpjlggnhhaa
