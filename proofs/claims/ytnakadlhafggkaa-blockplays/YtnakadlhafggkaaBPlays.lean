/-
  The law BlockPlays, walked: it returns true, whatever the numbers and the lists.
-/
import Derived.Test.YtnakadlhafggkaaQBoth
import Derived.Test.YtnakadlhafggkaaQSorted
import Derived.Test.YtnakadlhafggkaaQMuch
import Derived.Test.YtnakadlhafggkaaQLent
import Derived.Test.YtnakadlhafggkaaArgLL
import Derived.Deep.RegionWith
import Derived.Deep.RegionHeld
import Derived.Deep.CutRange
namespace Go.Proofs.Ytnakadlhafggkaa
open Go.RowKit

theorem members_both {w : World} {p : Pp} {gs cap : Nat} {s : St} (h : PtS w p gs cap s) (I : PI p.n s) (hn : p.n ≤ 65536) (k : Int) :
    Calls Try.prog 21 #[.pointer (some ⟨p.b, 0, none⟩), .int .i64 k] w fun e w' => ∃ v, e = .returned (.tuple #[v, .int .i64 (mbV p.n s.K s.c k).2]) ∧ OwnL .i64 3 w' w.heap.size v (mbV p.n s.K s.c k).1 ∧ Below w.heap.size w w' := by
  by_cases hk : 0 ≤ k ∧ k < (s.K : Int)
  · obtain ⟨kk, rfl⟩ := Int.eq_ofNat_of_zero_le hk.1
    have e : mbV p.n s.K s.c ((kk : Nat) : Int) = (mems p.n s.c kk, 0) := by unfold mbV; rw [if_pos hk, Int.toNat_natCast]
    rw [e]
    exact members_ok h I hn (by omega)
  · have e : mbV p.n s.K s.c k = ([], 1) := by unfold mbV; rw [if_neg hk]
    rw [e]
    refine (members_bad h k hk).mono ?_
    rintro e w' ⟨rfl, rfl⟩
    exact ⟨_, rfl, OwnL.nil _ _ _ _, Below.refl _ _⟩
/-- The object and the reference's part say the same: behind each list. -/
structure PlI (w wx : World) (N : Nat) (p : Pp) (gs cap : Nat) (s : St) (aq : Option Addr) (cq bq : Nat) : Prop where
  ob : Ob w wx p gs cap s
  rd : RdL .i64 wx aq (tab N s.c)
  c0 : wx.cell? ⟨bq, 0, none⟩ = some (.slice aq N cq)
  c1 : wx.cell? ⟨bq, 1, none⟩ = some (.int .i64 (s.K : Nat))
  f0 : wx.frozen? ⟨bq, 0, none⟩ = false
  f1 : wx.frozen? ⟨bq, 1, none⟩ = false
  no : ¬ p.has gs bq
  rno : ∀ x, aq = some x → ¬ p.has gs x.block
  qn : ∀ x, aq = some x → x.block ≠ bq
  lo : w.heap.size ≤ bq
theorem PlI.on {w wx w' : World} {N : Nat} {p : Pp} {gs cap : Nat} {s : St} {aq : Option Addr} {cq bq : Nat} (h : PlI w wx N p gs cap s aq cq bq) (hb : Below wx.heap.size wx w') : PlI w w' N p gs cap s aq cq bq := by
  have hl : bq < wx.heap.size := World.block_lt_of_cell? wx _ h.c0
  exact ⟨h.ob.on hb, h.rd.below hb, (hb.cell (by exact hl)).trans h.c0, (hb.cell (by exact hl)).trans h.c1, (hb.frozen (by exact hl)).trans h.f0, (hb.frozen (by exact hl)).trans h.f1, h.no, h.rno, h.qn, h.lo⟩

theorem bdr (w : World) : Below w.heap.size w w.drew := ⟨rfl, rfl, rfl, Nat.le_refl _, fun _ _ => rfl⟩
/-- What the reference's Split left, in a variable of its own. -/
structure Q5 (w4 wx : World) (N b : Nat) (aq a' : Option Addr) (c' : Nat) (u : Value) (C l : List Int) (K : Nat) : Prop where
  c0 : wx.cell? ⟨b, 0, none⟩ = some (.slice a' N c')
  c1 : wx.cell? ⟨b, 1, none⟩ = some (.int .i64 ((stK C l K : Nat) : Int))
  rd : RdL .i64 wx a' (stC C l K)
  own : OwnL .i64 3 wx w4.heap.size u (stM C l K)
  bl : Below w4.heap.size w4 wx
  at_ : ∀ x, a' = some x → aq = some x ∨ w4.heap.size ≤ x.block

theorem Q5.mkA {w4 w5 : World} {N : Nat} {aq a' : Option Addr} {c' : Nat} {u : Value} {C l : List Int} {K : Nat} (h1 : RdL .i64 w5 a' (stC C l K)) (h2 : OwnL .i64 3 w5 w4.drew.heap.size u (stM C l K)) (h3 : Below w4.drew.heap.size w4.drew w5) (h4 : ∀ x, a' = some x → aq = some x ∨ w4.drew.heap.size ≤ x.block) :
    Q5 w4 (w5.alloc (.cells #[.slice a' N c', .int .i64 ((stK C l K : Nat) : Int)] 31)) N w5.heap.size aq a' c' u C l K := by
  have hb : Below w4.heap.size w4 w5 := bstep (bdr w4) h3
  exact ⟨by simp, by simp, h1.below (ballo w5 _), h2.alloc _, hb.alloc hb.size _, h4⟩
theorem Q5.mkB {w4 w5 : World} {N : Nat} {aq a' : Option Addr} {c' : Nat} {u : Value} {C l : List Int} {K : Nat} {o : Obj} (h1 : RdL .i64 w5 a' (stC C l K)) (h2 : OwnL .i64 3 w5 ((w4.alloc o).drew).heap.size u (stM C l K)) (h3 : Below ((w4.alloc o).drew).heap.size ((w4.alloc o).drew) w5) (h4 : ∀ x, a' = some x → aq = some x ∨ ((w4.alloc o).drew).heap.size ≤ x.block)
    (ha : ∀ x, aq = some x → x.block < w4.heap.size) {y z : Value} (s0 : w5.cell? ⟨w4.heap.size, 0, none⟩ = some y) (s1 : w5.cell? ⟨w4.heap.size, 1, none⟩ = some z) :
    Q5 w4 ((w5.setCell ⟨w4.heap.size, 0, none⟩ (.slice a' N c')).setCell ⟨w4.heap.size, 1, none⟩ (.int .i64 ((stK C l K : Nat) : Int))) N w4.heap.size aq a' c' u C l K := by
  have hz : ((w4.alloc o).drew).heap.size = w4.heap.size + 1 := World.size_alloc w4 o
  rw [hz] at h2 h4
  have hb : Below w4.heap.size w4 w5 := bstep (bstep (ballo w4 o) (bdr _)) h3
  obtain ⟨x0, x1⟩ := cells2 (u := .slice a' N c') (v := .int .i64 ((stK C l K : Nat) : Int)) s0 s1
  have K2 : ∀ i, i ≠ w4.heap.size → ((w5.setCell ⟨w4.heap.size, 0, none⟩ (.slice a' N c')).setCell ⟨w4.heap.size, 1, none⟩ (.int .i64 ((stK C l K : Nat) : Int))).heap[i]? = w5.heap[i]? := fun i hi => by
    rw [Below.heap_setCell _ _ _ _ (by simpa using hi), Below.heap_setCell _ _ _ _ (by simpa using hi)]
  refine ⟨x0, x1, ?_, (h2.keep fun i e => K2 i (fun e2 => by have := (h2.lt e).1; omega)).mono (by omega), (hb.setCell (p := ⟨w4.heap.size, 0, none⟩) (Nat.le_refl _) _).setCell (p := ⟨w4.heap.size, 1, none⟩) (Nat.le_refl _) _, fun x e => (h4 x e).imp id (fun h => by omega)⟩
  rcases h1 with h0 | ⟨b, off, rfl, hc⟩
  · exact .inl h0
  · refine .inr ⟨b, off, rfl, fun i hi => ?_⟩
    rw [World.cell?_of_block (a := ⟨b, off + i, none⟩) (K2 b (fun e => ?_))]
    · exact hc i hi
    · rcases h4 ⟨b, off, none⟩ rfl with d | d
      · have := ha _ d; dsimp only at this; omega
      · dsimp only at d; omega

set_option maxRecDepth 100000 in
set_option maxHeartbeats 4000000 in
theorem blockPlays_walk (n : Int) (a : Option Addr) (c m : Nat) (A : Nat → Option Addr) (cp : Nat → Nat) (L : Nat → List Int) (i k : Int) (w : World) (_hn : Fits n) (h : ArgLL w a m A cp L) (_hi : Fits i) (_hk : Fits k) :
    Calls Try.prog 3 #[.int .i64 n, .slice a m c, .int .i64 i, .int .i64 k] w fun e w' => e = .returned (.bool true) ∧ Below w.heap.size w w' := by
  have HMU := hide (much_any n a c m _ (fun r => (L r).length) w h.top (fun r _ => ⟨A r, cp r, rfl⟩))
  cases hm : muchV n m (fun r => (L r).length)
  rotate_left
  · rw [hm] at HMU
    go_enter Try.func3, Try.ntmps3
    go_wp2_with fail
    refine (unhide HMU).mono ?_
    rintro e w' ⟨rfl, hw'⟩
    subst w'
    go_wp2_with (go_at_call 9; refine (live_any _).mono ?_; rintro e w' ⟨rfl, hb'⟩)
    go_ret
    exact ⟨rfl, hb'⟩
  rw [hm] at HMU
  obtain ⟨hn1, hm1, hl1⟩ := much_no hm
  have HL1 := hide hl1
  clear hm hl1
  by_cases hlo : n < 1
  · go_enter Try.func3, Try.ntmps3
    go_wp2_with fail
    refine (unhide HMU).mono ?_
    rintro e w' ⟨rfl, hw'⟩
    subst w'
    go_wp2_with (first
      | (go_at_call 12; refine (num_any _ _).mono ?_; rintro e w' ⟨rfl, hw'⟩; subst w')
      | (go_at_call 10; refine (new_low _ _ hlo).mono ?_; rintro e w' ⟨rfl, hw'⟩; subst w')
      | (go_at_call 11; refine (rnew_low _ _ hlo).mono ?_; rintro e w1 ⟨rfl, hb1⟩)
      | (go_at_call 9; refine (live_any _).mono ?_; rintro e w' ⟨rfl, hb'⟩))
    go_ret
    exact ⟨rfl, bstep hb1 (bstep (ballo w1 _) hb')⟩
  by_cases hhi : 65536 < n
  · go_enter Try.func3, Try.ntmps3
    go_wp2_with fail
    refine (unhide HMU).mono ?_
    rintro e w' ⟨rfl, hw'⟩
    subst w'
    go_wp2_with (first
      | (go_at_call 12; refine (num_any _ _).mono ?_; rintro e w' ⟨rfl, hw'⟩; subst w')
      | (go_at_call 10; refine (new_high _ _ hhi).mono ?_; rintro e w' ⟨rfl, hw'⟩; subst w')
      | (go_at_call 11; refine (rnew_high _ _ hhi).mono ?_; rintro e w1 ⟨rfl, hb1⟩)
      | (go_at_call 9; refine (live_any _).mono ?_; rintro e w' ⟨rfl, hb'⟩))
    go_ret
    exact ⟨rfl, bstep hb1 (bstep (ballo w1 _) hb')⟩
  obtain ⟨N, rfl⟩ := Int.eq_ofNat_of_zero_le (show 0 ≤ n by omega)
  have hN0 : 1 ≤ N := by omega
  have hN1 : N ≤ 200 := by omega
  clear hlo hhi hn1
  go_enter Try.func3, Try.ntmps3
  go_wp2_with fail
  refine (unhide HMU).mono ?_
  rintro e w' ⟨rfl, hw'⟩
  subst w'
  clear HMU
  go_wp2_with fail
  refine (new_ok N w hN0 (by omega)).mono ?_
  rintro e w1 ⟨p, gs, rfl, hpn, hplo, hpat, hb1⟩
  have O1 : Ob w w1 p gs 1 (St.start N) := Ob.of hN0 hpn hplo hpat hb1 (Below.refl _ _)
  have HO1 := hide O1
  have HPN := hide hpn
  clear O1 hpn hplo hpat hb1
  go_wp2_with fail
  refine (rnew_ok N w1 hN0 (by omega)).mono ?_
  rintro e w2 ⟨v2, rfl, hv2, hb2⟩
  have O2 := (unhide HO1).on hb2
  obtain ⟨aq, cq, ev2, -, -, -, rq, hbq⟩ := hv2.shape
  rw [tab_len] at ev2
  subst ev2
  have I2 : PlI w (w2.alloc (.cells #[.slice aq N cq, .int .i64 1] 31)) N p gs 1 (St.start N) aq cq w2.heap.size := by
    have hz := O2.bl.size
    refine ⟨O2.on (ballo w2 _), rq.below (ballo w2 _), by simp, by simp [St.start], by simp, by simp, O2.no (.inr (Nat.le_refl _)), fun x e => (unhide HO1).no (.inr (hbq x e).1), fun x e => Nat.ne_of_lt (hbq x e).2, hz⟩
  have HI2 := hide I2
  clear O2 I2 hv2 rq hbq hb2 HO1
  go_wp2_with (go_at_call 12; refine (num_any _ _).mono ?_; rintro e w' ⟨rfl, hw'⟩; subst w')
  go_wp2
  go_loopw [13] (fun v wx => ∃ (t gs' cap' : Nat) (s : St) (aq' : Option Addr) (cq' : Nat), t ≤ m ∧ v = .int .i64 t ∧ PlI w wx N p gs' cap' s aq' cq' w2.heap.size) (fun v _ => m - (intOf v).toNat)
  case atStart => exact ⟨0, gs, 1, St.start N, aq, cq, Nat.zero_le _, rfl, unhide HI2⟩
  case round =>
    obtain ⟨t, gs', cap', s, aq', cq', ht, rfl, hpl⟩ := hrel
    clear HI2
    by_cases hlt : t < m
    · obtain ⟨tb, toff, rfl, htc⟩ := (h.top.below hpl.ob.bl).at hlt
      have hct := htc t hlt
      have hl4 := unhide HL1 t hlt
      have LN := lent_new (A t) (cp t) (L t) wr ((h.row t hlt).below hpl.ob.bl) (h.nil t hlt) (by omega)
      have HPL := hide hpl
      have HLN := hide LN
      clear htc LN hpl
      go_wp2_with fail
      refine (unhide HLN).mono ?_
      rintro e w3 ⟨g3, cap3, rfl, hL3, hg3, hb3⟩
      have P3 := (unhide HPL).on hb3
      have hpb : p.n ≤ 65536 := by rw [unhide HPN]; omega
      have S3 := split_both p gs' cap' s (some ⟨g3, 0, none⟩) cap3 (L t) w3 P3.ob.at_ P3.ob.pi hpb (by omega) hL3.rd (fun x e _ => by cases e; exact (unhide HPL).ob.no (.inr hg3))
      have g3no : ¬ p.has gs' g3 := (unhide HPL).ob.no (.inr hg3)
      have HP3 := hide P3
      have HS3 := hide S3
      have HL3 := hide hL3
      have HG3 := hide g3no
      clear P3 S3 hL3 g3no hb3 HLN
      go_wp2_with fail
      refine (unhide HS3).mono ?_
      rintro e w4 ⟨gs4, cap4, s4, v4, rfl, hp4⟩
      have O4 := (unhide HP3).ob.both hp4
      have h3 := unhide HP3
      have L4 := (unhide HL3).bx hp4.bx (unhide HG3)
      have hN := unhide HPN
      have d0 := hp4.bx.cell h3.c0 h3.no
      have d1 := hp4.bx.cell h3.c1 h3.no
      have lq : w2.heap.size < w3.heap.size := World.block_lt_of_cell? w3 _ h3.c0
      have z34 : w3.heap.size ≤ w4.heap.size := hp4.bx.size
      have lq4 : w2.heap.size < w4.heap.size := by omega
      have f0 : w4.frozen? ⟨w2.heap.size, 0, none⟩ = false := (World.frozen?_of_block (hp4.bx.block _ lq h3.no)).trans h3.f0
      have f1 : w4.frozen? ⟨w2.heap.size, 1, none⟩ = false := (World.frozen?_of_block (hp4.bx.block _ lq h3.no)).trans h3.f1
      have r4 := h3.rd.bx hp4.bx h3.rno
      have htop : w4.cell? ⟨tb, toff + t, none⟩ = some (.slice (A t) (L t).length (cp t)) := by
        obtain ⟨tb2, toff2, e2, htc2⟩ := (h.top.below O4.bl).at hlt
        cases e2
        exact htc2 t hlt
      have tblt : tb < w4.heap.size := World.block_lt_of_cell? w4 _ htop
      have hI : PartI (tab N s.c) s.K := by have := h3.ob.pi.part; rw [hN] at this; exact this
      have hsK : s.K ≤ 65536 := by have := h3.ob.pi.Kn; omega
      have hrow4 := (h.row t hlt).below O4.bl
      have RSP : ∀ W, Below w4.heap.size w4 W → Calls Try.prog 15 #[.agg #[.slice aq' N cq', .int .i64 ((s.K : Nat) : Int)], .slice (A t) (L t).length (cp t)] W fun e w' => ∃ a' c' u, e = .returned (.tuple #[.agg #[.slice a' N c', .int .i64 ((stK (tab N s.c) (L t) s.K : Nat) : Int)], u, .int .i64 (stE (tab N s.c) (L t))]) ∧ RdL .i64 w' a' (stC (tab N s.c) (L t) s.K) ∧ OwnL .i64 3 w' W.heap.size u (stM (tab N s.c) (L t) s.K) ∧ Below W.heap.size W w' ∧ ∀ x, a' = some x → aq' = some x ∨ W.heap.size ≤ x.block := fun W hW => by
        have h5 := rsplit_both aq' cq' (tab N s.c) s.K (A t) (cp t) (L t) W hI (by rw [tab_len]; exact hN0) (by rw [tab_len]; omega) hsK (by omega) (r4.below hW) (hrow4.below hW)
        rw [tab_len] at h5
        refine h5.mono ?_
        rintro e w' ⟨a', c', u, rfl, h6, h7, h8, h9⟩
        exact ⟨a', c', u, rfl, h6, h7, h8, h9⟩
      have hKc := hp4.K
      have hCc := hp4.c
      have hov := hp4.own
      rw [hN] at hKc hCc hov
      have rno4 : ∀ x, aq' = some x → ¬ p.has gs4 x.block := fun x e hk => by
        obtain ⟨xb, xo, ex, hc⟩ := h3.rd.at (i := 0) (by rw [tab_len]; omega)
        rw [ex] at e
        cases e
        have hx3 : xb < w3.heap.size := World.block_lt_of_cell? w3 _ (hc 0 (by rw [tab_len]; omega))
        have hno := h3.rno ⟨xb, xo, none⟩ ex
        rcases hk with d | d | d | d | d
        · exact hno (.inl d)
        · exact hno (.inr (.inl d))
        · exact hno (.inr (.inr (.inl d)))
        · exact hno (.inr (.inr (.inr (.inl d))))
        · rcases hp4.new with f | f
          · exact hno (.inr (.inr (.inr (.inr (d.trans f)))))
          · dsimp only at d; omega
      have bno4 : ¬ p.has gs4 w2.heap.size := fun hk => by
        rcases hk with d | d | d | d | d
        · exact h3.no (.inl d)
        · exact h3.no (.inr (.inl d))
        · exact h3.no (.inr (.inr (.inl d)))
        · exact h3.no (.inr (.inr (.inr (.inl d))))
        · rcases hp4.new with f | f
          · exact h3.no (.inr (.inr (.inr (.inr (d.trans f)))))
          · omega
      have g3lt : g3 < w3.heap.size := (unhide HL3).lt
      have g3no4 : g3 ≠ w2.heap.size := by
        have h1 : w2.heap.size < wr.heap.size := World.block_lt_of_cell? wr _ (unhide HPL).c0
        omega
      have halt : ∀ x, aq' = some x → x.block < w4.heap.size := fun x e => by
        obtain ⟨xb, xo, ex, hc⟩ := h3.rd.at (i := 0) (by rw [tab_len]; omega)
        rw [ex] at e
        cases e
        have hx3 : xb < w3.heap.size := World.block_lt_of_cell? w3 _ (hc 0 (by rw [tab_len]; omega))
        show xb < _
        omega
      have HALT := hide halt
      have HQN := hide h3.qn
      have hvn := hp4.vno
      have hlow := h3.lo
      obtain ⟨a4, c4, ev4, -, -, -, -, hab4⟩ := hov.shape
      have HO4 := hide O4
      have HL4 := hide L4
      have HR4 := hide r4
      have HRSP := hide RSP
      have HKC := hide hKc
      have HCC := hide hCc
      have HOV := hide hov
      have HRN4 := hide rno4
      have HBN4 := hide bno4
      have HVN := hide hvn
      have HROW := hide hrow4
      have HAB4 := hide hab4
      have hee : stE (tab p.n s.c) (L t) = stE (tab N s.c) (L t) := by rw [hN]
      rw [hee]
      subst ev4
      clear halt hee O4 h3 L4 r4 RSP hKc hCc hov rno4 bno4 hvn hrow4 hab4 hp4 HP3 HS3 HL3 HG3 HPL hN hct hI
      generalize hC : tab N s.c = C at *
      generalize hE : stE C (L t) = er at *
      go_wp2
      go_cut [17, 18, 19] from 69 to 78 (fun x u e wx => ∃ (b : Nat) (a' : Option Addr) (c' : Nat), x = .pointer (some ⟨b, 0, none⟩) ∧ e = .int .i64 er ∧ Q5 w4 wx N b aq' a' c' u C (L t) s.K)
      case first =>
        go_region_with (go_at_call 15; first
          | (refine (unhide HRSP _ (bdr w4)).mono ?_; rintro e w5 ⟨a5, c5, u5, rfl, h51, h52, h53, h54⟩)
          | (refine (unhide HRSP ((w4.alloc (.cells #[.slice none 0 0, .int .i64 0] 31)).drew) (bstep (ballo w4 _) (bdr _))).mono ?_; rintro e w5 ⟨a5, c5, u5, rfl, h51, h52, h53, h54⟩; have s0 : w5.cell? ⟨w4.heap.size, 0, none⟩ = some (.slice none 0 0) := (h53.cell (by show w4.heap.size < (w4.alloc (.cells #[.slice none 0 0, .int .i64 0] 31)).heap.size; rw [World.size_alloc]; omega)).trans (by show (w4.alloc (.cells #[.slice none 0 0, .int .i64 0] 31)).cell? _ = _; simp); have s1 : w5.cell? ⟨w4.heap.size, 1, none⟩ = some (.int .i64 0) := (h53.cell (by show w4.heap.size < (w4.alloc (.cells #[.slice none 0 0, .int .i64 0] 31)).heap.size; rw [World.size_alloc]; omega)).trans (by show (w4.alloc (.cells #[.slice none 0 0, .int .i64 0] 31)).cell? _ = _; simp); have t0 : w5.frozen? ⟨w4.heap.size, 0, none⟩ = false := (h53.frozen (by show w4.heap.size < (w4.alloc (.cells #[.slice none 0 0, .int .i64 0] 31)).heap.size; rw [World.size_alloc]; omega)).trans (by show (w4.alloc (.cells #[.slice none 0 0, .int .i64 0] 31)).frozen? _ = _; simp); have t1 : w5.frozen? ⟨w4.heap.size, 1, none⟩ = false := (h53.frozen (by show w4.heap.size < (w4.alloc (.cells #[.slice none 0 0, .int .i64 0] 31)).heap.size; rw [World.size_alloc]; omega)).trans (by show (w4.alloc (.cells #[.slice none 0 0, .int .i64 0] 31)).frozen? _ = _; simp)))
        all_goals (go_wp2; go_meet)
        all_goals first
          | exact ⟨_, _, _, rfl, rfl, Q5.mkA h51 h52 h53 h54⟩
          | exact ⟨_, _, _, rfl, rfl, Q5.mkB h51 h52 h53 h54 (unhide HALT) s0 s1⟩
      case rest =>
        obtain ⟨b5, a5, c5, rfl, rfl, h5⟩ := hcut
        have z5 := h5.bl.size
        have e0 := h5.c0
        have e1 := h5.c1
        have D0 : wc.cell? ⟨w2.heap.size, 0, none⟩ = some (.slice aq' N cq') := (h5.bl.cell (by exact lq4)).trans d0
        have D1 : wc.cell? ⟨w2.heap.size, 1, none⟩ = some (.int .i64 ((s.K : Nat) : Int)) := (h5.bl.cell (by exact lq4)).trans d1
        have F0 : wc.frozen? ⟨w2.heap.size, 0, none⟩ = false := (h5.bl.frozen (by exact lq4)).trans f0
        have F1 : wc.frozen? ⟨w2.heap.size, 1, none⟩ = false := (h5.bl.frozen (by exact lq4)).trans f1
        obtain ⟨a6, c6, ev6, -, -, -, -, hab6⟩ := h5.own.shape
        subst ev6
        have H5 := hide h5
        have HAB6 := hide hab6
        clear h5 hab6 d0 d1 f0 f1
        go_wp2
        obtain ⟨w6, hw6⟩ : ∃ w6, (wc.setCell ⟨w2.heap.size, 0, none⟩ (.slice a5 N c5)).setCell ⟨w2.heap.size, 1, none⟩ (.int .i64 ((stK C (L t) s.K : Nat) : Int)) = w6 := ⟨_, rfl⟩
        rw [hw6]
        have h5 := unhide H5
        have P6 : PlI w w6 N p gs4 cap4 s4 a5 c5 w2.heap.size ∧ (∀ j, j ≠ w2.heap.size → w6.heap[j]? = wc.heap[j]?) := by
          obtain ⟨x0, x1⟩ := cells2 (W := wc) (g := w2.heap.size) (u := .slice a5 N c5) (v := .int .i64 ((stK C (L t) s.K : Nat) : Int)) D0 D1
          have K2 : ∀ j, j ≠ w2.heap.size → ((wc.setCell ⟨w2.heap.size, 0, none⟩ (.slice a5 N c5)).setCell ⟨w2.heap.size, 1, none⟩ (.int .i64 ((stK C (L t) s.K : Nat) : Int))).heap[j]? = wc.heap[j]? := fun j hj => by
            rw [Below.heap_setCell _ _ _ _ (by simpa using hj), Below.heap_setCell _ _ _ _ (by simpa using hj)]
          have O5 := (unhide HO4).on h5.bl
          have bx : Bx (fun k => k = w2.heap.size) wc ((wc.setCell ⟨w2.heap.size, 0, none⟩ (.slice a5 N c5)).setCell ⟨w2.heap.size, 1, none⟩ (.int .i64 ((stK C (L t) s.K : Nat) : Int))) := ((Bx.refl (fun k => k = w2.heap.size) wc).setCell (p := ⟨w2.heap.size, 0, none⟩) rfl _).setCell (p := ⟨w2.heap.size, 1, none⟩) rfl _
          have qn : ∀ x, a5 = some x → x.block ≠ w2.heap.size := fun x e => by
            rcases h5.at_ x e with d | d
            · exact unhide HQN x d
            · omega
          rw [← hw6]
          refine ⟨⟨O5.side bx (fun k hk e => unhide HBN4 (e ▸ hk)) (O5.bl.trans (bx.below (fun k e => by rw [e]; exact hlow) O5.bl.size)), ?_, x0, ?_, by rw [World.frozen?_setCell, World.frozen?_setCell]; exact F0, by rw [World.frozen?_setCell, World.frozen?_setCell]; exact F1, unhide HBN4, fun x e => ?_, qn, hlow⟩, K2⟩
          · have hc := unhide HCC
            rw [hc]
            exact h5.rd.bx bx (fun x e => qn x e)
          · rw [unhide HKC]; exact x1
          · rcases h5.at_ x e with d | d
            · exact unhide HRN4 x d
            · exact (unhide HO4).no (.inr d)
        obtain ⟨P6, K6⟩ := P6
        have hN := unhide HPN
        have V4 : OwnL .i64 3 w6 w3.heap.size (.slice a4 (stM C (L t) s.K).length c4) (stM C (L t) s.K) := (((unhide HOV).grown h5.bl)).keep fun b e => K6 b (fun e2 => by have := ((unhide HOV).lt e).1; omega)
        have V6 : OwnL .i64 3 w6 w4.heap.size (.slice a6 (stM C (L t) s.K).length c6) (stM C (L t) s.K) := h5.own.keep fun b e => K6 b (fun e2 => by have := (h5.own.lt e).1; omega)
        have L6 : LentL w6 g3 cap3 (L t) := by
          have h1 := (unhide HL4).below h5.bl
          have e := K6 g3 g3no4
          refine ⟨h1.room, h1.le, ?_, (World.cell?_of_block e).trans h1.m1, (World.cell?_of_block e).trans h1.m2⟩
          rcases h1.rd with h0 | ⟨b, off, eb, hc⟩
          · exact .inl h0
          · cases eb
            exact .inr ⟨g3, 0, rfl, fun i hi => (World.cell?_of_block e).trans (hc i hi)⟩
        obtain ⟨_, _, E4, -, -, -, R4, -⟩ := V4.shape
        cases E4
        obtain ⟨_, _, E6, -, -, -, R6, -⟩ := V6.shape
        cases E6
        have T6 : w6.cell? ⟨tb, toff + t, none⟩ = some (.slice (A t) (L t).length (cp t)) := by
          obtain ⟨tb2, toff2, e2, htc2⟩ := (h.top.below P6.ob.bl).at hlt
          cases e2
          exact htc2 t hlt
        have b6 := bdr w6
        have hst := stM_len C (L t) s.K
        have P6' := P6.on b6
        have c0' := P6'.c0
        have c1' := P6'.c1
        have SA := same_list a4 a6 c4 c6 (stM C (L t) s.K) (stM C (L t) s.K) w6.drew (R4.below b6) (R6.below b6) (by unfold maxLen; omega)
        rw [show decide (stM C (L t) s.K = stM C (L t) s.K) = true from decide_eq_true rfl] at SA
        have HSA := hide SA
        have eer : (er != er) = false := by simp
        have HP6 := hide P6'
        have HL6 := hide (L6.below b6)
        have T6' : w6.drew.cell? ⟨tb, toff + t, none⟩ = some (.slice (A t) (L t).length (cp t)) := T6
        have HKC' := hide (unhide HKC)
        have HHR := hide (h.row t hlt)
        rw [unhide HKC] at c1'
        have ekk : (((stK C (L t) s.K : Nat) : Int) != ((stK C (L t) s.K : Nat) : Int)) = false := by simp
        clear SA P6 P6' V4 V6 L6 R4 R6 T6 h5 H5 K6 HO4 HL4 HR4 HRSP HOV HRN4 HBN4 HVN HROW HAB4 HAB6 HQN HALT D0 D1 F0 F1 e0 e1 hw6 b6
        generalize hKK : stK C (L t) s.K = KK at *
        generalize hMM : stM C (L t) s.K = MM at *
        have hs6 := And.intro c0' (And.intro c1' T6')
        go_region_held (fun wz => wz.cell? ⟨w2.heap.size, 0, none⟩ = some (.slice a5 N c5) ∧ wz.cell? ⟨w2.heap.size, 1, none⟩ = some (.int .i64 ((KK : Nat) : Int)) ∧ wz.cell? ⟨tb, toff + t, none⟩ = some (.slice (A t) (L t).length (cp t))) (first | exact hs6 | exact hs7 | exact hs8 | exact hs9 | exact hs10)
          (first
          | (go_at_call 12; refine (num_any _ _).mono ?_; rintro e w' ⟨rfl, hw'⟩; subst w')
          | (go_at_call 16; have hmark := hb8; refine (unhide HSB).mono ?_; rintro e w9 ⟨rfl, hb9⟩; have P9 := (unhide HP8).on hb9; have c1_9 := P9.c1; rw [unhide HKC'] at c1_9; have T9 : w9.cell? ⟨tb, toff + t, none⟩ = some (.slice (A t) (L t).length (cp t)) := (hb9.cell (by exact World.block_lt_of_cell? w8 _ hs8.2.2)).trans hs8.2.2; have hs9 := And.intro P9.c0 (And.intro c1_9 T9); have HP9 := hide P9; have CN := count_any P9.ob.at_; rw [unhide HKC'] at CN; have HCN := hide CN; have L9 := (unhide HL8).below hb9; have HKP := hide (kept_list g3 cap3 (cp t) (L t) (A t) w9 L9 ((unhide HHR).below P9.ob.bl)); clear P9 CN L9 hmark c1_9 T9)
          | (go_at_call 16; refine (unhide HSA).mono ?_; rintro e w7 ⟨rfl, hb7⟩; have P7 := (unhide HP6).on hb7; have c1_7 := P7.c1; rw [unhide HKC'] at c1_7; have T7 : w7.cell? ⟨tb, toff + t, none⟩ = some (.slice (A t) (L t).length (cp t)) := (hb7.cell (by exact World.block_lt_of_cell? w6.drew _ hs6.2.2)).trans hs6.2.2; have hs7 := And.intro P7.c0 (And.intro c1_7 T7); have HP7 := hide P7; have HL7 := hide ((unhide HL6).below hb7); have AL := all_any P7.ob.at_ hpb; rw [hN] at AL; have HAL := hide AL; clear P7 AL c1_7 T7)
          | (go_at_call 17; refine (unhide HAL).mono ?_; rintro e w8 ⟨va, rfl, hva, hb8⟩; have P8 := (unhide HP7).on hb8; have c1_8 := P8.c1; rw [unhide HKC'] at c1_8; have T8 : w8.cell? ⟨tb, toff + t, none⟩ = some (.slice (A t) (L t).length (cp t)) := (hb8.cell (by exact World.block_lt_of_cell? w7 _ hs7.2.2)).trans hs7.2.2; have hs8 := And.intro P8.c0 (And.intro c1_8 T8); obtain ⟨aa, ca, eva, -, -, -, rva, -⟩ := hva.shape; rw [tab_len] at eva; subst eva; have SB := same_list aa a5 ca c5 (tab N s4.c) (tab N s4.c) w8 rva P8.rd (by rw [tab_len]; unfold maxLen; omega); rw [tab_len, show decide (tab N s4.c = tab N s4.c) = true from decide_eq_true rfl] at SB; have HSB := hide SB; have HP8 := hide P8; have HL8 := hide ((unhide HL7).below hb8); clear P8 SB hva rva c1_8 T8)
          | (go_at_call 18; refine (unhide HCN).mono ?_; rintro e w' ⟨rfl, hw'⟩; subst w')
          | (go_at_call 19; refine (unhide HKP).mono ?_; rintro e w10 ⟨rfl, hb10⟩; have P10 := (unhide HP9).on hb10; have c1_10 := P10.c1; rw [unhide HKC'] at c1_10; have hs10 := And.intro P10.c0 (And.intro c1_10 ((hb10.cell (by exact World.block_lt_of_cell? w9 _ hs9.2.2)).trans hs9.2.2)); have HP10 := hide P10; clear P10 c1_10))
        all_goals go_wp2
        all_goals go_roundw
        case rel => exact ⟨t + 1, gs4, cap4, s4, a5, c5, by omega, by go_num, unhide HP10⟩
        case measure => simp [intOf]; omega
    · have hN := unhide HPN
      have hpb : p.n ≤ 65536 := by omega
      have HPL := hide hpl
      have ME := members_both hpl.ob.at_ hpl.ob.pi hpb k
      rw [hN] at ME
      have HME := hide ME
      have hsK := hpl.ob.pi.Kn
      have d0 := hpl.c0
      obtain rfl : t = m := by omega
      clear ME hpl
      by_cases hi0 : i < 0
      · have CB := class_bad (unhide HPL).ob.at_ i (by rw [hN]; omega)
        have HCB := hide CB
        clear CB
        go_wp2_with fail
        refine (unhide HCB).mono ?_
        rintro e w' ⟨rfl, hw'⟩
        subst w'
        clear HCB
        go_wp2_with (go_at_call 12; refine (num_any _ _).mono ?_; rintro e w' ⟨rfl, hw'⟩; subst w')
        refine (unhide HME).mono ?_
        rintro e w3 ⟨v3, rfl, hv3, hb3⟩
        have P3 := (unhide HPL).on hb3
        have g0 := P3.c0
        have g1 := P3.c1
        have RM := rmembers_any aq' cq' N s.K s.c k w3 P3.rd (by omega)
        have HRM := hide RM
        obtain ⟨a3, c3, ev3, -, -, -, rv3, -⟩ := hv3.shape
        have hml : (mbV N s.K s.c k).1.length ≤ N := by unfold mbV; split; { exact mems_len _ _ _ }; exact Nat.zero_le _
        have HB3 := hide P3.ob.bl
        subst ev3
        clear P3 RM hv3 hb3 HME HPL
        go_wp2_with fail
        refine (unhide HRM).mono ?_
        rintro e w4 ⟨v4, rfl, hv4, hb4⟩
        obtain ⟨a4, c4, ev4, -, -, -, rv4, -⟩ := hv4.shape
        subst ev4
        have rv3' := rv3.below hb4
        have HB4 := hide (bstep (unhide HB3) hb4)
        clear hv4 hb4 HB3 HRM rv3
        have SA := same_list a3 a4 c3 c4 (mbV N s.K s.c k).1 (mbV N s.K s.c k).1 w4 rv3' rv4 (by unfold maxLen; omega)
        rw [show decide ((mbV N s.K s.c k).1 = (mbV N s.K s.c k).1) = true from decide_eq_true rfl] at SA
        have HSA := hide SA
        have ee : ((mbV N s.K s.c k).2 == (mbV N s.K s.c k).2) = true := by simp
        clear SA rv3' rv4 hml
        generalize (mbV N s.K s.c k).2 = er at *
        generalize (mbV N s.K s.c k).1 = ML at *
        go_wp2_with fail
        refine (unhide HSA).mono ?_
        rintro e w5 ⟨rfl, hb5⟩
        have HB5 := hide (bstep (unhide HB4) hb5)
        clear HSA HB4 hb5
        go_wp2_with (first
          | (go_at_call 12; refine (num_any _ _).mono ?_; rintro e w' ⟨rfl, hw'⟩; subst w')
          | (go_at_call 9; refine (live_any _).mono ?_; rintro e w' ⟨rfl, hb'⟩))
        go_ret
        exact ⟨rfl, bstep (unhide HB5) hb'⟩
      by_cases hi1 : ((N : Nat) : Int) ≤ i
      · have CB := class_bad (unhide HPL).ob.at_ i (by rw [hN]; omega)
        have HCB := hide CB
        clear CB
        go_wp2_with fail
        refine (unhide HCB).mono ?_
        rintro e w' ⟨rfl, hw'⟩
        subst w'
        clear HCB
        go_wp2_with (go_at_call 12; refine (num_any _ _).mono ?_; rintro e w' ⟨rfl, hw'⟩; subst w')
        refine (unhide HME).mono ?_
        rintro e w3 ⟨v3, rfl, hv3, hb3⟩
        have P3 := (unhide HPL).on hb3
        have g0 := P3.c0
        have g1 := P3.c1
        have RM := rmembers_any aq' cq' N s.K s.c k w3 P3.rd (by omega)
        have HRM := hide RM
        obtain ⟨a3, c3, ev3, -, -, -, rv3, -⟩ := hv3.shape
        have hml : (mbV N s.K s.c k).1.length ≤ N := by unfold mbV; split; { exact mems_len _ _ _ }; exact Nat.zero_le _
        have HB3 := hide P3.ob.bl
        subst ev3
        clear P3 RM hv3 hb3 HME HPL
        go_wp2_with fail
        refine (unhide HRM).mono ?_
        rintro e w4 ⟨v4, rfl, hv4, hb4⟩
        obtain ⟨a4, c4, ev4, -, -, -, rv4, -⟩ := hv4.shape
        subst ev4
        have rv3' := rv3.below hb4
        have HB4 := hide (bstep (unhide HB3) hb4)
        clear hv4 hb4 HB3 HRM rv3
        have SA := same_list a3 a4 c3 c4 (mbV N s.K s.c k).1 (mbV N s.K s.c k).1 w4 rv3' rv4 (by unfold maxLen; omega)
        rw [show decide ((mbV N s.K s.c k).1 = (mbV N s.K s.c k).1) = true from decide_eq_true rfl] at SA
        have HSA := hide SA
        have ee : ((mbV N s.K s.c k).2 == (mbV N s.K s.c k).2) = true := by simp
        clear SA rv3' rv4 hml
        generalize (mbV N s.K s.c k).2 = er at *
        generalize (mbV N s.K s.c k).1 = ML at *
        go_wp2_with fail
        refine (unhide HSA).mono ?_
        rintro e w5 ⟨rfl, hb5⟩
        have HB5 := hide (bstep (unhide HB4) hb5)
        clear HSA HB4 hb5
        go_wp2_with (first
          | (go_at_call 12; refine (num_any _ _).mono ?_; rintro e w' ⟨rfl, hw'⟩; subst w')
          | (go_at_call 9; refine (live_any _).mono ?_; rintro e w' ⟨rfl, hb'⟩))
        go_ret
        exact ⟨rfl, bstep (unhide HB5) hb'⟩
      obtain ⟨ii, rfl⟩ := Int.eq_ofNat_of_zero_le (show 0 ≤ i by omega)
      have hii : ii < N := by omega
      have CO := class_ok (unhide HPL).ob.at_ (i := ii) (by rw [hN]; exact hii)
      have HCO := hide CO
      obtain ⟨qb, qo, eq2, hqc⟩ := (unhide HPL).rd.at (i := ii) (by rw [tab_len]; exact hii)
      have hqi := hqc ii (by rw [tab_len]; exact hii)
      rw [tab_at _ hii] at hqi
      subst eq2
      have ecc : (((s.c ii : Nat) : Int) != ((s.c ii : Nat) : Int)) = false := by simp
      clear CO hqc
      go_wp2_with fail
      refine (unhide HCO).mono ?_
      rintro e w' ⟨rfl, hw'⟩
      subst w'
      clear HCO
      go_wp2_with (go_at_call 12; refine (num_any _ _).mono ?_; rintro e w' ⟨rfl, hw'⟩; subst w')
      refine (unhide HME).mono ?_
      rintro e w3 ⟨v3, rfl, hv3, hb3⟩
      have P3 := (unhide HPL).on hb3
      have g0 := P3.c0
      have g1 := P3.c1
      have RM := rmembers_any (some ⟨qb, qo, none⟩) cq' N s.K s.c k w3 P3.rd (by omega)
      have HRM := hide RM
      obtain ⟨a3, c3, ev3, -, -, -, rv3, -⟩ := hv3.shape
      have hml : (mbV N s.K s.c k).1.length ≤ N := by unfold mbV; split; { exact mems_len _ _ _ }; exact Nat.zero_le _
      have HB3 := hide P3.ob.bl
      subst ev3
      clear P3 RM hv3 hb3 HME HPL
      go_wp2_with fail
      refine (unhide HRM).mono ?_
      rintro e w4 ⟨v4, rfl, hv4, hb4⟩
      obtain ⟨a4, c4, ev4, -, -, -, rv4, -⟩ := hv4.shape
      subst ev4
      have rv3' := rv3.below hb4
      have HB4 := hide (bstep (unhide HB3) hb4)
      clear hv4 hb4 HB3 HRM rv3
      have SA := same_list a3 a4 c3 c4 (mbV N s.K s.c k).1 (mbV N s.K s.c k).1 w4 rv3' rv4 (by unfold maxLen; omega)
      rw [show decide ((mbV N s.K s.c k).1 = (mbV N s.K s.c k).1) = true from decide_eq_true rfl] at SA
      have HSA := hide SA
      have ee : ((mbV N s.K s.c k).2 == (mbV N s.K s.c k).2) = true := by simp
      clear SA rv3' rv4 hml
      generalize (mbV N s.K s.c k).2 = er at *
      generalize (mbV N s.K s.c k).1 = ML at *
      go_wp2_with fail
      refine (unhide HSA).mono ?_
      rintro e w5 ⟨rfl, hb5⟩
      have HB5 := hide (bstep (unhide HB4) hb5)
      clear HSA HB4 hb5
      go_wp2_with (first
        | (go_at_call 12; refine (num_any _ _).mono ?_; rintro e w' ⟨rfl, hw'⟩; subst w')
        | (go_at_call 9; refine (live_any _).mono ?_; rintro e w' ⟨rfl, hb'⟩))
      go_ret
      exact ⟨rfl, bstep (unhide HB5) hb'⟩
end Go.Proofs.Ytnakadlhafggkaa
