/-
  The program's Export, from its parts.
-/
import Derived.Test.YtdnmabemollbeaaDoorUTxt
import Derived.Test.YtdnmabemollbeaaDoorTStr
import Derived.Test.YtdnmabemollbeaaDoorK3
import Derived.Test.YtdnmabemollbeaaDoorK6
namespace Go.Proofs.YtdnmabemollbeaaDoor
open Go.RowKit

set_option maxHeartbeats 2000000 in
theorem writeNumber_any (B : Nat) (v : Value) (l : List UInt8) (s : ByteArray) (n : Int) (w : World) (hown : OwnL .u8 5 w B v (zs l)) (hB : B ≤ w.heap.size) (h4 : 4 ≤ B) (hl : l.length ≤ 1000000000) (hs : s.size ≤ 100) (hn : Fit n) (g : Gl w) :
    Calls Tryd.prog 44 #[v, .string s, .int .i64 n] w fun e w' => ∃ v', e = .returned v' ∧ OwnL .u8 5 w' B v' (zs (l ++ s.data.toList ++ Lib.itoa n)) ∧ Kp w v w' v' := by
  have hsl : s.data.toList.length = s.size := by rw [Array.length_toList]; rfl
  have hit := Lib.itoa_length_le n hn.1 hn.2
  go_enter Tryd.func44, Tryd.ntmps44
  go_wp2_with (at_builtin; refine wpl_pushS rfl (.tmp 7) (.tmp 8) rfl B v l rfl hown s rfl (by omega) hB ?_; intro v1 w1 hown1 hb1 hg1 hp1)
  have g1 := g.under hb1 h4
  have hs1 := hb1.size
  have k1 := (Kp.refl w v).push hg1 hp1
  refine (put_any n w1 hn g1).mono ?_
  rintro e w2 ⟨v2, rfl, hown2, hb2⟩
  have hs2 := hb2.size
  have k2 := k1.on hb2
  go_wp2_with (at_builtin; refine wpl_pushB rfl (.tmp 10) (.tmp 12) rfl B v1 (l ++ s.data.toList) rfl (hown1.grown hb2) w1.heap.size v2 (Lib.itoa n) rfl hown2 (itoa_len0 n) (by rw [List.length_append]; omega) (by omega) ?_; intro v3 w3 hown3 hb3 hg3 hp3)
  go_ret
  exact ⟨v3, rfl, hown3, k2.push hg3 hp3⟩

theorem way_at {m : Mc} (F : Full m) {s j : Nat} (hs : s < nN m) (hj : j < kN m) : ∃ P : Nat, P = s * kN m + j ∧ (s : Int) * m.k + (j : Int) = (P : Int) ∧ P < m.nx.length ∧ 0 ≤ (s : Int) * m.k ∧ (s : Int) * m.k ≤ 65536 ∧ P ≤ 65536 := by
  have hk := kN_eq F
  have hn := nN_eq F
  obtain ⟨P, hP, r⟩ := way_of F.r (s := (s : Int)) (x := (j : Int)) (by omega) (by omega) (by omega) (by omega)
  refine ⟨P, ?_, hP, r⟩
  rw [← hk, ← Int.natCast_mul, ← Int.natCast_add] at hP
  exact (Int.ofNat.inj hP).symm

set_option maxRecDepth 100000 in
set_option maxHeartbeats 4000000 in
theorem writeDfa_any (B : Nat) (v : Value) (l : List UInt8) (m : Mc) (a1 : Option Addr) (c1 : Nat) (a2 : Option Addr) (c2 : Nat) (s : Nat) (w : World) (hown : OwnL .u8 5 w B v (zs l)) (hB : B ≤ w.heap.size) (h4 : 4 ≤ B) (hl : l.length ≤ 100000000) (g : Gl w)
    (F : Full m) (hk1 : m.kind = 1) (hs : s < nN m) (h1 : RdL .i64 w a1 m.nx) (h2 : RdL .i64 w a2 m.out) (n1 : ∀ x, a1 = some x → x.block < B) (n2 : ∀ x, a2 = some x → x.block < B) :
    Calls Tryd.prog 45 #[v, mval m a1 c1 a2 c2, .int .i64 s] w fun e w' => ∃ v', e = .returned v' ∧ OwnL .u8 5 w' B v' (zs (l ++ dfaP m s (kN m))) ∧ Kp w v w' v' := by
  unfold mval
  have B0 := Box.alloc w m a1 c1 a2 c2 24
  have hv0 : v.ownBlock ≠ some w.heap.size := fun e => by have := (hown.lt e).2; omega
  have hown0 := hown.alloc (.cells #[.int .i64 m.kind, .int .i64 m.k, .int .i64 m.o, .int .i64 m.n, .slice a1 m.nx.length c1, .slice a2 m.out.length c2] 24)
  have hk0 : Kp w v (w.alloc (.cells #[.int .i64 m.kind, .int .i64 m.k, .int .i64 m.o, .int .i64 m.n, .slice a1 m.nx.length c1, .slice a2 m.out.length c2] 24)) v := (Kp.refl w v).on ((Below.refl _ _).alloc (Nat.le_refl _) _)
  have hbB : Below B w (w.alloc (.cells #[.int .i64 m.kind, .int .i64 m.k, .int .i64 m.o, .int .i64 m.n, .slice a1 m.nx.length c1, .slice a2 m.out.length c2] 24)) := hk0.own hB hown
  have hsz0 : w.heap.size + 1 = (w.alloc (.cells #[.int .i64 m.kind, .int .i64 m.k, .int .i64 m.o, .int .i64 m.n, .slice a1 m.nx.length c1, .slice a2 m.out.length c2] 24)).heap.size := by simp
  have g0 := g.under hbB h4
  have HF := hide F
  have hkk := kN_eq F
  have HKK := hide hkk
  have hnn := nN_eq F
  have hn1 := F.r.n1
  have hk64 := F.r.k1
  have hk01 := F.r.k0
  have ho : s < m.out.length := by have := F.r.outD hk1; omega
  obtain ⟨b2, off2, rfl, hc2⟩ := (h2.under hbB n2).at ho
  have hos := hc2 s ho
  have hso : (s : Int) < (m.out.length : Int) := by omega
  have hs0 : (s : Int) ≤ 1024 := by omega
  have hob := F.outB s
  have hoF : Fit (m.out.getD s 0) := by unfold Fit; omega
  have HZ := hide (dfaP_zero m s)
  clear F hk1 hc2 hkk hnn
  generalize m.out.getD s 0 = z at *
  obtain ⟨p0, p1, p2, p3, p4, p5⟩ := id B0
  generalize hw0 : w.alloc (.cells #[.int .i64 m.kind, .int .i64 m.k, .int .i64 m.o, .int .i64 m.n, .slice a1 m.nx.length c1, .slice (some ⟨b2, off2, none⟩) m.out.length c2] 24) = w0 at *
  go_enter Tryd.func45, Tryd.ntmps45
  go_wp2_with fail
  refine (writeNumber_any B v l ⟨#[10]⟩ z w0 hown0 (by have := hbB.size; omega) h4 (by omega) (by decide) hoF g0).mono ?_
  rintro e w1 ⟨v1, rfl, hown1, k1⟩
  have HP1 : Hid (OwnL .u8 5 w1 B v1 (zs (l ++ dfaP m s 0))) := by rw [unhide HZ]; exact hide (by rw [← List.append_assoc]; exact hown1)
  have e1 : w1.heap[w.heap.size]? = w0.heap[w.heap.size]? := k1.keep (by omega) hv0
  obtain ⟨q0, q1, q2, q3, q4, q5⟩ := B0.keep e1
  have HB0 := hide B0
  have HE := hide hv0
  clear B0 hown1 hv0 p0 p1 p2 p3 p4 p5 e1 hos hw0
  go_wp2
  go_loopw [0, 17] (fun b i wr => ∃ (j : Nat) (b' : Value), j ≤ kN m ∧ i = .int .i64 (j : Int) ∧ b = b' ∧ Hid (OwnL .u8 5 wr B b' (zs (l ++ dfaP m s j))) ∧ Kp w0 v wr b') (fun _ i _ => kN m - (intOf i).toNat)
  case atStart => exact ⟨0, v1, Nat.zero_le _, rfl, rfl, HP1, k1⟩
  case round =>
    obtain ⟨j, b', hj, rfl, rfl, HO, k⟩ := hrel
    clear q0 q1 q2 q3 q4 q5
    obtain ⟨q0, q1, q2, q3, q4, q5⟩ := (unhide HB0).keep (k.keep (by omega) (unhide HE))
    have hbr : Below B w wr := hbB.trans (k.own (by have := hbB.size; omega) hown0)
    have hszr := k.gr.size
    by_cases hlt : j < kN m
    · obtain ⟨P, hPe, hP, hPl, g1, g2, g3⟩ := way_at (unhide HF) hs hlt
      have hlt' : (j : Int) < m.k := by have := unhide HKK; omega
      have hPl' : (P : Int) < (m.nx.length : Int) := by omega
      have hln := dfaP_len (unhide HF) s j
      have HS := hide (dfaP_succ m s j)
      rw [← hPe] at HS
      have hzb := (unhide HF).r.nxB P
      have hzF : Fit (m.nx.getD P 0) := by unfold Fit; omega
      obtain ⟨b4, off4, rfl, hc4⟩ := (h1.under hbr n1).at hPl
      have hcP := hc4 P hPl
      have gr := g.under hbr h4
      have HPE := hide hPe
      clear hc4 hPe
      generalize m.nx.getD P 0 = y at *
      go_wp2_with fail
      refine (writeNumber_any B u0 (l ++ dfaP m s j) ⟨#[32]⟩ y wr (unhide HO) (by have := hbr.size; omega) h4 (by rw [List.length_append]; have := unhide HKK; omega) (by decide) hzF gr).mono ?_
      rintro e w5 ⟨v5, rfl, hown5, k5⟩
      go_wp2
      go_roundw
      case rel => exact ⟨j + 1, v5, by omega, by go_num, rfl, hide (by rw [unhide HS, ← List.append_assoc, ← List.append_assoc]; exact hown5), k.trans k5⟩
      case measure => simp [intOf]; omega
    · have HJE := hide (show j = kN m by omega)
      have hge : ¬ ((j : Int) < m.k) := by have := unhide HKK; omega
      go_wp2
      go_ret
      refine ⟨u0, rfl, ?_, hk0.trans k⟩
      rw [← unhide HJE]; exact unhide HO

set_option maxRecDepth 100000 in
set_option maxHeartbeats 4000000 in
theorem writeMealy_any (B : Nat) (v : Value) (l : List UInt8) (m : Mc) (a1 : Option Addr) (c1 : Nat) (a2 : Option Addr) (c2 : Nat) (s : Nat) (w : World) (hown : OwnL .u8 5 w B v (zs l)) (hB : B ≤ w.heap.size) (h4 : 4 ≤ B) (hl : l.length ≤ 100000000) (g : Gl w)
    (F : Full m) (hk2 : m.kind = 2) (hs : s < nN m) (h1 : RdL .i64 w a1 m.nx) (h2 : RdL .i64 w a2 m.out) (n1 : ∀ x, a1 = some x → x.block < B) (n2 : ∀ x, a2 = some x → x.block < B) :
    Calls Tryd.prog 46 #[v, mval m a1 c1 a2 c2, .int .i64 s] w fun e w' => ∃ v', e = .returned v' ∧ OwnL .u8 5 w' B v' (zs (l ++ melP m s (kN m))) ∧ Kp w v w' v' := by
  unfold mval
  have B0 := Box.alloc w m a1 c1 a2 c2 24
  have hv0 : v.ownBlock ≠ some w.heap.size := fun e => by have := (hown.lt e).2; omega
  have hown0 := hown.alloc (.cells #[.int .i64 m.kind, .int .i64 m.k, .int .i64 m.o, .int .i64 m.n, .slice a1 m.nx.length c1, .slice a2 m.out.length c2] 24)
  have hk0 : Kp w v (w.alloc (.cells #[.int .i64 m.kind, .int .i64 m.k, .int .i64 m.o, .int .i64 m.n, .slice a1 m.nx.length c1, .slice a2 m.out.length c2] 24)) v := (Kp.refl w v).on ((Below.refl _ _).alloc (Nat.le_refl _) _)
  have hbB : Below B w (w.alloc (.cells #[.int .i64 m.kind, .int .i64 m.k, .int .i64 m.o, .int .i64 m.n, .slice a1 m.nx.length c1, .slice a2 m.out.length c2] 24)) := hk0.own hB hown
  have hsz0 : w.heap.size + 1 = (w.alloc (.cells #[.int .i64 m.kind, .int .i64 m.k, .int .i64 m.o, .int .i64 m.n, .slice a1 m.nx.length c1, .slice a2 m.out.length c2] 24)).heap.size := by simp
  have HF := hide F
  have HKK := hide (kN_eq F)
  have hn1 := F.r.n1
  have hk64 := F.r.k1
  have hk01 := F.r.k0
  have hs0 : (s : Int) ≤ 1024 := by have := nN_eq F; omega
  have HOL := hide (show m.out.length = m.nx.length by have := F.r.outM hk2; have := F.r.nx; omega)
  have HZ := hide (melP_zero m s)
  have HP1 : Hid (OwnL .u8 5 (w.alloc (.cells #[.int .i64 m.kind, .int .i64 m.k, .int .i64 m.o, .int .i64 m.n, .slice a1 m.nx.length c1, .slice a2 m.out.length c2] 24)) B v (zs (l ++ melP m s 0))) := by rw [unhide HZ, List.append_nil]; exact hide hown0
  have HB0 := hide B0
  have HE := hide hv0
  have HK0 := hide hk0
  obtain ⟨p0, p1, p2, p3, p4, p5⟩ := id B0
  clear F hk2 hk0 B0 hv0
  generalize hw0 : w.alloc (.cells #[.int .i64 m.kind, .int .i64 m.k, .int .i64 m.o, .int .i64 m.n, .slice a1 m.nx.length c1, .slice a2 m.out.length c2] 24) = w0 at *
  go_enter Tryd.func46, Tryd.ntmps46
  go_wp2
  clear hw0 p0 p1 p2 p3 p4 p5
  go_loopw [0, 7, 11] (fun b ah i wr => ∃ (j : Nat) (c : UInt8), j ≤ kN m ∧ i = .int .i64 (j : Int) ∧ ah = .string ⟨#[c]⟩ ∧ Hid (c = if j = 0 then 10 else 32) ∧ Hid (OwnL .u8 5 wr B b (zs (l ++ melP m s j))) ∧ Kp w0 v wr b) (fun _ _ i _ => kN m - (intOf i).toNat)
  case atStart => exact ⟨0, 10, Nat.zero_le _, rfl, rfl, hide rfl, HP1, Kp.refl _ _⟩
  case round =>
    obtain ⟨j, c, hj, rfl, rfl, HC, HO, k⟩ := hrel
    obtain ⟨q0, q1, q2, q3, q4, q5⟩ := (unhide HB0).keep (k.keep (by omega) (unhide HE))
    have hbr : Below B w wr := hbB.trans (k.own (by have := hbB.size; omega) hown0)
    have hszr := k.gr.size
    by_cases hlt : j < kN m
    · obtain ⟨P, hPe, hP, hPl, g1, g2, g3⟩ := way_at (unhide HF) hs hlt
      have hlt' : (j : Int) < m.k := by have := unhide HKK; omega
      have hPl' : (P : Int) < (m.nx.length : Int) := by omega
      have hPo' : (P : Int) < (m.out.length : Int) := by rw [unhide HOL]; omega
      have hln := melP_len (unhide HF) s j
      have HS := hide (melP_succ m s j)
      rw [← hPe, ← unhide HC] at HS
      have hzb := (unhide HF).r.nxB P
      have hzF : Fit (m.nx.getD P 0) := by unfold Fit; omega
      have hob := (unhide HF).outB P
      have hoF : Fit (m.out.getD P 0) := by unfold Fit; omega
      have hl21 := itoa_21 hzb.1 (by omega)
      obtain ⟨b4, off4, rfl, hc4⟩ := (h1.under hbr n1).at hPl
      have hcP := hc4 P hPl
      have H2 := hide (fun w' (hb' : Below B w w') => (h2.under hb' n2).at (i := P) (by rw [unhide HOL]; exact hPl))
      have gr := g.under hbr h4
      clear hc4 hPe
      obtain ⟨b5, off5, rfl, hc5⟩ := unhide H2 wr hbr
      have HO5 := hide (fun w' (hb' : Below B w w') => by
        obtain ⟨x, y, e, hc⟩ := unhide H2 w' hb'
        cases e
        exact hc P (by rw [unhide HOL]; exact hPl))
      clear hc5 H2
      generalize m.nx.getD P 0 = y at *
      generalize m.out.getD P 0 = z at *
      go_wp2_with fail
      refine (writeNumber_any B u0 (l ++ melP m s j) ⟨#[c]⟩ y wr (unhide HO) (by have := hbr.size; omega) h4 (by rw [List.length_append]; have := unhide HKK; omega) (show 1 ≤ 100 by decide) hzF gr).mono ?_
      rintro e w5 ⟨v5, rfl, hown5, k5⟩
      have k6 := k.trans k5
      have hb5 : Below B w w5 := hbB.trans (k6.own (by have := hbB.size; omega) hown0)
      have ho5 := unhide HO5 w5 hb5
      have g5 := g.under hb5 h4
      clear q0 q1 q2 q3 q4 q5
      obtain ⟨q0, q1, q2, q3, q4, q5⟩ := (unhide HB0).keep (k6.keep (by omega) (unhide HE))
      go_wp2_with fail
      refine (writeNumber_any B v5 _ ⟨#[47]⟩ z w5 hown5 (by have := hb5.size; omega) h4 (by simp only [List.length_append, List.length_cons, List.length_nil]; have := unhide HKK; omega) (by decide) hoF g5).mono ?_
      rintro e w6 ⟨v6, rfl, hown6, k7⟩
      go_wp2
      go_roundw
      case rel => exact ⟨j + 1, 32, by omega, by go_num, rfl, hide (by rw [if_neg (by omega)]), hide (by rw [unhide HS]; simpa only [List.append_assoc] using hown6), k6.trans k7⟩
      case measure => simp [intOf]; omega
    · have HJE := hide (show j = kN m by omega)
      have hge : ¬ ((j : Int) < m.k) := by have := unhide HKK; omega
      go_wp2
      go_ret
      refine ⟨u0, rfl, ?_, (unhide HK0).trans k⟩
      rw [← unhide HJE]; exact unhide HO

set_option maxHeartbeats 4000000 in
theorem writeState_any (B : Nat) (v : Value) (l : List UInt8) (m : Mc) (a1 : Option Addr) (c1 : Nat) (a2 : Option Addr) (c2 : Nat) (s : Nat) (w : World) (hown : OwnL .u8 5 w B v (zs l)) (hB : B ≤ w.heap.size) (h4 : 4 ≤ B) (hl : l.length ≤ 100000000) (g : Gl w)
    (F : Full m) (hs : s < nN m) (h1 : RdL .i64 w a1 m.nx) (h2 : RdL .i64 w a2 m.out) (n1 : ∀ x, a1 = some x → x.block < B) (n2 : ∀ x, a2 = some x → x.block < B) :
    Calls Tryd.prog 31 #[v, mval m a1 c1 a2 c2, .int .i64 s] w fun e w' => ∃ v', e = .returned v' ∧ OwnL .u8 5 w' B v' (zs (l ++ stT m s)) ∧ Kp w v w' v' := by
  have HV := hide (show mval m a1 c1 a2 c2 = _ from rfl)
  unfold mval
  have B0 := Box.alloc w m a1 c1 a2 c2 24
  have hv0 : v.ownBlock ≠ some w.heap.size := fun e => by have := (hown.lt e).2; omega
  have hown0 := hown.alloc (.cells #[.int .i64 m.kind, .int .i64 m.k, .int .i64 m.o, .int .i64 m.n, .slice a1 m.nx.length c1, .slice a2 m.out.length c2] 24)
  have hk0 : Kp w v (w.alloc (.cells #[.int .i64 m.kind, .int .i64 m.k, .int .i64 m.o, .int .i64 m.n, .slice a1 m.nx.length c1, .slice a2 m.out.length c2] 24)) v := (Kp.refl w v).on ((Below.refl _ _).alloc (Nat.le_refl _) _)
  have hbB : Below B w (w.alloc (.cells #[.int .i64 m.kind, .int .i64 m.k, .int .i64 m.o, .int .i64 m.n, .slice a1 m.nx.length c1, .slice a2 m.out.length c2] 24)) := hk0.own hB hown
  have hsz0 : w.heap.size + 1 = (w.alloc (.cells #[.int .i64 m.kind, .int .i64 m.k, .int .i64 m.o, .int .i64 m.n, .slice a1 m.nx.length c1, .slice a2 m.out.length c2] 24)).heap.size := by simp
  have hr1 := h1.under hbB n1
  have hr2 := h2.under hbB n2
  have g0 := g.under hbB h4
  obtain ⟨p0, p1, p2, p3, p4, p5⟩ := id B0
  rcases F.r.kd with hk | hk
  · have t1 := eq_t hk
    have HT := hide (stT_d hk s)
    have hc := writeDfa_any B v l m a1 c1 a2 c2 s (w.alloc (.cells #[.int .i64 m.kind, .int .i64 m.k, .int .i64 m.o, .int .i64 m.n, .slice a1 m.nx.length c1, .slice a2 m.out.length c2] 24)) hown0 (by have := hbB.size; omega) h4 hl g0 F hk hs hr1 hr2 n1 n2
    clear hk
    go_enter Tryd.func31, Tryd.ntmps31
    go_wp2_with fail
    refine hc.mono ?_
    rintro e w1 ⟨v1, rfl, hown1, k1⟩
    go_wp2
    go_ret
    exact ⟨v1, rfl, by rw [unhide HT]; exact hown1, hk0.trans k1⟩
  · have t1 := eq_f (a := m.kind) (b := 1) (by omega)
    have HT := hide (stT_m hk s)
    have hc := writeMealy_any B v l m a1 c1 a2 c2 s (w.alloc (.cells #[.int .i64 m.kind, .int .i64 m.k, .int .i64 m.o, .int .i64 m.n, .slice a1 m.nx.length c1, .slice a2 m.out.length c2] 24)) hown0 (by have := hbB.size; omega) h4 hl g0 F hk hs hr1 hr2 n1 n2
    clear hk
    go_enter Tryd.func31, Tryd.ntmps31
    go_wp2_with fail
    refine hc.mono ?_
    rintro e w1 ⟨v1, rfl, hown1, k1⟩
    go_wp2
    go_ret
    exact ⟨v1, rfl, by rw [unhide HT]; exact hown1, hk0.trans k1⟩

set_option maxRecDepth 100000 in
set_option maxHeartbeats 4000000 in
theorem writeSizes_any (m : Mc) (a1 : Option Addr) (c1 : Nat) (a2 : Option Addr) (c2 : Nat) (w : World) (g : Gl w) (F : Full m) :
    Calls Tryd.prog 30 #[mval m a1 c1 a2 c2] w fun e w' => ∃ v', e = .returned v' ∧ OwnL .u8 5 w' w.heap.size v' (zs (szT m)) ∧ Below w.heap.size w w' := by
  unfold mval
  have B0 := Box.alloc w m a1 c1 a2 c2 24
  have hbB : Below w.heap.size w (w.alloc (.cells #[.int .i64 m.kind, .int .i64 m.k, .int .i64 m.o, .int .i64 m.n, .slice a1 m.nx.length c1, .slice a2 m.out.length c2] 24)) := (Below.refl _ _).alloc (Nat.le_refl _) _
  have hsz0 : w.heap.size + 1 = (w.alloc (.cells #[.int .i64 m.kind, .int .i64 m.k, .int .i64 m.o, .int .i64 m.n, .slice a1 m.nx.length c1, .slice a2 m.out.length c2] 24)).heap.size := by simp
  have g0 := g.below hbB
  have h4 := g.sz
  have h1 := F.r.k0
  have h2 := F.r.k1
  have h3 := F.r.n0
  have h5 := F.r.n1
  have h6 := F.o0
  have h7 := F.o1
  have fk : Fit m.k := by unfold Fit; omega
  have fo : Fit m.o := by unfold Fit; omega
  have fn : Fit m.n := by unfold Fit; omega
  have lk := itoa_21 (x := m.k) (by omega) (by omega)
  have lo := itoa_21 (x := m.o) (by omega) (by omega)
  have hN : OwnL .u8 5 (w.alloc (.cells #[.int .i64 m.kind, .int .i64 m.k, .int .i64 m.o, .int .i64 m.n, .slice a1 m.nx.length c1, .slice a2 m.out.length c2] 24)) w.heap.size (.slice none 0 0) (zs []) := OwnL.nil _ _ _ _
  have hno : (Value.slice none 0 0).ownBlock ≠ some w.heap.size := by intro e; cases e
  obtain ⟨p0, p1, p2, p3, p4, p5⟩ := id B0
  generalize hw0 : w.alloc (.cells #[.int .i64 m.kind, .int .i64 m.k, .int .i64 m.o, .int .i64 m.n, .slice a1 m.nx.length c1, .slice a2 m.out.length c2] 24) = w0 at *
  rcases F.r.kd with hk | hk
  · have t1 := eq_t hk
    have HT := hide (szT_d hk)
    clear hk F
    go_enter Tryd.func30, Tryd.ntmps30
    go_wp2_with fail
    refine (writeNumber_any w.heap.size (.slice none 0 0) [] ⟨#[100, 102, 97, 32]⟩ m.k w0 hN (by omega) h4 (by simp) (by decide) fk g0).mono ?_
    rintro e w1 ⟨v1, rfl, hown1, k1⟩
    have hb1 := k1.own (by omega) hN
    have g1 := g0.under hb1 h4
    have hs1 := hb1.size
    clear p0 p1 p2 p3 p4 p5
    obtain ⟨p0, p1, p2, p3, p4, p5⟩ := B0.keep (k1.keep (by omega) hno)
    go_wp2_with fail
    refine (writeNumber_any w.heap.size v1 _ ⟨#[32]⟩ m.n w1 hown1 (by omega) h4 (by simp only [List.length_append, List.length_cons, List.length_nil]; omega) (by decide) fn g1).mono ?_
    rintro e w2 ⟨v2, rfl, hown2, k2⟩
    go_wp2
    go_ret
    refine ⟨v2, rfl, ?_, (hbB.trans hb1).trans (k2.own (by omega) hown1)⟩
    rw [unhide HT]; simpa only [List.nil_append] using hown2
  · have t1 := eq_f (a := m.kind) (b := 1) (by omega)
    have HT := hide (szT_m hk)
    clear hk F
    go_enter Tryd.func30, Tryd.ntmps30
    go_wp2_with fail
    refine (writeNumber_any w.heap.size (.slice none 0 0) [] ⟨#[109, 101, 97, 108, 121, 32]⟩ m.k w0 hN (by omega) h4 (by simp) (by decide) fk g0).mono ?_
    rintro e w1 ⟨v1, rfl, hown1, k1⟩
    have hb1 := k1.own (by omega) hN
    have g1 := g0.under hb1 h4
    have hs1 := hb1.size
    clear p0 p1 p2 p3 p4 p5
    obtain ⟨p0, p1, p2, p3, p4, p5⟩ := B0.keep (k1.keep (by omega) hno)
    go_wp2_with fail
    refine (writeNumber_any w.heap.size v1 _ ⟨#[32]⟩ m.o w1 hown1 (by omega) h4 (by simp only [List.length_append, List.length_cons, List.length_nil]; omega) (by decide) fo g1).mono ?_
    rintro e w2 ⟨v2, rfl, hown2, k2⟩
    have k12 := k1.trans k2
    have hb2 := k12.own (by omega) hN
    have g2 := g0.under hb2 h4
    have hs2 := hb2.size
    clear p0 p1 p2 p3 p4 p5
    obtain ⟨p0, p1, p2, p3, p4, p5⟩ := B0.keep (k12.keep (by omega) hno)
    go_wp2_with fail
    refine (writeNumber_any w.heap.size v2 _ ⟨#[32]⟩ m.n w2 hown2 (by omega) h4 (by simp only [List.length_append, List.length_cons, List.length_nil]; omega) (by decide) fn g2).mono ?_
    rintro e w3 ⟨v3, rfl, hown3, k3⟩
    go_wp2
    go_ret
    refine ⟨v3, rfl, ?_, (hbB.trans hb2).trans (k3.own (by omega) hown2)⟩
    rw [unhide HT]; simpa only [List.nil_append] using hown3

end Go.Proofs.YtdnmabemollbeaaDoor
