/-
  The law BlockOwn, walked: it returns true, whatever the number and the list.
-/
import Derived.Test.YtnakadlhafggkaaQBoth
import Derived.Test.YtnakadlhafggkaaQSorted
import Derived.Test.YtnakadlhafggkaaQMuch
import Derived.Test.YtnakadlhafggkaaApartTW
import Derived.Test.YtnakadlhafggkaaK5
namespace Go.Proofs.Ytnakadlhafggkaa
open Go.RowKit

theorem OwnL.own {w : World} {B : Nat} {v : Value} {l : List Int} (h : OwnL .i64 3 w B v l) : Own w B v l.length (fun i => l.getD i 0) := by
  unfold Own
  have e : cellsOf l.length (fun i => l.getD i 0) = l.map (Value.int .i64) := by
    refine List.ext_getElem? fun i => ?_
    by_cases hi : i < l.length
    · rw [cellsOf_get hi, map_getD hi]
    · rw [List.getElem?_eq_none (by rw [length_cellsOf]; omega), List.getElem?_eq_none (by rw [List.length_map]; omega)]
  rw [e]; exact h
theorem mems_all (n : Nat) : (mems n (fun _ => 0) 0).length = n := by
  unfold mems
  rw [List.length_map, List.filter_eq_self.2 (fun _ _ => by simp), List.length_range]
def fiveV (v0 v1 v2 v3 v4 : Value) (i : Nat) : Value := if i = 0 then v0 else if i = 1 then v1 else if i = 2 then v2 else if i = 3 then v3 else v4
def fiveL (l0 l1 l2 l3 l4 : List Int) (i : Nat) : List Int := if i = 0 then l0 else if i = 1 then l1 else if i = 2 then l2 else if i = 3 then l3 else l4
theorem OwnV.five (w : World) (B : Nat) (v0 v1 v2 v3 v4 : Value) (hb : B ≤ w.heap.size) : OwnV (w.alloc (.cells #[v0, v1, v2, v3, v4] 29)) B (.slice (some ⟨w.heap.size, 0, none⟩) 5 5) 5 (fiveV v0 v1 v2 v3 v4) := by
  unfold OwnV
  have e : cellsV 5 (fiveV v0 v1 v2 v3 v4) = (#[v0, v1, v2, v3, v4] : Array Value).toList := rfl
  rw [e]
  exact World.ownsRow_lit w #[v0, v1, v2, v3, v4] 5 hb (by unfold maxLen; simp) rfl
theorem five_cases {i : Nat} (h : i < 5) : i = 0 ∨ i = 1 ∨ i = 2 ∨ i = 3 ∨ i = 4 := by omega
/-- Five lists, each in memory behind the one ahead. -/
theorem Fam.five {w : World} {B s1 s2 s3 s4 : Nat} {v0 v1 v2 v3 v4 : Value} {l0 l1 l2 l3 l4 : List Int} (h0 : OwnL .i64 3 w B v0 l0) (h1 : OwnL .i64 3 w B v1 l1) (h2 : OwnL .i64 3 w B v2 l2) (h3 : OwnL .i64 3 w B v3 l3) (h4 : OwnL .i64 3 w B v4 l4)
    (a0 : ∀ b, v0.ownBlock = some b → b < s1) (a1 : ∀ b, v1.ownBlock = some b → s1 ≤ b ∧ b < s2) (a2 : ∀ b, v2.ownBlock = some b → s2 ≤ b ∧ b < s3) (a3 : ∀ b, v3.ownBlock = some b → s3 ≤ b ∧ b < s4) (a4 : ∀ b, v4.ownBlock = some b → s4 ≤ b) (m1 : s1 ≤ s2) (m2 : s2 ≤ s3) (m3 : s3 ≤ s4) :
    Fam w B 5 (fiveV v0 v1 v2 v3 v4) (fun i => (fiveL l0 l1 l2 l3 l4 i).length) (fun i j => (fiveL l0 l1 l2 l3 l4 i).getD j 0) := by
  refine ⟨fun i hi => ?_, fun i j hi hj hne b e1 e2 => ?_⟩
  · rcases five_cases hi with rfl | rfl | rfl | rfl | rfl
    · exact h0.own
    · exact h1.own
    · exact h2.own
    · exact h3.own
    · exact h4.own
  · rcases five_cases hi with rfl | rfl | rfl | rfl | rfl <;> rcases five_cases hj with rfl | rfl | rfl | rfl | rfl <;>
      first
      | exact hne rfl
      | (have x0 := a0 b; have x1 := a1 b; have x2 := a2 b; have x3 := a3 b; have x4 := a4 b
         first
         | (have y := x0 e1; have z := x1 e2; omega) | (have y := x0 e1; have z := x2 e2; omega) | (have y := x0 e1; have z := x3 e2; omega) | (have y := x0 e1; have z := x4 e2; omega)
         | (have y := x1 e1; have z := x0 e2; omega) | (have y := x1 e1; have z := x2 e2; omega) | (have y := x1 e1; have z := x3 e2; omega) | (have y := x1 e1; have z := x4 e2; omega)
         | (have y := x2 e1; have z := x0 e2; omega) | (have y := x2 e1; have z := x1 e2; omega) | (have y := x2 e1; have z := x3 e2; omega) | (have y := x2 e1; have z := x4 e2; omega)
         | (have y := x3 e1; have z := x0 e2; omega) | (have y := x3 e1; have z := x1 e2; omega) | (have y := x3 e1; have z := x2 e2; omega) | (have y := x3 e1; have z := x4 e2; omega)
         | (have y := x4 e1; have z := x0 e2; omega) | (have y := x4 e1; have z := x1 e2; omega) | (have y := x4 e1; have z := x2 e2; omega) | (have y := x4 e1; have z := x3 e2; omega))
set_option maxRecDepth 100000 in
set_option maxHeartbeats 4000000 in
theorem blockOwn_walk (n : Int) (a : Option Addr) (c : Nat) (l : List Int) (w : World) (_hn : Fits n) (h : ArgL .i64 8 w a c l) :
    Calls Try.prog 7 #[.int .i64 n, .slice a l.length c] w fun e w' => e = .returned (.bool true) ∧ Below w.heap.size w w' := by
  have b0 := ballo w (.cells #[.slice a l.length c] 29)
  have hrv : RdV (w.alloc (.cells #[.slice a l.length c] 29)) (some ⟨w.heap.size, 0, none⟩) 1 (fun _ => .slice a l.length c) := .inr ⟨w.heap.size, 0, rfl, fun i hi => by
    obtain rfl : i = 0 := by omega
    simp⟩
  have MU := much_any n (some ⟨w.heap.size, 0, none⟩) 1 1 (fun _ => .slice a l.length c) (fun _ => l.length) _ hrv (fun i _ => ⟨a, c, rfl⟩)
  have HMU := hide MU
  clear hrv MU
  cases hm : muchV n 1 (fun _ => l.length)
  rotate_left
  · rw [hm] at HMU
    go_enter Try.func7, Try.ntmps7
    go_wp2_with fail
    refine (unhide HMU).mono ?_
    rintro e w' ⟨rfl, hw'⟩
    subst w'
    go_wp2_with (go_at_call 9; refine (live_any _).mono ?_; rintro e w' ⟨rfl, hb'⟩)
    go_ret
    exact ⟨rfl, bstep b0 hb'⟩
  rw [hm] at HMU
  obtain ⟨hn1, -, hl1⟩ := much_no hm
  have hl := hl1 0 (by omega)
  clear hm hl1
  by_cases hlo : n < 1
  · go_enter Try.func7, Try.ntmps7
    go_wp2_with fail
    refine (unhide HMU).mono ?_
    rintro e w' ⟨rfl, hw'⟩
    subst w'
    go_wp2_with (first
      | (go_at_call 12; refine (num_any _ _).mono ?_; rintro e w' ⟨rfl, hw'⟩; subst w')
      | (go_at_call 10; refine (new_low _ _ hlo).mono ?_; rintro e w' ⟨rfl, hw'⟩; subst w')
      | (go_at_call 9; refine (live_any _).mono ?_; rintro e w' ⟨rfl, hb'⟩))
    go_ret
    exact ⟨rfl, bstep b0 hb'⟩
  by_cases hhi : 65536 < n
  · go_enter Try.func7, Try.ntmps7
    go_wp2_with fail
    refine (unhide HMU).mono ?_
    rintro e w' ⟨rfl, hw'⟩
    subst w'
    go_wp2_with (first
      | (go_at_call 12; refine (num_any _ _).mono ?_; rintro e w' ⟨rfl, hw'⟩; subst w')
      | (go_at_call 10; refine (new_high _ _ hhi).mono ?_; rintro e w' ⟨rfl, hw'⟩; subst w')
      | (go_at_call 9; refine (live_any _).mono ?_; rintro e w' ⟨rfl, hb'⟩))
    go_ret
    exact ⟨rfl, bstep b0 hb'⟩
  obtain ⟨N, rfl⟩ := Int.eq_ofNat_of_zero_le (show 0 ≤ n by omega)
  have hN0 : 1 ≤ N := by omega
  have hN1 : N ≤ 200 := by omega
  clear hlo hhi hn1
  go_enter Try.func7, Try.ntmps7
  go_wp2_with fail
  refine (unhide HMU).mono ?_
  rintro e w' ⟨rfl, hw'⟩
  subst w'
  clear HMU
  go_wp2_with fail
  generalize hW0 : w.alloc (.cells #[.slice a l.length c] 29) = W0 at *
  clear hW0
  refine (new_ok N W0 hN0 (by omega)).mono ?_
  rintro e w1 ⟨p, gs, rfl, hpn, hplo, hpat, hb1⟩
  have O1 : Ob w w1 p gs 1 (St.start N) := Ob.of hN0 hpn hplo hpat hb1 b0
  have HO1 := hide O1
  have HPN := hide hpn
  clear O1 hpn hplo hpat
  go_wp2_with fail
  refine (new_ok N w1 hN0 (by omega)).mono ?_
  rintro e w2 ⟨q, gq, rfl, hqn, hqlo, hqat, hb2⟩
  have Q2 : Ob w w2 q gq 1 (St.start N) := Ob.of hN0 hqn hqlo hqat hb2 (unhide HO1).bl
  have O2 := (unhide HO1).on hb2
  have hpq : ∀ k, p.has gs k → ¬ q.has gq k := fun k hk hq => by
    have h1 := PtAt.lt (unhide HO1).at_ hk
    have h2 := hqlo k hq
    omega
  have HO2 := hide O2
  have HQ2 := hide Q2
  have HQN := hide hqn
  have HZ2 := hide O2.bl.size
  have HPQ := hide hpq
  have R2 := (h.rd.below O2.bl).below (ballo w2 (.cells #[] 3))
  have E2 : OwnL .i64 3 (w2.alloc (.cells #[] 3)) w2.heap.size (.slice (some ⟨w2.heap.size, 0, none⟩) 0 0) [] := own_empty (Nat.le_refl _) (heap_alloc_new w2 _)
  have HR2 := hide R2
  have HE2 := hide E2
  have HNIL := hide h.nil
  clear O2 Q2 hqn hqlo hqat hpq HO1 hb1 hb2 R2 E2 h
  go_wp2_with (first
    | (go_at_call 12; refine (num_any _ _).mono ?_; rintro e w' ⟨rfl, hw'⟩; subst w')
    | (at_builtin; refine wpl_pushL eInt rfl (.tmp 62) (.tmp 63) rfl w2.heap.size _ [] rfl (unhide HE2) a c l rfl (unhide HR2) (unhide HNIL) (by simp; omega) (by simp) ?_; intro v3 w3 hv3 hb3 hg3))
  rw [List.nil_append] at hv3
  have b23 : Below w2.heap.size w2 w3 := (ballo w2 _).trans hb3
  have O3 := (unhide HO2).on b23
  have Q3 := (unhide HQ2).on b23
  obtain ⟨a3, c3, rfl, -, -, -, rv3, hab3⟩ := hv3.shape
  have hpb : p.n ≤ 65536 := by rw [unhide HPN]; omega
  have S3 := split_both p gs 1 (St.start N) a3 c3 l w3 O3.at_ O3.pi hpb (by omega) rv3 (fun x e _ => (unhide HO2).no (.inr (hab3 x e).1))
  have v3no : ∀ b, (Value.slice a3 l.length c3).ownBlock = some b → ¬ p.has gs b ∧ ¬ q.has gq b := fun b e => ⟨(unhide HO2).no (.inr (hv3.lt e).1), (unhide HQ2).no (.inr (hv3.lt e).1)⟩
  have HO3 := hide O3
  have HQ3 := hide Q3
  have HS3 := hide S3
  have HV3 := hide hv3
  have HV3N := hide v3no
  clear O3 Q3 S3 hv3 v3no rv3 hab3 hg3 hb3 b23 HO2 HQ2 HR2 HE2 HNIL
  refine (unhide HS3).mono ?_
  rintro e w4 ⟨gs4, cap4, s4, v4, rfl, hp4⟩
  have O4 := (unhide HO3).both hp4
  have Q4 := (unhide HQ3).side hp4.bx (fun k hk hp => unhide HPQ k hp hk) O4.bl
  have hv3' := (unhide HV3).bx hp4.bx (fun b e => (unhide HV3N b e).1)
  have hv4 := hp4.own
  have hv4q : ∀ b, v4.ownBlock = some b → ¬ q.has gq b := fun b e hk => by
    have h1 := (hv4.lt e).1
    have h2 := PtAt.lt (unhide HQ3).at_ hk
    omega
  have hpq4 : ∀ k, p.has gs4 k → ¬ q.has gq k := fun k hk hq => by
    rcases hk with e | e | e | e | e
    · exact unhide HPQ k (.inl e) hq
    · exact unhide HPQ k (.inr (.inl e)) hq
    · exact unhide HPQ k (.inr (.inr (.inl e))) hq
    · exact unhide HPQ k (.inr (.inr (.inr (.inl e)))) hq
    · rcases hp4.new with d | d
      · exact unhide HPQ k (.inr (.inr (.inr (.inr (e.trans d))))) hq
      · have h2 := PtAt.lt (unhide HQ3).at_ hq
        omega
  have v3p : ∀ b, (Value.slice a3 l.length c3).ownBlock = some b → ¬ p.has gs4 b := fun b e hk => by
    rcases hk with d | d | d | d | d
    · exact (unhide HV3N b e).1 (.inl d)
    · exact (unhide HV3N b e).1 (.inr (.inl d))
    · exact (unhide HV3N b e).1 (.inr (.inr (.inl d)))
    · exact (unhide HV3N b e).1 (.inr (.inr (.inr (.inl d))))
    · rcases hp4.new with f | f
      · exact (unhide HV3N b e).1 (.inr (.inr (.inr (.inr (d.trans f)))))
      · have := ((unhide HV3).lt e).2
        omega
  have v34 : ∀ b, (Value.slice a3 l.length c3).ownBlock = some b → v4.ownBlock ≠ some b := fun b e e2 => by
    have h1 := ((unhide HV3).lt e).2
    have h2 := (hv4.lt e2).1
    omega
  have hs4 := O4.pi.cc 0 (by rw [unhide HPN]; omega)
  have hst := stM_len (tab p.n (St.start N).c) l (St.start N).K
  have hz4 : w.heap.size ≤ w3.heap.size := (unhide HO3).bl.size
  have HO4 := hide O4
  have HQ4 := hide Q4
  have HV4 := hide (hv4.mono hz4)
  have HV4P := hide hp4.vno
  have HV4Q := hide hv4q
  have HPQ4 := hide hpq4
  have HV34 := hide v34
  have HV3P := hide v3p
  obtain ⟨a4, c4, ev4, -, -, -, -, -⟩ := hv4.shape
  generalize stE (tab p.n (St.start N).c) l = err at *
  generalize hL4 : stM (tab p.n (St.start N).c) l (St.start N).K = L4 at *
  clear hL4 O4 Q4 hp4 hv4 hv4q hpq4 v34 v3p HS3 HO3 HQ3 HV3 HPQ hz4
  subst ev4
  have HV3' := hide hv3'
  have HB44 := hide (Bx.refl (fun k => (Value.slice a3 l.length c3).ownBlock = some k) w4)
  clear hv3'
  go_wp2
  go_loopw [12] (fun i wx => ∃ (j : Nat) (L : List Int), j ≤ l.length ∧ i = .int .i64 j ∧ L.length = l.length ∧ OwnL .i64 3 wx w2.heap.size (.slice a3 L.length c3) L ∧ Bx (fun k => (Value.slice a3 l.length c3).ownBlock = some k) w4 wx) (fun i _ => l.length - (intOf i).toNat)
  case atStart => exact ⟨0, l, Nat.zero_le _, rfl, rfl, unhide HV3', unhide HB44⟩
  case round =>
    obtain ⟨j, L, hj, rfl, hL, hv, hbx⟩ := hrel
    clear HV3' HB44
    by_cases hlt : j < l.length
    · obtain ⟨g, cap, ev, -, -, -, -, hcell, hfz⟩ := hv.pos (by omega)
      cases ev
      have hcj := hcell j (by omega)
      have hfj := hfz j
      have HV := hide hv
      have HBX := hide hbx
      have HL := hide hL
      clear hcell hfz hv hbx hL
      go_wp2
      go_roundw
      case rel =>
        refine ⟨j + 1, L.set j (-1), by omega, by go_num, by rw [List.length_set]; exact unhide HL, ?_, ?_⟩
        · rw [List.length_set]; exact (unhide HV).store j (-1)
        · exact (unhide HBX).setCell (p := ⟨g, j, none⟩) rfl _
      case measure => simp [intOf]; omega
    · have bl5 : Below w.heap.size w wr := (unhide HO4).bl.trans (hbx.below (fun k e => by have h1 := (hv.lt (b := k) (by rw [hL]; exact e)).1; have h2 := unhide HZ2; omega) (unhide HO4).bl.size)
      have O5 := (unhide HO4).side hbx (fun k hk e => unhide HV3P k e hk) bl5
      have Q5 := (unhide HQ4).side hbx (fun k hk e => (unhide HV3N k e).2 hk) bl5
      have hv4 := (unhide HV4).bx hbx (fun b e e2 => unhide HV34 b e2 e)
      have zr : w.heap.size ≤ wr.heap.size := bl5.size
      have HPL := hide (fun k (hk : p.has gs4 k) => PtAt.lt O5.at_ hk)
      have HQL := hide (fun k (hk : q.has gq k) => PtAt.lt Q5.at_ hk)
      have A5 := all_any O5.at_ hpb
      have HO5 := hide O5
      have HQ5 := hide Q5
      have HV5 := hide hv4
      have HA5 := hide A5
      clear O5 Q5 hv4 A5 hv hbx hL bl5 HO4 HQ4 HV4 HV34 HV3P HV3N
      go_wp2_with fail
      refine (unhide HA5).mono ?_
      rintro e w6 ⟨vw, rfl, hvw, hb6⟩
      have O6 := (unhide HO5).on hb6
      have Q6 := (unhide HQ5).on hb6
      have hz6 := hb6.size
      have lw : ∀ b, vw.ownBlock = some b → wr.heap.size ≤ b ∧ b < w6.heap.size := fun b e => hvw.lt e
      obtain ⟨aw, cw, rfl, -, -, -, -, -⟩ := hvw.shape
      have HVW := hide hvw
      have HV6 := hide ((unhide HV5).grown hb6)
      have l4 : ∀ b, (Value.slice a4 L4.length c4).ownBlock = some b → b < wr.heap.size := fun b e => ((unhide HV5).lt e).2
      have HL4 := hide l4
      have HLW := hide lw
      have HO6 := hide O6
      have HQ6 := hide Q6
      have HA6 := hide (all_any O6.at_ hpb)
      clear O6 Q6 hvw hb6 lw l4 HO5 HQ5 HV5 HA5
      go_wp2_with fail
      refine (unhide HA6).mono ?_
      rintro e w7 ⟨vx, rfl, hvx, hb7⟩
      have O7 := (unhide HO6).on hb7
      have HQ7 := hide ((unhide HQ6).on hb7)
      have hz7 := hb7.size
      have HLX := hide (fun b (e : vx.ownBlock = some b) => hvx.lt e)
      obtain ⟨ax, cx, rfl, -, -, -, -, -⟩ := hvx.shape
      have HV7 := hide ((unhide HV6).grown hb7)
      have HVW7 := hide ((unhide HVW).grown hb7)
      have HVX := hide hvx
      have HO7 := hide O7
      have HA7 := hide (all_any O7.at_ hpb)
      clear O7 hvx hb7 HO6 HQ6 HV6 HVW HA6
      go_wp2_with fail
      refine (unhide HA7).mono ?_
      rintro e w8 ⟨vy, rfl, hvy, hb8⟩
      have O8 := (unhide HO7).on hb8
      have HQ8 := hide ((unhide HQ7).on hb8)
      have hz8 := hb8.size
      have HLY := hide (fun b (e : vy.ownBlock = some b) => hvy.lt e)
      obtain ⟨ay, cy, rfl, -, -, -, -, -⟩ := hvy.shape
      have HV8 := hide ((unhide HV7).grown hb8)
      have HVW8 := hide ((unhide HVW7).grown hb8)
      have HVX8 := hide ((unhide HVX).grown hb8)
      have HVY := hide hvy
      have HO8 := hide O8
      have HM8 := hide (members_ok O8.at_ O8.pi hpb (k := 0) (by omega))
      clear O8 hvy hb8 HO7 HQ7 HV7 HVW7 HVX HA7
      go_wp2_with fail
      refine (unhide HM8).mono ?_
      rintro e w9 ⟨vc, rfl, hvc, hb9⟩
      have O9 := (unhide HO8).on hb9
      have HQ9 := hide ((unhide HQ8).on hb9)
      have hz9 := hb9.size
      have HLC := hide (fun b (e : vc.ownBlock = some b) => hvc.lt e)
      obtain ⟨ac, cc, rfl, -, -, -, -, -⟩ := hvc.shape
      have HV9 := hide ((unhide HV8).grown hb9)
      have HVW9 := hide ((unhide HVW8).grown hb9)
      have HVX9 := hide ((unhide HVX8).grown hb9)
      have HVY9 := hide ((unhide HVY).grown hb9)
      have HVC := hide hvc
      have HO9 := hide O9
      have HM9 := hide (members_ok O9.at_ O9.pi hpb (k := 0) (by omega))
      have hml := mems_len p.n s4.c 0
      clear O9 hvc hb9 HO8 HQ8 HV8 HVW8 HVX8 HVY HM8
      go_wp2_with fail
      refine (unhide HM9).mono ?_
      rintro e w10 ⟨vd, rfl, hvd, hb10⟩
      have O10 := (unhide HO9).on hb10
      have Q10 := (unhide HQ9).on hb10
      have hz10 := hb10.size
      have HLD := hide (fun b (e : vd.ownBlock = some b) => hvd.lt e)
      obtain ⟨ad, cd, rfl, -, -, -, -, -⟩ := hvd.shape
      have hw10 := O10.bl.size
      have b11 := ballo w10 (.cells #[.slice a4 L4.length c4, .slice ax (tab p.n s4.c).length cx, .slice ay (tab p.n s4.c).length cy, .slice ac (mems p.n s4.c 0).length cc, .slice ad (mems p.n s4.c 0).length cd] 29)
      have OV := OwnV.five w10 w.heap.size (.slice a4 L4.length c4) (.slice ax (tab p.n s4.c).length cx) (.slice ay (tab p.n s4.c).length cy) (.slice ac (mems p.n s4.c 0).length cc) (.slice ad (mems p.n s4.c 0).length cd) hw10
      have FM := Fam.five (s1 := w6.heap.size) (s2 := w7.heap.size) (s3 := w8.heap.size) (s4 := w9.heap.size) (((unhide HV9).grown hb10).grown b11) ((((unhide HVX9).grown hb10).grown b11).mono (B' := w.heap.size) (by omega)) ((((unhide HVY9).grown hb10).grown b11).mono (B' := w.heap.size) (by omega)) ((((unhide HVC).grown hb10).grown b11).mono (B' := w.heap.size) (by omega)) ((hvd.grown b11).mono (B' := w.heap.size) (by omega))
        (fun b e => by have := unhide HL4 b e; omega) (fun b e => unhide HLX b e) (fun b e => unhide HLY b e) (fun b e => unhide HLC b e) (fun b e => (unhide HLD b e).1) hz7 hz8 hz9
      have hA : ∀ b, (Value.slice (some ⟨w10.heap.size, 0, none⟩) 5 5).ownBlock = some b → ∀ i, i < 5 → (fiveV (.slice a4 L4.length c4) (.slice ax (tab p.n s4.c).length cx) (.slice ay (tab p.n s4.c).length cy) (.slice ac (mems p.n s4.c 0).length cc) (.slice ad (mems p.n s4.c 0).length cd) i).ownBlock ≠ some b := fun b eb i hi e => by
        cases eb
        rcases five_cases hi with rfl | rfl | rfl | rfl | rfl
        · have h1 := unhide HL4 _ e; dsimp only at h1; omega
        · have h1 := unhide HLX _ e; dsimp only at h1; omega
        · have h1 := unhide HLY _ e; dsimp only at h1; omega
        · have h1 := unhide HLC _ e; dsimp only at h1; omega
        · have h1 := unhide HLD _ e; dsimp only at h1; omega
      have hns : ∀ i, i < 5 → (fiveL L4 (tab p.n s4.c) (tab p.n s4.c) (mems p.n s4.c 0) (mems p.n s4.c 0) i).length ≤ 100000 := fun i hi => by
        have t1 := tab_len p.n s4.c
        have t2 : L4.length ≤ 1 := hst
        rcases five_cases hi with rfl | rfl | rfl | rfl | rfl
        · show L4.length ≤ _; omega
        · show (tab p.n s4.c).length ≤ _; omega
        · show (tab p.n s4.c).length ≤ _; omega
        · show (mems p.n s4.c 0).length ≤ _; omega
        · show (mems p.n s4.c 0).length ≤ _; omega
      have tlt : ∀ k, (p.has gs4 k ∨ q.has gq k ∨ (Value.slice aw (tab p.n s4.c).length cw).ownBlock = some k) → k < w6.heap.size := fun k hk => by
        rcases hk with d | d | d
        · have := unhide HPL k d; omega
        · have := unhide HQL k d; omega
        · exact (unhide HLW k d).2
      have hT : ∀ k, (p.has gs4 k ∨ q.has gq k ∨ (Value.slice aw (tab p.n s4.c).length cw).ownBlock = some k) → (Value.slice (some ⟨w10.heap.size, 0, none⟩) 5 5).ownBlock ≠ some k ∧ ∀ i, i < 5 → (fiveV (.slice a4 L4.length c4) (.slice ax (tab p.n s4.c).length cx) (.slice ay (tab p.n s4.c).length cy) (.slice ac (mems p.n s4.c 0).length cc) (.slice ad (mems p.n s4.c 0).length cd) i).ownBlock ≠ some k := fun k hk => by
        have hk6 := tlt k hk
        refine ⟨fun e => ?_, fun i hi e => ?_⟩
        · have e2 := Option.some.inj e
          dsimp only at e2
          omega
        · rcases five_cases hi with rfl | rfl | rfl | rfl | rfl
          · rcases hk with d | d | d
            · exact unhide HV4P k e d
            · exact unhide HV4Q k e d
            · have h1 := unhide HL4 k e
              have h2 := (unhide HLW k d).1
              omega
          · have h1 := (unhide HLX k e).1; omega
          · have h1 := (unhide HLY k e).1; omega
          · have h1 := (unhide HLC k e).1; omega
          · have h1 := (unhide HLD k e).1; omega
      have AP := apart_keep (fun k => p.has gs4 k ∨ q.has gq k ∨ (Value.slice aw (tab p.n s4.c).length cw).ownBlock = some k) w.heap.size 5 (.slice (some ⟨w10.heap.size, 0, none⟩) 5 5) _ _ _ _ OV FM hA (by rw [World.size_alloc]; omega) (by omega) hns hT (fun k hk => by rw [World.size_alloc]; have := tlt k hk; omega)
      have HAP := hide AP
      have HO11 := hide (O10.on b11)
      have HQ11 := hide (Q10.on b11)
      have HVW11 := hide (((unhide HVW9).grown hb10).grown b11)
      clear AP OV FM hA hns tlt hT O10 Q10 hvd hb10 b11 HO9 HQ9 HV9 HVW9 HVX9 HVY9 HVC HM9 HL4 HLX HLY HLC HLD HLW HPL HQL HV4P HV4Q HPQ4 hz6 hz7 hz8 hz9 hz10 hw10 zr
      go_wp2_with fail
      refine (unhide HAP).mono ?_
      rintro e w12 ⟨rfl, hb12, hk12⟩
      have z11 : w.heap.size ≤ (w10.alloc (.cells #[.slice a4 L4.length c4, .slice ax (tab p.n s4.c).length cx, .slice ay (tab p.n s4.c).length cy, .slice ac (mems p.n s4.c 0).length cc, .slice ad (mems p.n s4.c 0).length cd] 29)).heap.size := (unhide HO11).bl.size
      have bl12 := (unhide HO11).bl.trans hb12
      have O12 : Ob w w12 p gs4 cap4 s4 := ⟨PtAt.keep (unhide HO11).at_ fun k hk => hk12 k (.inl hk), (unhide HO11).pi, (unhide HO11).lo, bl12⟩
      have Q12 : Ob w w12 q gq 1 (St.start N) := ⟨PtAt.keep (unhide HQ11).at_ fun k hk => hk12 k (.inr (.inl hk)), (unhide HQ11).pi, (unhide HQ11).lo, bl12⟩
      have hvw12 := (unhide HVW11).keep fun b e => hk12 b (.inr (.inr e))
      have hqb : q.n ≤ 65536 := by rw [unhide HQN]; omega
      have HM12 := hide (members_ok Q12.at_ Q12.pi hqb (k := 0) Nat.zero_lt_one)
      have HO12 := hide O12
      have HQ12 := hide Q12
      have HVW12 := hide hvw12
      clear O12 Q12 hvw12 bl12 z11 hb12 hk12 HAP HO11 HQ11 HVW11
      go_wp2_with fail
      refine (unhide HM12).mono ?_
      rintro e w13 ⟨vm, rfl, hvm, hb13⟩
      have ml : (mems q.n (St.start N).c 0).length = N := by rw [unhide HQN]; exact mems_all N
      rw [show mems q.n (St.start N).c 0 = mems q.n (fun _ => 0) 0 from rfl] at hvm ml
      obtain ⟨am, cm, evm, -, -, -, -, -⟩ := hvm.shape
      rw [ml] at evm
      subst evm
      have O13 := (unhide HO12).on hb13
      have HQ13 := hide ((unhide HQ12).on hb13)
      have HVW13 := hide ((unhide HVW12).grown hb13)
      have HO13 := hide O13
      have HA13 := hide (all_any O13.at_ hpb)
      clear O13 hvm hb13 ml HM12 HO12 HQ12 HVW12
      go_wp2_with fail
      refine (unhide HA13).mono ?_
      rintro e w14 ⟨va, rfl, hva, hb14⟩
      obtain ⟨aa, ca, rfl, -, -, -, rva, -⟩ := hva.shape
      obtain ⟨_, _, EW, -, -, -, rvw, -⟩ := ((unhide HVW13).grown hb14).shape
      cases EW
      have HQ14 := hide ((unhide HQ13).on hb14)
      clear hva hb14 HA13 HO13 HQ13 HVW13
      go_wp2_with fail
      refine (same_list aa aw ca cw (tab p.n s4.c) (tab p.n s4.c) w14 rva rvw (by rw [tab_len]; unfold maxLen; omega)).mono ?_
      rw [show decide (tab p.n s4.c = tab p.n s4.c) = true from decide_eq_true rfl]
      rintro e w15 ⟨rfl, hb15⟩
      have Q15 := (unhide HQ14).on hb15
      have HC15 := hide (count_any Q15.at_)
      have HB15 := hide Q15.bl
      have tN : (((N : Nat) : Int) == ((N : Nat) : Int)) = true := by simp
      clear Q15 hb15 rva rvw HQ14
      go_wp2_with fail
      refine (unhide HC15).mono ?_
      rw [show (St.start N).K = 1 from rfl]
      rintro e w' ⟨rfl, hw'⟩
      subst w'
      clear HC15
      go_wp2_with (go_at_call 9; refine (live_any _).mono ?_; rintro e w' ⟨rfl, hb'⟩)
      go_ret
      exact ⟨rfl, bstep (unhide HB15) hb'⟩
end Go.Proofs.Ytnakadlhafggkaa
