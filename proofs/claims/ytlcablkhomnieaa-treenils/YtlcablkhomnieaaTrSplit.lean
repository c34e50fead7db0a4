/-
  The program's tree: Split.
-/
import Derived.Test.YtlcablkhomnieaaK47
import Derived.Test.YtlcablkhomnieaaK44
namespace Go.Proofs.Ytlcablkhomnieaa
set_option linter.unusedVariables false
open Go.RowKit

section
variable {B : Nat} {w w' : World} {p : Tp} {s : Tr}
set_option maxRecDepth 100000 in
set_option maxHeartbeats 8000000 in
theorem split_no (h : TM B w p s) (hz : ∀ i, i < s.nn → p.sz i ≤ 3 * s.nl) (j : Int) (vd vl v1 v2 : Value) (E : Int) (hE : E ≠ 0)
    (hck : Calls Try.prog 54 #[.pointer (some ⟨p.b, 0, none⟩), .int .i64 j, vd, vl, v1, v2] w fun e w' => e = .returned (.int .i64 E) ∧ Below w.heap.size w w') :
    Calls Try.prog 18 #[.pointer (some ⟨p.b, 0, none⟩), .int .i64 j, vd, vl, v1, v2] w (ChT B p s s (.tuple #[.int .i64 0, .int .i64 E]) w) := by
  have t1 : (E != 0) = true := by simpa using hE
  have HH := hide h
  have HZ := hide hz
  clear h hz hE
  go_enter Try.func18, Try.ntmps18
  go_wp2_with (go_at_call 54; refine hck.mono ?_; rintro e w1 ⟨rfl, hb1⟩)
  go_ret2
  exact (unhide HH).stay (unhide HZ) _ hb1
theorem RzT.rd {a : Option Addr} {l : List Int} (h : RzT w p s a l) (hb : Bx (p.has s) w w') : RdL .i64 w' a l := h.1.bx hb fun x e => (h.2 x e).2
set_option maxRecDepth 100000 in
set_option maxHeartbeats 8000000 in
theorem split_yes (h : TM B w p s) (W : s.Wf) (hz : ∀ i, i < s.nn → p.sz i ≤ 3 * s.nl) (hB : B ≤ w.heap.size) (j : Nat) (hj : j < s.nl) (ad : Option Addr) (cd : Nat) (d : List Int) (aw : Option Addr) (cw : Nat) (l : List Int) (a1 : Option Addr) (c1 : Nat) (was : List Int) (a2 : Option Addr) (c2 : Nat) (now : List Int)
    (rd : RzT w p s ad d) (nd : ad = none → d.length = 0 ∧ cd = 0) (rw' : RzT w p s aw l) (nw : aw = none → l.length = 0 ∧ cw = 0) (r1 : RzT w p s a1 was) (r2 : RzT w p s a2 now) (ld : d.length ≤ 4096) (lw : l.length ≤ 4096) (o1 : okS was) (o2 : okS now) (l1 : was.length ≤ 100000) (l2 : now.length ≤ 100000)
    (hck : Calls Try.prog 54 #[.pointer (some ⟨p.b, 0, none⟩), .int .i64 (j : Int), .slice ad d.length cd, .slice aw l.length cw, .slice a1 was.length c1, .slice a2 now.length c2] w fun e w' => e = .returned (.int .i64 0) ∧ Below w.heap.size w w') :
    Calls Try.prog 18 #[.pointer (some ⟨p.b, 0, none⟩), .int .i64 (j : Int), .slice ad d.length cd, .slice aw l.length cw, .slice a1 was.length c1, .slice a2 now.length c2] w (ChT B p s (s.splD j d l was now) (.tuple #[.int .i64 (s.nl : Int), .int .i64 0]) w) := by
  have HH := hide h
  have HZ := hide hz
  have HW := hide W
  have HRD := hide rd
  have HRW := hide rw'
  have HR1 := hide r1
  have HR2 := hide r2
  have hjn : (j : Int) < (s.nl : Int) := by omega
  clear h hz W rd rw' r1 r2
  go_enter Try.func18, Try.ntmps18
  go_wp2_with fail
  refine hck.mono ?_
  rintro e w1 ⟨rfl, hb1⟩
  have H1 := (unhide HH).below hb1
  have c6 := H1.c6
  have c7 := H1.c7
  have fz := H1.frz
  have HX1 := hide H1
  have HB1 := hide hb1
  -- the state without what is sifted
  obtain ⟨s0, hs0⟩ : ∃ s0, s0 = ({ s with sif := [], pos := none } : Tr) := ⟨_, rfl⟩
  obtain ⟨p0, hp0⟩ : ∃ p0, p0 = ({ p with sa := none, sc := 0 } : Tp) := ⟨_, rfl⟩
  obtain ⟨w2, hw2⟩ : ∃ w2, w2 = (w1.setCell ⟨p.b, 6, none⟩ (.slice none 0 0)).setCell ⟨p.b, 7, none⟩ .nilIface := ⟨_, rfl⟩
  have T2 : TM B w2 p0 s0 := by
    rw [hw2, hs0, hp0]
    exact H1.sift (fun k _ hk => (Below.heap_setCell _ _ _ k hk).trans (Below.heap_setCell _ _ _ k hk)) [] none 0 none (OwnL.nil _ _ _ _) ((H1.o.set 6 _).set 7 _)
  have X2 : Bx (p.has s) w w2 := by
    rw [hw2]
    exact ((Bx.of (X := p.has s) hb1).setCell (p := ⟨p.b, 6, none⟩) (.inl rfl) _).setCell (p := ⟨p.b, 7, none⟩) (.inl rfl) _
  have z2 := X2.size
  have K0 : s0.Ok := by rw [hs0]; exact (unhide HW).ok.off []
  have hfl : s0.lf j = s.lf j := by rw [hs0]
  have hnn : s0.nn = s.nn := by rw [hs0]
  have hnl : s0.nl = s.nl := by rw [hs0]
  have hpb : p0.b = p.b := by rw [hp0]
  have hn1 := (unhide HW).n1
  have hup : ∀ u, (s.lf j).up = some u → u < s.nn := fun u e => (unhide HW).ok.uf j u hj e
  have hpl := (unhide HW).dpf hj
  have hhas : ∀ k, p0.has s0 k → p.has s k := fun k hk => by rw [hp0, hs0] at hk; exact hk
  have hsb := (unhide HW).sb (.inr j) hj
  have MN := makeNode_any T2 K0 (s.lf j).up (s.lf j).an (s.lf j).pa ad cd d ((unhide HRD).rd X2) nd (by omega) (fun u e => by
    refine ⟨by rw [hnn]; exact hup u e, ?_⟩
    have := unhide HZ u (hup u e)
    rw [hp0]; show p.sz u < _; unfold maxLen; omega) ⟨hsb.1, by have := hsb.2; show (s.lf j).an.length ≤ _; have h2 : (s.anN (.inr j)).length = (s.lf j).an.length := rfl; omega⟩ (by omega)
  rw [hnn, hpb] at MN
  obtain ⟨g, e1, e2, e3, e4⟩ := T2.at (j := j) (by omega)
  have c4 := T2.c4
  have kj := e4 j (by omega)
  have f0 := T2.f0 (j := j) (by omega)
  have f1 : w2.cell? ⟨p0.fb j, 1, none⟩ = some (.string (sp (s0.lf j).an)) := (T2.lf j (by omega)).cell 1
  have f2 : w2.cell? ⟨p0.fb j, 2, none⟩ = some (.int .i64 ((s0.lf j).pa.length : Int)) := (T2.lf j (by omega)).cell 2
  rw [hpb, e1, hnl] at c4
  rw [hfl] at f0 f1 f2
  rw [hw2] at c4 kj f0 f1 f2
  have hjn0 : (j : Int) < (s0.nl : Int) := by omega
  unfold spV at MN
  unfold Tp.upV at MN f0
  have HT2 := hide T2
  have HX2 := hide X2
  have HP0 := hide hp0
  have HS0 := hide hs0
  have HW2 := hide hw2
  have HFB := hide (show p0.fb = p.fb by rw [hp0])
  clear T2 X2 e4 hck H1 hb1 hp0 hs0
  have HWF := hide hw2
  clear hw2
  go_wp2_with fail
  rw [← unhide HWF]
  refine MN.mono ?_
  clear MN f0 f1 f2 c4 kj c6 c7 fz
  rintro e w3 ⟨p1, rfl, T3, X3, G3, b3, i3, z3, f3, sa3, sc3⟩
  obtain ⟨s1, hs1⟩ : ∃ s1, s1 = s0.inner (s.lf j).up (s.lf j).an (s.lf j).pa d := ⟨_, rfl⟩
  rw [← hs1] at T3 G3 z3
  have q1 : s1.nn = s.nn + 1 := by rw [hs1]; show s0.nn + 1 = _; rw [hnn]
  have q2 : s1.nl = s.nl := by rw [hs1]; show s0.nl = _; rw [hnl]
  have q3 : (s1.nd s.nn) = ⟨(s.lf j).up, (s.lf j).an, (s.lf j).pa, d⟩ := by rw [hs1]; show updV s0.nd s0.nn _ s.nn = _; rw [hnn, updV_same]
  have q4 : s1.lf = s0.lf := by rw [hs1]; rfl
  have K1 : s1.Ok := by rw [hs1]; exact K0.inner _ _ _ _ (fun u e => by rw [hnn]; exact hup u e)
  have X13 : Bx (p.has s) w w3 := (unhide HX2).trans X3 fun k _ hk => hhas k hk
  have z23 := X3.size
  have hb1' : p1.b = p.b := b3.trans hpb
  -- what is read next
  obtain ⟨g3, e31, e32, e33, e34⟩ := T3.at (j := j) (by omega)
  have k4 := T3.c4
  rw [hb1', e31, q2] at k4
  have kj3 := e34 j (by omega)
  have HSPW := hide fun (X : World) (hX : Below w3.heap.size w3 X) => tspell_any a1 c1 was X (((unhide HR1).rd X13).below hX) o1.1 (by omega)
  have HBLW := hide fun (X : World) (hX : Below w3.heap.size w3 X) => below_any (T3.below hX) (i := s.nn) (by omega) was (by rw [q3]; show (s.lf j).pa.length ≤ _; omega)
  have HMV := hide fun (X : World) (hX : Below w3.heap.size w3 X) => move_any (T3.below hX) j (by omega) (some s.nn) was ((s.lf j).pa ++ [(d, was)]) (fun u e => by cases e; exact ⟨by omega, by rw [z3 s.nn (by rw [hnn]; exact Nat.le_refl _) (by omega)]; unfold maxLen; omega⟩) o1
  rw [q3] at HBLW
  rw [hb1', show (((s.lf j).pa ++ [(d, was)]).length) = (s.lf j).pa.length + 1 by simp] at HMV
  have HT3 := hide T3
  have HX13 := hide X13
  have HK1 := hide K1
  have HG3 := hide G3
  have HZ3 := hide z3
  have HI3 := hide i3
  have HF3 := hide f3
  have HSS1 := hide hs1
  have HCJ : Hid (∀ X, Below w3.heap.size w3 X → X.cell? ⟨p.b, 4, none⟩ = some (.slice (some ⟨g3, 0, none⟩) s.nl p1.lc) ∧ X.cell? ⟨g3, j, none⟩ = some (.pointer (some ⟨p1.fb j, 0, none⟩))) := hide fun X hX => ⟨(hX.cell (World.block_lt_of_cell? _ _ k4)).trans k4, (hX.cell (World.block_lt_of_cell? _ _ kj3)).trans kj3⟩
  clear T3 X3 X13 G3 z3 i3 f3 hs1 e34 K1
  go_wp2
  go_region_held3 (fun wz => wz.cell? ⟨p.b, 4, none⟩ = some (.slice (some ⟨g3, 0, none⟩) s.nl p1.lc) ∧ wz.cell? ⟨g3, j, none⟩ = some (.pointer (some ⟨p1.fb j, 0, none⟩))) (first | exact ⟨k4, kj3⟩ | exact kA | exact kB | exact kC)
    (first
      | (go_at_call 45; refine (unhide HSPW _ (Below.refl _ _).drew).mono ?_; rintro e XA ⟨rfl, hbA⟩; have hAA := hide (bstep (Below.refl _ _).drew hbA : Below w3.heap.size w3 XA); have kA := unhide HCJ XA (unhide hAA); clear hbA)
      | (go_at_call 48; refine (unhide HBLW _ (unhide hAA)).mono ?_; rintro e XB ⟨rfl, hbB⟩; have hBB := hide (bstep (unhide hAA) hbB); have kB := unhide HCJ XB (unhide hBB); clear hbB)
      | (go_at_call 56; refine (unhide HMV _ (unhide hBB)).mono ?_; rintro e XC ⟨p2, ⟨rfl, t1, t2, t3, t4, t5, t6⟩, t7, t8⟩; have kC : XC.cell? ⟨p.b, 4, none⟩ = some (.slice (some ⟨g3, 0, none⟩) s.nl p1.lc) ∧ XC.cell? ⟨g3, j, none⟩ = some (.pointer (some ⟨p1.fb j, 0, none⟩)) := (by
          have k4' := t1.c4
          obtain ⟨g', y1, -, -, y4⟩ := t1.at (j := j) (show j < s1.nl by omega)
          have y5 := y4 j (show j < s1.nl by omega)
          rw [t7, e31] at y1
          cases y1
          rw [t4, hb1', t7, t8, e31] at k4'
          rw [t6 j (by omega)] at y5
          refine ⟨?_, y5⟩
          have y6 : (s1.moved j (some s.nn) was ((s.lf j).pa ++ [(d, was)])).nl = s.nl := q2
          rw [y6] at k4'
          exact k4'); have HT1 := hide t1; have HT2' := hide t2; have HT3' := hide t3; have HT4 := hide t4; have HT5 := hide t5; have HT6 := hide t6; clear t1 t2 t3 t4 t5 t6 t7 t8))
  -- the new state
  obtain ⟨s2, hs2⟩ : ∃ s2, s2 = s1.moved j (some s.nn) was ((s.lf j).pa ++ [(d, was)]) := ⟨_, rfl⟩
  have T4 := unhide HT1
  have X4 := unhide HT2'
  have G4 := unhide HT3'
  have b4 := unhide HT4
  have I4 := unhide HT5
  have F4 := unhide HT6
  rw [← hs2] at T4 G4
  have n2 : s2.nn = s.nn + 1 := by rw [hs2]; exact q1
  have l2' : s2.nl = s.nl := by rw [hs2]; exact q2
  have d2 : s2.nd s.nn = ⟨(s.lf j).up, (s.lf j).an, (s.lf j).pa, d⟩ := by rw [hs2]; exact q3
  have K2 : s2.Ok := by rw [hs2]; exact (unhide HK1).moved (by omega) _ _ _ (fun u e => by cases e; omega)
  have X14 : Bx (p.has s) w XC := ((unhide HX13).trans (Bx.of (unhide hBB)) (fun _ _ h => h)).trans X4 fun k h1 hk => (unhide HG3 k hk).elim (hhas k) fun e => by have := (unhide HX2).size; omega
  have b4' : p2.b = p.b := b4.trans hb1'
  have z34 : w3.heap.size ≤ XC.heap.size := Nat.le_trans (unhide hBB).size X4.size
  have z03 : w.heap.size ≤ w3.heap.size := (unhide HX13).size
  have ibn : p2.ib s.nn = p1.ib s.nn := (I4 s.nn (by omega)).1
  have zsn : p2.sz s.nn ≤ 1 := by
    have h1 := (I4 s.nn (by omega)).2
    have h2 := unhide HZ3 s.nn (by rw [hnn]; exact Nat.le_refl _) (by omega)
    omega
  have HSPN := hide fun (X : World) (hX : Below XC.heap.size XC X) => tspell_any a2 c2 now X (((unhide HR2).rd X14).below hX) o2.1 (by omega)
  have HBLN := hide fun (X : World) (hX : Below XC.heap.size XC X) => below_any (T4.below hX) (i := s.nn) (by omega) now (by rw [d2]; show (s.lf j).pa.length ≤ _; omega)
  have HMS := hide fun (X : World) (hX : Below XC.heap.size XC X) => makeState_any (T4.below hX) K2 (some s.nn) now ((s.lf j).pa ++ [(d, now)]) aw cw l (((unhide HRW).rd X14).below hX) nw (by omega) (fun u e => by cases e; exact ⟨by omega, by unfold maxLen; omega⟩) o2 (by have := hX.size; omega) (by omega)
  rw [d2, ibn] at HBLN
  rw [b4', show (((s.lf j).pa ++ [(d, now)]).length) = (s.lf j).pa.length + 1 by simp] at HMS
  have HP : Hid (∀ (X : World) (p3 : Tp) (W' : World), Below XC.heap.size XC X → MkP B p2 s2 (s2.leaf (some s.nn) now ((s.lf j).pa ++ [(d, now)]) l) (fun p' => .pointer (some ⟨p'.fb s2.nl, 0, none⟩)) X (.returned (.pointer (some ⟨p3.fb s2.nl, 0, none⟩))) W' → W'.cell? ⟨p3.fb s2.nl, 3, none⟩ = some (.int .i64 (s.nl : Int)) ∧ ChT B p s (s.splD j d l was now) (.tuple #[.int .i64 (s.nl : Int), .int .i64 0]) w (.returned (.tuple #[.int .i64 (s.nl : Int), .int .i64 0])) W') := hide fun X p3 W' hX hM => by
    obtain ⟨p4, e, T5, X5, G5, b5, I5, -, -, -, -⟩ := hM
    have e' : p3.fb s2.nl = p4.fb s2.nl := by
      injection e with e; injection e with e; injection e with e; injection e
    have n3 : (s2.leaf (some s.nn) now ((s.lf j).pa ++ [(d, now)]) l).nn = s.nn + 1 := n2
    have l3 : (s2.leaf (some s.nn) now ((s.lf j).pa ++ [(d, now)]) l).nl = s.nl + 1 := by show s2.nl + 1 = _; omega
    have hsd : s.splD j d l was now = s2.leaf (some s.nn) now ((s.lf j).pa ++ [(d, now)]) l := by
      rw [hs2, unhide HSS1, unhide HS0]; rfl
    refine ⟨by rw [e']; have := T5.f3 (j := s2.nl) (by omega); rw [l2'] at this ⊢; exact this, ?_⟩
    rw [hsd]
    have hg : ∀ k, p4.has (s2.leaf (some s.nn) now ((s.lf j).pa ++ [(d, now)]) l) k → p.has s k ∨ w.heap.size ≤ k := fun k hk => by
      rcases G5 k hk with h1 | h1
      · rcases G4 k h1 with h2 | h2
        · rcases unhide HG3 k h2 with h3 | h3
          · exact .inl (hhas k h3)
          · right; have := (unhide HX2).size; omega
        · right; have := (unhide hBB).size; omega
      · right; have := hX.size; omega
    have hg2 : ∀ k, p2.has s2 k → p.has s k ∨ w.heap.size ≤ k := fun k h1 => by
      rcases G4 k h1 with h2 | h2
      · rcases unhide HG3 k h2 with h3 | h3
        · exact .inl (hhas k h3)
        · right; have := (unhide HX2).size; omega
      · right; have := (unhide hBB).size; omega
    refine ⟨p4, rfl, T5, (X14.trans (Bx.of hX) (fun _ _ h => h)).trans X5 fun k h1 hk => (hg2 k hk).elim id fun e => by omega, hg, b5.trans b4', fun k hk => ?_⟩
    rw [n3] at hk
    rw [l3]
    by_cases c : k = s.nn
    · subst c
      have := (I5 s.nn (by omega)).2
      omega
    · have h1 := (I5 k (by omega)).2
      have h2 := (I4 k (by omega)).2
      have h3 := (unhide HI3 k (by omega)).2
      have h4 := unhide HZ k (by omega)
      have h5 : p0.sz k = p.sz k := by rw [unhide HP0]
      omega
  clear hs2 T4 X4 G4 I4 F4 K2 X14 HT1 HT2' HT3' HT4 HT5 HT6 kA kB kC k4 kj3
  go_wp2_with (first
      | (go_at_call 45; refine (unhide HSPN _ (by first | exact Below.refl _ _ | exact (Below.refl _ _).drew)).mono ?_; rintro e XD ⟨rfl, hbD⟩; have hDD := hide hbD; clear hbD)
      | (go_at_call 48; refine (unhide HBLN _ (unhide hDD)).mono ?_; rintro e XE ⟨rfl, hbE⟩; have hEE := hide (bstep (unhide hDD) hbE); clear hbE)
      | fail)
  refine (unhide HMS _ (unhide hEE)).mono ?_
  rintro e XF hM
  obtain ⟨p3, he3, -⟩ := id hM
  subst he3
  obtain ⟨k3, hC⟩ := unhide HP XE p3 XF (unhide hEE) hM
  clear hM HP HMS l2' n2 d2 q1 q2 q3 q4 ibn zsn
  go_wp2
  go_ret2
  exact hC
end

end Go.Proofs.Ytlcablkhomnieaa
