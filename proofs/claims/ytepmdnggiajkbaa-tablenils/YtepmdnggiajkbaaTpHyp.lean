/-
  The program's Hypo: what a table supposes.
-/
import Derived.Test.YtepmdnggiajkbaaTpMac
import Derived.Test.YtepmdnggiajkbaaK39
import Derived.Test.YtepmdnggiajkbaaK41
namespace Go.Proofs.Ytepmdnggiajkbaa
set_option linter.unusedVariables false
open Go.RowKit

section
variable {B : Nat} {w w' : World} {p : Tl} {s : Ts} {t : Tb}
/-- What Hypo leaves. -/
def HyP (B : Nat) (p : Tl) (t : Tb) (w : World) (e : Ending) (w' : World) : Prop :=
  ∃ s' a1 c1 a2 c2, e = .returned (.tuple #[mval (hyT t).1 a1 c1 a2 c2, .int .i64 (hyT t).2]) ∧ OwnL .i64 3 w' w.heap.size (.slice a1 (hyT t).1.nx.length c1) (hyT t).1.nx ∧ OwnL .i64 3 w' w.heap.size (.slice a2 (hyT t).1.out.length c2) (hyT t).1.out ∧ Tab B w' p s' t ∧ Bx p.has w w'
theorem Tab.six (T : Tab B w p s t) {b : Nat} (hb : ¬ p.has b) (m : Mc) (d1 : Option Addr) (e1 : Nat) (d2 : Option Addr) (e2 : Nat) : Tab B (six w b m d1 e1 d2 e2) p s t :=
  ⟨T.o.keep fun i k e => six_heap w m d1 e1 d2 e2 (fun q => hb (by subst q; exact ⟨i, e⟩)), T.v, T.h, T.vw, Nat.le_trans T.b (six_below (B := b) (Below.refl _ _) (Nat.le_refl _) m d1 e1 d2 e2).size, T.ob, T.nf⟩
theorem Bx.six {X : Nat → Prop} {w1 : World} (h : Bx X w w1) {b : Nat} (hb : w.heap.size ≤ b) (m : Mc) (d1 : Option Addr) (e1 : Nat) (d2 : Option Addr) (e2 : Nat) : Bx X w (six w1 b m d1 e1 d2 e2) := by
  have h6 := six_below (B := b) (Below.refl b w1) (Nat.le_refl _) m d1 e1 d2 e2
  exact h.trans (Y := fun k => b ≤ k) ⟨h6.os, h6.tape, h6.output, h6.size, fun k _ hx => h6.block k (by omega)⟩ (fun j hj hy => by omega)
theorem hyp_zero {w1 : World} {s' : Ts} (T : Tab B w1 p s' t) (hX : Bx p.has w w1) (hb : ¬ p.has w.heap.size) (h : hyT t = (mc0, 7)) : HyP B p t w (.returned (.tuple #[mval mc0 none 0 none 0, .int .i64 7])) (Go.Proofs.Ytepmdnggiajkbaa.six w1 w.heap.size mc0 none 0 none 0) := by
  unfold HyP
  rw [h]
  exact ⟨s', none, 0, none, 0, rfl, OwnL.nil _ _ _ _, OwnL.nil _ _ _ _, T.six hb _ _ _ _ _, hX.six (Nat.le_refl _) _ _ _ _ _⟩
set_option maxRecDepth 100000 in
set_option maxHeartbeats 4000000 in
theorem hypo_any (T : Tab B w p s t) (K : Tok t) : Calls Try.prog 8 #[.pointer (some ⟨p.b, 0, none⟩)] w (HyP B p t w) := by
  have hbA := ballo w (.cells #[.int .i64 0, .int .i64 0, .int .i64 0, .int .i64 0, .slice none 0 0, .slice none 0 0] 27)
  have ZA := Box.alloc w mc0 none 0 none 0 27
  have zf : ∀ i, (w.alloc (.cells #[.int .i64 0, .int .i64 0, .int .i64 0, .int .i64 0, .slice none 0 0, .slice none 0 0] 27)).frozen? ⟨w.heap.size, i, none⟩ = false := fun i => by rw [frozen?_alloc_cells]; exact frz_new w (Nat.le_refl _)
  change Box (w.alloc (.cells #[.int .i64 0, .int .i64 0, .int .i64 0, .int .i64 0, .slice none 0 0, .slice none 0 0] 27)) _ _ _ _ _ _ at ZA
  have hsz : (w.alloc (.cells #[.int .i64 0, .int .i64 0, .int .i64 0, .int .i64 0, .slice none 0 0, .slice none 0 0] 27)).heap.size = w.heap.size + 1 := by simp
  have TA := T.below hbA
  have HNP : Hid (¬ p.has w.heap.size) := hide fun q => by have := (T.o.hlt q).2; omega
  have HK := hide K
  clear T K
  have hca := compareAll_any TA.o TA.v TA.h
  have HTA := hide TA
  have HBA := hide hbA
  have HZA := hide ZA
  have HZF := hide zf
  clear TA hbA ZA zf
  obtain ⟨wA, hwA⟩ : ∃ wA, wA = w.alloc (.cells #[.int .i64 0, .int .i64 0, .int .i64 0, .int .i64 0, .slice none 0 0, .slice none 0 0] 27) := ⟨_, rfl⟩
  rw [← hwA] at HTA HBA HZA HZF hca hsz
  have HFZ : Hid (∀ wE, Bx p.has wA wE → Box wE w.heap.size mc0 none 0 none 0 ∧ ∀ i, wE.frozen? ⟨w.heap.size, i, none⟩ = false) := hide fun wE hX => by
    obtain ⟨z0, z1, z2, z3, z4, z5⟩ := unhide HZA
    have hn := unhide HNP
    refine ⟨⟨hX.cell (p := ⟨w.heap.size, 0, none⟩) z0 hn, hX.cell (p := ⟨w.heap.size, 1, none⟩) z1 hn, hX.cell (p := ⟨w.heap.size, 2, none⟩) z2 hn, hX.cell (p := ⟨w.heap.size, 3, none⟩) z3 hn, hX.cell (p := ⟨w.heap.size, 4, none⟩) z4 hn, hX.cell (p := ⟨w.heap.size, 5, none⟩) z5 hn⟩, fun i => ?_⟩
    exact hX.frz' (by omega) hn (unhide HZF i)
  go_enter Try.func8, Try.ntmps8
  go_wp2_with fail
  rw [← hwA]
  refine hca.mono ?_
  clear hwA
  rintro e w1 ⟨s', r, rfl, k1, k2, k3, k4, k5, k6⟩
  have hr := (unhide HTA).vw.mis (unhide HTA).v k5
  have T1 := (unhide HTA).sv k1 k2 k3 k4
  have HX1 := hide k4
  cases r with
  | some v =>
    have he : hyT t = (mc0, 7) := by unfold hyT; rw [hr]; rfl
    obtain ⟨Z1, F1⟩ := unhide HFZ w1 k4
    have HP := hide (hyp_zero T1 ((Bx.of (X := p.has) (unhide HBA)).trans k4 (fun _ _ h => h)) (unhide HNP) he)
    obtain ⟨z0, z1, z2, z3, z4, z5⟩ := id Z1
    have HZ1 := hide Z1
    have g0 := F1 0
    have g1 := F1 1
    have g2 := F1 2
    have g3 := F1 3
    have g4 := F1 4
    have g5 := F1 5
    simp only [Option.isNone_some]
    clear k1 k2 k3 k4 k5 k6 hr T1 hca he Z1 F1
    go_wp2
    change bodyPost _ _ _ _ _ (Go.Proofs.Ytepmdnggiajkbaa.six w1 w.heap.size mc0 none 0 none 0)
    have Z2 : Box (Go.Proofs.Ytepmdnggiajkbaa.six w1 w.heap.size mc0 none 0 none 0) _ _ _ _ _ _ := (unhide HZ1).six mc0 none 0 none 0
    generalize Go.Proofs.Ytepmdnggiajkbaa.six w1 w.heap.size mc0 none 0 none 0 = w6 at *
    obtain ⟨q0, q1, q2, q3, q4, q5⟩ := Z2
    refine bodyPost_ret (v := .tuple #[mval mc0 none 0 none 0, .int .i64 7]) ?_ rfl (unhide HP)
    unfold mval
    simp [results, Try.results8, go_sem, q0, q1, q2, q3, q4, q5]
  | none =>
    have F := k6 rfl
    have hcb : ∀ i, i < s'.ls.length → (s'.ln i).cl ≤ 100000000 := fun i hi => by
      obtain ⟨G, g1, g2⟩ := k3.cl
      have := (g2 i hi).1
      have := k3.many T1.v
      omega
    have hop := open_any T1.o T1.v T1.vw.r1 hcb
    have HT1 := hide T1
    have HF := hide F
    have HR := hide hr
    simp only [Option.isNone_none]
    clear k1 k2 k3 k4 k5 k6 hr T1 hca hcb F
    go_wp2_with fail
    refine hop.mono ?_
    rintro e w2 ⟨z, rfl, hb2, h1, h2⟩
    have ho := (unhide HT1).vw.opn (unhide HT1).v (unhide HT1).h (unhide HF) (unhide HR) h1 h2
    have HT2 := hide ((unhide HT1).below hb2)
    have HX2 := hide (Bx.trans (unhide HX1) (Bx.of (X := p.has) hb2) (fun _ _ h => h))
    cases z with
    | some z =>
      have he : hyT t = (mc0, 7) := by unfold hyT; rw [ho]; simp
      simp only [Option.isSome_some]
      obtain ⟨Z1, F1⟩ := unhide HFZ w2 (unhide HX2)
      have HP := hide (hyp_zero (unhide HT2) ((Bx.of (X := p.has) (unhide HBA)).trans (unhide HX2) (fun _ _ h => h)) (unhide HNP) he)
      obtain ⟨z0, z1, z2, z3, z4, z5⟩ := id Z1
      have HZ1 := hide Z1
      have g0 := F1 0
      have g1 := F1 1
      have g2 := F1 2
      have g3 := F1 3
      have g4 := F1 4
      have g5 := F1 5
      clear he Z1 F1 h1 h2 ho hop hb2
      go_wp2
      change bodyPost _ _ _ _ _ (Go.Proofs.Ytepmdnggiajkbaa.six w2 w.heap.size mc0 none 0 none 0)
      have Z2 : Box (Go.Proofs.Ytepmdnggiajkbaa.six w2 w.heap.size mc0 none 0 none 0) _ _ _ _ _ _ := (unhide HZ1).six mc0 none 0 none 0
      generalize Go.Proofs.Ytepmdnggiajkbaa.six w2 w.heap.size mc0 none 0 none 0 = w6 at *
      obtain ⟨q0, q1, q2, q3, q4, q5⟩ := Z2
      refine bodyPost_ret (v := .tuple #[mval mc0 none 0 none 0, .int .i64 7]) ?_ rfl (unhide HP)
      unfold mval
      simp [results, Try.results8, go_sem, q0, q1, q2, q3, q4, q5]
    | none =>
      have HO := hide (show opnT t = none from ho)
      have htn := torn_any (unhide HT2).o (unhide HT2).v (unhide HT2).h (unhide HF) (unhide HT2).vw
      simp only [Option.isSome_none]
      clear h1 h2 ho hop hb2
      go_wp2_with fail
      refine htn.mono ?_
      clear htn
      rintro e w3 ⟨rfl, hb3⟩
      have HT3 := hide ((unhide HT2).below hb3)
      have HX3 := hide (Bx.trans (unhide HX2) (Bx.of (X := p.has) hb3) (fun _ _ h => h))
      have htr : trnT t = fs (trnJ t) t.rows.length := by unfold trnT; rw [unhide HR]; rfl
      cases q : fs (trnJ t) t.rows.length with
      | some u =>
        have he : hyT t = (mc0, 7) := by unfold hyT; rw [htr, q]; simp
        simp only [Option.isSome_some]
        obtain ⟨Z1, F1⟩ := unhide HFZ w3 (unhide HX3)
        have HP := hide (hyp_zero (unhide HT3) ((Bx.of (X := p.has) (unhide HBA)).trans (unhide HX3) (fun _ _ h => h)) (unhide HNP) he)
        obtain ⟨z0, z1, z2, z3, z4, z5⟩ := id Z1
        have HZ1 := hide Z1
        have g0 := F1 0
        have g1 := F1 1
        have g2 := F1 2
        have g3 := F1 3
        have g4 := F1 4
        have g5 := F1 5
        clear he Z1 F1 q htr hb3
        go_wp2
        change bodyPost _ _ _ _ _ (Go.Proofs.Ytepmdnggiajkbaa.six w3 w.heap.size mc0 none 0 none 0)
        have Z2 : Box (Go.Proofs.Ytepmdnggiajkbaa.six w3 w.heap.size mc0 none 0 none 0) _ _ _ _ _ _ := (unhide HZ1).six mc0 none 0 none 0
        generalize Go.Proofs.Ytepmdnggiajkbaa.six w3 w.heap.size mc0 none 0 none 0 = w6 at *
        obtain ⟨q0, q1, q2, q3, q4, q5⟩ := Z2
        refine bodyPost_ret (v := .tuple #[mval mc0 none 0 none 0, .int .i64 7]) ?_ rfl (unhide HP)
        unfold mval
        simp [results, Try.results8, go_sem, q0, q1, q2, q3, q4, q5]
      | none =>
        have he : hyT t = cnV (prM t) := by
          rw [cn_prM (unhide HK) (unhide HR) (unhide HO)]
          unfold hyT; rw [htr, q, unhide HR, unhide HO]; simp
        have HE := hide he
        have hmac := machine_any (unhide HT3) (unhide HF) (unhide HK) (unhide HR) (unhide HO)
        simp only [Option.isSome_none]
        clear q htr hb3 he
        go_wp2_with fail
        refine hmac.mono ?_
        clear hmac
        rintro e w4 ⟨v, rfl, a1, c1, a2, c2, rfl, o1, o2, -, hb4⟩
        obtain ⟨_, _, u1, -, u2, u3, u4, -⟩ := o1.shape
        injection u1 with u1 _ u5
        subst u1 u5
        obtain ⟨_, _, v1, -, v2, v3, v4, -⟩ := o2.shape
        injection v1 with v1 _ v5
        subst v1 v5
        have hcan := canon_any (prM t) a1 c1 a2 c2 w4 u4 v4 v2 (Nat.le_trans u2 u3) (Nat.le_trans v2 v3)
        rw [← unhide HE] at hcan
        have HT4 := hide ((unhide HT3).below hb4)
        have HX4 := hide (Bx.trans (unhide HX3) (Bx.of (X := p.has) hb4) (fun _ _ h => h))
        clear o1 o2 hb4 u2 u3 u4 v2 v3 v4
        go_wp2_with fail
        refine hcan.mono ?_
        clear hcan
        rintro e w5 ⟨d1, f1, d2, f2, rfl, r1, r2, -, hb5⟩
        have HT5 := hide ((unhide HT4).below hb5)
        have HX5 := hide (Bx.trans (unhide HX4) (Bx.of (X := p.has) hb5) (fun _ _ h => h))
        have hsz4 := (unhide HX4).size
        obtain ⟨Z1, F1⟩ := unhide HFZ w5 (unhide HX5)
        have e1 := (r1.keep fun j e => six_heap w5 (hyT t).1 d1 f1 d2 f2 (b := w.heap.size) (by have := (r1.lt e).1; omega)).mono (B' := w.heap.size) (by omega)
        have e2 := (r2.keep fun j e => six_heap w5 (hyT t).1 d1 f1 d2 f2 (b := w.heap.size) (by have := (r2.lt e).1; omega)).mono (B' := w.heap.size) (by omega)
        have HP : Hid (HyP B p t w (.returned (.tuple #[mval (hyT t).1 d1 f1 d2 f2, .int .i64 (hyT t).2])) (Go.Proofs.Ytepmdnggiajkbaa.six w5 w.heap.size (hyT t).1 d1 f1 d2 f2)) := hide ⟨s', d1, f1, d2, f2, rfl, e1, e2, (unhide HT5).six (unhide HNP) _ _ _ _ _, ((Bx.of (X := p.has) (unhide HBA)).trans (unhide HX5) (fun _ _ h => h)).six (Nat.le_refl _) _ _ _ _ _⟩
        obtain ⟨z0, z1, z2, z3, z4, z5⟩ := id Z1
        have HZ1 := hide Z1
        have g0 := F1 0
        have g1 := F1 1
        have g2 := F1 2
        have g3 := F1 3
        have g4 := F1 4
        have g5 := F1 5
        clear r1 r2 hb5 Z1 F1 e1 e2
        generalize hyT t = Y at *
        unfold mval
        go_wp2
        change bodyPost _ _ _ _ _ (Go.Proofs.Ytepmdnggiajkbaa.six w5 w.heap.size Y.1 d1 f1 d2 f2)
        have Z2 : Box (Go.Proofs.Ytepmdnggiajkbaa.six w5 w.heap.size Y.1 d1 f1 d2 f2) _ _ _ _ _ _ := (unhide HZ1).six Y.1 d1 f1 d2 f2
        generalize Go.Proofs.Ytepmdnggiajkbaa.six w5 w.heap.size Y.1 d1 f1 d2 f2 = w6 at *
        obtain ⟨q0, q1, q2, q3, q4, q5⟩ := Z2
        refine bodyPost_ret (v := .tuple #[mval Y.1 d1 f1 d2 f2, .int .i64 Y.2]) ?_ rfl (unhide HP)
        unfold mval
        simp [results, Try.results8, go_sem, q0, q1, q2, q3, q4, q5]
end

end Go.Proofs.Ytepmdnggiajkbaa
