/-
  The program's Put.
-/
import Derived.Test.YtemalidanjfmkaaNKeep
import Derived.Test.YtemalidanjfmkaaNCls
import Derived.Test.YtemalidanjfmkaaNFit
import Derived.Test.YtemalidanjfmkaaCheck
namespace Go.Proofs.Ytemalidanjfmkaa
open Go.RowKit

def PuPost (B b g : Nat) (c : Cs) (wd out : List Int) (w : World) (e : Ending) (w' : World) : Prop :=
  e = .returned (.int .i64 (putV c wd out).2) ∧ ∃ g' cap' R', Co B w' b g' cap' (putV c wd out).1 R' ∧ Bx (fun j => j = b ∨ j = g) w w' ∧ (g' = g ∨ w.heap.size ≤ g')
theorem fitC_or (c : Cs) (wd out : List Int) : fitC c wd out = 0 ∨ fitC c wd out = 100 := by
  unfold fitC chkA
  rw [if_neg (by simp), if_neg (by simp)]
  split
  · exact .inl rfl
  · exact .inr rfl
section
variable {B : Nat} {w w' : World} {b g cap : Nat} {c : Cs} {R : List En} {wd out : List Int}
theorem putV_1 (h : wdE wd c.k ≠ 0) : putV c wd out = (c, wdE wd c.k) := by unfold putV; rw [if_pos h]
theorem putV_2 (h : wdE wd c.k = 0) (h2 : fitC c wd out ≠ 0) : putV c wd out = (c, 100) := by
  have h3 := (fitC_or c wd out).resolve_left h2
  unfold putV fitC at *
  rw [if_neg (by omega), if_pos h2, h3]
theorem putV_3 (h : wdE wd c.k = 0) (h2 : fitC c wd out = 0) (h3 : clsV c wd out = true) : putV c wd out = (c, 111) := by
  unfold putV fitC at *
  rw [if_neg (by omega), if_neg (by omega), if_pos h3]
theorem putV_4 (h : wdE wd c.k = 0) (h2 : fitC c wd out = 0) (h3 : clsV c wd out = false) (h4 : c.most < ((frsV c wd).length : Int)) : putV c wd out = (c, 110) := by
  unfold putV fitC at *
  rw [if_neg (by omega), if_neg (by omega), if_neg (by rw [h3]; simp), if_pos h4]
theorem putV_5 (h : wdE wd c.k = 0) (h2 : fitC c wd out = 0) (h3 : clsV c wd out = false) (h4 : ((frsV c wd).length : Int) ≤ c.most) : (putV c wd out).2 = 0 := by
  unfold putV fitC at *
  rw [if_neg (by omega), if_neg (by omega), if_neg (by rw [h3]; simp), if_neg (by omega)]
theorem Co.same (h : Co B w b g cap c R) (hb : Below w.heap.size w w') {E : Int} (he : putV c wd out = (c, E)) : PuPost B b g c wd out w (.returned (.int .i64 E)) w' := by
  refine ⟨by rw [he], g, cap, R, by rw [he]; exact h.below hb, Bx.of hb, .inl rfl⟩
end

set_option maxRecDepth 100000 in
set_option maxHeartbeats 4000000 in
theorem put_gen {B : Nat} {w : World} {b g cap : Nat} {c : Cs} {R : List En} (a1 : Option Addr) (c1 : Nat) (wd : List Int) (a2 : Option Addr) (c2 : Nat) (out : List Int) (h : Co B w b g cap c R) (h1 : RdL .i64 w a1 wd) (h2 : RdL .i64 w a2 out) (l1 : wd.length ≤ maxLen) (l2 : out.length ≤ maxLen) (ha1 : wd.length ≠ 0 → ∀ x, a1 = some x → x.block < w.heap.size ∧ x.block ≠ b ∧ x.block ≠ g) (hB : B ≤ w.heap.size) :
    Calls Try.prog 15 #[.pointer (some ⟨b, 0, none⟩), .slice a1 wd.length c1, .slice a2 out.length c2] w fun e w' => PuPost B b g c wd out w e w' := by
  have hmd := isMade_any h
  have hck := check_any a1 wd.length c1 (fun i => wd.getD i 0) c.k w h1.rd l1
  have hft := cfits_any a1 c1 wd a2 c2 out h h2 l2
  have k1 := h.c1
  have HH := hide h
  have H1 := hide h1
  have H2 := hide h2
  have HA1 := hide ha1
  obtain ⟨ck, hcke⟩ : ∃ ck, ck = (chkV wd.length (fun i => wd.getD i 0) c.k).1 := ⟨_, rfl⟩
  rw [← hcke, show (chkV wd.length (fun i => wd.getD i 0) c.k).2 = wdE wd c.k from rfl] at hck
  clear h h1 h2 ha1 hcke
  go_enter Try.func15, Try.ntmps15
  go_wp2_with fail
  refine hmd.mono ?_
  rintro e w1 ⟨rfl, rfl⟩
  go_wp2_with fail
  refine hck.mono ?_
  rintro e w2 ⟨rfl, rfl⟩
  clear hmd hck k1
  by_cases hw0 : wdE wd c.k = 0
  rotate_left
  · have t0 : (wdE wd c.k != 0) = true := by simp [hw0]
    have HF := hide ((unhide HH).same (Below.refl _ _) (putV_1 (out := out) hw0))
    generalize wdE wd c.k = E at *
    clear hft hw0
    go_wp2
    go_ret
    exact unhide HF
  rw [hw0]
  have hiw := word_of_chk (show (chkV wd.length (fun i => wd.getD i 0) c.k).2 = 0 from hw0)
  have hlen : wd.length ≤ 4096 := hiw.2.2.1
  have HSY : Hid (∀ j, j < wd.length → 0 ≤ wd.getD j 0 ∧ wd.getD j 0 < 64) := fun j hj => by
    have h3 : 0 ≤ wd.getD j 0 ∧ wd.getD j 0 < c.k := hiw.2.2.2 j hj
    have h4 := (unhide HH).i.pc.k2
    exact ⟨h3.1, by omega⟩
  have HW0 := hide hw0
  clear hw0 hiw
  go_wp2_with fail
  refine hft.mono ?_
  rintro e w3 ⟨rfl, hb3⟩
  have h3 := (unhide HH).below hb3
  clear hft
  by_cases hf0 : fitC c wd out = 0
  rotate_left
  · have t0 : (fitC c wd out == 0) = false := by simp [hf0]
    have HF := hide ((unhide HH).same hb3 (putV_2 (unhide HW0) hf0))
    rw [t0]
    clear hf0 h3
    go_wp2
    go_ret
    exact unhide HF
  have t0 : (fitC c wd out == 0) = true := by simp [hf0]
  rw [t0]
  have HF0 := hide hf0
  have hout := chk_out (show chkA ⟨1, wd, ⟨c.kind, c.k, c.o, 0, [], []⟩⟩ ⟨1, out, []⟩ = 0 from hf0)
  have hnt := notes_any a1 c1 wd a2 c2 out h3 ((unhide H2).below hb3) (by omega) hout
  clear hf0 t0 h3 hout
  go_wp2_with fail
  refine hnt.mono ?_
  rintro e w4 ⟨vn, rfl, hn, hb4⟩
  have hb4' := bstep hb3 hb4
  have h4 := (unhide HH).below hb4'
  have hwk := walk_any R c g cap a1 c1 wd w4 h4.i.tr h4.row.1 ((unhide H1).below hb4') (by omega)
  have k4 := h4.c4
  obtain ⟨gn, cn, en, n1, n2, n3, n4, n5, n6⟩ := hn.pos ntC_len (false, 0) (by rw [ntL_len]; omega)
  rw [ntL_len] at en
  subst en
  have HN := hide hn
  clear hnt hn n5 n6 h4
  go_wp2_with fail
  refine hwk.mono ?_
  rintro e w5 ⟨vp, P, rfl, hP, hp, hb5⟩
  have hb5' := bstep hb4' hb5
  have h5 := (unhide HH).below hb5'
  obtain ⟨av, cv, ev, p1, p2, p3, p4, p5⟩ := hp.shape
  rw [ni_len] at ev p2
  subst ev
  have hn5 := (unhide HN).below hb5
  have hcl := clashes_any R g cap av cv P gn cn (ntL c.kind wd out) _ w5 h5.row.1 p4 (fun j hj => by rw [h5.i.tr.len]; exact (hP.1.at' j hj).1) (by rw [ntL_len]; exact hn5) (by rw [ntL_len]; exact hP.1.le) (by rw [ntL_len]; omega)
  rw [ntL_len] at hcl
  have k4 := h5.c4
  have HP := hide hP
  have HPO := hide hp
  have HCL : Hid (clJ R (ntL c.kind wd out) P P.length = clsV c wd out) := by
    show _ = _
    have hq := (unhide HH).i.clash hP (unhide HF0)
    have hple := hP.1.le
    cases hv : clsV c wd out with
    | true =>
      obtain ⟨i, hi, he⟩ := hq.1 hv
      exact clJ_hit hi (by rw [ntL_at (by omega)]; exact he)
    | false =>
      unfold clJ
      rw [List.any_eq_false]
      intro i hi he
      have hi' := List.mem_range.1 hi
      rw [ntL_at (by omega)] at he
      rw [hq.2 ⟨i, hi', he⟩] at hv
      cases hv
  rw [unhide HCL] at hcl
  have hpl := hP.1.pos
  have hple := hP.1.le
  clear hwk p4 h5 hP hp hn5
  go_wp2_with fail
  refine hcl.mono ?_
  rintro e w6 ⟨rfl, hb6⟩
  have hb6' := bstep hb5' hb6
  have h6 := (unhide HH).below hb6'
  clear hcl k4
  by_cases hc0 : clsV c wd out = true
  · have HF := hide ((unhide HH).same hb6' (putV_3 (unhide HW0) (unhide HF0) hc0))
    rw [hc0]
    clear hc0 h6
    go_wp2
    go_ret
    exact unhide HF
  have hc1 : clsV c wd out = false := by simpa using hc0
  rw [hc1]
  have k4 := h6.c4
  have k3 := h6.c3
  have hfl := frsV_len h6.i.tr (unhide HP)
  have hRl := h6.len
  have hRb := h6.i.tr.len
  have hmm := h6.i.pc.m1
  have HC1 := hide hc1
  have w1' : (R.length : Int) + ((wd.length + 1 : Nat) : Int) - (P.length : Int) = ((frsV c wd).length : Int) := by omega
  have HPB : Hid (∀ x, av = some x → w4.heap.size ≤ x.block ∧ x.block < w5.heap.size) := p5
  have HRB := hide hRb
  have HR0 := hide hRl.1
  have hR1 := hRl.2
  obtain ⟨F, hF⟩ : ∃ F, F = (frsV c wd).length := ⟨_, rfl⟩
  rw [← hF] at w1' hfl
  have HFE := hide hF
  have HFL := hide hfl
  clear hc0 hc1 hRb hRl hF hfl p5 p1 n1 n2 l1 l2
  by_cases hr : c.most < (F : Int)
  · have HF : Hid (∀ n, PuPost B b g c wd out w2 (.returned (.int .i64 110)) (w6.drewN n)) := fun n => (unhide HH).same (below_drewN hb6' n) (putV_4 (unhide HW0) (unhide HF0) (unhide HC1) (by rw [← unhide HFE]; exact hr))
    clear h6
    go_wp2
    go_quiet (fail)
    go_wp2
    go_ret
    exact unhide HF _
  · have hr' : (F : Int) ≤ c.most := by omega
    have HRR := hide hr'
    clear h6
    go_wp2
    go_quiet (fail)
    have hb7 : Below w2.heap.size w2 (w6.drewN nq) := below_drewN hb6' nq
    have hb57 : Below w5.heap.size w5 (w6.drewN nq) := below_drewN hb6 nq
    have h7 := (unhide HH).below hb7
    have z4 := hb4'.size
    have z5 := hb5.size
    have z3 := hb3.size
    have z6 := hb6.size
    have hblt := (unhide HH).blt
    have hglt := (unhide HH).glt.2
    have hn7 := ((unhide HN).below hb5).below hb57
    have hke := keep_any (Bp := w4.heap.size) av cv P a1 c1 wd out gn cn _ h7 (unhide HP) ((unhide HPO).grown hb57) ((unhide H1).below hb7) hn7 (by have := hb7.size; omega) (by have := hb57.size; omega) (by omega) (by omega) n4 (fun hz x ex => by
      have h9 := unhide HA1 hz x ex
      exact ⟨by omega, h9.2.1, h9.2.2⟩) ⟨by omega, by omega⟩ (by omega) (unhide HSY) (by rw [← unhide HFE]; exact unhide HRR)
    have HF : Hid (∀ e w8, KePost B b g (.slice av P.length cv) c R wd out (w6.drewN nq) e w8 → e = .returned (.tuple #[]) ∧ PuPost B b g c wd out w2 (.returned (.int .i64 0)) w8) := fun e w8 hp => by
      obtain ⟨he, g', cap', R', P', k1, k2, k3, k4, k5, k6⟩ := hp
      have hok : (putV c wd out).2 = 0 := putV_5 (unhide HW0) (unhide HF0) (unhide HC1) (by rw [← unhide HFE]; exact unhide HRR)
      refine ⟨he, by rw [hok], g', cap', R', ⟨?_, k1.r, Nts.end h7.i hok k2 k3 k4, k1.ne, k1.bB⟩, ?_, ?_⟩
      · rw [(put_ok hok).1]; exact k1.o
      · refine (Bx.of hb7).trans k5 fun j hj q => ?_
        rcases q with q | q | q
        · exact .inl q
        · exact .inr q
        · cases av with
          | none => cases q
          | some x =>
            have h9 := unhide HPB x rfl
            have h10 : x.block = j := by
              obtain ⟨xb, xo, xm⟩ := x
              have := ((unhide HPO).lt q).1
              omega
            omega
      · rcases k6 with q | q
        · exact .inl q
        · right; have := hb7.size; omega
    clear h7 hn7 z4 z5 z3 z6 hblt hglt hb57 k3
    go_wp2_with fail
    refine hke.mono ?_
    intro e w8 hp
    obtain ⟨rfl, hpp⟩ := unhide HF e w8 hp
    have HPP := hide hpp
    clear hp hpp hke HF
    go_wp2
    go_ret
    exact unhide HPP

theorem put_any {B : Nat} {w : World} {b g cap : Nat} {c : Cs} {R : List En} (a1 : Option Addr) (c1 : Nat) (wd : List Int) (a2 : Option Addr) (c2 : Nat) (out : List Int) (h : Co B w b g cap c R) (h1 : RdL .i64 w a1 wd) (h2 : RdL .i64 w a2 out) (l1 : wd.length ≤ maxLen) (l2 : out.length ≤ maxLen) (ha1 : ∀ x, a1 = some x → x.block < w.heap.size ∧ x.block ≠ b ∧ x.block ≠ g) (hB : B ≤ w.heap.size) :
    Calls Try.prog 15 #[.pointer (some ⟨b, 0, none⟩), .slice a1 wd.length c1, .slice a2 out.length c2] w fun e w' => PuPost B b g c wd out w e w' :=
  put_gen a1 c1 wd a2 c2 out h h1 h2 l1 l2 (fun _ => ha1) hB

end Go.Proofs.Ytemalidanjfmkaa
