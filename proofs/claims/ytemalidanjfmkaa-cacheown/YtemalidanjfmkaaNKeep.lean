/-
  The program's keep: what is known of a word's beginnings is noted down.
-/
import Derived.Test.YtemalidanjfmkaaNKp
import Derived.Deep.RegionLaw
namespace Go.Proofs.Ytemalidanjfmkaa
open Go.RowKit

/-- An empty list reads anywhere. -/
theorem RdL.bxz {q : IntKind} {w w' : World} {a : Option Addr} {l : List Int} {X : Nat → Prop} (h : RdL q w a l) (hb : Bx X w w') (hx : l.length ≠ 0 → ∀ x, a = some x → ¬ X x.block) : RdL q w' a l := by
  by_cases z : l.length = 0
  · exact .inl z
  · exact h.bx hb (hx z)
def KePost (B b g : Nat) (vp : Value) (c : Cs) (R : List En) (wd out : List Int) (w : World) (e : Ending) (w' : World) : Prop :=
  e = .returned (.tuple #[]) ∧ ∃ g' cap' R' P', Rw B w' b g' cap' c R' ∧ Pth (frsV c wd) wd P' ∧ P'.length = wd.length + 1 ∧ Nts c R wd out P' (wd.length + 1) R' ∧ Bx (fun j => j = b ∨ j = g ∨ vp.ownBlock = some j) w w' ∧ (g' = g ∨ w.heap.size ≤ g')

set_option maxRecDepth 100000 in
set_option maxHeartbeats 4000000 in
theorem keep_any {B Bp : Nat} {w : World} {b g cap : Nat} {c : Cs} {R : List En} (av : Option Addr) (cv : Nat) (P : List Nat) (a3 : Option Addr) (c3 : Nat) (wd out : List Int) (gn cn Bn : Nat) (h : Co B w b g cap c R) (hP : PthE c.bg wd P) (ho : OwnL .i64 3 w Bp (.slice av P.length cv) (ni P)) (hw : RdL .i64 w a3 wd)
    (hn : OwnG 85 2 ntC w Bn (.slice (some ⟨gn, 0, none⟩) (wd.length + 1) cn) (ntL c.kind wd out)) (hB : B ≤ w.heap.size) (hBp : Bp ≤ w.heap.size) (hb : b < Bp) (hg : g < Bp) (hgn : gn < Bp) (ha3 : wd.length ≠ 0 → ∀ x, a3 = some x → x.block < Bp ∧ x.block ≠ b ∧ x.block ≠ g) (hgn2 : gn ≠ b ∧ gn ≠ g)
    (hl : wd.length ≤ 1000000) (hsy : ∀ j, j < wd.length → 0 ≤ wd.getD j 0 ∧ wd.getD j 0 < 64) (hroom : ((frsV c wd).length : Int) ≤ c.most) :
    Calls Try.prog 41 #[.pointer (some ⟨b, 4, none⟩), .slice av P.length cv, .slice a3 wd.length c3, .slice (some ⟨gn, 0, none⟩) (wd.length + 1) cn] w fun e w' => KePost B b g (.slice av P.length cv) c R wd out w e w' := by
  have hpb : ∀ k, (Value.slice av P.length cv).ownBlock = some k → Bp ≤ k := fun k ek => (ho.lt ek).1
  have K0 : Kp B Bp w w b g (.slice av P.length cv) c R wd g cap R P (.slice av P.length cv) P.length := ⟨h.rw, by rw [hP.1.frs]; exact h.i.tr, by rw [hP.1.frs]; exact hP.1, rfl, ho, fun k ek => by have := hpb k ek; exact ⟨by omega, by omega⟩, fun y hy => ⟨hy, rfl, rfl⟩, fun y h1 h2 => by omega, Bx.refl _ _, .inl rfl, fun k ek => .inl ek⟩
  have HK0 := hide K0
  have HT := hide h.i.tr
  have HPE := hide hP
  have HSY := hide hsy
  have HM := hide h.i.pc.m1
  have HRM := hide hroom
  have HV : Hid (∀ wx, Bx (fun j => j = b ∨ j = g ∨ (Value.slice av P.length cv).ownBlock = some j) w wx → RdL .i64 wx a3 wd ∧ OwnG 85 2 ntC wx Bn (.slice (some ⟨gn, 0, none⟩) (wd.length + 1) cn) (ntL c.kind wd out)) := fun wx hx =>
    ⟨hw.bxz hx fun hz x ex => by
        have h1 := ha3 hz x ex
        rintro (q | q | q)
        · exact h1.2.1 q
        · exact h1.2.2 q
        · have := hpb _ q; omega, hn.keep fun k ek => by
        cases ek
        refine hx.block gn (hn.lt rfl).2 ?_
        rintro (q | q | q)
        · exact hgn2.1 q
        · exact hgn2.2 q
        · have := hpb _ q; omega⟩
  have hpos := hP.1.pos
  have hple := hP.1.le
  clear h hP ho hw hn ha3 hgn2 hsy hroom K0 hpb
  go_enter Try.func41, Try.ntmps41
  go_wp2
  go_loopw [1, 8] (fun v i wr => ∃ (j g1 cap1 : Nat) (R1 : List En) (P1 : List Nat), i = .int .i64 j ∧ j ≤ wd.length + 1 ∧ P.length ≤ j ∧ Hid (Kp B Bp w wr b g (.slice av P.length cv) c R wd g1 cap1 R1 P1 v j)) (fun _ i _ => wd.length + 1 - (intOf i).toNat)
  case atStart => exact ⟨P.length, g, cap, R, P, rfl, hple, Nat.le_refl _, HK0⟩
  case round =>
    obtain ⟨j, g1, cap1, R1, P1, rfl, hj, hj2, HK⟩ := hrel
    obtain ⟨av1, cv1, ev, -, hcv1, hcm1, hrd1, hbl1⟩ := (unhide HK).op.shape
    have hp1 := (unhide HK).pl
    rw [ni_len, hp1] at ev hcv1
    subst ev
    by_cases hlt : j ≤ wd.length
    · have hlt' : (j : Int) ≤ (wd.length : Int) := by omega
      have hv := unhide HV wr (unhide HK).bx
      obtain ⟨b3, off3, rfl, hc3⟩ := hv.1.at (i := j - 1) (by omega)
      have x3 := hc3 (j - 1) (by omega)
      obtain ⟨bp, offp, rfl, hcp⟩ := hrd1.at (i := j - 1) (by rw [ni_len]; omega)
      have xp := hcp (j - 1) (by rw [ni_len]; omega)
      rw [ni_at] at xp
      have e1 : (j : Int) - 1 = ((j - 1 : Nat) : Int) := by omega
      have hwr : IntKind.i64.wrap ((j - 1 : Nat) : Int) = ((j - 1 : Nat) : Int) := by rw [IntKind.wrap_i64]; omega
      have i1 : ((j - 1 : Nat) : Int) < (j : Int) := by omega
      have i2 : ((j - 1 : Nat) : Int) < (wd.length : Int) := by omega
      have hR1 : R1.length ≤ 1048576 := by
        have h1 := (unhide HK).tr.len
        have h2 := unhide HM
        have h3 := unhide HRM
        obtain ⟨n, hn⟩ : ∃ n, j = P.length + n := ⟨j - P.length, by omega⟩
        have h4 := frs_len (unhide HT) (unhide HPE) n (by omega)
        have h5 := frsV_len (unhide HT) (unhide HPE)
        rw [hn] at h1
        omega
      have hadd : Calls Try.prog 58 #[.pointer (some ⟨b, 4, none⟩), .int .i64 (P1.getD (j - 1) 0 : Nat), .int .i64 (wd.getD (j - 1) 0)] wr.drew fun e w' => AdPost B b g1 c R1 (P1.getD (j - 1) 0) (wd.getD (j - 1) 0) wr.drew e w' :=
        add_any (frs wd j c.bg) (P1.getD (j - 1) 0) (wd.getD (j - 1) 0) (unhide HK).drew.rw (unhide HK).tr (by rw [(unhide HK).tr.len]; exact ((unhide HK).pth.at' (j - 1) (by omega)).1) hR1 (by have := (unhide HK).bx.size; show B ≤ wr.heap.size; omega)
      have HAF : Hid (∀ e w1, AdPost B b g1 c R1 (P1.getD (j - 1) 0) (wd.getD (j - 1) 0) wr.drew e w1 → e = .returned (.int .i64 (R1.length : Int)) ∧ ∃ g2 cap2 R2, Ka B Bp w wr.drew w1 b g (.slice av P.length cv) c R wd R1 P1 (.slice (some ⟨bp, offp, none⟩) j cv1) j g2 cap2 R2) := fun e w1 hA => (unhide HK).drew.added (unhide HT) (unhide HPE) hj2 hlt (unhide HSY) hA
      have hnl : (ni P1).length = j := by rw [ni_len]; exact hp1
      have hBz : Bp ≤ wr.heap.size := by have := (unhide HK).bx.size; omega
      generalize P1.getD (j - 1) 0 = A at *
      generalize wd.getD (j - 1) 0 = X at *
      clear hc3 hcp hv hrd1 hp1 hbl1
      go_wp2
      go_region_law (first
        | (refine step_call3 rfl 58 (.tmp 20) (.tmp 25) (.tmp 30) #[96, 3, 3] rfl Try.func58 (by kernel_rfl) (by kernel_rfl) (.pointer (some ⟨b, 4, none⟩)) (.int .i64 (A : Nat)) (.int .i64 X) (by rfl) (by rfl) (by rfl) hadd ?_; intro e w1 hA; obtain ⟨rfl, g2, cap2, R2, hka⟩ := unhide HAF e w1 hA; refine ⟨_, rfl, ?_⟩; have HKA := hide hka; clear hA hka)
        | (refine step_pushA eInt rfl (.tmp 19) (.tmp 32) rfl Bp (.slice (some ⟨bp, offp, none⟩) j cv1) (ni P1) (by rfl) ((unhide HKA).op.alloc _) ⟨w1.heap.size, 0, none⟩ 1 [(R1.length : Int)] (by rfl) (RdL.one _ _) (by rw [hnl]; simp only [List.length_cons, List.length_nil]; omega) (by have := (unhide HKA).bx.size; simp; omega) ?_; intro v2 w2 ho2 hb2 hg2 hat2; have HKP := hide ((unhide HKA).pushed ho2 hg2 hat2); clear ho2 hb2 hg2 hat2))
      all_goals
        go_wp2
        go_roundw
        case rel => exact ⟨j + 1, g2, cap2, R2, P1 ++ [R1.length], by go_num, by omega, by omega, HKP⟩
        case measure => simp [intOf]; omega
    · obtain rfl : j = wd.length + 1 := by omega
      have hlt' : ¬ (((wd.length + 1 : Nat) : Int) ≤ (wd.length : Int)) := by omega
      have HN0 := hide ((unhide HK).notes (out := out))
      have HPT : Hid (Pth (frsV c wd) wd P1) := (unhide HK).pth
      have HRD : Hid (∀ wx, Bx (fun j => j = g1) wr wx → RdL .i64 wx av1 (ni P1)) := fun wx hx => hrd1.bx hx fun x ex q => by
        subst ex
        obtain ⟨k, hk, hk2⟩ : ∃ k, (Value.slice (some x) (wd.length + 1) cv1).ownBlock = some k ∧ k = x.block := ⟨x.block, rfl, rfl⟩
        exact ((unhide HK).dp k hk).2 (hk2.trans q)
      have HPL := hide hp1
      clear hrd1 hbl1 hp1 hcv1 hcm1 HK0 HSY HRM HM HPE HT
      go_wp2
      go_loopw [36] (fun i wx => ∃ (k : Nat) (R2 : List En), i = .int .i64 k ∧ k ≤ wd.length + 1 ∧ Hid (Knk B w wx b g (.slice av P.length cv) c R wd out g1 cap1 R2 P1 k) ∧ Hid (Bx (fun j => j = g1) wr wx)) (fun i _ => wd.length + 1 - (intOf i).toNat)
      case atStart => exact ⟨0, R1, rfl, Nat.zero_le _, HN0, Bx.refl _ _⟩
      case round =>
        obtain ⟨k, R2, rfl, hk, HKN, HBR⟩ := hrel
        have hkn := unhide HKN
        have HNX := hide (unhide HV wr hkn.bx).2
        by_cases hlt2 : k < wd.length + 1
        · have hlt3 : (k : Int) < ((wd.length + 1 : Nat) : Int) := by omega
          obtain ⟨bp, offp, rfl, hcp⟩ := (unhide HRD wr (unhide HBR)).at (i := k) (by rw [ni_len, unhide HPL]; exact hlt2)
          have xp := hcp k (by rw [ni_len, unhide HPL]; exact hlt2)
          rw [ni_at] at xp
          obtain ⟨y0, y1, -, -, -⟩ := note_cells2 (unhide HNX) (ntL_len _ _ _) hlt2
          rw [ntL_at hlt2] at y0 y1
          have hA : P1.getD k 0 < R2.length := by rw [hkn.nt.tr.len]; exact ((unhide HPT).at' k (by rw [unhide HPL]; exact hlt2)).1
          have hA' : ((P1.getD k 0 : Nat) : Int) < (R2.length : Int) := by omega
          obtain ⟨rr, -, -, hfz⟩ := hkn.rw.row (by omega)
          have r4 := rr.kn hA
          have r5 := rr.la hA
          have z4 := hfz (P1.getD k 0 * 6 + 4)
          have z5 := hfz (P1.getD k 0 * 6 + 5)
          have c4 := hkn.rw.c4
          obtain ⟨t1, ht1⟩ : ∃ t, t = (nta c.kind wd out k).1 := ⟨_, rfl⟩
          obtain ⟨t2, ht2⟩ : ∃ t, t = (nta c.kind wd out k).2 := ⟨_, rfl⟩
          rw [← ht1] at y0
          rw [← ht2] at y1
          cases t1 with
          | false =>
            have HS := hide (hkn.skip ht1.symm)
            clear hcp rr hfz hkn r4 r5 z4 z5 c4 y1 hA ht1 ht2
            generalize P1.getD k 0 = A at *
            go_wp2
            go_roundw
            case rel => exact ⟨k + 1, R2, by go_num, by omega, HS, HBR⟩
            case measure => simp [intOf]; omega
          | true =>
            have HS := hide (hkn.note (unhide HPT) (by rw [unhide HPL]; exact hlt2) ht1.symm (.bool true) (.int .i64 t2) (by rw [← ht1]) (by rw [← ht2]))
            clear hcp rr hfz hkn hA ht1 ht2
            generalize P1.getD k 0 = A at *
            generalize (ea R2 A).kn = o1 at *
            generalize (ea R2 A).la = o2 at *
            go_wp2
            go_region
            all_goals
              obtain ⟨R3, hk3, -⟩ := unhide HS
              have HK3 := hide hk3.drew
              have HB3 := hide ((((unhide HBR).setCell (p := ⟨g1, A * 6 + 4, none⟩) rfl (.bool true)).setCell (p := ⟨g1, A * 6 + 5, none⟩) rfl (.int .i64 t2)).drew)
              clear hk3 HS
              go_wp2
              go_roundw
              case rel => exact ⟨k + 1, R3, by go_num, by omega, HK3, HB3⟩
              case measure => simp [intOf]; omega
        · obtain rfl : k = wd.length + 1 := by omega
          have HF : Hid (KePost B b g (.slice av P.length cv) c R wd out w (.returned (.tuple #[])) wr) := ⟨rfl, g1, cap1, R2, P1, hkn.rw, unhide HPT, unhide HPL, hkn.nt, hkn.bx, hkn.hg⟩
          clear hkn
          go_wp2
          go_end0
          exact unhide HF

end Go.Proofs.Ytemalidanjfmkaa
