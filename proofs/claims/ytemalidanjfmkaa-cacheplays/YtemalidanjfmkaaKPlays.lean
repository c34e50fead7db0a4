/-
  The law CachePlays, walked: it returns true, whatever comes in.
-/
import Derived.Test.YtemalidanjfmkaaKKz
import Derived.Test.YtemalidanjfmkaaK31
import Derived.Deep.RegionHeld
namespace Go.Proofs.Ytemalidanjfmkaa
set_option linter.unusedVariables false
open Go.RowKit

set_option maxRecDepth 100000 in
set_option maxHeartbeats 16000000 in
theorem cachePlays_walk (kind k o most : Int) (al : Option Addr) (cl : Nat) (l : List Pa) (w : World) (_ : Fits kind) (_ : Fits k) (_ : Fits o) (_ : Fits most) (h : ArgPs w al cl l) (hcap : ∀ p ∈ l, p.c1 ≤ maxLen ∧ p.c2 ≤ maxLen) :
    Calls Try.prog 3 #[.int .i64 kind, .int .i64 k, .int .i64 o, .int .i64 most, .slice al l.length cl] w fun e w' => e = .returned (.bool true) ∧ Below w.heap.size w w' := by
  have hmu := much_any al cl l w h.rd
  have hnw := new_any kind k o most w
  have HH := hide h
  have HCP := hide hcap
  clear h hcap
  go_enter Try.func3, Try.ntmps3
  go_wp2_with fail
  refine hmu.mono ?_
  rintro e w1 ⟨mb, rfl, hmod, hw1⟩
  subst hw1
  clear hmu
  cases mb with
  | true =>
    clear hmod hnw
    go_wp2_with (go_at_call 10; refine (live_any _).mono ?_; rintro e w9 ⟨rfl, hb9⟩)
    go_ret
    exact ⟨rfl, hb9⟩
  | false =>
  have HMOD := hide (hmod rfl)
  clear hmod
  go_wp2_with fail
  refine hnw.mono ?_
  rintro e w3 ⟨hb3, hor⟩
  have hrn := rnewC_any kind k o most w3
  clear hnw
  have hl60 := (unhide HMOD).1
  rcases hor with ⟨hne, rfl⟩ | ⟨hne, b, g, cap, R, rfl, co3, hbb, hgg⟩
  · have t0 : (newE kind k o most != newE kind k o most) = false := by simp
    have t1 : (newE kind k o most != 0) = true := by simp [hne]
    go_wp2_with fail
    refine hrn.mono ?_
    rintro e w4 ⟨p, rfl, -, hb4⟩
    unfold cvV
    generalize newE kind k o most = E at *
    clear hne hrn
    go_wp2_with (first | (go_at_call 13; refine (num_any _ _).mono ?_; rintro e w' ⟨rfl, hw'⟩; subst w') | (go_at_call 10; refine (live_any _).mono ?_; rintro e w9 ⟨rfl, hb9⟩))
    go_ret
    exact ⟨rfl, bstep (bstep hb3 hb4) (bstep (ballo _ _) hb9)⟩
  have HC3 := hide co3
  have HB3 := hide hb3
  go_wp2_with fail
  refine hrn.mono ?_
  rintro e w4 ⟨p, rfl, hpp, hb4⟩
  obtain ⟨hcs, -, hok, hsx⟩ := hpp hne
  rw [hne]
  have HK0 : Hid (Kz w1 (w4.alloc (.cells #[.int .i64 p.kind, .int .i64 p.k, .int .i64 p.o, .int .i64 0, .slice none 0 0, .slice none 0 0, .int .i64 p.most, .slice p.aw p.ws.length p.cw, .slice p.ao p.os.length p.co, .slice p.ab p.bg.length p.cb, .int .i64 p.hits, .int .i64 p.miss] 34)) b g cap w4.heap.size (newV kind k o most) R p 0) := by
    have hlow := bstep hb3 hb4
    have hbl := co3.blt
    have hgl := co3.glt.2
    have hz := hb4.size
    refine ⟨(co3.below hb4).below (ballo _ _), Cb.alloc w4 p _, fun i => by rw [frozen?_alloc_cells]; exact frzN _ (by simp), hcs, hok, fun wz hz2 => ?_, by omega, by omega, hlow.size, Int.le_refl _, Int.le_refl _, Int.le_refl _, Int.le_refl _, Nat.le_refl _, balloc hlow _⟩
    refine hsx (fun j => j = b ∨ j = g) (fun j hj => by rcases hj with q | q <;> omega) wz ((Bx.of (ballo w4 _)).trans hz2 fun j hj q => ?_)
    rcases q with q | q | q
    · exact .inl q
    · exact .inr q
    · omega
  unfold cvV
  clear hrn hcs hok hsx hb4 hb3 co3 hpp hgg hne
  go_wp2_with (first | (go_at_call 13; refine (num_any _ _).mono ?_; rintro e w' ⟨rfl, hw'⟩; subst w'))
  obtain ⟨db, hdb⟩ : ∃ db, db = w4.heap.size := ⟨_, rfl⟩
  rw [← hdb] at HK0 ⊢
  clear hdb
  generalize w4.alloc (.cells #[.int .i64 p.kind, .int .i64 p.k, .int .i64 p.o, .int .i64 0, .slice none 0 0, .slice none 0 0, .int .i64 p.most, .slice p.aw p.ws.length p.cw, .slice p.ao p.os.length p.co, .slice p.ab p.bg.length p.cb, .int .i64 p.hits, .int .i64 p.miss] 34) = w5 at *
  go_loopw [15] (fun x wr => ∃ (t g cap : Nat) (c : Cs) (R : List En) (p : Cv), x = .int .i64 (t : Int) ∧ t ≤ l.length ∧ Hid (Kz w1 wr b g cap db c R p t)) (fun x _ => l.length - (intOf x).toNat)
  case atStart => exact ⟨0, g, cap, _, R, p, rfl, Nat.zero_le _, HK0⟩
  case round =>
    obtain ⟨t, g, cap, c, R, p, rfl, ht, HK⟩ := hrel
    have hpc := (unhide HK).cs
    subst hpc
    clear HK0 HC3 HB3
    by_cases hlt : t < l.length
    · have hlt' : (t : Int) < (l.length : Int) := by omega
      obtain ⟨lb, loff, rfl, hlc⟩ := ((unhide HH).rd.low (unhide HK).lo).at hlt
      have hmem : l[t] ∈ l := List.getElem_mem hlt
      have HPA := hide ((unhide HH).each _ hmem)
      have HPM := hide ((unhide HMOD).2 _ hmem)
      have HPC := hide (unhide HCP _ hmem)
      have HLT : Hid (∀ wx, Below w1.heap.size w1 wx → wx.cell? ⟨lb, loff + t * 3, none⟩ = some (.int .i64 l[t].an.kind) ∧ wx.cell? ⟨lb, loff + t * 3 + 1, none⟩ = some (.slice l[t].a1 l[t].an.out.length l[t].c1) ∧ wx.cell? ⟨lb, loff + t * 3 + 2, none⟩ = some (.slice l[t].a2 l[t].an.word.length l[t].c2)) := fun wx hx => by
        obtain ⟨lb', loff', e', hc'⟩ := ((unhide HH).rd.low hx).at hlt
        cases e'
        exact hc' t hlt
      generalize l[t] = q at *
      clear hlc hmem
      have hs0 : (wr.drew.cell? ⟨lb, loff + t * 3 + 1, none⟩ = some (.slice q.a1 q.an.out.length q.c1)) ∧ (wr.drew.cell? ⟨lb, loff + t * 3 + 2, none⟩ = some (.slice q.a2 q.an.word.length q.c2)) := (unhide HLT wr.drew (unhide HK).lo.drew).2
      have HLE : Hid (∀ wx, Below wr.heap.size wr wx → (wx.cell? ⟨lb, loff + t * 3 + 1, none⟩ = some (.slice q.a1 q.an.out.length q.c1)) ∧ (wx.cell? ⟨lb, loff + t * 3 + 2, none⟩ = some (.slice q.a2 q.an.word.length q.c2))) := fun wx hx => (unhide HLT wx ((unhide HK).lo.trans (hx.mono (unhide HK).lo.size))).2
      have HLW : Hid (∀ wx, Below wr.heap.size wr wx → Calls Try.prog 14 #[.slice q.a1 q.an.out.length q.c1] wx fun e w' => ∃ g cap, e = .returned (.slice (some ⟨g, 0, none⟩) q.an.out.length cap) ∧ LentL w' g cap q.an.out ∧ wx.heap.size ≤ g ∧ Below wx.heap.size wx w') := fun wx hx => lent_new q.a1 q.c1 q.an.out wx ((unhide HPA).out.rd.below ((unhide HK).lo.trans (hx.mono (unhide HK).lo.size))) (unhide HPA).out.nil (by have := (unhide HPM).2.1; omega)
      have HLO : Hid (∀ wx, Below wr.heap.size wr wx → Calls Try.prog 14 #[.slice q.a2 q.an.word.length q.c2] wx fun e w' => ∃ g cap, e = .returned (.slice (some ⟨g, 0, none⟩) q.an.word.length cap) ∧ LentL w' g cap q.an.word ∧ wx.heap.size ≤ g ∧ Below wx.heap.size wx w') := fun wx hx => lent_new q.a2 q.c2 q.an.word wx ((unhide HPA).word.rd.below ((unhide HK).lo.trans (hx.mono (unhide HK).lo.size))) (unhide HPA).word.nil (by have := (unhide HPM).2.2; omega)
      have hbd : Below wr.heap.size wr wr.drew := (Below.refl _ _).drew
      go_wp2
      go_region_held (fun wz => (wz.cell? ⟨lb, loff + t * 3 + 1, none⟩ = some (.slice q.a1 q.an.out.length q.c1)) ∧ (wz.cell? ⟨lb, loff + t * 3 + 2, none⟩ = some (.slice q.a2 q.an.word.length q.c2))) (first | exact hs2 | exact hs1 | exact hs0) (first | (go_at_call 14; have hmark := hbL1; refine (unhide HLO _ (bstep hbd hbL1)).mono ?_; rintro e wL2 ⟨g2, cp2, rfl, L2, hg2, hbL2⟩; have hs2 := unhide HLE wL2 (bstep (bstep hbd hbL1) hbL2)) | (go_at_call 14; refine (unhide HLW _ hbd).mono ?_; rintro e wL1 ⟨g1, cp1, rfl, L1, hg1, hbL1⟩; have hs1 := unhide HLE wL1 (bstep hbd hbL1)))
      have hx2 := bstep (bstep hbd hbL1) hbL2
      have HK2 := hide ((unhide HK).below hx2)
      have HG : Hid (wr.heap.size ≤ g1 ∧ g1 < wL2.heap.size ∧ wr.heap.size ≤ g2 ∧ g2 < wL2.heap.size) := by
        have q1 := L1.lt
        have q2 := L2.lt
        have q3 := hbL2.size
        have q4 := hbL1.size
        have q5 : wr.heap.size ≤ g1 := hg1
        exact ⟨q5, by omega, by have : wr.heap.size ≤ wL1.heap.size := q4; omega, q2⟩
      have HL1 := hide (L1.below hbL2)
      have HL2 := hide L2
      have HGK : Hid (b < wr.heap.size ∧ g < wr.heap.size ∧ db < wr.heap.size) := ⟨(unhide HK).co.blt, (unhide HK).co.glt.2, (unhide HK).dlt⟩
      have k0 := (unhide HLT wL2 (unhide HK2).lo).1
      have ht60 : t ≤ 59 := by omega
      clear hs0 hs1 hs2 HLE HLW HLO hbd hbL1 hbL2 L1 L2 hg1 hg2 HK hx2
      by_cases d0 : q.an.kind = 0
      · have e0 : (q.an.kind == 0) = true := by simp [d0]
        have hpu := put_gen (some ⟨g1, 0, none⟩) cp1 q.an.out (some ⟨g2, 0, none⟩) cp2 q.an.word (unhide HK2).co (unhide HL1).rd (unhide HL2).rd (by have := (unhide HPM).2.1; unfold maxLen; omega) (by have := (unhide HPM).2.2; unfold maxLen; omega) (fun _ x ex => by
          cases ex
          have q1 := unhide HG
          have q2 := unhide HGK
          refine ⟨?_, ?_, ?_⟩
          · show g1 < _; omega
          · show g1 ≠ _; omega
          · show g1 ≠ _; omega) (unhide HK2).lo.size
        clear d0
        go_wp2_with fail
        refine hpu.mono ?_
        rintro e w6 ⟨rfl, g6, cap6, R6, co6, bx6, hg6⟩
        have HCO6 := hide co6
        have HB6 := hide bx6
        have HG6 := hide hg6
        have HLO6 : Hid (Below w1.heap.size w1 w6) := (unhide HK2).lo.trans (bx6.below (fun j hj => by have q2 := (unhide HK2).co.bB; have q3 := (unhide HK2).co.glt.1; rcases hj with z | z <;> omega) (unhide HK2).lo.size)
        have HCB6 : Hid (Cb w6 db p) := (unhide HK2).cb.keepB (bx6.block db (unhide HK2).dlt (by have q2 := (unhide HK2).nb; have q3 := (unhide HK2).ng; rintro (z | z) <;> omega))
        have HRC6 : Hid (RdC w6 p) := (unhide HK2).sx w6 ⟨bx6.os, bx6.tape, bx6.output, bx6.size, fun j hj hn => bx6.block j hj (fun z => hn (z.elim .inl fun y => .inr (.inl y)))⟩
        have HFZ6 : Hid (∀ i, w6.frozen? ⟨db, i, none⟩ = false) := fun i => by
          have e := bx6.block db (unhide HK2).dlt (by have q2 := (unhide HK2).nb; have q3 := (unhide HK2).ng; rintro (z | z) <;> omega)
          have := (unhide HK2).fz i
          unfold World.frozen? at this ⊢
          rw [e]; exact this
        have HLA6 : Hid (LentL w6 g1 cp1 q.an.out) := (unhide HL1).bx bx6 (by
          have q1 := unhide HG
          have q2 := unhide HGK
          rintro (z | z) <;> omega)
        have HLB6 : Hid (LentL w6 g2 cp2 q.an.word) := (unhide HL2).bx bx6 (by
          have q1 := unhide HG
          have q2 := unhide HGK
          rintro (z | z) <;> omega)
        have HGW6 : Hid (wr.heap.size ≤ w6.heap.size) := by have := unhide HG; have := bx6.size; have q : w6.heap.size ≥ wL2.heap.size := this; show _ ≤ _; omega
        have hsm := (unhide HK2).small (by omega)
        have hs6 := (unhide HLT w6 (unhide HLO6)).2
        have HP6 : Hid (∀ X, Below w6.heap.size w6 X → Calls Try.prog 16 #[cvV p, .slice q.a1 q.an.out.length q.c1, .slice q.a2 q.an.word.length q.c2] X (PkPost X p (putV p.cs q.an.out q.an.word))) := fun X hX => rput_any p q.a1 q.c1 q.an.out q.a2 q.c2 q.an.word X ((unhide HRC6).below hX) ((unhide HPA).out.rd.below (bstep (unhide HLO6) hX)) ((unhide HPA).word.rd.below (bstep (unhide HLO6) hX)) (unhide HPM).2.1 (unhide HPM).2.2 (unhide HPA).out.le (unhide HPA).out.nil (unhide HPA).word.le (unhide HPA).word.nil (unhide HPC).1 (unhide HPC).2 (unhide HK2).ok hsm.1 hsm.2
        clear hpu co6 bx6 hg6 k0 e0 hsm
        go_wp2
        refine ka_region w6 lb loff l.length cl t db p q.a1 q.a2 q.c1 q.c2 q.an.out q.an.word _ _ _ _ _ _ _ _ _ _ _ _ _ _ _ _ _ _ _ _ _ _ _ _ _ _ _ _ _ _ _ _ _ _ _ _ _ _ _ _ _ _ _ _ _ _ _ _ _ _ _ _ _ _ _ _ _ _ _ _ _ _ _ _ _ _ _ _ _ _ _ _ _ _ _ _ _ _ _ _ _ _ _ _ _ _ _ _ _ _ _ _ _ _ _ _ _ _ _ _ _ _ _ _ _ _ _ _ _ _ _ _ _ _ _ _ _ _ _ _ _ _ _ _ _ _ _ _ _ _ _ _ _ _ _ _ _ _ _ _ _ _ _ _ _ _ _ _ _ _ _ _ _ _ _ _ _ _ _ _ _ _ _ _ _ _ _ _ _ _ _ _ _ _ _ _ _ _ _ _ _ _ _ _ _ _ _ _ _ _ _ _ _ _ _ _ _ _ _ _ _ _ _ _ _ hlt (unhide HCB6) hs6.1 hs6.2 (unhide HP6) ?_
        intro X u103 u104 u105 u106 u107 u108 u109 u110 u111 u112 u113 u114 u115 u116 u117 nb p7 hX hnx hcn hfn hcs7 hok7 hst7
        have HKB : Hid (Kz w1 (dozen X db p7) b g6 cap6 db (putV p.cs q.an.out q.an.word).1 R6 p7 (t + 1)) := (unhide HK2).put (unhide HCO6) (unhide HB6) (unhide HG6) hX hcs7 hok7 (fun Y h1 h2 wz hz => hst7 Y (fun j hj => .inl (h1 j hj)) h2 wz hz)
        have HLB1 : Hid (LentL (dozen X db p7) g1 cp1 q.an.out) := ((unhide HLA6).below hX).bx (dozen_bx1 X db p7) (by
          have q1 := unhide HG
          have q2 := unhide HGK
          show ¬ g1 = db; omega)
        have HLB2 : Hid (LentL (dozen X db p7) g2 cp2 q.an.word) := ((unhide HLB6).below hX).bx (dozen_bx1 X db p7) (by
          have q1 := unhide HG
          have q2 := unhide HGK
          show ¬ g2 = db; omega)
        have hcd := (unhide HCB6).below hX
        have hfd : ∀ i, X.frozen? ⟨db, i, none⟩ = false := fun i => frzO (unhide HFZ6 i) hX (by have q1 := unhide HGW6; have q2 := unhide HGK; omega)
        obtain ⟨y0, y1, y2, y3, y4, y5, y6, y7, y8, y9, y10, y11⟩ := hcn.twelve
        obtain ⟨z0, z1, z2, z3, z4, z5, z6, z7, z8, z9, z10, z11⟩ := hcd.twelve
        have f0 := hfd 0
        have f1 := hfd 1
        have f2 := hfd 2
        have f3 := hfd 3
        have f4 := hfd 4
        have f5 := hfd 5
        have f6 := hfd 6
        have f7 := hfd 7
        have f8 := hfd 8
        have f9 := hfd 9
        have f10 := hfd 10
        have f11 := hfd 11
        generalize (putV p.cs q.an.out q.an.word).2 = Z2 at *
        generalize (putV p.cs q.an.out q.an.word).1 = cB at *
        clear hcd hfd hcn hfn hst7 hX hnx hok7 hcs7 HP6 HLA6 HLB6 HCB6 HRC6 HFZ6 HCO6 HB6 HG6 hs6
        go_upto_region 23 with fail
        change Code.wp _ _ _ _ (dozen X db p7)
        generalize dozen X db p7 = wB at *
        clear y0 z0 f0 y1 z1 f1 y2 z2 f2 y3 z3 f3 y4 z4 f4 y5 z5 f5 y6 z6 f6 y7 z7 f7 y8 z8 f8 y9 z9 f9 y10 z10 f10 y11 z11 f11
        have t0 : (Z2 != Z2) = false := by simp
        go_wp2_with (first | (go_at_call 13; refine (num_any _ _).mono ?_; rintro e w' ⟨rfl, hw'⟩; subst w'))
        have HNM := hide (unhide HKB).nums
        have hcB := (unhide HKB).cb
        have hqB := (unhide HLT wB (unhide HKB).lo).2
        refine kd_region wB lb loff l.length cl t db b g1 g2 cp1 cp2 p7 q.a1 q.a2 q.c1 q.c2 q.an.out q.an.word _ _ _ _ _ _ _ _ _ _ _ _ _ _ _ _ _ _ _ _ _ _ _ _ _ _ _ _ _ _ _ _ _ _ _ _ _ _ _ _ _ _ _ _ _ _ _ _ _ _ _ _ _ _ _ _ _ _ _ _ _ _ _ _ _ _ _ _ _ _ _ _ _ _ _ _ _ _ _ _ _ _ _ _ _ _ _ _ _ _ _ _ _ _ _ _ _ _ _ _ _ _ _ _ _ _ _ _ _ _ _ _ _ _ _ _ _ _ _ _ _ _ _ _ _ _ _ _ _ _ _ _ _ _ _ _ _ _ _ _ _ _ _ _ _ _ _ _ _ _ _ _ _ _ _ _ _ _ _ _ _ _ _ _ _ _ _ _ _ _ _ _ _ _ _ _ _ _ _ _ _ _ _ _ _ _ _ _ _ _ _ _ _ _ _ _ _ _ _ _ _ _ hlt hcB hqB.1 hqB.2 (unhide HNM).1 (unhide HNM).2.1 (unhide HNM).2.2 (fun X hX => kept_list g1 cp1 q.c1 q.an.out q.a1 X ((unhide HLB1).below hX) ((unhide HPA).out.rd.below (bstep (unhide HKB).lo hX))) (fun X hX => kept_list g2 cp2 q.c2 q.an.word q.a2 X ((unhide HLB2).below hX) ((unhide HPA).word.rd.below (bstep (unhide HKB).lo hX))) ?_
        intro X9 u159 u160 u161 u162 u163 u164 u165 u166 u167 u168 u169 u170 u171 u172 u173 u174 u175 u176 u177 u178 u179 u180 u181 u182 u183 u184 u185 u186 u187 u188 u189 u190 u191 u192 u193 u194 u195 u196 u197 hX9
        have HKX := hide ((unhide HKB).below hX9)
        clear hcB hqB HNM HLB1 HLB2 HKB
        go_wp2
        go_roundw
        case rel => exact ⟨t + 1, g6, cap6, cB, R6, p7, by go_num, by omega, HKX⟩
        case measure => simp [intOf]; omega
      · have e0 : (q.an.kind == 0) = false := by simp [d0]
        by_cases d1 : q.an.kind = 1
        · have e1 : (q.an.kind == 1) = true := by simp [d1]
          have hgt := get_any (some ⟨g1, 0, none⟩) cp1 q.an.out (unhide HK2).co (unhide HL1).rd (by have := (unhide HPM).2.1; omega) (unhide HK2).h0 (by have := (unhide HK2).h1; omega) (unhide HK2).m0 (by have := (unhide HK2).m1; omega)
          clear d0 d1
          go_wp2_with fail
          refine hgt.mono ?_
          rintro e w6 ⟨co6, bx6, v6, rfl, ho6⟩
          obtain ⟨a6, c6, rfl, -, hle6, hcm6, rd6, hba6⟩ := ho6.shape
          have HCO6 := hide co6
          have HB6 := hide bx6
          have HRD6 := hide rd6
          have HYL : Hid (((findV p.cs q.an.out).getD []).length ≤ maxLen) := Nat.le_trans hle6 hcm6
          have HBA6 : Hid (∀ z, a6 = some z → db < z.block) := fun z hz => by
            have h1 := unhide HGK
            have h2 := unhide HG
            have h3 := (hba6 z hz).1
            omega
          have HLO6 : Hid (Below w1.heap.size w1 w6) := (unhide HK2).lo.trans (bx6.below (fun j hj => by have q2 := (unhide HK2).co.bB; cases hj; omega) (unhide HK2).lo.size)
          have HCB6 : Hid (Cb w6 db p) := (unhide HK2).cb.keepB (bx6.block db (unhide HK2).dlt (by have q2 := (unhide HK2).nb; intro z; exact q2 z))
          have HRC6 : Hid (RdC w6 p) := (unhide HK2).sx w6 (bx6.weak fun _ _ z => .inl z)
          have HFZ6 : Hid (∀ i, w6.frozen? ⟨db, i, none⟩ = false) := fun i => by
            have e := bx6.block db (unhide HK2).dlt (by have q2 := (unhide HK2).nb; intro z; exact q2 z)
            have := (unhide HK2).fz i
            unfold World.frozen? at this ⊢
            rw [e]; exact this
          have HLA6 : Hid (LentL w6 g1 cp1 q.an.out) := (unhide HL1).bx bx6 (by
            have q1 := unhide HG
            have q2 := unhide HGK
            intro z; omega)
          have HLB6 : Hid (LentL w6 g2 cp2 q.an.word) := (unhide HL2).bx bx6 (by
            have q1 := unhide HG
            have q2 := unhide HGK
            intro z; omega)
          have HGW6 : Hid (wr.heap.size ≤ w6.heap.size) := by have := unhide HG; have := bx6.size; have q : w6.heap.size ≥ wL2.heap.size := this; show _ ≤ _; omega
          have hs6 := (unhide HLT w6 (unhide HLO6)).2
          clear hgt co6 bx6 ho6 k0 e0 e1 rd6 hba6 hle6 hcm6
          go_wp2
          refine kb_region w6 lb loff l.length cl t db p q.a1 q.c1 q.an.out _ _ _ _ _ _ _ _ _ _ _ _ _ _ _ _ _ _ _ _ _ _ _ _ _ _ _ _ _ _ _ _ _ _ _ _ _ _ _ _ _ _ _ _ _ _ _ _ _ _ _ _ _ _ _ _ _ _ _ _ _ _ _ _ _ _ _ _ _ _ _ _ _ _ _ _ _ _ _ _ _ _ _ _ _ _ _ _ _ _ _ _ _ _ _ _ _ _ _ _ _ _ _ _ _ _ _ _ _ _ _ _ _ _ _ _ _ _ _ _ _ _ _ _ _ _ _ _ _ _ _ _ _ _ _ _ _ _ _ _ _ _ _ _ _ _ _ _ _ _ _ _ _ _ _ _ _ _ _ _ _ _ _ _ _ _ _ _ _ _ _ _ _ _ _ _ _ _ _ _ _ _ _ _ _ _ _ _ _ _ _ _ _ _ _ _ _ _ _ _ _ _ _ _ _ hlt (unhide HCB6) hs6.1 (unhide HRC6) ((unhide HPA).out.rd.below (unhide HLO6)) (by have := (unhide HPM).2.1; unfold maxLen; omega) ?_
          intro X u132 u133 u134 u135 u136 u137 u138 u131 u139 u140 u23 hX ⟨⟨xl, xa, xc⟩, hx1, hx2, hx3, hx4⟩
          subst hx1
          unfold laV
          cases hf : findV p.cs q.an.out with
          | none =>
            rw [hf] at hx2 HRD6 HYL
            simp only [Option.getD_none]
            have HCO7 : Hid (Co w1.heap.size w6 b g cap { p.cs with miss := p.cs.miss + 1 } R) := by have := unhide HCO6; unfold getV at this; rw [hf] at this; exact this
            clear HCO6
            have HCO6 := HCO7
            clear HCO7 hf
            have HKB : Hid (Kz w1 (X.setCell ⟨db, 11, none⟩ (.int .i64 (p.miss + 1))) b g cap db { p.cs with miss := p.cs.miss + 1 } R { p with miss := p.miss + 1 } (t + 1)) := (unhide HK2).missed (unhide HCO6) (unhide HB6) hX
            have hs1 : Bx (fun k => k = db) X (X.setCell ⟨db, 11, none⟩ (.int .i64 (p.miss + 1))) := Bx.setCell (X := fun k => k = db) (Bx.refl _ X) (p := ⟨db, 11, none⟩) rfl _
            have HLB1 : Hid (LentL (X.setCell ⟨db, 11, none⟩ (.int .i64 (p.miss + 1))) g1 cp1 q.an.out) := ((unhide HLA6).below hX).bx hs1 (by
              have q1 := unhide HG
              have q2 := unhide HGK
              show ¬ g1 = db; omega)
            have HLB2 : Hid (LentL (X.setCell ⟨db, 11, none⟩ (.int .i64 (p.miss + 1))) g2 cp2 q.an.word) := ((unhide HLB6).below hX).bx hs1 (by
              have q1 := unhide HG
              have q2 := unhide HGK
              show ¬ g2 = db; omega)
            have hxB := hx4.ok (w := (X.setCell ⟨db, 11, none⟩ (.int .i64 (p.miss + 1)))) (by have := (unhide HKB).rd; exact ⟨this.ws, this.os, this.bg, this.len, this.fit, this.lw, this.lb⟩) hx3.nil hx3.le hx3.cap
            have hoB : RdL .i64 (X.setCell ⟨db, 11, none⟩ (.int .i64 (p.miss + 1))) a6 [] := ((unhide HRD6).below hX).bx hs1 (by
              have q2 := unhide HGK
              have q3 := unhide HBA6
              intro z hz e
              have := q3 z hz
              have e' : z.block = db := e
              omega)
            have hln : [].length ≤ maxLen := unhide HYL
            have fz := frzO (unhide HFZ6 11) hX (by have q1 := unhide HGW6; have q2 := unhide HGK; omega)
            have pz := ((unhide HCB6).below hX).p11
            have HXB := hide hxB.rd
            have HOB := hide hoB
            have HLN := hide hln
            have hx2' : xl = [] := hx2
            subst hx2'
            clear hx2 hx3 hx4 hxB hoB hln hs1 hX HCB6 HRC6 HFZ6 HCO6 HB6 HLA6 HLB6 hs6 HRD6 HBA6 HYL
            have hcn0 : 0 ≤ p.miss := (unhide HK2).m0
            have hcn1 : p.miss ≤ (t : Int) := (unhide HK2).m1
            go_upto_region 31 with fail
            change Code.wp _ _ _ _ (X.setCell ⟨db, 11, none⟩ (.int .i64 (p.miss + 1)))
            generalize (X.setCell ⟨db, 11, none⟩ (.int .i64 (p.miss + 1))) = wS at *
            clear fz pz hcn0 hcn1
            have hsm := same_list a6 xa c6 xc [] [] wS (unhide HOB) (unhide HXB) (unhide HLN)
            rw [decide_eq_true rfl] at hsm
            go_wp2_with (first | (go_at_call 19; refine hsm.mono ?_; rintro e wB ⟨rfl, hbB⟩))
            have HKC : Hid (Kz w1 wB b g cap db { p.cs with miss := p.cs.miss + 1 } R { p with miss := p.miss + 1 } (t + 1)) := (unhide HKB).below hbB
            have HLC1 : Hid (LentL wB g1 cp1 q.an.out) := (unhide HLB1).below hbB
            have HLC2 : Hid (LentL wB g2 cp2 q.an.word) := (unhide HLB2).below hbB
            clear HKB HLB1 HLB2
            have HKB := HKC
            have HLB1 := HLC1
            have HLB2 := HLC2
            clear HKC HLC1 HLC2 hsm hbB HXB HOB HLN
            have HNM := hide (unhide HKB).nums
            have hcB := (unhide HKB).cb
            have hqB := (unhide HLT wB (unhide HKB).lo).2
            refine kd_region wB lb loff l.length cl t db b g1 g2 cp1 cp2 { p with miss := p.miss + 1 } q.a1 q.a2 q.c1 q.c2 q.an.out q.an.word _ _ _ _ _ _ _ _ _ _ _ _ _ _ _ _ _ _ _ _ _ _ _ _ _ _ _ _ _ _ _ _ _ _ _ _ _ _ _ _ _ _ _ _ _ _ _ _ _ _ _ _ _ _ _ _ _ _ _ _ _ _ _ _ _ _ _ _ _ _ _ _ _ _ _ _ _ _ _ _ _ _ _ _ _ _ _ _ _ _ _ _ _ _ _ _ _ _ _ _ _ _ _ _ _ _ _ _ _ _ _ _ _ _ _ _ _ _ _ _ _ _ _ _ _ _ _ _ _ _ _ _ _ _ _ _ _ _ _ _ _ _ _ _ _ _ _ _ _ _ _ _ _ _ _ _ _ _ _ _ _ _ _ _ _ _ _ _ _ _ _ _ _ _ _ _ _ _ _ _ _ _ _ _ _ _ _ _ _ _ _ _ _ _ _ _ _ _ _ _ _ _ hlt hcB hqB.1 hqB.2 (unhide HNM).1 (unhide HNM).2.1 (unhide HNM).2.2 (fun X hX => kept_list g1 cp1 q.c1 q.an.out q.a1 X ((unhide HLB1).below hX) ((unhide HPA).out.rd.below (bstep (unhide HKB).lo hX))) (fun X hX => kept_list g2 cp2 q.c2 q.an.word q.a2 X ((unhide HLB2).below hX) ((unhide HPA).word.rd.below (bstep (unhide HKB).lo hX))) ?_
            intro X9 u159 u160 u161 u162 u163 u164 u165 u166 u167 u168 u169 u170 u171 u172 u173 u174 u175 u176 u177 u178 u179 u180 u181 u182 u183 u184 u185 u186 u187 u188 u189 u190 u191 u192 u193 u194 u195 u196 u197 hX9
            have HKX := hide ((unhide HKB).below hX9)
            clear hcB hqB HNM HLB1 HLB2 HKB
            go_wp2
            go_roundw
            case rel => exact ⟨t + 1, g, cap, { p.cs with miss := p.cs.miss + 1 }, R, { p with miss := p.miss + 1 }, by go_num, by omega, HKX⟩
            case measure => simp [intOf]; omega
          | some y =>
            rw [hf] at hx2 HRD6 HYL
            simp only [Option.getD_some]
            have HCO7 : Hid (Co w1.heap.size w6 b g cap { p.cs with hits := p.cs.hits + 1 } R) := by have := unhide HCO6; unfold getV at this; rw [hf] at this; exact this
            clear HCO6
            have HCO6 := HCO7
            clear HCO7 hf
            have HKB : Hid (Kz w1 (X.setCell ⟨db, 10, none⟩ (.int .i64 (p.hits + 1))) b g cap db { p.cs with hits := p.cs.hits + 1 } R { p with hits := p.hits + 1 } (t + 1)) := (unhide HK2).hit (unhide HCO6) (unhide HB6) hX
            have hs1 : Bx (fun k => k = db) X (X.setCell ⟨db, 10, none⟩ (.int .i64 (p.hits + 1))) := Bx.setCell (X := fun k => k = db) (Bx.refl _ X) (p := ⟨db, 10, none⟩) rfl _
            have HLB1 : Hid (LentL (X.setCell ⟨db, 10, none⟩ (.int .i64 (p.hits + 1))) g1 cp1 q.an.out) := ((unhide HLA6).below hX).bx hs1 (by
              have q1 := unhide HG
              have q2 := unhide HGK
              show ¬ g1 = db; omega)
            have HLB2 : Hid (LentL (X.setCell ⟨db, 10, none⟩ (.int .i64 (p.hits + 1))) g2 cp2 q.an.word) := ((unhide HLB6).below hX).bx hs1 (by
              have q1 := unhide HG
              have q2 := unhide HGK
              show ¬ g2 = db; omega)
            have hxB := hx4.ok (w := (X.setCell ⟨db, 10, none⟩ (.int .i64 (p.hits + 1)))) (by have := (unhide HKB).rd; exact ⟨this.ws, this.os, this.bg, this.len, this.fit, this.lw, this.lb⟩) hx3.nil hx3.le hx3.cap
            have hoB : RdL .i64 (X.setCell ⟨db, 10, none⟩ (.int .i64 (p.hits + 1))) a6 y := ((unhide HRD6).below hX).bx hs1 (by
              have q2 := unhide HGK
              have q3 := unhide HBA6
              intro z hz e
              have := q3 z hz
              have e' : z.block = db := e
              omega)
            have hln : y.length ≤ maxLen := unhide HYL
            have fz := frzO (unhide HFZ6 10) hX (by have q1 := unhide HGW6; have q2 := unhide HGK; omega)
            have pz := ((unhide HCB6).below hX).p10
            have HXB := hide hxB.rd
            have HOB := hide hoB
            have HLN := hide hln
            have hx2' : xl = y := hx2
            subst hx2'
            clear hx2 hx3 hx4 hxB hoB hln hs1 hX HCB6 HRC6 HFZ6 HCO6 HB6 HLA6 HLB6 hs6 HRD6 HBA6 HYL
            have hcn0 : 0 ≤ p.hits := (unhide HK2).h0
            have hcn1 : p.hits ≤ (t : Int) := (unhide HK2).h1
            go_upto_region 31 with fail
            change Code.wp _ _ _ _ (X.setCell ⟨db, 10, none⟩ (.int .i64 (p.hits + 1)))
            generalize (X.setCell ⟨db, 10, none⟩ (.int .i64 (p.hits + 1))) = wS at *
            clear fz pz hcn0 hcn1
            have hsm := same_list a6 xa c6 xc xl xl wS (unhide HOB) (unhide HXB) (unhide HLN)
            rw [decide_eq_true rfl] at hsm
            go_wp2_with (first | (go_at_call 19; refine hsm.mono ?_; rintro e wB ⟨rfl, hbB⟩))
            have HKC : Hid (Kz w1 wB b g cap db { p.cs with hits := p.cs.hits + 1 } R { p with hits := p.hits + 1 } (t + 1)) := (unhide HKB).below hbB
            have HLC1 : Hid (LentL wB g1 cp1 q.an.out) := (unhide HLB1).below hbB
            have HLC2 : Hid (LentL wB g2 cp2 q.an.word) := (unhide HLB2).below hbB
            clear HKB HLB1 HLB2
            have HKB := HKC
            have HLB1 := HLC1
            have HLB2 := HLC2
            clear HKC HLC1 HLC2 hsm hbB HXB HOB HLN
            have HNM := hide (unhide HKB).nums
            have hcB := (unhide HKB).cb
            have hqB := (unhide HLT wB (unhide HKB).lo).2
            refine kd_region wB lb loff l.length cl t db b g1 g2 cp1 cp2 { p with hits := p.hits + 1 } q.a1 q.a2 q.c1 q.c2 q.an.out q.an.word _ _ _ _ _ _ _ _ _ _ _ _ _ _ _ _ _ _ _ _ _ _ _ _ _ _ _ _ _ _ _ _ _ _ _ _ _ _ _ _ _ _ _ _ _ _ _ _ _ _ _ _ _ _ _ _ _ _ _ _ _ _ _ _ _ _ _ _ _ _ _ _ _ _ _ _ _ _ _ _ _ _ _ _ _ _ _ _ _ _ _ _ _ _ _ _ _ _ _ _ _ _ _ _ _ _ _ _ _ _ _ _ _ _ _ _ _ _ _ _ _ _ _ _ _ _ _ _ _ _ _ _ _ _ _ _ _ _ _ _ _ _ _ _ _ _ _ _ _ _ _ _ _ _ _ _ _ _ _ _ _ _ _ _ _ _ _ _ _ _ _ _ _ _ _ _ _ _ _ _ _ _ _ _ _ _ _ _ _ _ _ _ _ _ _ _ _ _ _ _ _ _ hlt hcB hqB.1 hqB.2 (unhide HNM).1 (unhide HNM).2.1 (unhide HNM).2.2 (fun X hX => kept_list g1 cp1 q.c1 q.an.out q.a1 X ((unhide HLB1).below hX) ((unhide HPA).out.rd.below (bstep (unhide HKB).lo hX))) (fun X hX => kept_list g2 cp2 q.c2 q.an.word q.a2 X ((unhide HLB2).below hX) ((unhide HPA).word.rd.below (bstep (unhide HKB).lo hX))) ?_
            intro X9 u159 u160 u161 u162 u163 u164 u165 u166 u167 u168 u169 u170 u171 u172 u173 u174 u175 u176 u177 u178 u179 u180 u181 u182 u183 u184 u185 u186 u187 u188 u189 u190 u191 u192 u193 u194 u195 u196 u197 hX9
            have HKX := hide ((unhide HKB).below hX9)
            clear hcB hqB HNM HLB1 HLB2 HKB
            go_wp2
            go_roundw
            case rel => exact ⟨t + 1, g, cap, { p.cs with hits := p.cs.hits + 1 }, R, { p with hits := p.hits + 1 }, by go_num, by omega, HKX⟩
            case measure => simp [intOf]; omega
        · have e1 : (q.an.kind == 1) = false := by simp [d1]
          have HLO6 := hide (unhide HK2).lo
          have hs6 := (unhide HLT wL2 (unhide HLO6)).2
          clear d0 d1
          go_wp2
          refine kc_region wL2 lb loff l.length cl t db p q.a1 q.c1 q.an.out _ _ _ _ _ _ _ _ _ _ _ _ _ _ _ _ _ _ _ _ _ _ _ _ _ _ _ _ _ _ _ _ _ _ _ _ _ _ _ _ _ _ _ _ _ _ _ _ _ _ _ _ _ _ _ _ _ _ _ _ _ _ _ _ _ _ _ _ _ _ _ _ _ _ _ _ _ _ _ _ _ _ _ _ _ _ _ _ _ _ _ _ _ _ _ _ _ _ _ _ _ _ _ _ _ _ _ _ _ _ _ _ _ _ _ _ _ _ _ _ _ _ _ _ _ _ _ _ _ _ _ _ _ _ _ _ _ _ _ _ _ _ _ _ _ _ _ _ _ _ _ _ _ _ _ _ _ _ _ _ _ _ _ _ _ _ _ _ _ _ _ _ _ _ _ _ _ _ _ _ _ _ _ _ _ _ _ _ _ _ _ _ _ _ _ _ _ _ _ _ _ _ _ _ _ hlt (unhide HK2).cb hs6.1 (unhide HK2).rd ((unhide HPA).out.rd.below (unhide HLO6)) (by have := (unhide HPM).2.1; unfold maxLen; omega) ?_
          intro X u83 u84 u85 u86 u87 u88 u89 u82 u90 u91 u25 hX hdrop
          clear hdrop
          have hha := has_any (some ⟨g1, 0, none⟩) cp1 q.an.out ((unhide HK2).co.below hX) ((unhide HL1).rd.below hX) (by have := (unhide HPM).2.1; omega)
          generalize hfs : (findV p.cs q.an.out).isSome = fs at *
          have t0 : (fs != fs) = false := by simp
          clear hs6 e0 e1 k0
          go_wp2_with (first | (go_at_call 20; refine hha.mono ?_; rintro e wB ⟨rfl, hbB⟩))
          have HKB : Hid (Kz w1 wB b g cap db p.cs R p (t + 1)) := ((unhide HK2).below (bstep hX hbB)).next
          have HLB1 : Hid (LentL wB g1 cp1 q.an.out) := (unhide HL1).below (bstep hX hbB)
          have HLB2 : Hid (LentL wB g2 cp2 q.an.word) := (unhide HL2).below (bstep hX hbB)
          clear hha hbB hX t0
          have HNM := hide (unhide HKB).nums
          have hcB := (unhide HKB).cb
          have hqB := (unhide HLT wB (unhide HKB).lo).2
          refine kd_region wB lb loff l.length cl t db b g1 g2 cp1 cp2 p q.a1 q.a2 q.c1 q.c2 q.an.out q.an.word _ _ _ _ _ _ _ _ _ _ _ _ _ _ _ _ _ _ _ _ _ _ _ _ _ _ _ _ _ _ _ _ _ _ _ _ _ _ _ _ _ _ _ _ _ _ _ _ _ _ _ _ _ _ _ _ _ _ _ _ _ _ _ _ _ _ _ _ _ _ _ _ _ _ _ _ _ _ _ _ _ _ _ _ _ _ _ _ _ _ _ _ _ _ _ _ _ _ _ _ _ _ _ _ _ _ _ _ _ _ _ _ _ _ _ _ _ _ _ _ _ _ _ _ _ _ _ _ _ _ _ _ _ _ _ _ _ _ _ _ _ _ _ _ _ _ _ _ _ _ _ _ _ _ _ _ _ _ _ _ _ _ _ _ _ _ _ _ _ _ _ _ _ _ _ _ _ _ _ _ _ _ _ _ _ _ _ _ _ _ _ _ _ _ _ _ _ _ _ _ _ _ hlt hcB hqB.1 hqB.2 (unhide HNM).1 (unhide HNM).2.1 (unhide HNM).2.2 (fun X hX => kept_list g1 cp1 q.c1 q.an.out q.a1 X ((unhide HLB1).below hX) ((unhide HPA).out.rd.below (bstep (unhide HKB).lo hX))) (fun X hX => kept_list g2 cp2 q.c2 q.an.word q.a2 X ((unhide HLB2).below hX) ((unhide HPA).word.rd.below (bstep (unhide HKB).lo hX))) ?_
          intro X9 u159 u160 u161 u162 u163 u164 u165 u166 u167 u168 u169 u170 u171 u172 u173 u174 u175 u176 u177 u178 u179 u180 u181 u182 u183 u184 u185 u186 u187 u188 u189 u190 u191 u192 u193 u194 u195 u196 u197 hX9
          have HKX := hide ((unhide HKB).below hX9)
          clear hcB hqB HNM HLB1 HLB2 HKB
          go_wp2
          go_roundw
          case rel => exact ⟨t + 1, g, cap, p.cs, R, p, by go_num, by omega, HKX⟩
          case measure => simp [intOf]; omega
    · obtain rfl : t = l.length := by omega
      have hlt' : ¬ (l.length : Int) < (l.length : Int) := by omega
      have hsm := (unhide HK).small (by omega)
      have hbl : p.cs.bg.length ≤ maxLen := by
        have e : p.cs.bg.length = p.bg.length := laL_len p.bg
        rw [e]; unfold maxLen; omega
      have HSM := hide hbl
      clear hsm hbl
      go_wp2
      refine ke_region wr db b p p.cs _ _ _ _ _ _ _ _ _ _ _ _ _ _ _ _ _ _ _ _ _ _ _ _ _ _ _ _ _ _ _ _ _ _ _ _ _ _ _ _ _ _ _ _ _ _ _ _ _ _ _ _ _ _ _ _ _ _ _ _ _ _ _ _ _ _ _ _ _ _ _ _ _ _ _ _ _ _ _ _ _ _ _ _ _ _ _ _ _ _ _ _ _ _ _ _ _ _ _ _ _ _ _ _ _ _ _ _ _ _ _ _ _ _ _ _ _ _ _ _ _ _ _ _ _ _ _ _ _ _ _ _ _ _ _ _ _ _ _ _ _ _ _ _ _ _ _ _ _ _ _ _ _ _ _ _ _ _ _ _ _ _ _ _ _ _ _ _ _ _ _ _ _ _ _ _ _ _ _ _ _ _ _ _ _ _ _ _ _ _ _ _ _ _ _ _ _ _ _ _ _ _ _ _ _ _ (unhide HK).cb (unhide HSM) (fun X hX => words_any ((unhide HK).co.below hX)) (fun X hX => rlist_any p X ((unhide HK).rd.below hX) (unhide HK).co.i.tr.nd) ?_
      intro X u199 u200 u201 u202 u203 u204 u205 u206 hX
      have HLX := hide (bstep (unhide HK).lo hX)
      go_wp2
      go_ret
      exact ⟨rfl, unhide HLX⟩

end Go.Proofs.Ytemalidanjfmkaa
