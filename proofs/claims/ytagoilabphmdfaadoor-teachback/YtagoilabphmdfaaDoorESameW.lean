/-
  The reference's Same of layer 10: its contract.
-/
import Derived.Test.YtagoilabphmdfaaDoorESReg
namespace Go.Proofs.YtagoilabphmdfaaDoor
open Go.RowKit

set_option maxRecDepth 100000 in
set_option maxHeartbeats 4000000 in
theorem rsameA_any (a : Option Addr) (c : Nat) (l : List Pa) (a' : Option Addr) (c' : Nat) (k : List Pa) (w : World) (hr : RdPs w a l) (hr' : RdPs w a' k) (hm : ∀ p ∈ l, p.an.out.length ≤ maxLen ∧ p.an.word.length ≤ maxLen) (hl : l.length ≤ maxLen) :
    Calls Tryd.prog 12 #[.slice a l.length c, .slice a' k.length c'] w fun e w' => e = .returned (.bool (smL (anL l) (anL k))) ∧ Below w.heap.size w w' := by
  unfold maxLen at hl
  by_cases hlen : l.length = k.length
  rotate_left
  · have t1 : ((l.length : Int) != (k.length : Int)) = true := by simp; omega
    have H := hide (smL_ne (l := anL l) (k := anL k) (by simpa [anL] using hlen))
    go_enter Tryd.func12, Tryd.ntmps12
    go_wp2
    go_ret
    exact ⟨by rw [unhide H]; rfl, Below.refl _ _⟩
  have t1 : ((l.length : Int) != (k.length : Int)) = false := by simp; omega
  have HV := hide (show smL (anL l) (anL k) = smL ((anL l).drop 0) ((anL k).drop 0) by simp)
  have HL := hide hlen
  have HR := hide hr
  have HR' := hide hr'
  have HM := hide hm
  clear hlen hr hr' hm
  go_enter Tryd.func12, Tryd.ntmps12
  go_wp2
  go_loopw [5] (fun i wr => ∃ I : Nat, i = .int .i64 (I : Int) ∧ I ≤ l.length ∧ Below w.heap.size w wr ∧ Hid (smL (anL l) (anL k) = smL ((anL l).drop I) ((anL k).drop I))) (fun i _ => l.length - (intOf i).toNat)
  case atStart => exact ⟨0, rfl, Nat.zero_le _, Below.refl _ _, HV⟩
  case round =>
    obtain ⟨I, rfl, hI, hB, hv⟩ := hrel
    by_cases hlt : I < l.length
    · have hlt' : I < k.length := by have := unhide HL; omega
      obtain ⟨b, off, rfl, hc⟩ := (unhide HR).at hlt
      obtain ⟨b2, off2, rfl, hc'⟩ := (unhide HR').at hlt'
      have ra := (unhide HR).row l[I] (List.getElem_mem hlt)
      have rb := (unhide HR').row k[I] (List.getElem_mem hlt')
      obtain ⟨m1, m2⟩ := unhide HM l[I] (List.getElem_mem hlt)
      have HS := hide (show ∀ wz, Below w.heap.size w wz → ((wz.cell? ⟨b, off + I * 3, none⟩ = some (.int .i64 l[I].an.kind) ∧ wz.cell? ⟨b, off + I * 3 + 1, none⟩ = some (.slice l[I].a1 l[I].an.out.length l[I].c1) ∧ wz.cell? ⟨b, off + I * 3 + 2, none⟩ = some (.slice l[I].a2 l[I].an.word.length l[I].c2)) ∧ (wz.cell? ⟨b2, off2 + I * 3, none⟩ = some (.int .i64 k[I].an.kind) ∧ wz.cell? ⟨b2, off2 + I * 3 + 1, none⟩ = some (.slice k[I].a1 k[I].an.out.length k[I].c1) ∧ wz.cell? ⟨b2, off2 + I * 3 + 2, none⟩ = some (.slice k[I].a2 k[I].an.word.length k[I].c2))) from fun wz hz => by
        obtain ⟨x0, x1, x2⟩ := hc I hlt
        obtain ⟨y0, y1, y2⟩ := hc' I hlt'
        exact ⟨⟨(hz.cell (World.block_lt_of_cell? _ _ x0)).trans x0, (hz.cell (World.block_lt_of_cell? _ _ x1)).trans x1, (hz.cell (World.block_lt_of_cell? _ _ x2)).trans x2⟩, (hz.cell (World.block_lt_of_cell? _ _ y0)).trans y0, (hz.cell (World.block_lt_of_cell? _ _ y1)).trans y1, (hz.cell (World.block_lt_of_cell? _ _ y2)).trans y2⟩)
      have HC1 := hide (fun wz (hz : Below w.heap.size w wz) => same_list l[I].a1 k[I].a1 l[I].c1 k[I].c1 l[I].an.out k[I].an.out wz (ra.out.below hz) (rb.out.below hz) m1)
      have HC2 := hide (fun wz (hz : Below w.heap.size w wz) => same_list l[I].a2 k[I].a2 l[I].c2 k[I].c2 l[I].an.word k[I].an.word wz (ra.word.below hz) (rb.word.below hz) m2)
      have hs0 := unhide HS wr hB
      have HVN := hide ((unhide hv).trans (by rw [anL_drop hlt, anL_drop hlt', smL_cons]))
      clear hc hc' ra rb m1 m2 hv HV
      generalize hp : l[I] = P at *
      generalize hq : k[I] = Q at *
      clear hp hq
      have HQ := hide hs0
      have hx1 : smA P.an Q.an = !(((P.an.kind != Q.an.kind) || !(decide (P.an.out = Q.an.out))) || !(decide (P.an.word = Q.an.word))) := by
        unfold smA
        by_cases y1 : P.an.kind = Q.an.kind <;> by_cases y2 : P.an.out = Q.an.out <;> by_cases y3 : P.an.word = Q.an.word <;> simp [y1, y2, y3]
      have HX := hide hx1
      clear hx1 hs0
      go_wp2
      obtain ⟨⟨q1, q3, q5⟩, q2, q4, q6⟩ := unhide HQ
      refine sa_region _ b off b2 off2 l.length c k.length c' I P.an.kind Q.an.kind _ _ _ _ _ _ _ _ _ _ _ _ _ _ _ _ _ _ _ _ _ _ _ _ _ _ _ _ _ _ _ _ _ _ _ _ _ _ _ _ _ _ _ _ _ _ _ _ _ _ _ _ _ _ _ _ _ _ _ _ _ hlt hlt' q1 q2 q3 q4 q5 q6 rfl (fun X hX => unhide HC1 X (hB.trans (hX.mono hB.size))) (fun X hX => unhide HC2 X (hB.trans (hX.mono hB.size))) ?_
      intro X u17 u18 u19 u20 u21 u22 u23 u24 u25 u26 u27 u28 u29 u30 u31 u32 u33 u34 u35 u36 u37 u38 u39 u40 u41 u42 u43 u44 u45 u46 u47 u48 u49 u50 u51 u52 u53 u54 hX
      have hBX := hB.trans (hX.mono hB.size)
      clear q1 q2 q3 q4 q5 q6 HQ
      cases hr : (((P.an.kind != Q.an.kind) || !(decide (P.an.out = Q.an.out))) || !(decide (P.an.word = Q.an.word)))
      · have H := hide ((unhide HVN).trans (by rw [unhide HX, hr]))
        clear hr HX HVN
        go_wp2
        refine ⟨⟨I + 1, by simp, by omega, hBX, hide ?_⟩, ?_⟩
        · exact unhide H
        · show l.length - (intOf (.int .i64 ((I : Int) + 1))).toNat < l.length - (intOf (.int .i64 (I : Int))).toNat
          simp only [intOf]; omega
      · have H := hide ((unhide HVN).trans (by rw [unhide HX, hr]))
        clear hr HX HVN
        go_wp2
        go_ret
        exact ⟨by rw [unhide H]; rfl, hBX⟩
    · obtain rfl : I = l.length := by omega
      have H := hide (show smL (anL l) (anL k) = true by
        rw [unhide hv, List.drop_of_length_le (by simp [anL]), List.drop_of_length_le (by simp [anL]; have := unhide HL; omega)]; rfl)
      go_wp2
      go_ret
      exact ⟨by rw [unhide H]; rfl, hB⟩

end Go.Proofs.YtagoilabphmdfaaDoor
