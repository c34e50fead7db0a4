/-
  TeachBack, walked: for every input the call returns true.
-/
import Derived.Test.YtagoilabphmdfaaDoorHLive
import Derived.Test.YtagoilabphmdfaaDoorHWB
import Derived.Test.YtagoilabphmdfaaDoorHBk
import Derived.Test.YtagoilabphmdfaaDoorESameW
import Derived.Test.YtagoilabphmdfaaDoorTCv
import Derived.Deep.RegionHeldLaw
namespace Go.Proofs.YtagoilabphmdfaaDoor
set_option linter.unusedVariables false
open Go.RowKit

theorem back_blk {w w4 : World} {b : Nat} {o : Obj} (h : w4.heap[b]? = (w.drew.alloc o).heap[b]?) (hb : b < w.heap.size) : w4.heap[b]? = w.heap[b]? :=
  h.trans ((bstep ((Below.refl _ w).drew) (ballo _ o)).block b hb)

set_option maxRecDepth 100000 in
set_option maxHeartbeats 8000000 in
theorem teachBack_walk (a : Option Addr) (c : Nat) (bl : List Int) (al : Option Addr) (cl : Nat) (l : List Pa) (w : World) (hA : ArgL .u8 1 w a c bl) (h0 : ArgPs w al cl l) (g : Gp w) :
    Calls Tryd.prog 4 #[.slice a bl.length c, .slice al l.length cl] w fun e w' => e = .returned (.bool true) ∧ Below w.heap.size w w' := by
  obtain ⟨b, rfl⟩ := zs_of hA.fits
  have hrd := hA.rd
  have hnA := hA.nil
  rw [zs_len] at hnA ⊢
  have hhu := rhuge_any al cl l 4000 w h0.rd (by decide) (by decide)
  by_cases hl : (b.length : Int) > 20000
  · clear hhu
    go_enter Tryd.func4, Tryd.ntmps4
    go_wp2_with fail
    refine (live_any _).mono ?_
    rintro e wl ⟨rfl, hbl⟩
    go_wp2
    go_ret
    exact ⟨rfl, hbl⟩
  have hlb : b.length ≤ 20000 := by omega
  cases hhv : hugV 4000 (anL l)
  rotate_left
  · rw [hhv] at hhu
    clear hhv
    go_enter Tryd.func4, Tryd.ntmps4
    go_wp2_with fail
    refine hhu.mono ?_
    rintro e w1 ⟨rfl, rfl⟩
    go_wp2_with fail
    refine (live_any _).mono ?_
    rintro e wl ⟨rfl, hbl⟩
    go_wp2
    go_ret
    exact ⟨rfl, hbl⟩
  rw [hhv] at hhu
  have HBA := hide (back_all hhv)
  have HM4 := hide (show ∀ p ∈ l, p.an.out.length ≤ 4000 ∧ p.an.word.length ≤ 4000 from fun p hp => by
    have := hugV_each hhv p.an (List.mem_map_of_mem hp)
    omega)
  have hll : l.length ≤ 4000 := by
    have := (unhide HBA).2.1
    simpa [anL] using this
  have HRL := hide h0.rd
  have HGP := hide g
  have hps := tparse_any a c b w hrd (by unfold maxLen; omega)
  unfold PaPost at hps
  clear hhv h0 hA
  go_enter Tryd.func4, Tryd.ntmps4
  go_wp2_with fail
  refine hhu.mono ?_
  rintro e wn ⟨rfl, hwn⟩
  rw [hwn]
  clear hwn wn hhu
  go_wp2_with fail
  refine hps.mono ?_
  rintro e w1 ⟨a1, c1, l1, rfl, rd1, al1, ml1, hb1⟩
  clear hps
  have hpl := parV_len b
  by_cases hz : (parV b).2.1 = 0
  · obtain ⟨hw1, hw2, hw3⟩ := parV_was hz
    have hl1 : l1.length ≤ maxLen := by
      have : (anL l1).length = l1.length := by simp [anL]
      rw [al1] at this
      unfold maxLen
      omega
    have hsh := tshow_any a1 c1 l1 w1 rd1 (an9_fit (by rw [al1]; exact hw3)) hl1 ml1 (by rw [al1, hw1]; omega) (g.below hb1)
    rw [al1, hw1] at hsh
    rw [hz, hw2]
    clear hz hw1 hw2 hw3 hl1 hpl al1 ml1 rd1
    go_wp2_with fail
    refine (num_any 0 w1).mono ?_
    rintro e wn ⟨rfl, hwn⟩
    rw [hwn]
    clear hwn wn
    have tn : ((b.length : Int) != (b.length : Int)) = false := by simp
    go_wp2_with fail
    refine hsh.mono ?_
    rintro e w2 ⟨v2, rfl, o2, hb2⟩
    obtain ⟨g2, c2, rfl, hn2, -, -, rd2, -⟩ := o2.shape
    rw [zs_len] at hn2 ⊢
    have hbs := bsame_any g2 a c2 c b b w2 rd2 (hrd.below (bstep hb1 hb2)) hn2 hnA
    rw [show decide (b = b) = true by simp] at hbs
    have HBW := hide (bstep hb1 hb2)
    clear hsh o2 rd2 hn2 hb1 hb2
    go_wp2_with fail
    refine hbs.mono ?_
    rintro e wn ⟨rfl, hwn⟩
    rw [hwn]
    clear hwn wn hbs tn hrd hnA
    generalize g2 = g2' at *
    go_wp2
    go_loopw [8, 9] (fun pv iv wr => ∃ (ps : List Pa) (I : Nat), iv = .int .i64 (I : Int) ∧ I ≤ l.length ∧ Hid (OwnPs wr w2.heap.size pv ps) ∧ Hid (anL ps = ((anL l).take I).map mkB) ∧ Hid (∀ p ∈ ps, p.an.out.length ≤ maxLen ∧ p.an.word.length ≤ maxLen) ∧ Below w2.heap.size w2 wr) (fun _ iv _ => l.length - (intOf iv).toNat)
    case atStart => exact ⟨[], 0, rfl, Nat.zero_le _, hide (OwnPs.nil _ _), hide (by simp [anL]), hide (fun _ h => (by cases h)), Below.refl _ _⟩
    case round =>
      obtain ⟨ps, I, rfl, hI, HO, HV, HML, hB⟩ := hrel
      rename World => Wo
      have hsr := hB.size
      have hpl : ps.length = I := by
        have := congrArg List.length (unhide HV)
        simp [anL] at this
        omega
      have HPL := hide hpl
      have hpl' : ps.length ≤ 4000 := by omega
      clear hpl
      by_cases hlt : I < l.length
      · have hlt' : (I : Int) < (l.length : Int) := by omega
        have hBw := bstep (unhide HBW) hB
        obtain ⟨b', off, rfl, hc⟩ := (unhide HRL).at hlt
        obtain ⟨x0, x1, x2⟩ := hc I hlt
        have c0 := (hBw.cell (World.block_lt_of_cell? _ _ x0)).trans x0
        have c1 := (hBw.cell (World.block_lt_of_cell? _ _ x1)).trans x1
        have lb' : b' < w.heap.size := World.block_lt_of_cell? _ _ x0
        have rP := ((unhide HRL).row l[I] (List.getElem_mem hlt)).out
        have lP := (unhide HM4 l[I] (List.getElem_mem hlt)).1
        have HST := hide (show ((anL l).take (I + 1)).map mkB = ((anL l).take I).map mkB ++ [mkB l[I].an] by rw [List.take_succ_eq_append_getElem (by simpa [anL] using hlt), List.map_append]; simp [anL])
        generalize hp : l[I] = P at *
        clear hp hc x0 x1 x2
        have HRP := hide rP
        clear rP
        have hWs : w.heap.size ≤ Wo.heap.size := hBw.size
        by_cases hk : P.an.kind % 2 = 0
        · have hbit : bits .and .i64 P.an.kind 1 = 0 := by rw [i64_and1]; exact hk
          have HMK := hide (show mkB P.an = ⟨1, mo P.an P.an.out.length, []⟩ by unfold mkB; rw [if_pos hk, mo_all])
          clear hk
          have b1 := ballo Wo (.cells #[.int .i64 1, .slice none 0 0, .slice none 0 0] 35)
          have hW1 : (Wo.alloc (.cells #[.int .i64 1, .slice none 0 0, .slice none 0 0] 35)).heap.size = Wo.heap.size + 1 := by simp
          have HTR : Hid (Tri (Wo.alloc (.cells #[.int .i64 1, .slice none 0 0, .slice none 0 0] 35)) Wo.heap.size (.int .i64 1) (.slice none 0 0) (.slice none 0 0)) := ⟨by simp, by simp, by simp⟩
          have HFZ : Hid (∀ i, (Wo.alloc (.cells #[.int .i64 1, .slice none 0 0, .slice none 0 0] 35)).frozen? ⟨Wo.heap.size, i, none⟩ = false) := fun i => by rw [frozen?_alloc_cells]; exact frzN _ (Nat.le_refl _)
          have c01 := (b1.cell (World.block_lt_of_cell? _ _ c0)).trans c0
          have c11 := (b1.cell (World.block_lt_of_cell? _ _ c1)).trans c1
          go_wp2
          clear c0 c01
          generalize hW1e : (Wo.alloc (.cells #[.int .i64 1, .slice none 0 0, .slice none 0 0] 35)) = W1 at *
          clear hW1e
          go_loopw [11] (fun jv wr => ∃ (j : Nat) (ao : Option Addr) (co : Nat), j ≤ P.an.out.length ∧ jv = .int .i64 (j : Int) ∧ Hid (OwnL .i64 3 wr (Wo.heap.size + 1) (.slice ao (mo P.an j).length co) (mo P.an j)) ∧ Hid (Tri wr Wo.heap.size (.int .i64 1) (.slice ao (mo P.an j).length co) (.slice none 0 0)) ∧ Hid (∀ i, wr.frozen? ⟨Wo.heap.size, i, none⟩ = false) ∧ W1.grownBy wr (some Wo.heap.size)) (fun jv _ => P.an.out.length - (intOf jv).toNat)
          case atStart => exact ⟨0, none, 0, Nat.zero_le _, rfl, hide (by rw [mo_zero]; exact OwnL.nil _ _ _ _), hide (by rw [mo_zero]; exact unhide HTR), HFZ, gr_refl _ _⟩
          case round =>
            obtain ⟨j, ao, co, hj, rfl, HQ, HT, HZ, hgr⟩ := hrel
            have hs2 := hgr.size
            have hBr : Below Wo.heap.size Wo wr := below_gr b1 hgr (Nat.le_refl _) (by omega)
            have d1 : wr.cell? ⟨b', off + I * 3 + 1, none⟩ = some (.slice P.a1 P.an.out.length P.c1) := (hBr.cell (World.block_lt_of_cell? _ _ c1)).trans c1
            by_cases hjl : j < P.an.out.length
            · have hjl' : (j : Int) < (P.an.out.length : Int) := by omega
              obtain ⟨b5, off5, he5, hc5⟩ := ((unhide HRP).below (bstep hBw hBr)).at hjl
              rw [he5] at d1
              have dy := hc5 j hjl
              have hml : (mo P.an j).length ≤ 4000 := by rw [mo_len (a := P.an) (j := j) hj]; omega
              have HMS := hide (mo_succ hjl)
              obtain ⟨Y, hY⟩ : ∃ Y, Y = P.an.out.getD j 0 % 1024 := ⟨_, rfl⟩
              have hand : bits .and .i64 (P.an.out.getD j 0) 1023 = Y := by rw [i64_and1023, hY]
              rw [← hY] at HMS
              generalize P.an.out.getD j 0 = y at *
              have HHY := hide hY
              clear hY hc5
              obtain ⟨y0, y1, y2⟩ := unhide HT
              have lab : Wo.heap.size < wr.heap.size := by omega
              have y1a : (wr.drew.alloc (.cells #[.int .i64 Y] 3)).cell? ⟨Wo.heap.size, 1, none⟩ = some (.slice ao (mo P.an j).length co) := ((bstep ((Below.refl _ wr).drew) (ballo _ _)).cell lab).trans y1
              have J : OwnL .i64 3 wr.drew (Wo.heap.size + 1) (.slice ao (mo P.an j).length co) (mo P.an j) := (unhide HQ).drew
              have HJ := hide J
              clear J y0 y2
              go_wp2
              go_region_law (refine step_pushA eInt rfl (.tmp 76) (.tmp 86) rfl (Wo.heap.size + 1) (.slice ao (mo P.an j).length co) (mo P.an j) (by rfl) ((unhide HJ).alloc _) ⟨wr.heap.size, 0, none⟩ 1 [Y] (by rfl) (RdL.one _ _) (by simp only [List.length_cons, List.length_nil]; omega) (by simp; omega) ?_; intro v4 w4 ho4 hb4 hg4 hat4; obtain ⟨a4, c4, e4, -, -, -, -, -⟩ := ho4.shape; subst e4; have hblk4 : w4.heap[Wo.heap.size]? = wr.heap[Wo.heap.size]? := back_blk (hb4.block Wo.heap.size (Nat.lt_succ_self _)) lab; have T4 := (unhide HT).keepC hblk4; have F4 := frzC (unhide HZ) hblk4; have f41 := F4 1; obtain ⟨y4, y5, y6⟩ := T4)
              all_goals
                have T5 : Tri w4 Wo.heap.size (.int .i64 1) (.slice ao (mo P.an j).length co) (.slice none 0 0) := ⟨y4, y5, y6⟩
                have F5 := F4
                have O5 := ho4
                have hg5 : W1.grownBy w4 (some Wo.heap.size) := gr_belowB (gr_below hgr (bstep ((Below.refl _ wr).drew) (ballo _ _))) hb4 (by omega)
                clear f41 y1 y1a HT HZ HQ HJ
                go_wp2
                go_roundw
                case rel => exact ⟨j + 1, a4, c4, by omega, by go_num, hide (by rw [unhide HMS]; exact O5.gr (gr_set (gr_refl _ _) _ _) (Nat.lt_succ_self _)), hide (by rw [unhide HMS, List.length_append]; exact T5.set1 _), hide (frzD F5 _ _), gr_set hg5 _ _⟩
                case measure => simp [intOf]; omega
            · obtain rfl : j = P.an.out.length := by omega
              have hml : (mo P.an P.an.out.length).length ≤ 4000 := by rw [mo_len (Nat.le_refl _)]; omega
              generalize mo P.an P.an.out.length = X at *
              obtain ⟨y0, y1, y2⟩ := unhide HT
              obtain ⟨sa, sc, se, -, k1, k2, rX, sX⟩ := (unhide HQ).shape
              cases se
              have lab : Wo.heap.size < wr.heap.size := by omega
              have ba := ballo wr (.cells #[.int .i64 1, .slice ao X.length co, .slice none 0 0] 35)
              have OW := ((unhide HO).grown hBr).grown ba
              have hp : RdPa (wr.alloc (.cells #[.int .i64 1, .slice ao X.length co, .slice none 0 0] 35)) ⟨⟨1, X, []⟩, ao, co, none, 0⟩ := (show RdPa wr ⟨⟨1, X, []⟩, ao, co, none, 0⟩ from ⟨rX, .inl rfl⟩).below ba
              have hc : ∀ j, j < 3 → (wr.alloc (.cells #[.int .i64 1, .slice ao X.length co, .slice none 0 0] 35)).cell? ⟨wr.heap.size, j, none⟩ = (paC ⟨⟨1, X, []⟩, ao, co, none, 0⟩)[j]? := fun j hj => by
                rcases (by omega : j = 0 ∨ j = 1 ∨ j = 2) with rfl | rfl | rfl <;> simp [paC]
              have hBW2 : w2.heap.size ≤ (wr.alloc (.cells #[.int .i64 1, .slice ao X.length co, .slice none 0 0] 35)).heap.size := by simp; omega
              have ha : ∀ x, (Pa.a1 ⟨⟨1, X, []⟩, ao, co, none, 0⟩ = some x ∨ Pa.a2 ⟨⟨1, X, []⟩, ao, co, none, 0⟩ = some x) → u8.ownBlock ≠ some x.block ∧ x.block < (wr.alloc (.cells #[.int .i64 1, .slice ao X.length co, .slice none 0 0] 35)).heap.size := fun x hx => by
                rcases hx with e | e
                · have := sX x e
                  refine ⟨fun c => ?_, by simp; omega⟩
                  have := (World.ownsRow.lt (unhide HO).top _ c).2
                  omega
                · cases e
              have HVN := hide (show anL (ps ++ [⟨⟨1, X, []⟩, ao, co, none, 0⟩]) = ((anL l).take (I + 1)).map mkB by rw [unhide HST, unhide HMK, ← unhide HV]; simp [anL])
              have HMN := hide (show ∀ p ∈ ps ++ [⟨⟨1, X, []⟩, ao, co, none, 0⟩], p.an.out.length ≤ maxLen ∧ p.an.word.length ≤ maxLen from fun p hp => by
                rcases List.mem_append.1 hp with hp | hp
                · exact unhide HML p hp
                · rw [List.mem_singleton] at hp; subst hp; exact ⟨Nat.le_trans k1 k2, Nat.zero_le _⟩)
              have hBB := hB.trans ((hBr.mono hsr).trans (ba.mono (by omega)))
              clear c1 c11
              go_wp2_with (at_builtin; refine wpl_pushPs rfl (.tmp 89) (.tmp 91) rfl w2.heap.size u8 ps rfl OW ⟨⟨1, X, []⟩, ao, co, none, 0⟩ hp ha wr.heap.size 1 rfl hc (by omega) hBW2 ?_; intro v7 w7 ho7 hb7)
              go_roundw
              case rel => exact ⟨ps ++ [⟨⟨1, X, []⟩, ao, co, none, 0⟩], I + 1, by go_num, by omega, hide ho7, HVN, HMN, hBB.trans hb7⟩
              case measure => simp [intOf]; omega
        · have hk1 : P.an.kind % 2 = 1 := by omega
          have hbit : bits .and .i64 P.an.kind 1 = 1 := by rw [i64_and1]; exact hk1
          have HMK := hide (show mkB P.an = ⟨2, [], []⟩ by unfold mkB; rw [if_neg hk])
          clear hk hk1
          have b1 := ballo Wo (.cells #[.int .i64 2, .slice none 0 0, .slice none 0 0] 35)
          have c01 := (b1.cell (World.block_lt_of_cell? _ _ c0)).trans c0
          have ba := ballo (Wo.alloc (.cells #[.int .i64 2, .slice none 0 0, .slice none 0 0] 35)) (.cells #[.int .i64 2, .slice none 0 0, .slice none 0 0] 35)
          have OW := ((unhide HO).grown b1).grown ba
          have hp : RdPa ((Wo.alloc (.cells #[.int .i64 2, .slice none 0 0, .slice none 0 0] 35)).alloc (.cells #[.int .i64 2, .slice none 0 0, .slice none 0 0] 35)) ⟨⟨2, [], []⟩, none, 0, none, 0⟩ := (show RdPa _ ⟨⟨2, [], []⟩, none, 0, none, 0⟩ from ⟨.inl rfl, .inl rfl⟩).below ba
          have hc : ∀ j, j < 3 → ((Wo.alloc (.cells #[.int .i64 2, .slice none 0 0, .slice none 0 0] 35)).alloc (.cells #[.int .i64 2, .slice none 0 0, .slice none 0 0] 35)).cell? ⟨(Wo.alloc (.cells #[.int .i64 2, .slice none 0 0, .slice none 0 0] 35)).heap.size, j, none⟩ = (paC ⟨⟨2, [], []⟩, none, 0, none, 0⟩)[j]? := fun j hj => by
            rcases (by omega : j = 0 ∨ j = 1 ∨ j = 2) with rfl | rfl | rfl <;> simp [paC]
          have hBW2 : w2.heap.size ≤ ((Wo.alloc (.cells #[.int .i64 2, .slice none 0 0, .slice none 0 0] 35)).alloc (.cells #[.int .i64 2, .slice none 0 0, .slice none 0 0] 35)).heap.size := by simp; omega
          have ha : ∀ x, (Pa.a1 ⟨⟨2, [], []⟩, none, 0, none, 0⟩ = some x ∨ Pa.a2 ⟨⟨2, [], []⟩, none, 0, none, 0⟩ = some x) → u8.ownBlock ≠ some x.block ∧ x.block < ((Wo.alloc (.cells #[.int .i64 2, .slice none 0 0, .slice none 0 0] 35)).alloc (.cells #[.int .i64 2, .slice none 0 0, .slice none 0 0] 35)).heap.size := fun x hx => by
            rcases hx with e | e <;> cases e
          have HVN := hide (show anL (ps ++ [⟨⟨2, [], []⟩, none, 0, none, 0⟩]) = ((anL l).take (I + 1)).map mkB by rw [unhide HST, unhide HMK, ← unhide HV]; simp [anL])
          have HMN := hide (show ∀ p ∈ ps ++ [⟨⟨2, [], []⟩, none, 0, none, 0⟩], p.an.out.length ≤ maxLen ∧ p.an.word.length ≤ maxLen from fun p hp => by
            rcases List.mem_append.1 hp with hp | hp
            · exact unhide HML p hp
            · rw [List.mem_singleton] at hp; subst hp; exact ⟨Nat.zero_le _, Nat.zero_le _⟩)
          have hBB := hB.trans ((bstep b1 ba).mono hsr)
          have hz1 : (Wo.alloc (.cells #[.int .i64 2, .slice none 0 0, .slice none 0 0] 35)).heap.size = Wo.heap.size + 1 := by simp
          rw [hz1] at hc
          go_wp2_with (at_builtin; refine wpl_pushPs rfl (.tmp 89) (.tmp 91) rfl w2.heap.size u8 ps rfl OW ⟨⟨2, [], []⟩, none, 0, none, 0⟩ hp ha (Wo.heap.size + 1) 1 rfl hc (by omega) hBW2 ?_; intro v7 w7 ho7 hb7)
          go_roundw
          case rel => exact ⟨ps ++ [⟨⟨2, [], []⟩, none, 0, none, 0⟩], I + 1, by go_num, by omega, hide ho7, HVN, HMN, hBB.trans hb7⟩
          case measure => simp [intOf]; omega
      · obtain rfl : I = l.length := by omega
        have hal : anL ps = (anL l).map mkB := by rw [unhide HV, List.take_of_length_le (by simp [anL])]
        obtain ⟨hbk, hlen, hsh⟩ := unhide HBA
        rw [← hal] at hbk hlen hsh
        have hpv := parV_back hbk (by omega) (by omega)
        obtain ⟨a5, c5, rfl, rdP⟩ := (unhide HO).rd
        have hpl5 : ps.length ≤ maxLen := by unfold maxLen; omega
        clear HPL
        have hsw := fun wz (hz : Below Wo.heap.size Wo wz) => tshow_any a5 c5 ps wz (rdP.below hz) (an9_fit fun a ha => (hbk a ha).nine) hpl5 (unhide HML) (by omega) ((unhide HGP).below (bstep (bstep (unhide HBW) hB) hz))
        have HSW := hide hsw
        have h1 := unhide HSW Wo (Below.refl _ _)
        have HBo := hide (bstep (unhide HBW) hB)
        have HRD := hide rdP
        have hT := hsh
        clear hsw rdP hsh HV
        obtain ⟨L, hLe⟩ : ∃ L, L = anL ps := ⟨_, rfl⟩
        rw [← hLe] at hbk hlen hT hpv HSW h1
        have HLE : Hid (anL ps = L) := hLe.symm
        clear hLe hal
        generalize shA L = T at *
        go_wp2_with fail
        refine h1.mono ?_
        rintro e wa ⟨va, rfl, oa, hba⟩
        obtain ⟨ga, ca, rfl, hna, -, -, rda, -⟩ := oa.shape
        rw [zs_len] at hna ⊢
        have hp2 := tparse_any ga ca T wa rda (by unfold maxLen; omega)
        unfold PaPost at hp2
        rw [hpv] at hp2
        dsimp only at hp2
        clear h1 oa
        go_wp2_with fail
        refine hp2.mono ?_
        rintro e wb ⟨ab, cb, lb, rfl, rdb, alb, mlb, hbb⟩
        clear hp2
        go_wp2_with fail
        refine (num_any 0 wb).mono ?_
        rintro e wn ⟨rfl, hwn⟩
        rw [hwn]
        clear hwn wn
        have h2 := unhide HSW wb (bstep hba hbb)
        have te : ((T.length : Int) == (T.length : Int)) = true := by simp
        go_wp2_with fail
        refine h2.mono ?_
        rintro e wc ⟨vc, rfl, oc, hbc⟩
        obtain ⟨gc, cc, rfl, -, -, -, -, -⟩ := oc.shape
        rw [zs_len]
        have hll : lb.length ≤ maxLen := by
          have : (anL lb).length = lb.length := by simp [anL]
          rw [alb] at this
          unfold maxLen
          omega
        have hsm := rsameA_any ab cb lb a5 c5 ps wc (rdb.below hbc) ((unhide HRD).below (bstep (bstep hba hbb) hbc)) mlb hll
        rw [alb, unhide HLE, smL_self] at hsm
        clear h2 oc
        go_wp2_with fail
        refine hsm.mono ?_
        rintro e wd ⟨rfl, hbd⟩
        clear hsm
        go_wp2_with fail
        refine (live_any _).mono ?_
        rintro e wl ⟨rfl, hbl⟩
        go_wp2
        go_ret
        exact ⟨rfl, bstep (unhide HBo) (bstep (bstep (bstep hba hbb) hbc) (bstep hbd hbl))⟩
  · have tz : ((parV b).2.1 == 0) = false := by simpa using hz
    clear hz hpl al1 ml1 rd1 hrd hnA
    generalize parV b = R at *
    go_wp2_with fail
    refine (num_any R.2.1 w1).mono ?_
    rintro e wn ⟨rfl, hwn⟩
    rw [hwn]
    clear hwn wn
    have HBW := hide hb1
    clear hb1
    go_wp2
    go_loopw [8, 9] (fun pv iv wr => ∃ (ps : List Pa) (I : Nat), iv = .int .i64 (I : Int) ∧ I ≤ l.length ∧ Hid (OwnPs wr w1.heap.size pv ps) ∧ Hid (anL ps = ((anL l).take I).map mkB) ∧ Hid (∀ p ∈ ps, p.an.out.length ≤ maxLen ∧ p.an.word.length ≤ maxLen) ∧ Below w1.heap.size w1 wr) (fun _ iv _ => l.length - (intOf iv).toNat)
    case atStart => exact ⟨[], 0, rfl, Nat.zero_le _, hide (OwnPs.nil _ _), hide (by simp [anL]), hide (fun _ h => (by cases h)), Below.refl _ _⟩
    case round =>
      obtain ⟨ps, I, rfl, hI, HO, HV, HML, hB⟩ := hrel
      rename World => Wo
      have hsr := hB.size
      have hpl : ps.length = I := by
        have := congrArg List.length (unhide HV)
        simp [anL] at this
        omega
      have HPL := hide hpl
      have hpl' : ps.length ≤ 4000 := by omega
      clear hpl
      by_cases hlt : I < l.length
      · have hlt' : (I : Int) < (l.length : Int) := by omega
        have hBw := bstep (unhide HBW) hB
        obtain ⟨b', off, rfl, hc⟩ := (unhide HRL).at hlt
        obtain ⟨x0, x1, x2⟩ := hc I hlt
        have c0 := (hBw.cell (World.block_lt_of_cell? _ _ x0)).trans x0
        have c1 := (hBw.cell (World.block_lt_of_cell? _ _ x1)).trans x1
        have lb' : b' < w.heap.size := World.block_lt_of_cell? _ _ x0
        have rP := ((unhide HRL).row l[I] (List.getElem_mem hlt)).out
        have lP := (unhide HM4 l[I] (List.getElem_mem hlt)).1
        have HST := hide (show ((anL l).take (I + 1)).map mkB = ((anL l).take I).map mkB ++ [mkB l[I].an] by rw [List.take_succ_eq_append_getElem (by simpa [anL] using hlt), List.map_append]; simp [anL])
        generalize hp : l[I] = P at *
        clear hp hc x0 x1 x2
        have HRP := hide rP
        clear rP
        have hWs : w.heap.size ≤ Wo.heap.size := hBw.size
        by_cases hk : P.an.kind % 2 = 0
        · have hbit : bits .and .i64 P.an.kind 1 = 0 := by rw [i64_and1]; exact hk
          have HMK := hide (show mkB P.an = ⟨1, mo P.an P.an.out.length, []⟩ by unfold mkB; rw [if_pos hk, mo_all])
          clear hk
          have b1 := ballo Wo (.cells #[.int .i64 1, .slice none 0 0, .slice none 0 0] 35)
          have hW1 : (Wo.alloc (.cells #[.int .i64 1, .slice none 0 0, .slice none 0 0] 35)).heap.size = Wo.heap.size + 1 := by simp
          have HTR : Hid (Tri (Wo.alloc (.cells #[.int .i64 1, .slice none 0 0, .slice none 0 0] 35)) Wo.heap.size (.int .i64 1) (.slice none 0 0) (.slice none 0 0)) := ⟨by simp, by simp, by simp⟩
          have HFZ : Hid (∀ i, (Wo.alloc (.cells #[.int .i64 1, .slice none 0 0, .slice none 0 0] 35)).frozen? ⟨Wo.heap.size, i, none⟩ = false) := fun i => by rw [frozen?_alloc_cells]; exact frzN _ (Nat.le_refl _)
          have c01 := (b1.cell (World.block_lt_of_cell? _ _ c0)).trans c0
          have c11 := (b1.cell (World.block_lt_of_cell? _ _ c1)).trans c1
          go_wp2
          clear c0 c01
          generalize hW1e : (Wo.alloc (.cells #[.int .i64 1, .slice none 0 0, .slice none 0 0] 35)) = W1 at *
          clear hW1e
          go_loopw [11] (fun jv wr => ∃ (j : Nat) (ao : Option Addr) (co : Nat), j ≤ P.an.out.length ∧ jv = .int .i64 (j : Int) ∧ Hid (OwnL .i64 3 wr (Wo.heap.size + 1) (.slice ao (mo P.an j).length co) (mo P.an j)) ∧ Hid (Tri wr Wo.heap.size (.int .i64 1) (.slice ao (mo P.an j).length co) (.slice none 0 0)) ∧ Hid (∀ i, wr.frozen? ⟨Wo.heap.size, i, none⟩ = false) ∧ W1.grownBy wr (some Wo.heap.size)) (fun jv _ => P.an.out.length - (intOf jv).toNat)
          case atStart => exact ⟨0, none, 0, Nat.zero_le _, rfl, hide (by rw [mo_zero]; exact OwnL.nil _ _ _ _), hide (by rw [mo_zero]; exact unhide HTR), HFZ, gr_refl _ _⟩
          case round =>
            obtain ⟨j, ao, co, hj, rfl, HQ, HT, HZ, hgr⟩ := hrel
            have hs2 := hgr.size
            have hBr : Below Wo.heap.size Wo wr := below_gr b1 hgr (Nat.le_refl _) (by omega)
            have d1 : wr.cell? ⟨b', off + I * 3 + 1, none⟩ = some (.slice P.a1 P.an.out.length P.c1) := (hBr.cell (World.block_lt_of_cell? _ _ c1)).trans c1
            by_cases hjl : j < P.an.out.length
            · have hjl' : (j : Int) < (P.an.out.length : Int) := by omega
              obtain ⟨b5, off5, he5, hc5⟩ := ((unhide HRP).below (bstep hBw hBr)).at hjl
              rw [he5] at d1
              have dy := hc5 j hjl
              have hml : (mo P.an j).length ≤ 4000 := by rw [mo_len (a := P.an) (j := j) hj]; omega
              have HMS := hide (mo_succ hjl)
              obtain ⟨Y, hY⟩ : ∃ Y, Y = P.an.out.getD j 0 % 1024 := ⟨_, rfl⟩
              have hand : bits .and .i64 (P.an.out.getD j 0) 1023 = Y := by rw [i64_and1023, hY]
              rw [← hY] at HMS
              generalize P.an.out.getD j 0 = y at *
              have HHY := hide hY
              clear hY hc5
              obtain ⟨y0, y1, y2⟩ := unhide HT
              have lab : Wo.heap.size < wr.heap.size := by omega
              have y1a : (wr.drew.alloc (.cells #[.int .i64 Y] 3)).cell? ⟨Wo.heap.size, 1, none⟩ = some (.slice ao (mo P.an j).length co) := ((bstep ((Below.refl _ wr).drew) (ballo _ _)).cell lab).trans y1
              have J : OwnL .i64 3 wr.drew (Wo.heap.size + 1) (.slice ao (mo P.an j).length co) (mo P.an j) := (unhide HQ).drew
              have HJ := hide J
              clear J y0 y2
              go_wp2
              go_region_law (refine step_pushA eInt rfl (.tmp 76) (.tmp 86) rfl (Wo.heap.size + 1) (.slice ao (mo P.an j).length co) (mo P.an j) (by rfl) ((unhide HJ).alloc _) ⟨wr.heap.size, 0, none⟩ 1 [Y] (by rfl) (RdL.one _ _) (by simp only [List.length_cons, List.length_nil]; omega) (by simp; omega) ?_; intro v4 w4 ho4 hb4 hg4 hat4; obtain ⟨a4, c4, e4, -, -, -, -, -⟩ := ho4.shape; subst e4; have hblk4 : w4.heap[Wo.heap.size]? = wr.heap[Wo.heap.size]? := back_blk (hb4.block Wo.heap.size (Nat.lt_succ_self _)) lab; have T4 := (unhide HT).keepC hblk4; have F4 := frzC (unhide HZ) hblk4; have f41 := F4 1; obtain ⟨y4, y5, y6⟩ := T4)
              all_goals
                have T5 : Tri w4 Wo.heap.size (.int .i64 1) (.slice ao (mo P.an j).length co) (.slice none 0 0) := ⟨y4, y5, y6⟩
                have F5 := F4
                have O5 := ho4
                have hg5 : W1.grownBy w4 (some Wo.heap.size) := gr_belowB (gr_below hgr (bstep ((Below.refl _ wr).drew) (ballo _ _))) hb4 (by omega)
                clear f41 y1 y1a HT HZ HQ HJ
                go_wp2
                go_roundw
                case rel => exact ⟨j + 1, a4, c4, by omega, by go_num, hide (by rw [unhide HMS]; exact O5.gr (gr_set (gr_refl _ _) _ _) (Nat.lt_succ_self _)), hide (by rw [unhide HMS, List.length_append]; exact T5.set1 _), hide (frzD F5 _ _), gr_set hg5 _ _⟩
                case measure => simp [intOf]; omega
            · obtain rfl : j = P.an.out.length := by omega
              have hml : (mo P.an P.an.out.length).length ≤ 4000 := by rw [mo_len (Nat.le_refl _)]; omega
              generalize mo P.an P.an.out.length = X at *
              obtain ⟨y0, y1, y2⟩ := unhide HT
              obtain ⟨sa, sc, se, -, k1, k2, rX, sX⟩ := (unhide HQ).shape
              cases se
              have lab : Wo.heap.size < wr.heap.size := by omega
              have ba := ballo wr (.cells #[.int .i64 1, .slice ao X.length co, .slice none 0 0] 35)
              have OW := ((unhide HO).grown hBr).grown ba
              have hp : RdPa (wr.alloc (.cells #[.int .i64 1, .slice ao X.length co, .slice none 0 0] 35)) ⟨⟨1, X, []⟩, ao, co, none, 0⟩ := (show RdPa wr ⟨⟨1, X, []⟩, ao, co, none, 0⟩ from ⟨rX, .inl rfl⟩).below ba
              have hc : ∀ j, j < 3 → (wr.alloc (.cells #[.int .i64 1, .slice ao X.length co, .slice none 0 0] 35)).cell? ⟨wr.heap.size, j, none⟩ = (paC ⟨⟨1, X, []⟩, ao, co, none, 0⟩)[j]? := fun j hj => by
                rcases (by omega : j = 0 ∨ j = 1 ∨ j = 2) with rfl | rfl | rfl <;> simp [paC]
              have hBW2 : w1.heap.size ≤ (wr.alloc (.cells #[.int .i64 1, .slice ao X.length co, .slice none 0 0] 35)).heap.size := by simp; omega
              have ha : ∀ x, (Pa.a1 ⟨⟨1, X, []⟩, ao, co, none, 0⟩ = some x ∨ Pa.a2 ⟨⟨1, X, []⟩, ao, co, none, 0⟩ = some x) → u8.ownBlock ≠ some x.block ∧ x.block < (wr.alloc (.cells #[.int .i64 1, .slice ao X.length co, .slice none 0 0] 35)).heap.size := fun x hx => by
                rcases hx with e | e
                · have := sX x e
                  refine ⟨fun c => ?_, by simp; omega⟩
                  have := (World.ownsRow.lt (unhide HO).top _ c).2
                  omega
                · cases e
              have HVN := hide (show anL (ps ++ [⟨⟨1, X, []⟩, ao, co, none, 0⟩]) = ((anL l).take (I + 1)).map mkB by rw [unhide HST, unhide HMK, ← unhide HV]; simp [anL])
              have HMN := hide (show ∀ p ∈ ps ++ [⟨⟨1, X, []⟩, ao, co, none, 0⟩], p.an.out.length ≤ maxLen ∧ p.an.word.length ≤ maxLen from fun p hp => by
                rcases List.mem_append.1 hp with hp | hp
                · exact unhide HML p hp
                · rw [List.mem_singleton] at hp; subst hp; exact ⟨Nat.le_trans k1 k2, Nat.zero_le _⟩)
              have hBB := hB.trans ((hBr.mono hsr).trans (ba.mono (by omega)))
              clear c1 c11
              go_wp2_with (at_builtin; refine wpl_pushPs rfl (.tmp 89) (.tmp 91) rfl w1.heap.size u8 ps rfl OW ⟨⟨1, X, []⟩, ao, co, none, 0⟩ hp ha wr.heap.size 1 rfl hc (by omega) hBW2 ?_; intro v7 w7 ho7 hb7)
              go_roundw
              case rel => exact ⟨ps ++ [⟨⟨1, X, []⟩, ao, co, none, 0⟩], I + 1, by go_num, by omega, hide ho7, HVN, HMN, hBB.trans hb7⟩
              case measure => simp [intOf]; omega
        · have hk1 : P.an.kind % 2 = 1 := by omega
          have hbit : bits .and .i64 P.an.kind 1 = 1 := by rw [i64_and1]; exact hk1
          have HMK := hide (show mkB P.an = ⟨2, [], []⟩ by unfold mkB; rw [if_neg hk])
          clear hk hk1
          have b1 := ballo Wo (.cells #[.int .i64 2, .slice none 0 0, .slice none 0 0] 35)
          have c01 := (b1.cell (World.block_lt_of_cell? _ _ c0)).trans c0
          have ba := ballo (Wo.alloc (.cells #[.int .i64 2, .slice none 0 0, .slice none 0 0] 35)) (.cells #[.int .i64 2, .slice none 0 0, .slice none 0 0] 35)
          have OW := ((unhide HO).grown b1).grown ba
          have hp : RdPa ((Wo.alloc (.cells #[.int .i64 2, .slice none 0 0, .slice none 0 0] 35)).alloc (.cells #[.int .i64 2, .slice none 0 0, .slice none 0 0] 35)) ⟨⟨2, [], []⟩, none, 0, none, 0⟩ := (show RdPa _ ⟨⟨2, [], []⟩, none, 0, none, 0⟩ from ⟨.inl rfl, .inl rfl⟩).below ba
          have hc : ∀ j, j < 3 → ((Wo.alloc (.cells #[.int .i64 2, .slice none 0 0, .slice none 0 0] 35)).alloc (.cells #[.int .i64 2, .slice none 0 0, .slice none 0 0] 35)).cell? ⟨(Wo.alloc (.cells #[.int .i64 2, .slice none 0 0, .slice none 0 0] 35)).heap.size, j, none⟩ = (paC ⟨⟨2, [], []⟩, none, 0, none, 0⟩)[j]? := fun j hj => by
            rcases (by omega : j = 0 ∨ j = 1 ∨ j = 2) with rfl | rfl | rfl <;> simp [paC]
          have hBW2 : w1.heap.size ≤ ((Wo.alloc (.cells #[.int .i64 2, .slice none 0 0, .slice none 0 0] 35)).alloc (.cells #[.int .i64 2, .slice none 0 0, .slice none 0 0] 35)).heap.size := by simp; omega
          have ha : ∀ x, (Pa.a1 ⟨⟨2, [], []⟩, none, 0, none, 0⟩ = some x ∨ Pa.a2 ⟨⟨2, [], []⟩, none, 0, none, 0⟩ = some x) → u8.ownBlock ≠ some x.block ∧ x.block < ((Wo.alloc (.cells #[.int .i64 2, .slice none 0 0, .slice none 0 0] 35)).alloc (.cells #[.int .i64 2, .slice none 0 0, .slice none 0 0] 35)).heap.size := fun x hx => by
            rcases hx with e | e <;> cases e
          have HVN := hide (show anL (ps ++ [⟨⟨2, [], []⟩, none, 0, none, 0⟩]) = ((anL l).take (I + 1)).map mkB by rw [unhide HST, unhide HMK, ← unhide HV]; simp [anL])
          have HMN := hide (show ∀ p ∈ ps ++ [⟨⟨2, [], []⟩, none, 0, none, 0⟩], p.an.out.length ≤ maxLen ∧ p.an.word.length ≤ maxLen from fun p hp => by
            rcases List.mem_append.1 hp with hp | hp
            · exact unhide HML p hp
            · rw [List.mem_singleton] at hp; subst hp; exact ⟨Nat.zero_le _, Nat.zero_le _⟩)
          have hBB := hB.trans ((bstep b1 ba).mono hsr)
          have hz1 : (Wo.alloc (.cells #[.int .i64 2, .slice none 0 0, .slice none 0 0] 35)).heap.size = Wo.heap.size + 1 := by simp
          rw [hz1] at hc
          go_wp2_with (at_builtin; refine wpl_pushPs rfl (.tmp 89) (.tmp 91) rfl w1.heap.size u8 ps rfl OW ⟨⟨2, [], []⟩, none, 0, none, 0⟩ hp ha (Wo.heap.size + 1) 1 rfl hc (by omega) hBW2 ?_; intro v7 w7 ho7 hb7)
          go_roundw
          case rel => exact ⟨ps ++ [⟨⟨2, [], []⟩, none, 0, none, 0⟩], I + 1, by go_num, by omega, hide ho7, HVN, HMN, hBB.trans hb7⟩
          case measure => simp [intOf]; omega
      · obtain rfl : I = l.length := by omega
        have hal : anL ps = (anL l).map mkB := by rw [unhide HV, List.take_of_length_le (by simp [anL])]
        obtain ⟨hbk, hlen, hsh⟩ := unhide HBA
        rw [← hal] at hbk hlen hsh
        have hpv := parV_back hbk (by omega) (by omega)
        obtain ⟨a5, c5, rfl, rdP⟩ := (unhide HO).rd
        have hpl5 : ps.length ≤ maxLen := by unfold maxLen; omega
        clear HPL
        have hsw := fun wz (hz : Below Wo.heap.size Wo wz) => tshow_any a5 c5 ps wz (rdP.below hz) (an9_fit fun a ha => (hbk a ha).nine) hpl5 (unhide HML) (by omega) ((unhide HGP).below (bstep (bstep (unhide HBW) hB) hz))
        have HSW := hide hsw
        have h1 := unhide HSW Wo (Below.refl _ _)
        have HBo := hide (bstep (unhide HBW) hB)
        have HRD := hide rdP
        have hT := hsh
        clear hsw rdP hsh HV
        obtain ⟨L, hLe⟩ : ∃ L, L = anL ps := ⟨_, rfl⟩
        rw [← hLe] at hbk hlen hT hpv HSW h1
        have HLE : Hid (anL ps = L) := hLe.symm
        clear hLe hal
        generalize shA L = T at *
        go_wp2_with fail
        refine h1.mono ?_
        rintro e wa ⟨va, rfl, oa, hba⟩
        obtain ⟨ga, ca, rfl, hna, -, -, rda, -⟩ := oa.shape
        rw [zs_len] at hna ⊢
        have hp2 := tparse_any ga ca T wa rda (by unfold maxLen; omega)
        unfold PaPost at hp2
        rw [hpv] at hp2
        dsimp only at hp2
        clear h1 oa
        go_wp2_with fail
        refine hp2.mono ?_
        rintro e wb ⟨ab, cb, lb, rfl, rdb, alb, mlb, hbb⟩
        clear hp2
        go_wp2_with fail
        refine (num_any 0 wb).mono ?_
        rintro e wn ⟨rfl, hwn⟩
        rw [hwn]
        clear hwn wn
        have h2 := unhide HSW wb (bstep hba hbb)
        have te : ((T.length : Int) == (T.length : Int)) = true := by simp
        go_wp2_with fail
        refine h2.mono ?_
        rintro e wc ⟨vc, rfl, oc, hbc⟩
        obtain ⟨gc, cc, rfl, -, -, -, -, -⟩ := oc.shape
        rw [zs_len]
        have hll : lb.length ≤ maxLen := by
          have : (anL lb).length = lb.length := by simp [anL]
          rw [alb] at this
          unfold maxLen
          omega
        have hsm := rsameA_any ab cb lb a5 c5 ps wc (rdb.below hbc) ((unhide HRD).below (bstep (bstep hba hbb) hbc)) mlb hll
        rw [alb, unhide HLE, smL_self] at hsm
        clear h2 oc
        go_wp2_with fail
        refine hsm.mono ?_
        rintro e wd ⟨rfl, hbd⟩
        clear hsm
        go_wp2_with fail
        refine (live_any _).mono ?_
        rintro e wl ⟨rfl, hbl⟩
        go_wp2
        go_ret
        exact ⟨rfl, bstep (unhide HBo) (bstep (bstep (bstep hba hbb) hbc) (bstep hbd hbl))⟩

end Go.Proofs.YtagoilabphmdfaaDoor
