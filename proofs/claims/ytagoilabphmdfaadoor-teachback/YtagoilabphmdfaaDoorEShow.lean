/-
  The reference's Show of layer 10: the text of the answers.
-/
import Derived.Test.YtagoilabphmdfaaDoorK28
import Derived.Test.YtagoilabphmdfaaDoorK1
import Derived.Test.YtagoilabphmdfaaDoorTPut
import Derived.Deep.RegionHeldLaw
namespace Go.Proofs.YtagoilabphmdfaaDoor
open Go.RowKit

def shP (l : List Pa) (i : Nat) : List UInt8 := shA ((anL l).take i)
theorem shP_zero (l : List Pa) : shP l 0 = [] := by simp [shP, shA]
theorem shP_all (l : List Pa) : shP l l.length = shA (anL l) := by unfold shP; rw [List.take_of_length_le (by simp [anL])]
theorem shP_succ {l : List Pa} {i : Nat} (h : i < l.length) : shP l (i + 1) = shP l i ++ lnA l[i].an := by
  unfold shP shA
  rw [List.take_succ_eq_append_getElem (by simpa [anL] using h), List.flatMap_append]
  simp [anL]
theorem shP_le (l : List Pa) (i : Nat) : (shP l i).length ≤ (shA (anL l)).length := by
  unfold shP
  have e : shA (anL l) = shA ((anL l).take i) ++ shA ((anL l).drop i) := by unfold shA; rw [← List.flatMap_append, List.take_append_drop]
  rw [e, List.length_append]; omega
theorem nm_zero (x : List Int) : nmL (x.take 0) = [] := by simp [nmL]
theorem nm_all (x : List Int) : nmL (x.take x.length) = nmL x := by rw [List.take_length]
theorem nm_succ {x : List Int} {i : Nat} (h : i < x.length) : nmL (x.take (i + 1)) = nmL (x.take i) ++ [32] ++ Lib.itoa (x.getD i 0) := by
  unfold nmL
  rw [List.take_succ_eq_append_getElem h, List.flatMap_append]
  simp [List.getD_eq_getElem?_getD, List.getElem?_eq_getElem h]
theorem nm_le (x : List Int) (i : Nat) : (nmL (x.take i)).length ≤ (nmL x).length := by
  have e : nmL x = nmL (x.take i) ++ nmL (x.drop i) := by unfold nmL; rw [← List.flatMap_append, List.take_append_drop]
  rw [e, List.length_append]; omega
theorem len0 (x : Int) : 0 < (Lib.itoa x).length := by
  unfold Lib.itoa
  split
  · simp
  · rw [Lib.decDigits_length]; exact Lib.nDigits_pos _
theorem ln1 {a : An} (h : a.kind = 1) : lnA a = [111] ++ nmL a.out ++ [10] := by unfold lnA; rw [if_pos h]; rfl
theorem ln2 {a : An} (h : a.kind = 2) : lnA a = [121] ++ [10] := by unfold lnA; rw [if_neg (by omega), if_pos h]; rfl
theorem ln3 {a : An} (h : a.kind = 3) : lnA a = [110] ++ nmL a.word ++ [10] := by unfold lnA; rw [if_neg (by omega), if_neg (by omega), if_pos h]; rfl
theorem ln0 {a : An} (h1 : a.kind ≠ 1) (h2 : a.kind ≠ 2) (h3 : a.kind ≠ 3) : lnA a = [] := by unfold lnA; rw [if_neg h1, if_neg h2, if_neg h3]

theorem step_pushE {ops : Array Oper} {o : Oper} {a : Act} {w : World} {K : Act → World → Prop} {Q : Exit → Act → World → Prop} {F : Prop}
    (hg : o.guard = none) (s x : Operand) (ho : o.op = .call { callee := .builtin .append, args := #[s, x], argTypes := #[26, 26] })
    (B : Nat) (v : Value) (l : List UInt8) (hs : a.eval s = v) (hown : OwnL .u8 5 w B v (zs l)) (B' : Nat) (u : Value) (m : List UInt8) (hx : a.eval x = u) (hown' : OwnL .u8 5 w B' u (zs m))
    (hm : 0 < m.length) (hbytes : l.length + m.length ≤ 140737488355328) (hbase : B ≤ w.heap.size)
    (h : ∀ v' w', OwnL .u8 5 w' B v' (zs (l ++ m)) → Below B w w' → K (a.put o.dst v') w') :
    if Region.wanted o (yielded ops a.tmps) = true then Oper.wp Tryd.prog o a w K Q else F := by
  obtain ⟨ad, c, rfl, hnil, _, _, hrd, _⟩ := hown'.shape
  cases ad with
  | none => have := (hnil rfl).1; rw [zs_len] at this; omega
  | some ad =>
    refine step_pushA e8 hg s x ho B v (zs l) hs hown ad c (zs m) hx hrd (by rw [zs_len, zs_len]; omega) hbase ?_
    rw [← zs_app]
    exact fun v' w' h1 h2 _ _ => h v' w' h1 h2
theorem step_pushF {ops : Array Oper} {o : Oper} {a : Act} {w : World} {K : Act → World → Prop} {Q : Exit → Act → World → Prop} {F : Prop}
    (hg : o.guard = none) (s x : Operand) (ho : o.op = .call { callee := .builtin .append, args := #[s, x], argTypes := #[26, 26] })
    (B : Nat) (v : Value) (l : List UInt8) (hs : a.eval s = v) (hown : OwnL .u8 5 w B v (zs l)) (ad : Addr) (c : Nat) (m : List UInt8) (hx : a.eval x = .slice (some ad) m.length c) (hrd : RdL .u8 w (some ad) (zs m))
    (hbytes : l.length + m.length ≤ 140737488355328) (hbase : B ≤ w.heap.size)
    (h : ∀ v' w', OwnL .u8 5 w' B v' (zs (l ++ m)) → Below B w w' → K (a.put o.dst v') w') :
    if Region.wanted o (yielded ops a.tmps) = true then Oper.wp Tryd.prog o a w K Q else F := by
  refine step_pushA e8 hg s x ho B v (zs l) hs hown ad c (zs m) (by rw [zs_len]; exact hx) hrd (by rw [zs_len, zs_len]; omega) hbase ?_
  rw [← zs_app]
  exact fun v' w' h1 h2 _ _ => h v' w' h1 h2
theorem wpl_pushF {w : World} {ops : Array Oper} {rest : List Oper} {o : Oper} {a : Act} {Q : Exit → Act → World → Prop} (hgd : o.guard = none) (s x : Operand) (ho : o.op = .call { callee := .builtin .append, args := #[s, x], argTypes := #[26, 26] })
    (B : Nat) (v : Value) (l : List UInt8) (hs : a.eval s = v) (hown : OwnL .u8 5 w B v (zs l)) (ad : Addr) (c : Nat) (m : List UInt8) (hx : a.eval x = .slice (some ad) m.length c) (hrd : RdL .u8 w (some ad) (zs m))
    (hbytes : l.length + m.length ≤ 140737488355328) (hbase : B ≤ w.heap.size)
    (h : ∀ v' w', OwnL .u8 5 w' B v' (zs (l ++ m)) → Below B w w' → wpList Tryd.prog ops Q rest (a.put o.dst v') w') :
    wpList Tryd.prog ops Q (o :: rest) a w := by
  refine wpl_pushA e8 hgd s x ho B v (zs l) hs hown ad c (zs m) (by rw [zs_len]; exact hx) hrd (by rw [zs_len, zs_len]; omega) hbase ?_
  rw [← zs_app]
  exact fun v' w' h1 h2 _ _ => h v' w' h1 h2
theorem bdrE {B : Nat} {w w' : World} (h : Below B w w') : Below B w w'.drew := ⟨h.os, h.tape, h.output, h.size, h.block⟩

set_option maxRecDepth 100000 in
set_option maxHeartbeats 8000000 in
theorem rshowA_any (a : Option Addr) (c : Nat) (l : List Pa) (w : World) (hr : RdPs w a l) (hf : ∀ p ∈ l, (∀ i, i < p.an.out.length → Fits (p.an.out.getD i 0)) ∧ (∀ i, i < p.an.word.length → Fits (p.an.word.getD i 0))) (hl : l.length ≤ maxLen) (hlw : ∀ p ∈ l, p.an.out.length ≤ maxLen ∧ p.an.word.length ≤ maxLen) (hT : (shA (anL l)).length ≤ 100000000000) :
    Calls Tryd.prog 9 #[.slice a l.length c] w fun e w' => ∃ v, e = .returned v ∧ OwnL .u8 5 w' w.heap.size v (zs (shA (anL l))) ∧ Below w.heap.size w w' := by
  unfold maxLen at hl
  have HR := hide hr
  have HF := hide hf
  have HLW := hide hlw
  have H0 := hide (shP_zero l)
  clear hr hf hlw
  go_enter Tryd.func9, Tryd.ntmps9
  go_wp2
  go_loopw [3, 4] (fun b i wr => ∃ I : Nat, i = .int .i64 (I : Int) ∧ I ≤ l.length ∧ Below w.heap.size w wr ∧ Hid (OwnL .u8 5 wr w.heap.size b (zs (shP l I)))) (fun _ i _ => l.length - (intOf i).toNat)
  case atStart => exact ⟨0, rfl, Nat.zero_le _, Below.refl _ _, hide (by rw [unhide H0]; exact OwnL.nil _ _ _ _)⟩
  case round =>
    obtain ⟨I, rfl, hI, hB, HO⟩ := hrel
    have hsr := hB.size
    by_cases hlt : I < l.length
    · obtain ⟨b, off, rfl, hc⟩ := (unhide HR).at hlt
      have ra := (unhide HR).row l[I] (List.getElem_mem hlt)
      obtain ⟨x0, x1, x2⟩ := hc I hlt
      have c0 := (hB.cell (World.block_lt_of_cell? _ _ x0)).trans x0
      have c1 := (hB.cell (World.block_lt_of_cell? _ _ x1)).trans x1
      have c2 := (hB.cell (World.block_lt_of_cell? _ _ x2)).trans x2
      have d0 := World.block_lt_of_cell? _ _ x0
      obtain ⟨m1, m2⟩ := unhide HLW l[I] (List.getElem_mem hlt)
      obtain ⟨f1, f2⟩ := unhide HF l[I] (List.getElem_mem hlt)
      have HP := hide (shP_succ hlt)
      have hle := shP_le l (I + 1)
      rw [unhide HP, List.length_append] at hle
      have HRA := hide ra
      have HF1 := hide f1
      have HF2 := hide f2
      clear hc ra f1 f2 x1
      generalize hp : l[I] = P at *
      clear hp
      unfold maxLen at m1 m2
      by_cases k1 : P.an.kind = 1
      · have t1 : (P.an.kind == 1) = true := by simpa using k1
        rw [ln1 k1] at hle
        rw [ln1 k1] at HP
        simp only [List.length_append, List.length_cons, List.length_nil] at hle
        clear k1
        have hb5 : Below w.heap.size wr (wr.alloc (.cells #[.int .u8 111] 5)) := (Below.refl _ wr).alloc hsr _
        go_wp2_with (at_builtin; refine wpl_pushF rfl (.tmp 25) (.tmp 26) rfl w.heap.size u3 (shP l I) rfl ((unhide HO).alloc _) ⟨wr.heap.size, 0, none⟩ 1 [111] rfl (show RdL .u8 _ _ (zs [111]) from RdL.one _ _) (by simp only [List.length_cons, List.length_nil]; omega) (by simp; omega) ?_; intro v3 w3 ho3 hb3)
        have hb3w := (hB.trans hb5).trans hb3
        have hs3 := hb3w.size
        have HO3 := hide ho3
        clear hb5 hb3 HO ho3 c0 c1 c2
        have HO4 : Hid (OwnL .u8 5 w3 w.heap.size v3 (zs (shP l I ++ [111] ++ nmL (P.an.out.take 0)))) := by rw [nm_zero, List.append_nil]; exact HO3
        go_loopw [3, 6] (fun bb i wr => ∃ j : Nat, j ≤ P.an.out.length ∧ i = .int .i64 (j : Int) ∧ Hid (OwnL .u8 5 wr w.heap.size bb (zs (shP l I ++ [111] ++ nmL (P.an.out.take j)))) ∧ Below w.heap.size w wr) (fun _ i _ => P.an.out.length - (intOf i).toNat)
        case atStart => exact ⟨0, Nat.zero_le _, rfl, HO4, hb3w⟩
        case round =>
          obtain ⟨j, hj, rfl, HQ, hbr⟩ := hrel
          have hsq := hbr.size
          have hnl := nm_le P.an.out j
          by_cases hjl : j < P.an.out.length
          · obtain ⟨b5, off5, he5, hc5⟩ := ((unhide HRA).out.below hbr).at hjl
            rw [he5]
            have hs0 := hc5 j hjl
            have hbk : b5 < w.heap.size := by
              obtain ⟨b6, off6, e6, h6⟩ := (unhide HRA).out.at hjl
              rw [he5] at e6; cases e6
              exact World.block_lt_of_cell? _ _ (h6 j hjl)
            have hfit := unhide HF1 j hjl
            unfold Fits at hfit
            have hjl' : (j : Int) < (P.an.out.length : Int) := by omega
            have HS := hide (nm_succ hjl)
            have hl0 := len0 (P.an.out.getD j 0)
            have hnl2 := nm_le P.an.out (j + 1)
            rw [unhide HS] at hnl2
            simp only [List.length_append, List.length_cons, List.length_nil] at hnl2
            clear hc5 he5
            generalize P.an.out.getD j 0 = y at *
            have hs1 : (wr.alloc (.cells #[.int .u8 32] 5)).cell? ⟨b5, off5 + j, none⟩ = some (.int .i64 y) := by
              rw [((Below.refl _ wr).alloc (Nat.le_refl _) _).cell (by exact (by omega : b5 < wr.heap.size))]; exact hs0
            have hb5 : Below w.heap.size wr (wr.alloc (.cells #[.int .u8 32] 5)) := (Below.refl _ wr).alloc hsq _
            go_wp2
            go_region_held_law (fun wz => wz.cell? ⟨b5, off5 + j, none⟩ = some (.int .i64 y)) (first | exact hs0 | exact hs1 | exact hs3 | exact hs4 | exact hs6)
              (first
                | (refine step_pushF rfl (.tmp 49) (.tmp 50) rfl w.heap.size u3 (shP l I ++ [111] ++ nmL (P.an.out.take j)) (by rfl) ((unhide HQ).alloc _) ⟨wr.heap.size, 0, none⟩ 1 [32] (by rfl) (show RdL .u8 _ _ (zs [32]) from RdL.one _ _) (by simp only [List.length_append, List.length_cons, List.length_nil]; omega) (by simp; omega) ?_; intro v3 w3 ho3 hb3; have hz3 : wr.heap.size + 1 ≤ w3.heap.size := (by have := hb3.size; simpa using this); have hs3 : w3.cell? ⟨b5, off5 + j, none⟩ = some (.int .i64 y) := by { rw [hb3.cell (by exact hbk)]; exact hs1 })
                | (go_at_call 17; refine (rput_any (y.natAbs + 1) y w3 (Nat.lt_succ_self _) (by omega) (by omega)).mono ?_; rintro e w4 ⟨v4, rfl, ho4, hb4⟩; have hs4 : w4.cell? ⟨b5, off5 + j, none⟩ = some (.int .i64 y) := by { rw [hb4.cell (by exact World.block_lt_of_cell? w3 _ hs3)]; exact hs3 })
                | (refine step_pushE rfl (.tmp 51) (.tmp 56) rfl w.heap.size v3 (shP l I ++ [111] ++ nmL (P.an.out.take j) ++ [32]) (by rfl) (ho3.grown hb4) w3.heap.size v4 (Lib.itoa y) (by rfl) ho4 hl0 (by simp only [List.length_append, List.length_cons, List.length_nil]; omega) (by have := hb4.size; omega) ?_; intro v6 w6 ho6 hb6; have hs6 : w6.cell? ⟨b5, off5 + j, none⟩ = some (.int .i64 y) := by { rw [hb6.cell (by exact hbk)]; exact hs4 }))
            all_goals go_wp2
            exact ⟨⟨j + 1, by omega, by go_num, hide (by rw [unhide HS]; simpa only [List.append_assoc] using ho6), ((hbr.trans (bdrE hb5)).trans hb3).trans ((hb4.mono (by omega)).trans hb6)⟩, by simp [intOf]; omega⟩
          · obtain rfl : j = P.an.out.length := by omega
            have HQ2 : Hid (OwnL .u8 5 wr w.heap.size u3 (zs (shP l I ++ [111] ++ nmL P.an.out))) := by rw [← nm_all P.an.out]; exact HQ
            have hb8 : Below w.heap.size wr (wr.alloc (.cells #[.int .u8 10] 5)) := (Below.refl _ wr).alloc hsq _
            go_wp2_with (at_builtin; refine wpl_pushF rfl (.tmp 58) (.tmp 59) rfl w.heap.size u3 (shP l I ++ [111] ++ nmL P.an.out) rfl ((unhide HQ2).alloc _) ⟨wr.heap.size, 0, none⟩ 1 [10] rfl (show RdL .u8 _ _ (zs [10]) from RdL.one _ _) (by simp only [List.length_cons, List.length_nil, List.length_append]; omega) (by simp; omega) ?_; intro v7 w7 ho7 hb7)
            exact ⟨⟨I + 1, by go_num, by omega, (hbr.trans hb8).trans hb7, hide (by rw [unhide HP]; simpa only [List.append_assoc] using ho7)⟩, by simp [intOf]; omega⟩
      have t1 : (P.an.kind == 1) = false := by simpa using k1
      by_cases k2 : P.an.kind = 2
      · have t2 : (P.an.kind == 2) = true := by simpa using k2
        rw [ln2 k2] at hle
        rw [ln2 k2] at HP
        simp only [List.length_append, List.length_cons, List.length_nil] at hle
        clear k2
        have hb5 : Below w.heap.size wr (wr.alloc (.cells #[.int .u8 121] 5)) := (Below.refl _ wr).alloc hsr _
        go_wp2_with (at_builtin; refine wpl_pushF rfl (.tmp 30) (.tmp 31) rfl w.heap.size u3 (shP l I) rfl ((unhide HO).alloc _) ⟨wr.heap.size, 0, none⟩ 1 [121] rfl (show RdL .u8 _ _ (zs [121]) from RdL.one _ _) (by simp only [List.length_cons, List.length_nil]; omega) (by simp; omega) ?_; intro v3 w3 ho3 hb3)
        have hb3w := (hB.trans hb5).trans hb3
        have hs3 := hb3w.size
        have HO3 := hide ho3
        clear hb5 hb3 HO ho3 c0 c1 c2
        have hb8 : Below w.heap.size w3 (w3.alloc (.cells #[.int .u8 10] 5)) := (Below.refl _ w3).alloc hs3 _
        go_loopw [3, 6] (fun bb i wr => bb = v3 ∧ i = .int .i64 0 ∧ wr = w3) (fun _ _ _ => 0)
        case atStart => exact ⟨rfl, rfl, rfl⟩
        case round =>
          obtain ⟨rfl, rfl, rfl⟩ := hrel
          go_wp2_with (at_builtin; refine wpl_pushF rfl (.tmp 58) (.tmp 59) rfl w.heap.size u3 (shP l I ++ [121]) rfl ((unhide HO3).alloc _) ⟨wr.heap.size, 0, none⟩ 1 [10] rfl (show RdL .u8 _ _ (zs [10]) from RdL.one _ _) (by simp only [List.length_cons, List.length_nil, List.length_append]; omega) (by simp; omega) ?_; intro v7 w7 ho7 hb7)
          exact ⟨⟨I + 1, by go_num, by omega, (hb3w.trans hb8).trans hb7, hide (by rw [unhide HP]; simpa only [List.append_assoc] using ho7)⟩, by simp [intOf]; omega⟩
      have t2 : (P.an.kind == 2) = false := by simpa using k2
      by_cases k3 : P.an.kind = 3
      · have t3 : (P.an.kind == 3) = true := by simpa using k3
        rw [ln3 k3] at hle
        rw [ln3 k3] at HP
        simp only [List.length_append, List.length_cons, List.length_nil] at hle
        clear k3
        have hb5 : Below w.heap.size wr (wr.alloc (.cells #[.int .u8 110] 5)) := (Below.refl _ wr).alloc hsr _
        have c2w : ∀ w3, Below w.heap.size (wr.alloc (.cells #[.int .u8 110] 5)) w3 → w3.cell? ⟨b, off + I * 3 + 2, none⟩ = some (.slice P.a2 P.an.word.length P.c2) := fun w3 h3 => (((hB.trans hb5).trans h3).cell (World.block_lt_of_cell? _ _ x2)).trans x2
        go_wp2_with (at_builtin; refine wpl_pushF rfl (.tmp 35) (.tmp 36) rfl w.heap.size u3 (shP l I) rfl ((unhide HO).alloc _) ⟨wr.heap.size, 0, none⟩ 1 [110] rfl (show RdL .u8 _ _ (zs [110]) from RdL.one _ _) (by simp only [List.length_cons, List.length_nil]; omega) (by simp; omega) ?_; intro v3 w3 ho3 hb3; have c3 := c2w w3 hb3)
        have hb3w := (hB.trans hb5).trans hb3
        have hs3 := hb3w.size
        have HO3 := hide ho3
        clear hb5 hb3 HO ho3 c0 c1 c2 c3 c2w
        have HO4 : Hid (OwnL .u8 5 w3 w.heap.size v3 (zs (shP l I ++ [110] ++ nmL (P.an.word.take 0)))) := by rw [nm_zero, List.append_nil]; exact HO3
        go_loopw [3, 6] (fun bb i wr => ∃ j : Nat, j ≤ P.an.word.length ∧ i = .int .i64 (j : Int) ∧ Hid (OwnL .u8 5 wr w.heap.size bb (zs (shP l I ++ [110] ++ nmL (P.an.word.take j)))) ∧ Below w.heap.size w wr) (fun _ i _ => P.an.word.length - (intOf i).toNat)
        case atStart => exact ⟨0, Nat.zero_le _, rfl, HO4, hb3w⟩
        case round =>
          obtain ⟨j, hj, rfl, HQ, hbr⟩ := hrel
          have hsq := hbr.size
          have hnl := nm_le P.an.word j
          by_cases hjl : j < P.an.word.length
          · obtain ⟨b5, off5, he5, hc5⟩ := ((unhide HRA).word.below hbr).at hjl
            rw [he5]
            have hs0 := hc5 j hjl
            have hbk : b5 < w.heap.size := by
              obtain ⟨b6, off6, e6, h6⟩ := (unhide HRA).word.at hjl
              rw [he5] at e6; cases e6
              exact World.block_lt_of_cell? _ _ (h6 j hjl)
            have hfit := unhide HF2 j hjl
            unfold Fits at hfit
            have hjl' : (j : Int) < (P.an.word.length : Int) := by omega
            have HS := hide (nm_succ hjl)
            have hl0 := len0 (P.an.word.getD j 0)
            have hnl2 := nm_le P.an.word (j + 1)
            rw [unhide HS] at hnl2
            simp only [List.length_append, List.length_cons, List.length_nil] at hnl2
            clear hc5 he5
            generalize P.an.word.getD j 0 = y at *
            have hs1 : (wr.alloc (.cells #[.int .u8 32] 5)).cell? ⟨b5, off5 + j, none⟩ = some (.int .i64 y) := by
              rw [((Below.refl _ wr).alloc (Nat.le_refl _) _).cell (by exact (by omega : b5 < wr.heap.size))]; exact hs0
            have hb5 : Below w.heap.size wr (wr.alloc (.cells #[.int .u8 32] 5)) := (Below.refl _ wr).alloc hsq _
            go_wp2
            go_region_held_law (fun wz => wz.cell? ⟨b5, off5 + j, none⟩ = some (.int .i64 y)) (first | exact hs0 | exact hs1 | exact hs3 | exact hs4 | exact hs6)
              (first
                | (refine step_pushF rfl (.tmp 49) (.tmp 50) rfl w.heap.size u3 (shP l I ++ [110] ++ nmL (P.an.word.take j)) (by rfl) ((unhide HQ).alloc _) ⟨wr.heap.size, 0, none⟩ 1 [32] (by rfl) (show RdL .u8 _ _ (zs [32]) from RdL.one _ _) (by simp only [List.length_append, List.length_cons, List.length_nil]; omega) (by simp; omega) ?_; intro v3 w3 ho3 hb3; have hz3 : wr.heap.size + 1 ≤ w3.heap.size := (by have := hb3.size; simpa using this); have hs3 : w3.cell? ⟨b5, off5 + j, none⟩ = some (.int .i64 y) := by { rw [hb3.cell (by exact hbk)]; exact hs1 })
                | (go_at_call 17; refine (rput_any (y.natAbs + 1) y w3 (Nat.lt_succ_self _) (by omega) (by omega)).mono ?_; rintro e w4 ⟨v4, rfl, ho4, hb4⟩; have hs4 : w4.cell? ⟨b5, off5 + j, none⟩ = some (.int .i64 y) := by { rw [hb4.cell (by exact World.block_lt_of_cell? w3 _ hs3)]; exact hs3 })
                | (refine step_pushE rfl (.tmp 51) (.tmp 56) rfl w.heap.size v3 (shP l I ++ [110] ++ nmL (P.an.word.take j) ++ [32]) (by rfl) (ho3.grown hb4) w3.heap.size v4 (Lib.itoa y) (by rfl) ho4 hl0 (by simp only [List.length_append, List.length_cons, List.length_nil]; omega) (by have := hb4.size; omega) ?_; intro v6 w6 ho6 hb6; have hs6 : w6.cell? ⟨b5, off5 + j, none⟩ = some (.int .i64 y) := by { rw [hb6.cell (by exact hbk)]; exact hs4 }))
            all_goals go_wp2
            exact ⟨⟨j + 1, by omega, by go_num, hide (by rw [unhide HS]; simpa only [List.append_assoc] using ho6), ((hbr.trans (bdrE hb5)).trans hb3).trans ((hb4.mono (by omega)).trans hb6)⟩, by simp [intOf]; omega⟩
          · obtain rfl : j = P.an.word.length := by omega
            have HQ2 : Hid (OwnL .u8 5 wr w.heap.size u3 (zs (shP l I ++ [110] ++ nmL P.an.word))) := by rw [← nm_all P.an.word]; exact HQ
            have hb8 : Below w.heap.size wr (wr.alloc (.cells #[.int .u8 10] 5)) := (Below.refl _ wr).alloc hsq _
            go_wp2_with (at_builtin; refine wpl_pushF rfl (.tmp 58) (.tmp 59) rfl w.heap.size u3 (shP l I ++ [110] ++ nmL P.an.word) rfl ((unhide HQ2).alloc _) ⟨wr.heap.size, 0, none⟩ 1 [10] rfl (show RdL .u8 _ _ (zs [10]) from RdL.one _ _) (by simp only [List.length_cons, List.length_nil, List.length_append]; omega) (by simp; omega) ?_; intro v7 w7 ho7 hb7)
            exact ⟨⟨I + 1, by go_num, by omega, (hbr.trans hb8).trans hb7, hide (by rw [unhide HP]; simpa only [List.append_assoc] using ho7)⟩, by simp [intOf]; omega⟩
      have t3 : (P.an.kind == 3) = false := by simpa using k3
      rw [ln0 k1 k2 k3] at HP
      clear k1 k2 k3
      go_wp2
      exact ⟨⟨I + 1, by go_num, by omega, hB, hide (by rw [unhide HP, List.append_nil]; exact unhide HO)⟩, by simp [intOf]; omega⟩
    · obtain rfl : I = l.length := by omega
      have HE := hide (shP_all l)
      go_wp2
      go_ret
      exact ⟨_, rfl, by rw [← unhide HE]; exact unhide HO, hB⟩

end Go.Proofs.YtagoilabphmdfaaDoor
