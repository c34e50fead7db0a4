/-
  The program's Show of layer 10.
-/
import Derived.Test.YtagoilabphmdfaaDoorHRep
import Derived.Test.YtagoilabphmdfaaDoorEShow
import Derived.Test.YtagoilabphmdfaaDoorTGp
import Derived.Test.YtagoilabphmdfaaDoorHSrc
namespace Go.Proofs.YtagoilabphmdfaaDoor
open Go.RowKit

theorem own_some {t : TypeId} {w : World} {B : Nat} {v : Value} {m : List UInt8} (h : OwnL .u8 t w B v (zs m)) (hm : 0 < m.length) : ∃ ad c, v = .slice (some ad) m.length c ∧ RdL .u8 w (some ad) (zs m) := by
  obtain ⟨a, c, rfl, hnil, -, -, hrd, -⟩ := h.shape
  rw [zs_len] at hnil ⊢
  cases a with
  | none => have := (hnil rfl).1; omega
  | some ad => exact ⟨ad, c, rfl, hrd⟩

set_option maxRecDepth 100000 in
set_option maxHeartbeats 4000000 in
theorem writeNumbers_any (B : Nat) (v : Value) (l : List UInt8) (z : UInt8) (a : Option Addr) (c : Nat) (x : List Int) (w : World) (ho : OwnL .u8 5 w B v (zs l)) (hB : B ≤ w.heap.size) (hr : RdL .i64 w a x) (hblk : 0 < x.length → ∀ y, a = some y → y.block < B) (hf : ∀ i, i < x.length → Fits (x.getD i 0)) (hl : x.length ≤ maxLen) (G : ∀ wz, Below B w wz → Gp wz) (hT : l.length + (nmL x).length + 2 ≤ 100000000000) :
    Calls Tryd.prog 21 #[v, .int .u8 (z.toNat : Int), .slice a x.length c] w fun e w' => ∃ v', e = .returned v' ∧ OwnL .u8 5 w' B v' (zs (l ++ ([z] ++ nmL x ++ [10]))) ∧ Below B w w' := by
  unfold maxLen at hl
  have HR := hide hr
  have HF := hide hf
  have HG := hide G
  have HK := hide hblk
  have HO := hide ho
  clear hr hf G hblk ho
  go_enter Tryd.func21, Tryd.ntmps21
  go_wp2_with (at_builtin; refine wpl_pushF rfl (.tmp 9) (.tmp 11) rfl B v l rfl ((unhide HO).alloc _) ⟨w.heap.size, 0, none⟩ 1 [z] rfl (show RdL .u8 _ _ (zs [z]) from RdL.one _ _) (by simp only [List.length_cons, List.length_nil]; omega) (by simp; omega) ?_; intro v3 w3 ho3 hb3)
  have hb0 : Below B w (w.alloc (.cells #[.int .u8 (z.toNat : Int)] 5)) := (Below.refl _ w).alloc hB _
  have hbw := hb0.trans hb3
  have HO4 : Hid (OwnL .u8 5 w3 B v3 (zs (l ++ [z] ++ nmL (x.take 0)))) := by rw [nm_zero, List.append_nil]; exact hide ho3
  clear HO hb0 hb3 ho3
  go_loopw [0, 15] (fun bb i wr => ∃ j : Nat, j ≤ x.length ∧ i = .int .i64 (j : Int) ∧ Hid (OwnL .u8 5 wr B bb (zs (l ++ [z] ++ nmL (x.take j)))) ∧ Below B w wr) (fun _ i _ => x.length - (intOf i).toNat)
  case atStart => exact ⟨0, Nat.zero_le _, rfl, HO4, hbw⟩
  case round =>
    obtain ⟨j, hj, rfl, HQ, hbr⟩ := hrel
    have hsq := hbr.size
    have hnl := nm_le x j
    by_cases hjl : j < x.length
    · have hjl' : (j : Int) < (x.length : Int) := by omega
      obtain ⟨b5, off5, rfl, hc5⟩ := ((unhide HR).belowB hbr (unhide HK)).at hjl
      have hs0 := hc5 j hjl
      have hfit := unhide HF j hjl
      have HS := hide (nm_succ hjl)
      have hl0 := len0 (x.getD j 0)
      have hnl2 := nm_le x (j + 1)
      rw [unhide HS] at hnl2
      simp only [List.length_append, List.length_cons, List.length_nil] at hnl2
      clear hc5
      generalize x.getD j 0 = y at *
      have hb5 : Below B wr (wr.alloc (.cells #[.int .u8 32] 5)) := (Below.refl _ wr).alloc (by omega) _
      have HFP : Hid (FitP y) := by unfold Fits at hfit; exact hfit
      clear hfit
      go_wp2_with (first
        | (at_builtin; refine wpl_pushF rfl (.tmp 19) (.tmp 20) rfl B u0 (l ++ [z] ++ nmL (x.take j)) rfl ((unhide HQ).alloc _) ⟨wr.heap.size, 0, none⟩ 1 [32] rfl (show RdL .u8 _ _ (zs [32]) from RdL.one _ _) (by simp only [List.length_append, List.length_cons, List.length_nil]; omega) (by simp; omega) ?_; intro v3 w3 ho3 hb3; have hbw3 := (hbr.trans hb5).trans hb3)
        | (go_at_call 25; refine (putP_any y w3 (unhide HFP) (unhide HG w3 hbw3)).mono ?_; rintro e w4 ⟨v4, rfl, ho4, hb4⟩; obtain ⟨ad, c4, rfl, hrd4⟩ := own_some ho4 hl0)
        | (at_builtin; refine wpl_pushF rfl (.tmp 22) (.tmp 24) rfl B v3 (l ++ [z] ++ nmL (x.take j) ++ [32]) rfl (ho3.grown hb4) ad c4 (Lib.itoa y) rfl hrd4 (by simp only [List.length_append, List.length_cons, List.length_nil]; omega) (by have := hbw3.size; have := hb4.size; omega) ?_; intro v6 w6 ho6 hb6))
      exact ⟨⟨j + 1, by omega, by go_num, hide (by rw [unhide HS]; simpa only [List.append_assoc] using ho6), (hbw3.trans (hb4.mono (by have := hbw3.size; omega))).trans hb6⟩, by simp [intOf]; omega⟩
    · obtain rfl : j = x.length := by omega
      have HQ2 : Hid (OwnL .u8 5 wr B u0 (zs (l ++ [z] ++ nmL x))) := by rw [← nm_all x]; exact HQ
      have hb8 : Below B wr (wr.alloc (.cells #[.int .u8 10] 5)) := (Below.refl _ wr).alloc (by omega) _
      clear HQ
      go_wp2_with (at_builtin; refine wpl_pushF rfl (.tmp 27) (.tmp 28) rfl B u0 (l ++ [z] ++ nmL x) rfl ((unhide HQ2).alloc _) ⟨wr.heap.size, 0, none⟩ 1 [10] rfl (show RdL .u8 _ _ (zs [10]) from RdL.one _ _) (by simp only [List.length_append, List.length_cons, List.length_nil]; omega) (by simp; omega) ?_; intro v7 w7 ho7 hb7)
      go_ret
      exact ⟨v7, rfl, by rw [show l ++ z :: (nmL x ++ [10]) = l ++ [z] ++ nmL x ++ [10] by simp]; exact ho7, (hbr.trans hb8).trans hb7⟩

set_option maxRecDepth 100000 in
set_option maxHeartbeats 4000000 in
theorem writeLine_any (B : Nat) (v : Value) (l : List UInt8) (p : Pa) (w : World) (ho : OwnL .u8 5 w B v (zs l)) (hB : B ≤ w.heap.size) (hr : RdPa w p) (hb1 : 0 < p.an.out.length → ∀ y, p.a1 = some y → y.block < B) (hb2 : 0 < p.an.word.length → ∀ y, p.a2 = some y → y.block < B) (hf1 : ∀ i, i < p.an.out.length → Fits (p.an.out.getD i 0)) (hf2 : ∀ i, i < p.an.word.length → Fits (p.an.word.getD i 0)) (hl1 : p.an.out.length ≤ maxLen) (hl2 : p.an.word.length ≤ maxLen) (G : ∀ wz, Below B w wz → Gp wz) (hT : l.length + (lnA p.an).length ≤ 100000000000) :
    Calls Tryd.prog 15 #[v, rpV p] w fun e w' => ∃ v', e = .returned v' ∧ OwnL .u8 5 w' B v' (zs (l ++ lnA p.an)) ∧ Below B w w' := by
  have HO := hide ho
  have HG := hide G
  clear ho G
  by_cases k1 : p.an.kind = 1
  · have hE : lnA p.an = [111] ++ nmL p.an.out ++ [10] := ln1 k1
    have er : rpV p = .iface 56 (.agg #[.slice p.a1 p.an.out.length p.c1]) := by unfold rpV; rw [if_pos k1]
    rw [er]
    rw [hE] at hT ⊢
    have as1 := as_ss (.agg #[.slice p.a1 p.an.out.length p.c1])
    have b1 : Below B w (w.alloc (.cells #[.slice p.a1 p.an.out.length p.c1] 56)) := (Below.refl _ w).alloc hB _
    have hwn := writeNumbers_any B v l 111 p.a1 p.c1 p.an.out (w.alloc (.cells #[.slice p.a1 p.an.out.length p.c1] 56)) ((unhide HO).alloc _) (by simp; omega) (hr.out.below (ballo _ _)) hb1 hf1 hl1 (fun wz hz => unhide HG wz (b1.trans hz)) (by simp only [List.length_append, List.length_cons, List.length_nil] at hT ⊢; omega)
    have HB1 := hide b1
    clear er hE b1 hT k1
    go_enter Tryd.func15, Tryd.ntmps15
    go_wp2_with fail
    refine hwn.mono ?_
    rintro e w2 ⟨v2, rfl, ho2, hb2⟩
    go_wp2
    go_ret
    exact ⟨v2, rfl, ho2, (unhide HB1).trans hb2⟩
  by_cases k2 : p.an.kind = 2
  · have hE : lnA p.an = [121] ++ nmL [] ++ [10] := ln2 k2
    have er : rpV p = .iface 59 (.agg #[]) := by unfold rpV; rw [if_neg k1, if_pos k2]
    rw [er]
    rw [hE] at hT ⊢
    have as1 := as_ys (.agg #[])
    have as2 := as_yy (.agg #[])
    have b1 : Below B w (w.alloc (.cells #[] 59)) := (Below.refl _ w).alloc hB _
    have hwn := writeNumbers_any B v l 121 none 0 [] (w.alloc (.cells #[] 59)) ((unhide HO).alloc _) (by simp; omega) (.inl rfl) (fun h => absurd h (by simp)) (fun i h => absurd h (by simp)) (Nat.zero_le _) (fun wz hz => unhide HG wz (b1.trans hz)) (by simp only [List.length_append, List.length_cons, List.length_nil] at hT ⊢; omega)
    have HB1 := hide b1
    clear er hE b1 hT k2
    go_enter Tryd.func15, Tryd.ntmps15
    go_wp2_with fail
    refine hwn.mono ?_
    rintro e w2 ⟨v2, rfl, ho2, hb2⟩
    go_wp2
    go_ret
    exact ⟨v2, rfl, ho2, (unhide HB1).trans hb2⟩
  by_cases k3 : p.an.kind = 3
  · have hE : lnA p.an = [110] ++ nmL p.an.word ++ [10] := ln3 k3
    have er : rpV p = .iface 61 (.agg #[.slice p.a2 p.an.word.length p.c2]) := by unfold rpV; rw [if_neg k1, if_neg k2, if_pos k3]
    rw [er]
    rw [hE] at hT ⊢
    have as1 := as_ns (.agg #[.slice p.a2 p.an.word.length p.c2])
    have as2 := as_ny (.agg #[.slice p.a2 p.an.word.length p.c2])
    have as3 := as_nn (.agg #[.slice p.a2 p.an.word.length p.c2])
    have b1 : Below B w (w.alloc (.cells #[.slice p.a2 p.an.word.length p.c2] 61)) := (Below.refl _ w).alloc hB _
    have hwn := writeNumbers_any B v l 110 p.a2 p.c2 p.an.word (w.alloc (.cells #[.slice p.a2 p.an.word.length p.c2] 61)) ((unhide HO).alloc _) (by simp; omega) (hr.word.below (ballo _ _)) hb2 hf2 hl2 (fun wz hz => unhide HG wz (b1.trans hz)) (by simp only [List.length_append, List.length_cons, List.length_nil] at hT ⊢; omega)
    have HB1 := hide b1
    clear er hE b1 hT k3
    go_enter Tryd.func15, Tryd.ntmps15
    go_wp2_with fail
    refine hwn.mono ?_
    rintro e w2 ⟨v2, rfl, ho2, hb2⟩
    go_wp2
    go_ret
    exact ⟨v2, rfl, ho2, (unhide HB1).trans hb2⟩
  have hE := ln0 k1 k2 k3
  have er : rpV p = .nilIface := by unfold rpV; rw [if_neg k1, if_neg k2, if_neg k3]
  rw [er, hE, List.append_nil]
  have as1 := as_0s
  have as2 := as_0y
  have as3 := as_0n
  clear er hE k1 k2 k3 hT
  go_enter Tryd.func15, Tryd.ntmps15
  go_wp2
  go_ret
  exact ⟨v, rfl, unhide HO, Below.refl _ _⟩

set_option maxRecDepth 100000 in
set_option maxHeartbeats 4000000 in
theorem tshow_any (a : Option Addr) (c : Nat) (l : List Pa) (w : World) (hr : RdPs w a l) (hf : ∀ p ∈ l, (∀ i, i < p.an.out.length → Fits (p.an.out.getD i 0)) ∧ (∀ i, i < p.an.word.length → Fits (p.an.word.getD i 0))) (hl : l.length ≤ maxLen) (hlw : ∀ p ∈ l, p.an.out.length ≤ maxLen ∧ p.an.word.length ≤ maxLen) (hT : (shA (anL l)).length ≤ 100000000000) (g : Gp w) :
    Calls Tryd.prog 8 #[.slice a l.length c] w fun e w' => ∃ v, e = .returned v ∧ OwnL .u8 5 w' w.heap.size v (zs (shA (anL l))) ∧ Below w.heap.size w w' := by
  unfold maxLen at hl
  have HR := hide hr
  have HF := hide hf
  have HLW := hide hlw
  have H0 := hide (shP_zero l)
  have HG := hide g
  clear hr hf hlw g
  go_enter Tryd.func8, Tryd.ntmps8
  go_wp2
  go_loopw [3, 8] (fun b i wr => ∃ I : Nat, i = .int .i64 (I : Int) ∧ I ≤ l.length ∧ Below w.heap.size w wr ∧ Hid (OwnL .u8 5 wr w.heap.size b (zs (shP l I)))) (fun _ i _ => l.length - (intOf i).toNat)
  case atStart => exact ⟨0, rfl, Nat.zero_le _, Below.refl _ _, hide (by rw [unhide H0]; exact OwnL.nil _ _ _ _)⟩
  case round =>
    obtain ⟨I, rfl, hI, hB, HO⟩ := hrel
    have hsr := hB.size
    by_cases hlt : I < l.length
    · have hlt' : (I : Int) < (l.length : Int) := by omega
      obtain ⟨b, off, rfl, hc⟩ := (unhide HR).at hlt
      have ra := (unhide HR).row l[I] (List.getElem_mem hlt)
      obtain ⟨x0, x1, x2⟩ := hc I hlt
      have c0 := (hB.cell (World.block_lt_of_cell? _ _ x0)).trans x0
      have c1 := (hB.cell (World.block_lt_of_cell? _ _ x1)).trans x1
      have c2 := (hB.cell (World.block_lt_of_cell? _ _ x2)).trans x2
      obtain ⟨m1, m2⟩ := unhide HLW l[I] (List.getElem_mem hlt)
      obtain ⟨f1, f2⟩ := unhide HF l[I] (List.getElem_mem hlt)
      have HP := hide (shP_succ hlt)
      have hle := shP_le l (I + 1)
      rw [unhide HP, List.length_append] at hle
      generalize hp : l[I] = P at *
      clear hp hc x0 x1 x2
      have ba := ballo wr (.cells #[.int .i64 P.an.kind, .slice P.a1 P.an.out.length P.c1, .slice P.a2 P.an.word.length P.c2] 35)
      have hrp := replyOf_any P (wr.alloc (.cells #[.int .i64 P.an.kind, .slice P.a1 P.an.out.length P.c1, .slice P.a2 P.an.word.length P.c2] 35))
      unfold paV at hrp
      have hwl := fun (wz : World) (hz : Below wr.heap.size wr wz) => writeLine_any w.heap.size u3 (shP l I) P wz ((unhide HO).grown hz) (by have := hz.size; omega) ⟨ra.out.below (bstep hB hz), ra.word.below (bstep hB hz)⟩ (fun h => ra.out.blk h) (fun h => ra.word.blk h) f1 f2 m1 m2 (fun w9 h9 => (unhide HG).below ((bstep hB hz).trans h9)) (by omega)
      have HWL := hide hwl
      clear hwl ra f1 f2 m1 m2
      go_wp2_with fail
      refine hrp.mono ?_
      rintro e w1 ⟨rfl, hb1⟩
      have hb01 := bstep ba hb1
      have hw1 := unhide HWL w1 hb01
      clear hrp HWL c0 c1 c2 ba hb1
      generalize rpV P = rv at *
      go_wp2_with fail
      refine hw1.mono ?_
      rintro e w2 ⟨v2, rfl, ho2, hb2⟩
      have hB2 := (bstep hB hb01).trans hb2
      clear hw1 hb01 hb2 hle
      go_wp2
      go_roundw
      case rel => exact ⟨I + 1, by go_num, by omega, hB2, hide (by rw [unhide HP]; exact ho2)⟩
      case measure => simp [intOf]; omega
    · obtain rfl : I = l.length := by omega
      have HA := hide (shP_all l)
      go_wp2
      go_ret
      exact ⟨_, rfl, by rw [← unhide HA]; exact unhide HO, hB⟩

end Go.Proofs.YtagoilabphmdfaaDoor
