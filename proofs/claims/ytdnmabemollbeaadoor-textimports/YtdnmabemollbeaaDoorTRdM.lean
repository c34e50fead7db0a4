/-
  The program reads a Mealy's line; any state's line.
-/
import Derived.Test.YtdnmabemollbeaaDoorTRd
namespace Go.Proofs.YtdnmabemollbeaaDoor
open Go.RowKit

set_option maxRecDepth 100000 in
set_option maxHeartbeats 4000000 in
theorem readMealy_any (sb mb B : Nat) (a : Option Addr) (c : Nat) (b : List UInt8) (i0 : Nat) (kd k o n : Int) (vn vo : Value) (nx out : List Int) (w : World) (hS : Sr w sb a c b i0) (hM : Mo w mb B kd k o n vn vo nx out)
    (hb : b.length ≤ 140737488355328) (hm : mb < sb) (hB : sb < B) (hBw : B ≤ w.heap.size) (ha : 0 < b.length → ∀ x, a = some x → x.block < mb) (hk0 : 1 ≤ k) (hk1 : k ≤ 64) (ho0 : 1 ≤ o) (ho1 : o ≤ 64) (hn0 : 1 ≤ n) (hn1 : n ≤ 1024) (hnx : nx.length ≤ 100000) (hout : out.length ≤ 100000) :
    Calls Tryd.prog 69 #[fv sb, .pointer (some ⟨mb, 0, none⟩)] w fun e w' => e = .returned (rdE (tk b i0 (stM o n k.toNat))) ∧ StPost w w' sb mb B a c b kd k o n nx out (tk b i0 (stM o n k.toNat)) := by
  unfold fv
  obtain ⟨p0, p1, p2, p3, p4, p5, pf, -, -, -⟩ := id hM
  have HK := hide (show ((k.toNat : Nat) : Int) = k by omega)
  go_enter Tryd.func69, Tryd.ntmps69
  go_wp2
  clear p0 p1 p2 p3 p4 p5 pf
  go_loopw [5, 13] (fun ah i wr => ∃ (x j : Nat) (cc : UInt8) (un uo : Value) (nx' out' : List Int) (l : List (Int × Int)), x ≤ k.toNat ∧ i = .int .i64 (x : Int) ∧ ah = .string ⟨#[cc]⟩ ∧ Hid (cc = if x = 0 then 10 else 32) ∧ Sr wr sb a c b j ∧ Mo wr mb B kd k o n un uo nx' out' ∧ Below mb w wr ∧ B ≤ wr.heap.size ∧ Hid (tk b i0 (stM o n x) = .ok (l, j)) ∧ Hid (nx' = nx ++ pk 32 l) ∧ Hid (out' = out ++ pk 33 l) ∧ nx'.length ≤ nx.length + x ∧ out'.length ≤ out.length + x) (fun _ i _ => k.toNat - (intOf i).toNat)
  case atStart => exact ⟨0, i0, 10, vn, vo, nx, out, [], Nat.zero_le _, rfl, rfl, hide rfl, hS, hM, Below.refl _ _, hBw, hide rfl, hide (by simp [pk_nil]), hide (by simp [pk_nil]), by omega, by omega⟩
  case round =>
    obtain ⟨x, j, cc, un, uo, nx', out', l, hx, rfl, rfl, HC, hS, hM, hbw, hBw, HT, HN, HO, hnl, hol⟩ := hrel
    obtain ⟨m0, m1, m2, m3, m4, m5, mf, mon, moo, map⟩ := id hM
    by_cases hxk : x < k.toNat
    · have hxk' : (x : Int) < k := by have := unhide HK; omega
      have hst := step_any sb a c b j [cc] 0 (n - 1) 32 wr hS (by simp) hb
      have HS := hide (stM_succ o n x)
      rw [← unhide HC] at HS
      have HP := hide (stM_split o n (show x + 1 ≤ k.toNat from hxk))
      go_wp2_with fail
      refine hst.mono ?_
      rintro e w5 ⟨rfl, ⟨j5, hS5, hj5⟩, hg5⟩
      have hM5 := hM.src hg5 (by omega) hB
      have hb5 : Below mb wr w5 := bl_gr hg5 (by omega) (fun x e => by cases e; omega)
      have hs5 := hg5.size
      cases hr : rdT b j [cc] 0 (n - 1) 32 with
      | error z =>
        have HR : Hid (tk b i0 (stM o n k.toNat) = .error z) := by
          obtain ⟨rr, hrr⟩ := unhide HP
          rw [hrr, unhide HS, List.append_assoc]; exact hide (tk_stop (unhide HT) hr _)
        clear hst hr
        rw [show rdE (.error z) = flt z.2 z.1 from rfl, show rdN (.error z) = 0 from rfl]
        unfold flt
        go_wp2
        go_ret
        refine ⟨by rw [unhide HR]; rfl, j5, un, uo, nx', out', hS5, hM5, hbw.trans hb5, fun l q e => ?_, by omega, by omega⟩
        rw [unhide HR] at e; cases e
      | ok lj =>
        obtain ⟨l1, q1⟩ := lj
        obtain ⟨y5, rfl, hy0, hy1⟩ := rd_shape hr
        obtain rfl := hj5 _ _ hr
        have HT5 : Hid (tk b i0 (stM o n x ++ [.tx [cc], .nm 0 (n - 1) 32]) = .ok (l ++ [(32, y5)], j5)) := hide (tk_more (unhide HT) hr)
        clear hst hr hj5
        rw [show rdE (.ok ([((32 : Int), y5)], j5)) = .nilIface from rfl, show rdN (.ok ([((32 : Int), y5)], j5)) = y5 from rfl]
        clear m0 m1 m2 m3 m4 m5 mf mon moo map
        obtain ⟨m0, m1, m2, m3, m4, m5, mf, mon, moo, map⟩ := id hM5
        have hst := step_any sb a c b j5 [47] 0 (o - 1) 33 w5 hS5 (by decide) hb
        go_wp2_with fail
        refine hst.mono ?_
        rintro e w7 ⟨rfl, ⟨j7, hS7, hj7⟩, hg7⟩
        have hM7 := hM5.src hg7 (by omega) hB
        have hb7 : Below mb w5 w7 := bl_gr hg7 (by omega) (fun x e => by cases e; omega)
        have hs7 := hg7.size
        cases hr : rdT b j5 [47] 0 (o - 1) 33 with
        | error z =>
          have HR : Hid (tk b i0 (stM o n k.toNat) = .error z) := by
            obtain ⟨rr, hrr⟩ := unhide HP
            rw [hrr, unhide HS]; exact hide (tk_stop (unhide HT5) hr _)
          clear hst hr
          rw [show rdE (.error z) = flt z.2 z.1 from rfl, show rdN (.error z) = 0 from rfl]
          unfold flt
          go_wp2
          go_ret
          refine ⟨by rw [unhide HR]; rfl, j7, un, uo, nx', out', hS7, hM7, (hbw.trans hb5).trans hb7, fun l q e => ?_, by omega, by omega⟩
          rw [unhide HR] at e; cases e
        | ok lj =>
          obtain ⟨l1, q1⟩ := lj
          obtain ⟨y7, rfl, hz0, hz1⟩ := rd_shape hr
          obtain rfl := hj7 _ _ hr
          have HT7 : Hid (tk b i0 (stM o n (x + 1)) = .ok (l ++ [(32, y5)] ++ [(33, y7)], j7)) := by rw [unhide HS]; exact hide (tk_more (unhide HT5) hr)
          clear hst hr hj7
          rw [show rdE (.ok ([((33 : Int), y7)], j7)) = .nilIface from rfl, show rdN (.ok ([((33 : Int), y7)], j7)) = y7 from rfl]
          clear m0 m1 m2 m3 m4 m5 mf mon moo map
          obtain ⟨m0, m1, m2, m3, m4, m5, mf, mon, moo, map⟩ := id hM7
          have hMa := hM7.alloc (.cells #[.int .i64 y5] 3)
          have hSa := hS7.alloc (.cells #[.int .i64 y5] 3)
          go_wp2_with (first
            | (at_builtin; have hmark := hM6; refine wpl_pushA eInt rfl (.tmp 56) (.tmp 58) rfl B uo out' rfl (hM6.alloc (.cells #[.int .i64 y7] 3)).oo ⟨w6.heap.size, 0, none⟩ 1 [y7] rfl hR7 (by simp only [List.length_cons, List.length_nil]; omega) (by simp; omega) ?_; intro v8 w8 ho8 hb8 hg8 hp8; obtain ⟨u5, g5⟩ := (hM6.alloc (.cells #[.int .i64 y7] 3)).atO (by omega) hg8; obtain ⟨a8, c8, rfl, -⟩ := ho8.shape)
            | (at_builtin; refine wpl_pushA eInt rfl (.tmp 46) (.tmp 48) rfl B un nx' rfl hMa.on ⟨w7.heap.size, 0, none⟩ 1 [y5] rfl (RdL.one w7 y5) (by simp only [List.length_cons, List.length_nil]; omega) (by simp; omega) ?_; intro v6 w6 ho6 hb6 hg6 hp6; obtain ⟨t4, f4⟩ := hMa.atN (by omega) hg6; have t5 : w6.cell? ⟨mb, 5, none⟩ = some uo := World.grownBy.cell hg6 hMa.p5 (fun e => (hMa.ne (by omega)).1 e.symm); obtain ⟨a6, c6, rfl, -⟩ := ho6.shape; have hM6 := hMa.setN (by omega) hg6 hp6 ho6; have hsz6 : B ≤ w6.heap.size := (by have := hb6.size; simp at this; omega); rw [len_one] at hM6; have hR7 : RdL .i64 ((w6.setCell ⟨mb, 4, none⟩ (.slice a6 (nx'.length + 1) c6)).alloc (.cells #[.int .i64 y7] 3)) (some ⟨w6.heap.size, 0, none⟩) [y7] := (by simpa using RdL.one (q := .i64) (t := 3) (w6.setCell ⟨mb, 4, none⟩ (.slice a6 (nx'.length + 1) c6)) y7)))
          have hS6 := (hSa.grown hg6 (fun e => by have := (hMa.on.lt e).1; omega) (fun h0 x hx e => by have := (hMa.on.lt e).1; have := ha h0 x hx; omega)).setB (p := ⟨mb, 4, none⟩) (by simp; omega) (fun h0 x hx => by have := ha h0 x hx; simp; omega) (.slice a6 (nx'.length + 1) c6)
          have hb6' : Below mb w (w6.setCell ⟨mb, 4, none⟩ (.slice a6 (nx'.length + 1) c6)) := ((((hbw.trans hb5).trans hb7).alloc (by omega) _).trans (hb6.mono (by omega))).setCell (by simp) _
          have hMb := hM6.alloc (.cells #[.int .i64 y7] 3)
          have hM8 := hMb.setO (by omega) hg8 hp8 ho8
          have hS8 := ((hS6.alloc (.cells #[.int .i64 y7] 3)).grown hg8 (fun e => by have := (hMb.oo.lt e).1; omega) (fun h0 x hx e => by have := (hMb.oo.lt e).1; have := ha h0 x hx; omega)).setB (p := ⟨mb, 5, none⟩) (by simp; omega) (fun h0 x hx => by have := ha h0 x hx; simp; omega) (.slice a8 (out' ++ [y7]).length c8)
          have hb8' : Below mb w (w8.setCell ⟨mb, 5, none⟩ (.slice a8 (out' ++ [y7]).length c8)) := ((hb6'.alloc (by simp; omega) _).trans (hb8.mono (by omega))).setCell (by simp) _
          have hs8 : B ≤ (w8.setCell ⟨mb, 5, none⟩ (.slice a8 (out' ++ [y7]).length c8)).heap.size := by have := hb8.size; simp at this ⊢; omega
          rw [len_one] at hM8 hS8 hb8' hs8
          go_roundw
          case rel => exact ⟨x + 1, j7, 32, _, _, nx' ++ [y5], out' ++ [y7], l ++ [(32, y5)] ++ [(33, y7)], by omega, by go_num, rfl, hide (by rw [if_neg (by omega)]), hS8, hM8, hb8', hs8, HT7, hide (by rw [unhide HN, pk_app, pk_app, pk_one, pk_one' y7 (by decide), List.append_nil, List.append_assoc]), hide (by rw [unhide HO, pk_app, pk_app, pk_one, pk_one' y5 (by decide), List.append_nil, List.append_assoc]), by rw [len_one]; omega, by rw [len_one]; omega⟩
          case measure => simp [intOf]; omega
    · have HXE := hide (show x = k.toNat by omega)
      have hge : ¬ ((x : Int) < k) := by have := unhide HK; omega
      go_wp2
      go_ret
      rw [unhide HXE] at HT
      refine ⟨by rw [unhide HT]; rfl, j, un, uo, nx', out', hS, hM, hbw, fun l' q e => ?_, by omega, by omega⟩
      rw [unhide HT] at e; cases e
      exact ⟨rfl, unhide HN, unhide HO⟩

end Go.Proofs.YtdnmabemollbeaaDoor
