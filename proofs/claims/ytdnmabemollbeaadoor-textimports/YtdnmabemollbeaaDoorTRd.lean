/-
  The program reads a state's line.
-/
import Derived.Test.YtdnmabemollbeaaDoorTMo
import Derived.Test.YtdnmabemollbeaaDoorURd
namespace Go.Proofs.YtdnmabemollbeaaDoor
open Go.RowKit

/-- The reader as a function value. -/
def fv (sb : Nat) : Value := .func (.func 47) #[.pointer (some ⟨sb, 0, none⟩)] #[]
/-- What holds behind a line that was read. -/
def StPost (w w' : World) (sb mb B : Nat) (a : Option Addr) (c : Nat) (b : List UInt8) (kd k o n : Int) (nx out : List Int) (r : Except (Nat × Int) (List (Int × Int) × Nat)) : Prop :=
  ∃ j vn vo nx' out', Sr w' sb a c b j ∧ Mo w' mb B kd k o n vn vo nx' out' ∧ Below mb w w' ∧ (∀ l q, r = .ok (l, q) → j = q ∧ nx' = nx ++ pk 32 l ∧ out' = out ++ pk 33 l) ∧ nx'.length ≤ nx.length + 64 ∧ out'.length ≤ out.length + 64

theorem rd_shape {b : List UInt8} {i j : Nat} {s : List UInt8} {lo hi e : Int} {l : List (Int × Int)} (h : rdT b i s lo hi e = .ok (l, j)) : ∃ y, l = [(e, y)] ∧ lo ≤ y ∧ y ≤ hi := by
  cases hk : skp b i s with
  | error p => rw [rd_skip hk] at h; cases h
  | ok q =>
    by_cases hf : (numV b q).2.2 = 0
    · by_cases h1 : ((numV b q).1 : Int) < lo ∨ hi < ((numV b q).1 : Int)
      · rw [rd_out hk hf h1] at h; cases h
      · rw [rd_ok hk hf (by omega) (by omega)] at h
        cases h
        exact ⟨_, rfl, by omega, by omega⟩
    · rw [rd_form hk hf] at h; cases h
section
variable {w w' : World} {mb B : Nat} {kd k o n : Int} {vn vo : Value} {nx out : List Int}
theorem Mo.ne (h : Mo w mb B kd k o n vn vo nx out) (hB : mb < B) : vn.ownBlock ≠ some mb ∧ vo.ownBlock ≠ some mb :=
  ⟨fun e => by have := (h.on.lt e).1; omega, fun e => by have := (h.oo.lt e).1; omega⟩
theorem Mo.atN (h : Mo w mb B kd k o n vn vo nx out) (hB : mb < B) (hg : w.grownBy w' vn.ownBlock) : w'.cell? ⟨mb, 4, none⟩ = some vn ∧ w'.frozen? ⟨mb, 4, none⟩ = false :=
  ⟨World.grownBy.cell hg h.p4 fun e => (h.ne hB).1 e.symm, fz_gr (h.fz 4) hg h.lt (h.ne hB).1⟩
theorem Mo.atO (h : Mo w mb B kd k o n vn vo nx out) (hB : mb < B) (hg : w.grownBy w' vo.ownBlock) : w'.cell? ⟨mb, 5, none⟩ = some vo ∧ w'.frozen? ⟨mb, 5, none⟩ = false :=
  ⟨World.grownBy.cell hg h.p5 fun e => (h.ne hB).2 e.symm, fz_gr (h.fz 5) hg h.lt (h.ne hB).2⟩
theorem Mo.c1N (h : Mo w mb B kd k o n vn vo nx out) (hB : mb < B) (hg : w.grownBy w' vn.ownBlock) : w'.cell? ⟨mb, 1, none⟩ = some (.int .i64 k) := World.grownBy.cell hg h.p1 fun e => (h.ne hB).1 e.symm
theorem Mo.c1O (h : Mo w mb B kd k o n vn vo nx out) (hB : mb < B) (hg : w.grownBy w' vo.ownBlock) : w'.cell? ⟨mb, 1, none⟩ = some (.int .i64 k) := World.grownBy.cell hg h.p1 fun e => (h.ne hB).2 e.symm
theorem len_one (l : List Int) (y : Int) : (l ++ [y]).length = l.length + 1 := by simp
end
theorem pk_one (e y : Int) : pk e [(e, y)] = [y] := by simp [pk]
theorem pk_one' {e f : Int} (y : Int) (h : f ≠ e) : pk e [(f, y)] = [] := by simp [pk, h]
theorem bl_set {w w' : World} {mb : Nat} (h : Below mb w w') {p : Addr} (hp : mb ≤ p.block) (u : Value) : Below mb w (w'.setCell p u) := h.setCell hp u

set_option maxRecDepth 100000 in
set_option maxHeartbeats 4000000 in
theorem readDfa_any (sb mb B : Nat) (a : Option Addr) (c : Nat) (b : List UInt8) (i0 : Nat) (kd k o n : Int) (vn vo : Value) (nx out : List Int) (w : World) (hS : Sr w sb a c b i0) (hM : Mo w mb B kd k o n vn vo nx out)
    (hb : b.length ≤ 140737488355328) (hm : mb < sb) (hB : sb < B) (hBw : B ≤ w.heap.size) (ha : 0 < b.length → ∀ x, a = some x → x.block < mb) (hk0 : 1 ≤ k) (hk1 : k ≤ 64) (ho0 : 1 ≤ o) (ho1 : o ≤ 64) (hn0 : 1 ≤ n) (hn1 : n ≤ 1024) (hnx : nx.length ≤ 100000) (hout : out.length ≤ 100000) :
    Calls Tryd.prog 68 #[fv sb, .pointer (some ⟨mb, 0, none⟩)] w fun e w' => e = .returned (rdE (tk b i0 (stD o n k.toNat))) ∧ StPost w w' sb mb B a c b kd k o n nx out (tk b i0 (stD o n k.toNat)) := by
  unfold fv
  obtain ⟨p0, p1, p2, p3, p4, p5, pf, -, -, -⟩ := id hM
  have hst := step_any sb a c b i0 [10] 0 (o - 1) 33 w hS (by decide) hb
  go_enter Tryd.func68, Tryd.ntmps68
  go_wp2_with fail
  refine hst.mono ?_
  rintro e w1 ⟨rfl, ⟨j1, hS1, hj1⟩, hg1⟩
  have hM1 := hM.src hg1 (by omega) hB
  have hb1 : Below mb w w1 := bl_gr hg1 (by omega) (fun x e => by cases e; omega)
  have hs1 := hg1.size
  have HZ := hide (stD_zero o n)
  cases hr : rdT b i0 [10] 0 (o - 1) 33 with
  | error x =>
    obtain ⟨rr, hrr⟩ := stD_split o n (Nat.zero_le k.toNat)
    have HR : Hid (tk b i0 (stD o n k.toNat) = .error x) := by rw [hrr, unhide HZ]; exact hide (tk_app_bad hr)
    clear hst hrr
    rw [show rdE (.error x) = flt x.2 x.1 from rfl, show rdN (.error x) = 0 from rfl]
    unfold flt
    go_wp2
    go_ret
    refine ⟨by rw [unhide HR]; rfl, j1, vn, vo, nx, out, hS1, hM1, hb1, fun l q e => ?_, by omega, by omega⟩
    rw [unhide HR] at e; cases e
  | ok lj =>
    obtain ⟨l1, q1⟩ := lj
    obtain ⟨y, rfl, hy0, hy1⟩ := rd_shape hr
    obtain rfl := hj1 _ _ hr
    have HR0 : Hid (tk b i0 (stD o n 0) = .ok ([(33, y)], j1)) := by rw [unhide HZ]; exact hide hr
    clear hst hr hj1
    rw [show rdE (.ok ([((33 : Int), y)], j1)) = .nilIface from rfl, show rdN (.ok ([((33 : Int), y)], j1)) = y from rfl]
    obtain ⟨m0, m1, m2, m3, m4, m5, mf, mon, moo, map⟩ := id hM1
    have hMa := hM1.alloc (.cells #[.int .i64 y] 3)
    have hSa := hS1.alloc (.cells #[.int .i64 y] 3)
    clear p0 p1 p2 p3 p4 p5 pf
    go_wp2_with (at_builtin; refine wpl_pushA eInt rfl (.tmp 26) (.tmp 28) rfl B vo out rfl hMa.oo ⟨w1.heap.size, 0, none⟩ 1 [y] rfl (RdL.one w1 y) (by simp only [List.length_cons, List.length_nil]; omega) (by simp; omega) ?_; intro v3 w3 ho3 hb3 hg3 hp3; obtain ⟨t5, f5⟩ := hMa.atO (by omega) hg3; have t1 := hMa.c1O (by omega) hg3; obtain ⟨a3, c3, rfl, -⟩ := ho3.shape)
    have hM3 := hMa.setO (by omega) hg3 hp3 ho3
    have hS3 := (hSa.grown hg3 (fun e => by have := (hMa.oo.lt e).1; omega) (fun h0 x hx e => by have := (hMa.oo.lt e).1; have := ha h0 x hx; omega)).setB (p := ⟨mb, 5, none⟩) (by simp; omega) (fun h0 x hx => by have := ha h0 x hx; simp; omega) (.slice a3 (out ++ [y]).length c3)
    have hb3' : Below mb w (w3.setCell ⟨mb, 5, none⟩ (.slice a3 (out ++ [y]).length c3)) := ((hb1.alloc (by omega) _).trans (hb3.mono (by omega))).setCell (by simp) _
    have hs3 : B ≤ (w3.setCell ⟨mb, 5, none⟩ (.slice a3 (out ++ [y]).length c3)).heap.size := by have := hb3.size; simp at this ⊢; omega
    rw [len_one] at hM3 hS3 hb3' hs3
    generalize w3.setCell ⟨mb, 5, none⟩ (.slice a3 (out.length + 1) c3) = w4 at *
    generalize hv4 : Value.slice a3 (out.length + 1) c3 = v4 at *
    go_wp2
    clear hM hM1 hMa hSa hS1 hS t5 f5 t1 m0 m1 m2 m3 m4 m5 mf mon moo map ho3 hp3 hg3 hb3 hg1 hb1 hv4
    have HK := hide (show ((k.toNat : Nat) : Int) = k by omega)
    go_loopw [36] (fun i wr => ∃ (x j : Nat) (un uo : Value) (nx' out' : List Int) (l : List (Int × Int)), x ≤ k.toNat ∧ i = .int .i64 (x : Int) ∧ Sr wr sb a c b j ∧ Mo wr mb B kd k o n un uo nx' out' ∧ Below mb w wr ∧ B ≤ wr.heap.size ∧ Hid (tk b i0 (stD o n x) = .ok (l, j)) ∧ Hid (nx' = nx ++ pk 32 l) ∧ Hid (out' = out ++ pk 33 l) ∧ nx'.length ≤ nx.length + x ∧ out'.length ≤ out.length + 1) (fun i _ => k.toNat - (intOf i).toNat)
    case atStart => exact ⟨0, j1, vn, v4, nx, out ++ [y], [(33, y)], Nat.zero_le _, rfl, hS3, hM3, hb3', hs3, HR0, hide (by rw [pk_one' y (by decide)]; simp), hide (by rw [pk_one]), by omega, by simp⟩
    case round =>
      obtain ⟨x, j, un, uo, nx', out', l, hx, rfl, hS, hM, hbw, hBw, HT, HN, HO, hnl, hol⟩ := hrel
      obtain ⟨m0, m1, m2, m3, m4, m5, mf, mon, moo, map⟩ := id hM
      by_cases hxk : x < k.toNat
      · have hxk' : (x : Int) < k := by have := unhide HK; omega
        have hst := step_any sb a c b j [32] 0 (n - 1) 32 wr hS (by decide) hb
        have HS := hide (stD_succ o n x)
        have HP := hide (stD_split o n (show x + 1 ≤ k.toNat from hxk))
        go_wp2_with fail
        refine hst.mono ?_
        rintro e w5 ⟨rfl, ⟨j5, hS5, hj5⟩, hg5⟩
        have hM5 := hM.src hg5 (by omega) hB
        have hb5 : Below mb wr w5 := bl_gr hg5 (by omega) (fun x e => by cases e; omega)
        have hs5 := hg5.size
        cases hr : rdT b j [32] 0 (n - 1) 32 with
        | error z =>
          have HR : Hid (tk b i0 (stD o n k.toNat) = .error z) := by
            obtain ⟨rr, hrr⟩ := unhide HP
            rw [hrr, unhide HS]; exact hide (tk_stop (unhide HT) hr _)
          clear hst hr
          rw [show rdE (.error z) = flt z.2 z.1 from rfl, show rdN (.error z) = 0 from rfl]
          unfold flt
          go_wp2
          go_ret
          refine ⟨by rw [unhide HR]; rfl, j5, un, uo, nx', out', hS5, hM5, hbw.trans hb5, fun l q e => ?_, by omega, by omega⟩
          rw [unhide HR] at e; cases e
        | ok lj =>
          obtain ⟨l1, q1⟩ := lj
          obtain ⟨y5, rfl, hy0, hy1⟩ := rd_shape hr
          obtain rfl := hj5 _ _ hr
          have HT5 : Hid (tk b i0 (stD o n (x + 1)) = .ok (l ++ [(32, y5)], j5)) := by rw [unhide HS]; exact hide (tk_more (unhide HT) hr)
          clear hst hr hj5
          rw [show rdE (.ok ([((32 : Int), y5)], j5)) = .nilIface from rfl, show rdN (.ok ([((32 : Int), y5)], j5)) = y5 from rfl]
          clear m0 m1 m2 m3 m4 m5 mf mon moo map
          obtain ⟨m0, m1, m2, m3, m4, m5, mf, mon, moo, map⟩ := id hM5
          have hMa := hM5.alloc (.cells #[.int .i64 y5] 3)
          have hSa := hS5.alloc (.cells #[.int .i64 y5] 3)
          go_wp2_with (at_builtin; refine wpl_pushA eInt rfl (.tmp 55) (.tmp 57) rfl B un nx' rfl hMa.on ⟨w5.heap.size, 0, none⟩ 1 [y5] rfl (RdL.one w5 y5) (by simp only [List.length_cons, List.length_nil]; omega) (by simp; omega) ?_; intro v6 w6 ho6 hb6 hg6 hp6; obtain ⟨t4, f4⟩ := hMa.atN (by omega) hg6; obtain ⟨a6, c6, rfl, -⟩ := ho6.shape)
          have hM6 := hMa.setN (by omega) hg6 hp6 ho6
          have hS6 := (hSa.grown hg6 (fun e => by have := (hMa.on.lt e).1; omega) (fun h0 x hx e => by have := (hMa.on.lt e).1; have := ha h0 x hx; omega)).setB (p := ⟨mb, 4, none⟩) (by simp; omega) (fun h0 x hx => by have := ha h0 x hx; simp; omega) (.slice a6 (nx' ++ [y5]).length c6)
          have hb6' : Below mb w (w6.setCell ⟨mb, 4, none⟩ (.slice a6 (nx' ++ [y5]).length c6)) := (((hbw.trans hb5).alloc (by omega) _).trans (hb6.mono (by omega))).setCell (by simp) _
          have hs6 : B ≤ (w6.setCell ⟨mb, 4, none⟩ (.slice a6 (nx' ++ [y5]).length c6)).heap.size := by have := hb6.size; simp at this ⊢; omega
          rw [len_one] at hM6 hS6 hb6' hs6
          go_roundw
          case rel => exact ⟨x + 1, j5, _, uo, nx' ++ [y5], out', l ++ [(32, y5)], by omega, by go_num, hS6, hM6, hb6', hs6, HT5, hide (by rw [unhide HN, pk_app, pk_one, List.append_assoc]), hide (by rw [unhide HO, pk_app, pk_one' y5 (by decide), List.append_nil]), by rw [len_one]; omega, hol⟩
          case measure => simp [intOf]; omega
      · have HXE := hide (show x = k.toNat by omega)
        have hge : ¬ ((x : Int) < k) := by have := unhide HK; omega
        go_wp2
        go_ret
        rw [unhide HXE] at HT
        refine ⟨by rw [unhide HT]; rfl, j, un, uo, nx', out', hS, hM, hbw, fun l' q e => ?_, by omega, by omega⟩
        rw [unhide HT] at e; cases e
        exact ⟨rfl, unhide HN, unhide HO⟩

end Go.Proofs.YtdnmabemollbeaaDoor
