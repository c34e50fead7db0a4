/-
  The program reads a whole text.
-/
import Derived.Test.YtdnmabemollbeaaDoorTRdH
import Derived.Deep.RegionWith
namespace Go.Proofs.YtdnmabemollbeaaDoor
open Go.RowKit

def imE : Except (Nat × Int) Mc → Value
  | .error x => flt x.2 x.1
  | .ok _ => .nilIface
/-- A machine in memory of the call's own (from block B on), its lists apart. -/
def MOwn (w : World) (B : Nat) (m : Mc) (a1 : Option Addr) (c1 : Nat) (a2 : Option Addr) (c2 : Nat) : Prop :=
  OwnL .i64 3 w B (.slice a1 m.nx.length c1) m.nx ∧ OwnL .i64 3 w B (.slice a2 m.out.length c2) m.out ∧ ∀ x, (Value.slice a1 m.nx.length c1).ownBlock = some x → (Value.slice a2 m.out.length c2).ownBlock ≠ some x
def RmPost (w w' : World) (b : List UInt8) (e : Ending) : Prop :=
  ∃ (m : Mc) (a1 : Option Addr) (c1 : Nat) (a2 : Option Addr) (c2 : Nat), e = .returned (.tuple #[mval m a1 c1 a2 c2, imE (imP b)]) ∧ MOwn w' w.heap.size m a1 c1 a2 c2 ∧ (∀ m', imP b = .ok m' → m = m') ∧ Below w.heap.size w w'

theorem RdL.ltB {q : IntKind} {w : World} {a : Option Addr} {l : List Int} (h : RdL q w a l) (hl : 0 < l.length) : ∀ x, a = some x → x.block < w.heap.size := fun x e => by
  obtain ⟨b, off, e2, hc⟩ := h.at hl
  rw [e] at e2
  cases e2
  exact World.block_lt_of_cell? w _ (hc 0 hl)
/-- A value that owns a list is a slice of it. -/
theorem OwnL.sl {w : World} {B : Nat} {v : Value} {l : List Int} (h : OwnL .i64 3 w B v l) : ∃ a c, v = .slice a l.length c := by
  obtain ⟨a, c, e, _⟩ := h.shape
  exact ⟨a, c, e⟩

set_option maxRecDepth 100000 in
set_option maxHeartbeats 8000000 in
theorem readMachine_long (a : Option Addr) (c : Nat) (b : List UInt8) (w : World) (hl : 16777216 < b.length) :
    Calls Tryd.prog 34 #[.slice a b.length c] w fun e w' => RmPost w w' b e := by
  have HR := hide (imP_long hl)
  have hl' : (b.length : Int) > 16777216 := by omega
  have hM0 := Mo.made w (w.heap.size + 1) 0 0 0 0 24
  go_enter Tryd.func34, Tryd.ntmps34
  go_wp2
  refine bodyPost_ret (v := .tuple #[.agg #[.int .i64 0, .int .i64 0, .int .i64 0, .int .i64 0, .slice none 0 0, .slice none 0 0], .iface 69 (.agg #[.int .i64 2, .int .i64 0])]) ?_ rfl ⟨mcZ, none, 0, none, 0, by rw [unhide HR]; rfl, ⟨OwnL.nil _ _ _ _, OwnL.nil _ _ _ _, (fun x h => by cases h)⟩, (fun m' e => by rw [unhide HR] at e; cases e), (Below.refl _ _).alloc (Nat.le_refl _) _⟩
  simp [results, Tryd.results34, go_sem]

theorem Sr.made (w : World) (a : Option Addr) (c : Nat) (b : List UInt8) (hr : RdL .u8 w a (zs b)) (t : TypeId) (ha : 0 < b.length → ∀ x, a = some x → x.block < w.heap.size) : Sr (w.alloc (.cells #[.slice a b.length c, .int .i64 0] t)) w.heap.size a c b 0 :=
  ⟨by simp, by simp, by simp, hr.below ((Below.refl _ _).alloc (Nat.le_refl _) _), Nat.zero_le _, fun h0 x hx => by have := ha h0 x hx; omega⟩
/-- The first line, whatever its kind. -/
theorem readSizes_any (sb : Nat) (a : Option Addr) (c : Nat) (b : List UInt8) (kd : Int) (w : World) (hk : kd = 1 ∨ kd = 2) (hS : Sr w sb a c b 0) (hb : b.length ≤ 140737488355328) (ha : 0 < b.length → ∀ x, a = some x → x.block < w.heap.size) :
    Calls Tryd.prog 48 #[fv sb, .int .i64 kd] w fun e w' => ∃ k o n, e = .returned (.tuple #[hdA kd k o n, rdE (tk b 0 (hdP kd))]) ∧ HdPost w w' sb a c b kd k o n (tk b 0 (hdP kd)) := by
  rcases hk with rfl | rfl
  · exact readSizes_d sb a c b w hS hb ha
  · exact readSizes_m sb a c b w hS hb ha
theorem kdV_one (b : List UInt8) : kdV b = 1 ∨ kdV b = 2 := by
  rcases kdV_cases b with ⟨h, _⟩ | ⟨h, _⟩
  · exact .inl h
  · exact .inr h
theorem bl_six {w w1 : World} {B mb : Nat} (h : Below B w w1) (hb : B ≤ mb) (u0 u1 u2 u3 u4 u5 : Value) : Below B w ((((((w1.setCell ⟨mb, 0, none⟩ u0).setCell ⟨mb, 1, none⟩ u1).setCell ⟨mb, 2, none⟩ u2).setCell ⟨mb, 3, none⟩ u3).setCell ⟨mb, 4, none⟩ u4).setCell ⟨mb, 5, none⟩ u5) :=
  (((((h.setCell (p := ⟨mb, 0, none⟩) hb u0).setCell (p := ⟨mb, 1, none⟩) hb u1).setCell (p := ⟨mb, 2, none⟩) hb u2).setCell (p := ⟨mb, 3, none⟩) hb u3).setCell (p := ⟨mb, 4, none⟩) hb u4).setCell (p := ⟨mb, 5, none⟩) hb u5
theorem gr_und {w w' : World} {r : Option Nat} (h : w.drew.grownBy w' r) : w.grownBy w' r := ⟨h.os, h.tape, h.output, h.size, h.block⟩
/-- All is read but the end. -/
theorem im_end {b : List UInt8} {kd k o n : Int} {j0 j : Nat} {l : List (Int × Int)} (h : tk b j0 (stsP kd k o n n.toNat) = .ok (l, j)) : imB b kd k o n j0 = match edR b j with
    | .error x => .error x
    | .ok _ => .ok ⟨kd, k, o, n, pk 32 l, pk 33 l⟩ := by
  have e0 : tk b j0 (bdP kd k o n) = pre l (tk b j [.tx [10]]) := by rw [bdP_eq, tk_app_ok h]
  cases hk : skp b j [10] with
  | error p =>
    rw [ed_skip hk]
    exact imB_bad (by rw [e0, tk_tx_bad hk]; rfl)
  | ok q =>
    have e1 : tk b j0 (bdP kd k o n) = .ok (l, q) := by rw [e0, tk_tx hk]; simp [tk, pre]
    by_cases hq : q < b.length
    · rw [ed_more hk hq]; exact imB_more e1 hq
    · rw [ed_ok hk hq]; exact imB_ok e1 hq

set_option maxRecDepth 100000 in
set_option maxHeartbeats 8000000 in
theorem readMachine_short (a : Option Addr) (c : Nat) (b : List UInt8) (w : World) (hr : RdL .u8 w a (zs b)) (hl : ¬ 16777216 < b.length) :
    Calls Tryd.prog 34 #[.slice a b.length c] w fun e w' => RmPost w w' b e := by
  have HI := hide (imP_short hl)
  have hl' : ¬ ((b.length : Int) > 16777216) := by omega
  have hb : b.length ≤ 140737488355328 := by omega
  have ha : 0 < b.length → ∀ x, a = some x → x.block < w.heap.size := fun h0 => RdL.ltB hr (by rw [zs_len]; exact h0)
  have hM0 := Mo.made w (w.heap.size + 2) 0 0 0 0 24
  have hb0 : Below w.heap.size w (w.alloc (.cells #[.int .i64 0, .int .i64 0, .int .i64 0, .int .i64 0, .slice none 0 0, .slice none 0 0] 24)) := (Below.refl _ _).alloc (Nat.le_refl _) _
  have hS0 := Sr.made _ a c b (hr.below hb0) 85 (fun h0 x hx => by have := ha h0 x hx; simp; omega)
  have hMs := hM0.alloc (.cells #[.slice a b.length c, .int .i64 0] 85)
  have hb1 : Below w.heap.size w ((w.alloc (.cells #[.int .i64 0, .int .i64 0, .int .i64 0, .int .i64 0, .slice none 0 0, .slice none 0 0] 24)).alloc (.cells #[.slice a b.length c, .int .i64 0] 85)) := balloc hb0 _
  have hsz1 : ((w.alloc (.cells #[.int .i64 0, .int .i64 0, .int .i64 0, .int .i64 0, .slice none 0 0, .slice none 0 0] 24)).alloc (.cells #[.slice a b.length c, .int .i64 0] 85)).heap.size = w.heap.size + 1 + 1 := by simp
  have hz0 : (w.alloc (.cells #[.int .i64 0, .int .i64 0, .int .i64 0, .int .i64 0, .slice none 0 0, .slice none 0 0] 24)).heap.size = w.heap.size + 1 := by simp
  rw [hz0] at hS0
  have hkd := kdV_one b
  go_enter Tryd.func34, Tryd.ntmps34
  go_wp2_with fail
  generalize hw1 : (w.alloc (.cells #[.int .i64 0, .int .i64 0, .int .i64 0, .int .i64 0, .slice none 0 0, .slice none 0 0] 24)).alloc (.cells #[.slice a b.length c, .int .i64 0] 85) = w1 at *
  have hkc := kindOf_any a c b w1 hS0.rd
  refine hkc.mono ?_
  rintro e w' ⟨rfl, hw'⟩
  subst w'
  have hsz := readSizes_any (w.heap.size + 1) a c b (kdV b) w1 hkd hS0 hb (fun h0 x hx => by have := ha h0 x hx; omega)
  have HKV := hide (show kdV b = kdV b from rfl)
  generalize hkv : kdV b = kd at *
  clear hkc
  unfold fv at hsz
  go_wp2_with fail
  refine hsz.mono ?_
  rintro e w2 ⟨k, o, n, rfl, ⟨j2, hS2, hj2⟩, hg2⟩
  have hM2 := hMs.src hg2 (by omega) (by omega)
  have hb2 : Below w.heap.size w w2 := hb1.trans (bl_gr hg2 (by omega) (fun x e => by cases e; omega))
  have hs2 := hg2.size
  have hM3 := hM2.six (by omega) kd k o n
  have hS3 := hS2.six (mb := w.heap.size) (by omega) (fun h0 x hx => by have := ha h0 x hx; omega) (.int .i64 kd) (.int .i64 k) (.int .i64 o) (.int .i64 n) (.slice none 0 0) (.slice none 0 0)
  have hb3 : Below w.heap.size w _ := (((((hb2.setCell (p := ⟨w.heap.size, 0, none⟩) (Nat.le_refl _) (.int .i64 kd)).setCell (p := ⟨w.heap.size, 1, none⟩) (Nat.le_refl _) (.int .i64 k)).setCell (p := ⟨w.heap.size, 2, none⟩) (Nat.le_refl _) (.int .i64 o)).setCell (p := ⟨w.heap.size, 3, none⟩) (Nat.le_refl _) (.int .i64 n)).setCell (p := ⟨w.heap.size, 4, none⟩) (Nat.le_refl _) (.slice none 0 0)).setCell (p := ⟨w.heap.size, 5, none⟩) (Nat.le_refl _) (.slice none 0 0)
  have hsz3 : ((((((w2.setCell ⟨w.heap.size, 0, none⟩ (.int .i64 kd)).setCell ⟨w.heap.size, 1, none⟩ (.int .i64 k)).setCell ⟨w.heap.size, 2, none⟩ (.int .i64 o)).setCell ⟨w.heap.size, 3, none⟩ (.int .i64 n)).setCell ⟨w.heap.size, 4, none⟩ (.slice none 0 0)).setCell ⟨w.heap.size, 5, none⟩ (.slice none 0 0)).heap.size = w2.heap.size := by simp
  unfold hdA
  obtain ⟨m0, m1, m2, m3, m4, m5, mf, -, -, -⟩ := id hM2
  cases hr1 : tk b 0 (hdP kd) with
  | error z =>
    have HR : Hid (imP b = .error z) := by rw [unhide HI]; exact hide (imK_bad hr1)
    clear hsz hj2 hr1
    rw [show rdE (.error z) = flt z.2 z.1 from rfl]
    unfold flt
    obtain ⟨p0, p1, p2, p3, p4, p5, pf, -, -, -⟩ := id hM3
    generalize hw3 : ((((((w2.setCell ⟨w.heap.size, 0, none⟩ (.int .i64 kd)).setCell ⟨w.heap.size, 1, none⟩ (.int .i64 k)).setCell ⟨w.heap.size, 2, none⟩ (.int .i64 o)).setCell ⟨w.heap.size, 3, none⟩ (.int .i64 n)).setCell ⟨w.heap.size, 4, none⟩ (.slice none 0 0)).setCell ⟨w.heap.size, 5, none⟩ (.slice none 0 0)) = w3 at *
    go_wp2
    obtain ⟨q0, q1, q2, q3, q4, q5, -, qn, qo, qa⟩ := hM3.six (by omega) kd k o n
    have HFB := hide (bl_six hb3 (Nat.le_refl w.heap.size) (.int .i64 kd) (.int .i64 k) (.int .i64 o) (.int .i64 n) (.slice none 0 0) (.slice none 0 0))
    have HFO := hide (show MOwn _ w.heap.size ⟨kd, k, o, n, [], []⟩ none 0 none 0 from ⟨qn.mono (by omega), qo.mono (by omega), qa⟩)
    clear qn qo qa
    refine bodyPost_ret (v := .tuple #[.agg #[.int .i64 kd, .int .i64 k, .int .i64 o, .int .i64 n, .slice none 0 0, .slice none 0 0], .iface 69 (.agg #[.int .i64 z.2, .int .i64 (z.1 : Int)])]) ?_ rfl ⟨⟨kd, k, o, n, [], []⟩, none, 0, none, 0, by rw [unhide HR]; rfl, unhide HFO, (fun m' e => by rw [unhide HR] at e; cases e), unhide HFB⟩
    simp [results, Tryd.results34, go_sem, q0, q1, q2, q3, q4, q5]
  | ok lj =>
    obtain ⟨l1, q1⟩ := lj
    obtain ⟨rfl, rfl, hko, hk0, hk1, ho0, ho1, hn0, hn1⟩ := hj2 _ _ hr1
    have HI2 : Hid (imP b = imB b kd k o n j2) := by rw [unhide HI]; exact hide (imK_ok hr1 hko)
    clear hsz hj2 hr1 hko
    rw [show rdE (.ok (hdV kd k o n, j2)) = .nilIface from rfl]
    obtain ⟨p0, p1, p2, p3, p4, p5, pf, -, -, -⟩ := id hM3
    generalize hw3 : ((((((w2.setCell ⟨w.heap.size, 0, none⟩ (.int .i64 kd)).setCell ⟨w.heap.size, 1, none⟩ (.int .i64 k)).setCell ⟨w.heap.size, 2, none⟩ (.int .i64 o)).setCell ⟨w.heap.size, 3, none⟩ (.int .i64 n)).setCell ⟨w.heap.size, 4, none⟩ (.slice none 0 0)).setCell ⟨w.heap.size, 5, none⟩ (.slice none 0 0)) = w3 at *
    go_wp2
    clear p0 p1 p2 p3 p4 p5 pf m0 m1 m2 m3 m4 m5 mf hw3 hM2 hS2 hw1 hM0 hb0 hS0 hMs hb1 hz0 hb2
    have HNN := hide (show ((n.toNat : Nat) : Int) = n by omega)
    have hB3 : w.heap.size + 2 ≤ w3.heap.size := by omega
    go_loopw [3, 28] (fun er i wr => ∃ (x j : Nat) (un uo : Value) (nx' out' : List Int) (l : List (Int × Int)), x ≤ n.toNat ∧ er = .nilIface ∧ i = .int .i64 (x : Int) ∧ Sr wr (w.heap.size + 1) a c b j ∧ Mo wr w.heap.size (w.heap.size + 2) kd k o n un uo nx' out' ∧ Below w.heap.size w wr ∧ w.heap.size + 2 ≤ wr.heap.size ∧ Hid (tk b j2 (stsP kd k o n x) = .ok (l, j)) ∧ Hid (nx' = pk 32 l) ∧ Hid (out' = pk 33 l) ∧ nx'.length ≤ 64 * x ∧ out'.length ≤ 64 * x) (fun _ i _ => n.toNat - (intOf i).toNat)
    case atStart => exact ⟨0, j2, _, _, [], [], [], Nat.zero_le _, rfl, rfl, hS3, hM3, hb3, hB3, hide rfl, hide rfl, hide rfl, by simp, by simp⟩
    case round =>
      obtain ⟨x, j, un, uo, nx', out', l, hx, rfl, rfl, hS, hM, hbw, hBw, HT, HN, HO, hnl, hol⟩ := hrel
      obtain ⟨a1, c1, rfl⟩ := hM.on.sl
      obtain ⟨a2, c2, rfl⟩ := hM.oo.sl
      obtain ⟨m0, m1, m2, m3, m4, m5, mf, -, -, -⟩ := id hM
      by_cases hxn : x < n.toNat
      · have hxn' : (x : Int) < n := by have := unhide HNN; omega
        have hst := readState_any (w.heap.size + 1) w.heap.size (w.heap.size + 2) a c b j kd k o n _ _ nx' out' wr hS hM hb (by omega) (by omega) hBw ha hk0 hk1 ho0 ho1 hn0 hn1 (by omega) (by omega)
        have HS := hide (stsP_succ kd k o n x)
        have HP := hide (stsP_split kd k o n (show x + 1 ≤ n.toNat from hxn))
        unfold fv at hst
        go_wp2_with fail
        refine hst.mono ?_
        rintro e w5 ⟨rfl, j5, vn5, vo5, nx5, out5, hS5, hM5, hb5, hok5, hnl5, hol5⟩
        have hs5 := hb5.size
        obtain ⟨a5, c5, rfl⟩ := hM5.on.sl
        obtain ⟨a6, c6, rfl⟩ := hM5.oo.sl
        cases hr5 : tk b j (stP kd k o n) with
        | error z =>
          have HR : Hid (imP b = .error z) := by
            rw [unhide HI2]
            obtain ⟨rr, hrr⟩ := unhide HP
            refine hide (imB_bad ?_)
            rw [bdP_eq, hrr, unhide HS, List.append_assoc]
            exact tk_stop (unhide HT) hr5 _
          clear hst hr5 hok5
          rw [show rdE (.error z) = flt z.2 z.1 from rfl]
          unfold flt
          clear m0 m1 m2 m3 m4 m5 mf
          obtain ⟨m0, m1, m2, m3, m4, m5, mf, -, -, -⟩ := id hM5
          go_wp2
          obtain ⟨q0, q1, q2, q3, q4, q5, -, qn, qo, qa⟩ := hM5.six (by omega) kd k o n
          have HFB := hide (bl_six (hbw.trans hb5) (Nat.le_refl w.heap.size) (.int .i64 kd) (.int .i64 k) (.int .i64 o) (.int .i64 n) (.slice a5 nx5.length c5) (.slice a6 out5.length c6))
          have HFO := hide (show MOwn _ w.heap.size ⟨kd, k, o, n, nx5, out5⟩ a5 c5 a6 c6 from ⟨qn.mono (by omega), qo.mono (by omega), qa⟩)
          clear qn qo qa
          refine bodyPost_ret (v := .tuple #[.agg #[.int .i64 kd, .int .i64 k, .int .i64 o, .int .i64 n, .slice a5 nx5.length c5, .slice a6 out5.length c6], .iface 69 (.agg #[.int .i64 z.2, .int .i64 (z.1 : Int)])]) ?_ rfl ⟨⟨kd, k, o, n, nx5, out5⟩, a5, c5, a6, c6, by rw [unhide HR]; rfl, unhide HFO, (fun m' e => by rw [unhide HR] at e; cases e), unhide HFB⟩
          simp [results, Tryd.results34, go_sem, q0, q1, q2, q3, q4, q5]
        | ok lj =>
          obtain ⟨l5, q5⟩ := lj
          obtain ⟨rfl, hn5, ho5⟩ := hok5 _ _ hr5
          have HT5 : Hid (tk b j2 (stsP kd k o n (x + 1)) = .ok (l ++ l5, j5)) := by rw [unhide HS]; exact hide (tk_more (unhide HT) hr5)
          have HN5 : Hid (nx5 = pk 32 (l ++ l5)) := hide (by rw [hn5, unhide HN, pk_app])
          have HO5 : Hid (out5 = pk 33 (l ++ l5)) := hide (by rw [ho5, unhide HO, pk_app])
          clear hst hr5 hok5 hn5 ho5
          rw [show rdE (.ok (l5, j5)) = .nilIface from rfl]
          go_wp2
          go_roundw
          case rel => exact ⟨x + 1, j5, _, _, nx5, out5, l ++ l5, by omega, rfl, by go_num, hS5, hM5, hbw.trans hb5, by omega, HT5, HN5, HO5, by omega, by omega⟩
          case measure => simp [intOf]; omega
      · have HXE := hide (show x = n.toNat by omega)
        have hge : ¬ ((x : Int) < n) := by have := unhide HNN; omega
        have hed := end_any (w.heap.size + 1) a c b j wr hS hb
        rw [unhide HXE] at HT
        have HE := hide (im_end (unhide HT))
        go_wp2
        have HRES := hide (show edE (edR b j) = imE (imP b) by rw [unhide HI2, unhide HE]; cases edR b j <;> rfl)
        have HOK := hide (show ∀ m', imP b = .ok m' → (⟨kd, k, o, n, nx', out'⟩ : Mc) = m' by
          intro m' e
          rw [unhide HI2, unhide HE] at e
          cases hq : edR b j with
          | error z => rw [hq] at e; cases e
          | ok q => rw [hq] at e; cases e; rw [unhide HN, unhide HO])
        go_region_with ((go_at_call 51; refine (end_any (w.heap.size + 1) a c b j _ (by first | exact hS | exact hS.drewN 1) hb).mono ?_; rintro e w7 ⟨rfl, ⟨j7, hS7⟩, hg7⟩; have hM7 := Mo.src (w := wr) hM (by first | exact hg7 | exact gr_und hg7) (by omega) (by omega); obtain ⟨y0, y1, y2, y3, y4, y5, yf, -, -, -⟩ := id hM7))
        all_goals go_wp2
        all_goals
          obtain ⟨q0, q1, q2, q3, q4, q5, -, qn, qo, qa⟩ := hM7.six (by omega) kd k o n
          have HFB := hide (bl_six (hbw.trans (bl_gr (by first | exact hg7 | exact gr_und hg7) (by omega) (fun x e => by cases e; omega))) (Nat.le_refl w.heap.size) (.int .i64 kd) (.int .i64 k) (.int .i64 o) (.int .i64 n) (.slice a1 nx'.length c1) (.slice a2 out'.length c2))
          have HFO := hide (show MOwn _ w.heap.size ⟨kd, k, o, n, nx', out'⟩ a1 c1 a2 c2 from ⟨qn.mono (by omega), qo.mono (by omega), qa⟩)
          clear qn qo qa
          refine bodyPost_ret (v := .tuple #[.agg #[.int .i64 kd, .int .i64 k, .int .i64 o, .int .i64 n, .slice a1 nx'.length c1, .slice a2 out'.length c2], edE (edR b j)]) ?_ rfl ⟨⟨kd, k, o, n, nx', out'⟩, a1, c1, a2, c2, by rw [← unhide HRES]; rfl, unhide HFO, unhide HOK, unhide HFB⟩
          simp [results, Tryd.results34, go_sem, q0, q1, q2, q3, q4, q5]

theorem readMachine_any (a : Option Addr) (c : Nat) (b : List UInt8) (w : World) (hr : RdL .u8 w a (zs b)) :
    Calls Tryd.prog 34 #[.slice a b.length c] w fun e w' => RmPost w w' b e := by
  by_cases hl : 16777216 < b.length
  · exact readMachine_long a c b w hl
  · exact readMachine_short a c b w hr hl

end Go.Proofs.YtdnmabemollbeaaDoor
