/-
  The program's Import.
-/
import Derived.Test.YtdnmabemollbeaaDoorTRm
import Derived.Test.YtdnmabemollbeaaDoorTAs
import Derived.Deep.RegionWith
namespace Go.Proofs.YtdnmabemollbeaaDoor
open Go.RowKit

theorem Mo.put {w : World} {mb B : Nat} {kd k o n : Int} {vn vo : Value} {nx out : List Int} (h : Mo w mb B kd k o n vn vo nx out) (hB : mb < B) (kd' k' o' n' : Int) {un uo : Value} {nx' out' : List Int} (hn : OwnL .i64 3 w B un nx') (ho : OwnL .i64 3 w B uo out') (ha : ∀ x, un.ownBlock = some x → uo.ownBlock ≠ some x) :
    Mo ((((((w.setCell ⟨mb, 0, none⟩ (.int .i64 kd')).setCell ⟨mb, 1, none⟩ (.int .i64 k')).setCell ⟨mb, 2, none⟩ (.int .i64 o')).setCell ⟨mb, 3, none⟩ (.int .i64 n')).setCell ⟨mb, 4, none⟩ un).setCell ⟨mb, 5, none⟩ uo) mb B kd' k' o' n' un uo nx' out' := by
  have e : ∀ {x : Value} {l : List Int} {w : World}, OwnL .i64 3 w B x l → x.ownBlock ≠ some mb := fun ho e => by have := (ho.lt e).1; omega
  have d : ∀ {i j : Nat}, i ≠ j → (⟨mb, i, none⟩ : Addr) ≠ ⟨mb, j, none⟩ := fun h e => h (by injection e)
  have hn4 := (((hn.set (p := ⟨mb, 0, none⟩) (e hn) (.int .i64 kd')).set (p := ⟨mb, 1, none⟩) (e hn) (.int .i64 k')).set (p := ⟨mb, 2, none⟩) (e hn) (.int .i64 o')).set (p := ⟨mb, 3, none⟩) (e hn) (.int .i64 n')
  have ho4 := (((ho.set (p := ⟨mb, 0, none⟩) (e ho) (.int .i64 kd')).set (p := ⟨mb, 1, none⟩) (e ho) (.int .i64 k')).set (p := ⟨mb, 2, none⟩) (e ho) (.int .i64 o')).set (p := ⟨mb, 3, none⟩) (e ho) (.int .i64 n')
  obtain ⟨p0, p1, p2, p3, p4, p5, pf, -, -, -⟩ := (((h.set0 hB kd').set1 hB k').set2 hB o').set3 hB n'
  refine ⟨?_, ?_, ?_, ?_, ?_, ?_, fun i => fz_set (fz_set (pf i)), (hn4.set (e hn) _).set (e hn) _, (ho4.set (e ho) _).set (e ho) _, ha⟩
  · rw [World.cell?_setCell_other _ _ _ _ (d (by decide)), World.cell?_setCell_other _ _ _ _ (d (by decide))]; exact p0
  · rw [World.cell?_setCell_other _ _ _ _ (d (by decide)), World.cell?_setCell_other _ _ _ _ (d (by decide))]; exact p1
  · rw [World.cell?_setCell_other _ _ _ _ (d (by decide)), World.cell?_setCell_other _ _ _ _ (d (by decide))]; exact p2
  · rw [World.cell?_setCell_other _ _ _ _ (d (by decide)), World.cell?_setCell_other _ _ _ _ (d (by decide))]; exact p3
  · rw [World.cell?_setCell_other _ _ _ _ (d (by decide))]; exact World.cell?_setCell_same _ _ _ p4
  · refine World.cell?_setCell_same _ _ _ (u := vo) ?_
    rw [World.cell?_setCell_other _ _ _ _ (d (by decide))]; exact p5

theorem as_hit' (tb : Nat) (e p : Int) (o0 o1 : Value) (w : World) (g : Gl w) (ht0 : w.cell? ⟨tb, 0, none⟩ = some o0) (ht1 : w.cell? ⟨tb, 1, none⟩ = some o1) (hf0 : w.frozen? ⟨tb, 0, none⟩ = false) (hf1 : w.frozen? ⟨tb, 1, none⟩ = false) :
    Calls Tryd.prog 35 #[.iface 69 (.agg #[.int .i64 e, .int .i64 p]), .iface 71 (.pointer (some ⟨tb, 0, none⟩))] w fun ev w' => ev = .returned (.bool true) ∧ w'.cell? ⟨tb, 0, none⟩ = some (.int .i64 e) ∧ w'.cell? ⟨tb, 1, none⟩ = some (.int .i64 p) ∧ w.grownBy w' (some tb) := by
  refine (as_hit tb e p o0 o1 w g ht0 ht1 hf0 hf1).mono ?_
  rintro ev w' ⟨rfl, rfl⟩
  have htl : tb < w.heap.size := World.block_lt_of_cell? w _ ht0
  have hb : ∀ (o1 o2 o3 o4 : Obj), Below w.heap.size w ((((w.alloc o1).alloc o2).alloc o3).alloc o4) := fun o1 o2 o3 o4 => balloc (balloc (balloc ((Below.refl _ _).alloc (Nat.le_refl _) _) _) _) _
  have d : (⟨tb, 1, none⟩ : Addr) ≠ ⟨tb, 0, none⟩ := by intro e; injection e with _ h _; cases h
  refine ⟨rfl, ?_, ?_, ?_⟩
  · rw [World.cell?_setCell_other _ _ _ _ d, World.cell?_setCell_same _ _ _ (u := o0) (by rw [(hb _ _ _ _).cell (by exact htl)]; exact ht0)]
  · rw [World.cell?_setCell_same _ _ _ (u := o1)]
    rw [World.cell?_setCell_other _ _ _ _ (Ne.symm d), (hb _ _ _ _).cell (by exact htl)]; exact ht1
  · have h := hb (.cells #[.pointer (some ⟨tb, 0, none⟩)] 71) (.cells #[.pointer (some ⟨4, 71, none⟩), .pointer (some ⟨w.heap.size, 0, none⟩), .int .u64 150] 95) (.cells #[.pointer (some ⟨4, 71, none⟩), .pointer (some ⟨w.heap.size, 0, none⟩), .int .u64 150] 95) (.cells #[.int .i64 e, .int .i64 p] 69)
    exact gr_set (gr_set ⟨h.os, h.tape, h.output, h.size, fun i hi _ => h.block i hi⟩ 0 _) 1 _

theorem bdrw {B : Nat} {w w' : World} (h : Below B w w') : Below B w w'.drew := ⟨h.os, h.tape, h.output, h.size, h.block⟩
/-- What Import answers. -/
def ImPost (w w' : World) (b : List UInt8) (e : Ending) : Prop :=
  ∃ (a1 : Option Addr) (c1 : Nat) (a2 : Option Addr) (c2 : Nat), e = .returned (.tuple #[mval (imV b (imP b)).1 a1 c1 a2 c2, .int .i64 (imV b (imP b)).2.1, .int .i64 (imV b (imP b)).2.2]) ∧ MOwn w' w.heap.size (imV b (imP b)).1 a1 c1 a2 c2 ∧ Below w.heap.size w w'

set_option maxRecDepth 100000 in
set_option maxHeartbeats 8000000 in
theorem import_any (a : Option Addr) (c : Nat) (b : List UInt8) (w : World) (hr : RdL .u8 w a (zs b)) (g : Gl w) :
    Calls Tryd.prog 19 #[.slice a b.length c] w fun e w' => ImPost w w' b e := by
  have hb0 : Below w.heap.size w (w.alloc (.cells #[.int .i64 0, .int .i64 0, .int .i64 0, .int .i64 0, .slice none 0 0, .slice none 0 0] 24)) := (Below.refl _ _).alloc (Nat.le_refl _) _
  have hM0 := Mo.made w (w.heap.size + 1) 0 0 0 0 24
  have hrm := readMachine_any a c b _ (hr.below hb0)
  have hz0 : (w.alloc (.cells #[.int .i64 0, .int .i64 0, .int .i64 0, .int .i64 0, .slice none 0 0, .slice none 0 0] 24)).heap.size = w.heap.size + 1 := by simp
  go_enter Tryd.func19, Tryd.ntmps19
  go_wp2_with fail
  refine hrm.mono ?_
  rintro e w1 ⟨m, a1, c1, a2, c2, rfl, ⟨hn1, ho1, hap⟩, hok, hb1⟩
  rw [hz0] at hn1 ho1 hb1
  have hM1 := hM0.grown (w' := w1) (r := none) ⟨hb1.os, hb1.tape, hb1.output, by have := hb1.size; omega, fun i hi _ => hb1.block i (by omega)⟩ (by intro e; cases e) (fun _ _ e => by cases e) (fun _ _ e => by cases e)
  have hM2 := hM1.put (by omega) m.kind m.k m.o m.n hn1 ho1 hap
  have hbw1 : Below w.heap.size w w1 := hb0.trans (hb1.mono (by omega))
  have hbw2 := bl_six hbw1 (Nat.le_refl w.heap.size) (.int .i64 m.kind) (.int .i64 m.k) (.int .i64 m.o) (.int .i64 m.n) (.slice a1 m.nx.length c1) (.slice a2 m.out.length c2)
  have hs1 := hb1.size
  obtain ⟨m0, m1, m2, m3, m4, m5, mf, -, -, -⟩ := id hM1
  have hsz2 : ((((((w1.setCell ⟨w.heap.size, 0, none⟩ (.int .i64 m.kind)).setCell ⟨w.heap.size, 1, none⟩ (.int .i64 m.k)).setCell ⟨w.heap.size, 2, none⟩ (.int .i64 m.o)).setCell ⟨w.heap.size, 3, none⟩ (.int .i64 m.n)).setCell ⟨w.heap.size, 4, none⟩ (.slice a1 m.nx.length c1)).setCell ⟨w.heap.size, 5, none⟩ (.slice a2 m.out.length c2)).heap.size = w1.heap.size := by simp
  generalize hw2 : ((((((w1.setCell ⟨w.heap.size, 0, none⟩ (.int .i64 m.kind)).setCell ⟨w.heap.size, 1, none⟩ (.int .i64 m.k)).setCell ⟨w.heap.size, 2, none⟩ (.int .i64 m.o)).setCell ⟨w.heap.size, 3, none⟩ (.int .i64 m.n)).setCell ⟨w.heap.size, 4, none⟩ (.slice a1 m.nx.length c1)).setCell ⟨w.heap.size, 5, none⟩ (.slice a2 m.out.length c2)) = w2 at *
  unfold mval
  have hMa := hM2.alloc (.cells #[.int .i64 0, .int .i64 0] 69)
  have hba : Below w.heap.size w (w2.alloc (.cells #[.int .i64 0, .int .i64 0] 69)) := balloc hbw2 _
  cases hi : imP b with
  | ok mm =>
    obtain rfl := hok _ hi
    have HV := hide (show imV b (imP b) = (m, 0, (b.length : Int)) by rw [hi]; rfl)
    clear hi hok hrm
    rw [show imE (.ok m) = .nilIface from rfl]
    go_wp2_with fail
    refine (as_nil _ _).mono ?_
    rintro e w' ⟨rfl, hw'⟩
    subst w'
    obtain ⟨p0, p1, p2, p3, p4, p5, pf, -, -, -⟩ := id hMa
    generalize w2.alloc (.cells #[.int .i64 0, .int .i64 0] 69) = w4 at *
    clear m0 m1 m2 m3 m4 m5 mf hw2
    go_wp2
    obtain ⟨q0, q1, q2, q3, q4, q5, -, qn, qo, qa⟩ := hMa.six (by omega) m.kind m.k m.o m.n
    have HFB := hide (bl_six hba (Nat.le_refl w.heap.size) (.int .i64 m.kind) (.int .i64 m.k) (.int .i64 m.o) (.int .i64 m.n) (.slice a1 m.nx.length c1) (.slice a2 m.out.length c2))
    have HFO := hide (show MOwn _ w.heap.size m a1 c1 a2 c2 from ⟨qn.mono (by omega), qo.mono (by omega), qa⟩)
    clear qn qo qa
    refine bodyPost_ret (v := .tuple #[.agg #[.int .i64 m.kind, .int .i64 m.k, .int .i64 m.o, .int .i64 m.n, .slice a1 m.nx.length c1, .slice a2 m.out.length c2], .int .i64 0, .int .i64 (b.length : Int)]) ?_ rfl ⟨a1, c1, a2, c2, by rw [unhide HV]; rfl, by rw [unhide HV]; exact unhide HFO, unhide HFB⟩
    simp [results, Tryd.results19, go_sem, q0, q1, q2, q3, q4, q5]
  | error z =>
    have HV := hide (show imV b (imP b) = (mcZ, z.2, (z.1 : Int)) by rw [hi]; rfl)
    clear hi hok hrm
    rw [show imE (.error z) = flt z.2 z.1 from rfl]
    unfold flt
    have hge := g.below hba
    have k0 : (w2.alloc (.cells #[.int .i64 0, .int .i64 0] 69)).cell? ⟨w2.heap.size, 0, none⟩ = some (.int .i64 0) := by simp
    have k1 : (w2.alloc (.cells #[.int .i64 0, .int .i64 0] 69)).cell? ⟨w2.heap.size, 1, none⟩ = some (.int .i64 0) := by simp
    have f0 : (w2.alloc (.cells #[.int .i64 0, .int .i64 0] 69)).frozen? ⟨w2.heap.size, 0, none⟩ = false := by simp
    have f1 : (w2.alloc (.cells #[.int .i64 0, .int .i64 0] 69)).frozen? ⟨w2.heap.size, 1, none⟩ = false := by simp
    have hA := as_hit' w2.heap.size z.2 (z.1 : Int) _ _ _ hge k0 k1 f0 f1
    rw [hsz2] at hA
    go_wp2_with fail
    refine hA.mono ?_
    rintro e w5 ⟨rfl, t0, t1, hg5⟩
    have hM5 := hMa.grown hg5 (by intro e; injection e with e; omega) (fun x hx e => by injection e with e; have := (hM2.on.lt hx).2; omega) (fun x hx e => by injection e with e; have := (hM2.oo.lt hx).2; omega)
    have hb5 : Below w.heap.size w w5 := hba.trans (bl_gr hg5 (by simp; omega) (fun x e => by cases e; omega))
    obtain ⟨p0, p1, p2, p3, p4, p5, pf, -, -, -⟩ := id hM5
    clear m0 m1 m2 m3 m4 m5 mf hw2 k0 k1 f0 f1 hA
    have hne1 : w1.heap.size ≠ w.heap.size := by omega
    have hne2 : w.heap.size ≠ w1.heap.size := by omega
    have hM6 := hM5.put (by omega) 0 0 0 0 (OwnL.nil .i64 3 w5 (w.heap.size + 1)) (OwnL.nil .i64 3 w5 (w.heap.size + 1)) (fun x h => by cases h)
    have hb6 := bl_six hb5 (Nat.le_refl w.heap.size) (.int .i64 0) (.int .i64 0) (.int .i64 0) (.int .i64 0) (.slice none 0 0) (.slice none 0 0)
    have HB6 := hide hb6
    clear hb6
    go_wp2
    go_region
    all_goals go_wp2
    all_goals
      generalize ((((((w5.setCell ⟨w.heap.size, 0, none⟩ (.int .i64 0)).setCell ⟨w.heap.size, 1, none⟩ (.int .i64 0)).setCell ⟨w.heap.size, 2, none⟩ (.int .i64 0)).setCell ⟨w.heap.size, 3, none⟩ (.int .i64 0)).setCell ⟨w.heap.size, 4, none⟩ (.slice none 0 0)).setCell ⟨w.heap.size, 5, none⟩ (.slice none 0 0)) = w6 at *
      have HO6 := hide (show MOwn w6.drew w.heap.size mcZ none 0 none 0 from ⟨OwnL.nil _ _ _ _, OwnL.nil _ _ _ _, fun x h => by cases h⟩)
      have HC6 := hide (show Below w.heap.size w w6.drew from bdrw (unhide HB6))
      obtain ⟨q0, q1, q2, q3, q4, q5, -, -, -, -⟩ := hM6
      clear hM5 hMa hM2 hM1 hM0 hba hbw2 hb5 p0 p1 p2 p3 p4 p5 pf t0 t1 hg5
      refine bodyPost_ret (v := .tuple #[.agg #[.int .i64 0, .int .i64 0, .int .i64 0, .int .i64 0, .slice none 0 0, .slice none 0 0], .int .i64 z.2, .int .i64 (z.1 : Int)]) ?_ rfl ⟨none, 0, none, 0, by rw [unhide HV]; rfl, by rw [unhide HV]; exact unhide HO6, unhide HC6⟩
      simp [results, Tryd.results19, go_sem, q0, q1, q2, q3, q4, q5]

end Go.Proofs.YtdnmabemollbeaaDoor
