/-
  What the program's newPart makes: an object that holds 0 to n - 1 in one class.
-/
import Derived.Test.YtnakadlhafggkaaQPart
import Derived.BigRegion
import Derived.Deep.CutRange
import Derived.Deep.OwnRows
namespace Go.Proofs.Ytnakadlhafggkaa
open Go.RowKit

theorem infoI : (Try.prog.info? 3).map (fun i => (i.zero, i.size, i.bytes)) = some (some (.int .i64 0), 1, 8) := by kernel_rfl


structure MadeP (w : World) (n : Nat) (v : Value) (wx : World) (p : Pp) (gs : Nat) : Prop where
  e : v = .pointer (some ⟨p.b, 0, none⟩)
  pn : p.n = n
  lo : ∀ k, p.has gs k → w.heap.size ≤ k
  at_ : PtAt wx p gs 1 1 (List.replicate n 0) (List.replicate n 0) (List.replicate n 0) (fun _ i => if i = 0 then 0 else n)
  bl : Below w.heap.size w wx

theorem own_zeros {w : World} {g n : Nat} (h : w.heap[g]? = some (.cells (madeCells #[.int .i64 0] n) 3)) (hn : n ≤ 65536) : OwnL .i64 3 w 0 (.slice (some ⟨g, 0, none⟩) (List.replicate n (0 : Int)).length n) (List.replicate n 0) := by
  have e := toList_madeCells_one (.int .i64 0) n
  refine ⟨by simp, .inr ⟨g, n, madeCells #[.int .i64 0] n, rfl, Nat.zero_le _, h, by simp, by unfold maxLen; omega, by rw [size_madeCells]; omega, ?_⟩⟩
  rw [e]
  simp
theorem own_pair {w : World} {g : Nat} {x y : Int} (h : w.heap[g]? = some (.cells #[.int .i64 x, .int .i64 y] 88)) : OwnP w 0 (.slice (some ⟨g, 0, none⟩) 1 1) 1 (fun _ i => if i = 0 then x else y) :=
  ⟨rfl, .inr ⟨g, 1, #[.int .i64 x, .int .i64 y], rfl, Nat.zero_le _, h, Nat.le_refl _, by unfold maxLen; omega, rfl, rfl⟩⟩
theorem al4 (w : World) (o0 o1 o2 o3 : Obj) : ((((w.alloc o0).alloc o1).alloc o2).alloc o3).heap[w.heap.size]? = some o0 ∧ ((((w.alloc o0).alloc o1).alloc o2).alloc o3).heap[w.heap.size + 1]? = some o1 ∧ ((((w.alloc o0).alloc o1).alloc o2).alloc o3).heap[w.heap.size + 1 + 1]? = some o2 ∧ ((((w.alloc o0).alloc o1).alloc o2).alloc o3).heap[w.heap.size + 1 + 1 + 1]? = some o3 := by
  have n0 := heap_alloc_new w o0
  have n1 := heap_alloc_new (w.alloc o0) o1
  have n2 := heap_alloc_new ((w.alloc o0).alloc o1) o2
  have n3 := heap_alloc_new (((w.alloc o0).alloc o1).alloc o2) o3
  simp only [World.size_alloc] at n1 n2 n3
  refine ⟨?_, ?_, ?_, n3⟩
  · rw [Below.heap_alloc _ _ _ (by simp <;> omega), Below.heap_alloc _ _ _ (by simp <;> omega), Below.heap_alloc _ _ _ (by simp)]; exact n0
  · rw [Below.heap_alloc _ _ _ (by simp <;> omega), Below.heap_alloc _ _ _ (by simp)]; exact n1
  · rw [Below.heap_alloc _ _ _ (by simp)]; exact n2
theorem bl4 (w : World) (o0 o1 o2 o3 : Obj) : Below w.heap.size w ((((w.alloc o0).alloc o1).alloc o2).alloc o3) :=
  ((((Below.refl _ w).alloc (Nat.le_refl _) o0).alloc (by simp) o1).alloc (by simp; omega) o2).alloc (by simp; omega) o3
theorem siz4 (w : World) (o0 o1 o2 o3 : Obj) : ((((w.alloc o0).alloc o1).alloc o2).alloc o3).heap.size = w.heap.size + 1 + 1 + 1 + 1 := by simp
theorem made_any {w W : World} {n b gr gp gc gs : Nat} (hn : n ≤ 65536) (hb : W.heap.size = b) (hr : W.heap[gr]? = some (.cells (madeCells #[.int .i64 0] n) 3)) (hp : W.heap[gp]? = some (.cells (madeCells #[.int .i64 0] n) 3)) (hc : W.heap[gc]? = some (.cells (madeCells #[.int .i64 0] n) 3)) (hs : W.heap[gs]? = some (.cells #[.int .i64 0, .int .i64 (n : Nat)] 88))
    (d : gr ≠ gp ∧ gr ≠ gc ∧ gr ≠ gs ∧ gp ≠ gc ∧ gp ≠ gs ∧ gc ≠ gs) (lo : w.heap.size ≤ gr ∧ w.heap.size ≤ gp ∧ w.heap.size ≤ gc ∧ w.heap.size ≤ gs) (bl : Below w.heap.size w W) :
    ∃ p g, MadeP w n (.pointer (some ⟨b, 0, none⟩)) (W.alloc (.cells #[.slice (some ⟨gr, 0, none⟩) n n, .slice (some ⟨gp, 0, none⟩) n n, .slice (some ⟨gc, 0, none⟩) n n, .slice (some ⟨gs, 0, none⟩) 1 1] 69)).drew p g := by
  subst hb
  have lt : ∀ {k : Nat} {o : Obj}, W.heap[k]? = some o → k < W.heap.size := fun h => (Array.getElem?_eq_some_iff.1 h).1
  have kr := lt hr
  have kp := lt hp
  have kc := lt hc
  have ks := lt hs
  have up : ∀ {k : Nat}, k < W.heap.size → ∀ o, ((W.alloc o).drew).heap[k]? = W.heap[k]? := fun h o => Below.heap_alloc W o _ h
  have nb : ((W.alloc (.cells #[.slice (some ⟨gr, 0, none⟩) n n, .slice (some ⟨gp, 0, none⟩) n n, .slice (some ⟨gc, 0, none⟩) n n, .slice (some ⟨gs, 0, none⟩) 1 1] 69)).drew).heap[W.heap.size]? = some (.cells #[.slice (some ⟨gr, 0, none⟩) n n, .slice (some ⟨gp, 0, none⟩) n n, .slice (some ⟨gc, 0, none⟩) n n, .slice (some ⟨gs, 0, none⟩) 1 1] 69) := heap_alloc_new W _
  refine ⟨⟨W.heap.size, gr, gp, gc, n⟩, gs, rfl, rfl, ?_, ?_, ?_⟩
  · have := bl.size
    rintro k (rfl | rfl | rfl | rfl | rfl) <;> (try dsimp only) <;> omega
  · refine ⟨by unfold World.cell?; rw [nb]; rfl, by unfold World.cell?; rw [nb]; rfl, by unfold World.cell?; rw [nb]; rfl, by unfold World.cell?; rw [nb]; rfl, by unfold World.frozen?; rw [nb]; rfl, own_zeros ((up kr _).trans hr) hn, own_zeros ((up kp _).trans hp) hn, own_zeros ((up kc _).trans hc) hn, own_pair ((up ks _).trans hs), by simp, by simp, by simp, ?_, ?_, ?_, ?_, d.1, d.2.1, d.2.2.1, d.2.2.2.1, d.2.2.2.2.1, d.2.2.2.2.2⟩ <;> (try dsimp only) <;> omega
  · exact (bl.alloc bl.size _).drew

/-- 0 to n - 1, the first j of them written. -/
def iotaP (n j : Nat) : List Int := (List.range n).map fun i => if i < j then (i : Int) else 0
theorem iotaP_len (n j : Nat) : (iotaP n j).length = n := by simp [iotaP]
theorem iotaP_zero (n : Nat) : iotaP n 0 = List.replicate n 0 := by
  refine List.ext_getElem? fun i => ?_
  simp [iotaP, List.getElem?_replicate]
  by_cases h : i < n <;> simp [h]
theorem iotaP_set {n j : Nat} (h : j < n) : (iotaP n j).set j (j : Int) = iotaP n (j + 1) := by
  refine List.ext_getElem? fun i => ?_
  rw [List.getElem?_set]
  by_cases e : j = i
  · subst e; simp [iotaP, h]
  · rw [if_neg e]
    simp only [iotaP, List.getElem?_map]
    by_cases hi : i < n
    · rw [List.getElem?_range hi]
      have : (i < j) ↔ (i < j + 1) := by omega
      simp [this]
    · rw [List.getElem?_eq_none (by simp; omega)]; rfl
/-- What newPart leaves. -/
def NewPost (n : Nat) (w : World) (e : Ending) (w' : World) : Prop :=
  ∃ p gs, e = .returned (.pointer (some ⟨p.b, 0, none⟩)) ∧ p.n = n ∧ (∀ k, p.has gs k → w.heap.size ≤ k) ∧ PtAt w' p gs 1 1 (iotaP n n) (iotaP n n) (List.replicate n 0) (fun _ i => if i = 0 then 0 else n) ∧ Below w.heap.size w w'

set_option maxHeartbeats 2000000 in
theorem newPart_any (n : Nat) (w : World) (h0 : 1 ≤ n) (h1 : n ≤ 65536) :
    Calls Try.prog 29 #[.int .i64 (n : Nat)] w fun e w' => NewPost n w e w' := by
  have hmk := run_make_row' (P := Try.prog) 29 3 (.int .i64 0) 8 Try.underlying29 infoI rfl .i64 .i64 n (by omega) (by omega)
  go_enter Try.func29, Try.ntmps29
  go_wp2
  go_cut [3] from 5 to 15 (fun v wx => ∃ p gs, MadeP w n v wx p gs)
  case first =>
    go_big_region
    all_goals (go_wp2; go_meet)
    all_goals
      refine made_any h1 ?_ ?_ ?_ ?_ ?_ ?_ ?_ ?_
      all_goals first | exact bl4 w _ _ _ _ | exact siz4 w _ _ _ _ | omega | exact (al4 w _ _ _ _).1 | exact (al4 w _ _ _ _).2.1 | exact (al4 w _ _ _ _).2.2.1 | exact (al4 w _ _ _ _).2.2.2
  case rest =>
    obtain ⟨p, gs, rfl, hpn, lo, hat, hbl⟩ := hcut
    clear hmk
    have HN := hide hpn
    have HL := hide lo
    have H0 : Hid (PtAt wc p gs 1 1 (iotaP n 0) (iotaP n 0) (List.replicate n 0) (fun _ i => if i = 0 then 0 else n)) := by rw [iotaP_zero]; exact hat
    have HB0 := hide (Bx.refl (p.has gs) wc)
    clear hat hpn lo
    go_wp2
    go_loopw [17] (fun a wx => ∃ j : Nat, j ≤ n ∧ a = .int .i64 j ∧ PtAt wx p gs 1 1 (iotaP n j) (iotaP n j) (List.replicate n 0) (fun _ i => if i = 0 then 0 else n) ∧ Bx (p.has gs) wc wx) (fun a _ => n - (intOf a).toNat)
    case atStart => exact ⟨0, Nat.zero_le _, rfl, unhide H0, unhide HB0⟩
    case round =>
      obtain ⟨j, hj, rfl, hat, hbx⟩ := hrel
      clear H0 HB0
      by_cases hlt : j < n
      · have c0 := hat.c0
        have c1 := hat.c1
        obtain ⟨rj, fj⟩ := hat.row (i := j) (by rw [unhide HN]; exact hlt)
        obtain ⟨pj, gj⟩ := hat.plc (i := j) (by rw [unhide HN]; exact hlt)
        rw [unhide HN] at c0 c1
        have ne := hat.rp
        have HA := hide hat
        have HX := hide hbx
        clear hat hbx
        go_wp2
        go_big_region
        go_wp2
        go_roundw
        case rel =>
          refine ⟨j + 1, by omega, by go_num, ?_, ?_⟩
          · have := (((unhide HA).storeR j (j : Nat)).storeP j (j : Nat)).keep (w' := ((wr.setCell ⟨p.gr, j, none⟩ (.int .i64 (j : Nat))).setCell ⟨p.gp, j, none⟩ (.int .i64 (j : Nat))).drew) fun _ _ => rfl
            rw [iotaP_set hlt] at this
            exact this
          · exact (((unhide HX).setCell (p := ⟨p.gr, j, none⟩) (.inr (.inl rfl)) _).setCell (p := ⟨p.gp, j, none⟩) (.inr (.inr (.inl rfl))) _).drew
        case measure => simp [intOf]; omega
      · obtain rfl : j = n := by omega
        have HA := hide hat
        have HX := hide hbx
        clear hat hbx
        go_wp2
        go_ret
        exact ⟨p, gs, rfl, unhide HN, unhide HL, unhide HA, hbl.trans ((unhide HX).below (unhide HL) hbl.size)⟩
end Go.Proofs.Ytnakadlhafggkaa
