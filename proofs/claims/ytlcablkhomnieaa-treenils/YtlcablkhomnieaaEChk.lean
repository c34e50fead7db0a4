/-
  The reference's Check of layer 10.
-/
import Derived.Test.YtlcablkhomnieaaK28
import Derived.Test.YtlcablkhomnieaaK27
import Derived.Deep.CutRange
namespace Go.Proofs.Ytlcablkhomnieaa
open Go.RowKit

theorem inB_false {b : Int} {l : List Int} {i : Nat} (h : i < l.length) (hx : ¬ (0 ≤ l.getD i 0 ∧ l.getD i 0 < b)) : inB b l = false := by
  unfold inB
  rw [List.all_eq_false]
  refine ⟨l[i], List.getElem_mem h, ?_⟩
  have e : l.getD i 0 = l[i] := by simp [List.getD_eq_getElem?_getD, List.getElem?_eq_getElem h]
  rw [e] at hx
  simpa using hx
theorem inB_true {b : Int} {l : List Int} (h : ∀ i, i < l.length → 0 ≤ l.getD i 0 ∧ l.getD i 0 < b) : inB b l = true := by
  unfold inB
  rw [List.all_eq_true]
  intro x hx
  obtain ⟨i, hi, rfl⟩ := List.getElem_of_mem hx
  have := h i hi
  have e : l.getD i 0 = l[i] := by simp [List.getD_eq_getElem?_getD, List.getElem?_eq_getElem hi]
  rw [e] at this
  simpa using this

set_option maxRecDepth 100000 in
set_option maxHeartbeats 4000000 in
/-- Of a query of Kind Hypo. -/
theorem rchk_hypo (q : Pq) (p : Pa) (w : World) (hk : q.q.kind = 2) (h2 : RdL .i64 w p.a2 p.an.word) (hl : p.an.word.length ≤ maxLen) :
    Calls Try.prog 67 #[pqV q, paV p] w fun e w' => e = .returned (.int .i64 (chkA q.q p.an)) ∧ Below w.heap.size w w' := by
  have ba := ballo w (.cells (pqC q).toArray 122)
  have bb := ballo (w.alloc (.cells (pqC q).toArray 122)) (.cells (paC p).toArray 125)
  have hq := (Bk.new w (pqC q) 122).below bb
  have hp := Bk.new (w.alloc (.cells (pqC q).toArray 122)) (paC p) 125
  rw [World.size_alloc] at hp
  have q0 := hq.cell 0
  have q1 := hq.cell 1
  have q2 := hq.cell 2
  have q3 := hq.cell 3
  have q4 := hq.cell 4
  have p0 := hp.cell 0
  have p1 := hp.cell 1
  have p2 := hp.cell 2
  have b2 := bstep ba bb
  have hw := rcheck_any p.a2 p.an.word.length p.c2 (fun i => p.an.word.getD i 0) q.q.hyp.k _ (h2.below b2) hl
  have HE : Hid (chkA q.q p.an = if p.an.out.length = 0 ∧ ((p.an.kind = 2 ∧ p.an.word.length = 0) ∨ (p.an.kind = 3 ∧ (chkV p.an.word.length (fun i => p.an.word.getD i 0) q.q.hyp.k).2 = 0)) then 0 else 100) := by
    show _ = _
    unfold chkA wdE
    rw [if_neg (by omega), if_pos hk]
  have HB := hide b2
  simp only [pqC, paC, List.getElem?_cons_succ, List.getElem?_cons_zero] at q0 q1 q2 q3 q4 p0 p1 p2
  replace q0 := q0.trans (congrArg (fun z => some (Value.int .i64 z)) hk)
  clear hq hp ba bb b2 h2 q1 q2 q4 hk
  generalize (chkV p.an.word.length (fun i => p.an.word.getD i 0) q.q.hyp.k).2 = er at *
  unfold pqV paV
  unfold pqC paC at *
  by_cases c1 : p.an.out.length = 0
  rotate_left
  · have H := hide ((unhide HE).trans (if_neg (fun h => c1 h.1)))
    have t1 : ((p.an.out.length : Int) == 0) = false := by simpa using c1
    clear c1
    go_enter Try.func67, Try.ntmps67
    go_wp2_with (go_at_call 42; refine hw.mono ?_; rintro e wz ⟨rfl, hwz⟩; subst wz)
    go_ret
    exact ⟨by rw [unhide H]; rfl, unhide HB⟩
  have t1 : ((p.an.out.length : Int) == 0) = true := by simpa using c1
  by_cases c2 : p.an.kind = 2
  · have t2 : (p.an.kind == 2) = true := by simpa using c2
    by_cases c3 : p.an.word.length = 0
    · have H := hide ((unhide HE).trans (if_pos ⟨c1, .inl ⟨c2, c3⟩⟩))
      have t3 : ((p.an.word.length : Int) == 0) = true := by simpa using c3
      clear c1 c2 c3
      go_enter Try.func67, Try.ntmps67
      go_wp2_with (go_at_call 42; refine hw.mono ?_; rintro e wz ⟨rfl, hwz⟩; subst wz)
      go_ret
      exact ⟨by rw [unhide H]; rfl, unhide HB⟩
    · have H := hide ((unhide HE).trans (if_neg (by rintro ⟨-, h | h⟩ <;> omega)))
      have t3 : ((p.an.word.length : Int) == 0) = false := by simpa using c3
      have t4 : (p.an.kind == 3) = false := by rw [c2]; rfl
      clear c1 c2 c3
      go_enter Try.func67, Try.ntmps67
      go_wp2_with (go_at_call 42; refine hw.mono ?_; rintro e wz ⟨rfl, hwz⟩; subst wz)
      go_ret
      exact ⟨by rw [unhide H]; rfl, unhide HB⟩
  · have t2 : (p.an.kind == 2) = false := by simpa using c2
    by_cases c4 : p.an.kind = 3
    · have t4 : (p.an.kind == 3) = true := by simpa using c4
      by_cases c5 : er = 0
      · have H := hide ((unhide HE).trans (if_pos ⟨c1, .inr ⟨c4, c5⟩⟩))
        have t5 : (er == 0) = true := by simpa using c5
        clear c1 c2 c4 c5
        go_enter Try.func67, Try.ntmps67
        go_wp2_with (go_at_call 42; refine hw.mono ?_; rintro e wz ⟨rfl, hwz⟩; subst wz)
        go_ret
        exact ⟨by rw [unhide H]; rfl, unhide HB⟩
      · have H := hide ((unhide HE).trans (if_neg (by rintro ⟨-, h | h⟩ <;> omega)))
        have t5 : (er == 0) = false := by simpa using c5
        clear c1 c2 c4 c5
        go_enter Try.func67, Try.ntmps67
        go_wp2_with (go_at_call 42; refine hw.mono ?_; rintro e wz ⟨rfl, hwz⟩; subst wz)
        go_ret
        exact ⟨by rw [unhide H]; rfl, unhide HB⟩
    · have t4 : (p.an.kind == 3) = false := by simpa using c4
      have H := hide ((unhide HE).trans (if_neg (by rintro ⟨-, h | h⟩ <;> omega)))
      clear c1 c2 c4
      go_enter Try.func67, Try.ntmps67
      go_wp2_with (go_at_call 42; refine hw.mono ?_; rintro e wz ⟨rfl, hwz⟩; subst wz)
      go_ret
      exact ⟨by rw [unhide H]; rfl, unhide HB⟩

set_option maxRecDepth 100000 in
set_option maxHeartbeats 4000000 in
/-- Of a query of neither Kind. -/
theorem rchk_none (q : Pq) (p : Pa) (w : World) (hk1 : q.q.kind ≠ 1) (hk2 : q.q.kind ≠ 2) :
    Calls Try.prog 67 #[pqV q, paV p] w fun e w' => e = .returned (.int .i64 (chkA q.q p.an)) ∧ Below w.heap.size w w' := by
  have ba := ballo w (.cells (pqC q).toArray 122)
  have bb := ballo (w.alloc (.cells (pqC q).toArray 122)) (.cells (paC p).toArray 125)
  have hq := (Bk.new w (pqC q) 122).below bb
  have hp := Bk.new (w.alloc (.cells (pqC q).toArray 122)) (paC p) 125
  rw [World.size_alloc] at hp
  have q0 := hq.cell 0
  have q1 := hq.cell 1
  have q2 := hq.cell 2
  have q3 := hq.cell 3
  have q4 := hq.cell 4
  have p0 := hp.cell 0
  have p1 := hp.cell 1
  have p2 := hp.cell 2
  have b2 := bstep ba bb
  have H : Hid (chkA q.q p.an = 30) := by
    show _ = _
    unfold chkA
    rw [if_pos ⟨hk1, hk2⟩]
  have HB := hide b2
  have t1 : (q.q.kind != 1) = true := by simpa using hk1
  have t2 : (q.q.kind != 2) = true := by simpa using hk2
  simp only [pqC, paC, List.getElem?_cons_succ, List.getElem?_cons_zero] at q0 q1 q2 q3 q4 p0 p1 p2
  clear hq hp ba bb b2 q1 q2 q3 q4 p0 p1 p2 hk1 hk2
  unfold pqV paV
  unfold pqC paC at *
  go_enter Try.func67, Try.ntmps67
  go_wp2
  go_ret
  exact ⟨by rw [unhide H]; rfl, unhide HB⟩

set_option maxRecDepth 100000 in
set_option maxHeartbeats 4000000 in
/-- Of a query of Kind Member. -/
theorem rchk_dfa (q : Pq) (p : Pa) (w : World) (hk : q.q.kind = 1) (hh : q.q.hyp.kind = 1) (h1 : RdL .i64 w p.a1 p.an.out) (hl : p.an.out.length ≤ 1000000) :
    Calls Try.prog 67 #[pqV q, paV p] w fun e w' => e = .returned (.int .i64 (chkA q.q p.an)) ∧ Below w.heap.size w w' := by
  have ba := ballo w (.cells (pqC q).toArray 122)
  have bb := ballo (w.alloc (.cells (pqC q).toArray 122)) (.cells (paC p).toArray 125)
  have hq := (Bk.new w (pqC q) 122).below bb
  have hp := Bk.new (w.alloc (.cells (pqC q).toArray 122)) (paC p) 125
  rw [World.size_alloc] at hp
  have q0 := hq.cell 0
  have q1 := hq.cell 1
  have q2 := hq.cell 2
  have q3 := hq.cell 3
  have q4 := hq.cell 4
  have p0 := hp.cell 0
  have p1 := hp.cell 1
  have p2 := hp.cell 2
  have b2 := bstep ba bb
  have HE : Hid (chkA q.q p.an = if p.an.kind = 1 ∧ p.an.word.length = 0 ∧ (p.an.out.length = 1 ∧ inB 2 p.an.out = true) then 0 else 100) := by
    show _ = _
    unfold chkA
    rw [if_neg (by omega), if_neg (by omega)]
    congr 1
    simp [hh]
  have HB := hide b2
  simp only [pqC, paC, List.getElem?_cons_succ, List.getElem?_cons_zero] at q0 q1 q2 q3 q4 p0 p1 p2
  replace q0 := q0.trans (congrArg (fun z => some (Value.int .i64 z)) hk)
  replace q2 := q2.trans (congrArg (fun z => some (Value.int .i64 z)) hh)
  have HR := hide (h1.below b2)
  clear hq hp ba bb b2 q3 hk hh h1
  unfold pqV paV
  unfold pqC paC at *
  generalize p.an.word.length = L at *
  by_cases c1 : p.an.kind = 1
  rotate_left
  · have H := hide ((unhide HE).trans (if_neg (fun h => c1 h.1)))
    have t1 : (p.an.kind != 1) = true := by simpa using c1
    clear c1
    go_enter Try.func67, Try.ntmps67
    go_upto_region 1 with fail
    generalize ((w.alloc (.cells #[.int .i64 q.q.kind, .slice q.aw q.q.word.length q.cw, .int .i64 q.q.hyp.kind, .int .i64 q.q.hyp.k, .int .i64 q.q.hyp.o, .int .i64 q.q.hyp.n, .slice q.a1 q.q.hyp.nx.length q.c1, .slice q.a2 q.q.hyp.out.length q.c2] 122)).alloc (.cells #[.int .i64 p.an.kind, .slice p.a1 p.an.out.length p.c1, .slice p.a2 L p.c2] 125)) = W2 at *
    go_wp2
    go_region
    go_wp2
    go_ret
    exact ⟨by rw [unhide H]; rfl, (unhide HB).drew⟩
  have t1 : (p.an.kind != 1) = false := by simpa using c1
  by_cases c2 : L = 0
  rotate_left
  · have H := hide ((unhide HE).trans (if_neg (fun h => c2 h.2.1)))
    have t2 : (L : Int) > 0 := by omega
    clear c2 c1
    go_enter Try.func67, Try.ntmps67
    go_upto_region 1 with fail
    generalize ((w.alloc (.cells #[.int .i64 q.q.kind, .slice q.aw q.q.word.length q.cw, .int .i64 q.q.hyp.kind, .int .i64 q.q.hyp.k, .int .i64 q.q.hyp.o, .int .i64 q.q.hyp.n, .slice q.a1 q.q.hyp.nx.length q.c1, .slice q.a2 q.q.hyp.out.length q.c2] 122)).alloc (.cells #[.int .i64 p.an.kind, .slice p.a1 p.an.out.length p.c1, .slice p.a2 L p.c2] 125)) = W2 at *
    go_wp2
    go_region
    go_wp2
    go_ret
    exact ⟨by rw [unhide H]; rfl, (unhide HB).drew⟩
  have t2 : ¬ ((L : Int) > 0) := by omega
  by_cases c3 : p.an.out.length = 1
  rotate_left
  · have H := hide ((unhide HE).trans (if_neg (fun h => c3 h.2.2.1)))
    have t3 : ((p.an.out.length : Int) != 1) = true := by simp; omega
    clear c3 c2 c1
    go_enter Try.func67, Try.ntmps67
    go_upto_region 1 with fail
    generalize ((w.alloc (.cells #[.int .i64 q.q.kind, .slice q.aw q.q.word.length q.cw, .int .i64 q.q.hyp.kind, .int .i64 q.q.hyp.k, .int .i64 q.q.hyp.o, .int .i64 q.q.hyp.n, .slice q.a1 q.q.hyp.nx.length q.c1, .slice q.a2 q.q.hyp.out.length q.c2] 122)).alloc (.cells #[.int .i64 p.an.kind, .slice p.a1 p.an.out.length p.c1, .slice p.a2 L p.c2] 125)) = W2 at *
    go_wp2
    go_region
    go_wp2
    go_ret
    exact ⟨by rw [unhide H]; rfl, (unhide HB).drew⟩
  have t3 : ((p.an.out.length : Int) != 1) = false := by simp; omega
  have HC := hide (And.intro c1 (And.intro c2 c3))
  clear c1 c2 c3
  go_enter Try.func67, Try.ntmps67
  go_upto_region 1 with fail
  generalize ((w.alloc (.cells #[.int .i64 q.q.kind, .slice q.aw q.q.word.length q.cw, .int .i64 q.q.hyp.kind, .int .i64 q.q.hyp.k, .int .i64 q.q.hyp.o, .int .i64 q.q.hyp.n, .slice q.a1 q.q.hyp.nx.length q.c1, .slice q.a2 q.q.hyp.out.length q.c2] 122)).alloc (.cells #[.int .i64 p.an.kind, .slice p.a1 p.an.out.length p.c1, .slice p.a2 L p.c2] 125)) = W2 at *
  go_wp2
  go_region
  go_wp2
  go_loop [9] (fun i => ∃ I : Nat, i = .int .i64 (I : Int) ∧ I ≤ p.an.out.length ∧ Hid (∀ j, j < I → 0 ≤ p.an.out.getD j 0 ∧ p.an.out.getD j 0 < 2)) (fun i => p.an.out.length - (intOf i).toNat)
  case atStart => exact ⟨0, rfl, Nat.zero_le _, fun j hj => by omega⟩
  case round =>
    obtain ⟨I, rfl, hI, hv⟩ := hrel
    by_cases hlt : I < p.an.out.length
    · obtain ⟨b, off, e1, hcs⟩ := (unhide HR).at hlt
      have hcx := hcs I hlt
      rw [e1] at p1
      by_cases r0 : p.an.out.getD I 0 < 0
      · have H := hide ((unhide HE).trans (if_neg (fun h => by rw [inB_false hlt (by omega)] at h; exact absurd h.2.2.2 (by decide))))
        generalize p.an.out.getD I 0 = x at *
        clear hcs hv
        go_wp2
        go_ret
        exact ⟨by rw [unhide H]; rfl, (unhide HB).drew⟩
      · by_cases r1 : p.an.out.getD I 0 < 2
        · have HN := hide (show ∀ j, j < I + 1 → 0 ≤ p.an.out.getD j 0 ∧ p.an.out.getD j 0 < 2 from fun j hj => by
            by_cases e : j = I
            · subst e; exact ⟨by omega, r1⟩
            · exact unhide hv j (by omega))
          generalize p.an.out.getD I 0 = x at *
          have r1' : ¬ (x ≥ 2) := by omega
          clear hcs hv
          go_wp2
          go_round
          case rel => exact ⟨I + 1, by simp, hlt, HN⟩
          case measure => simp [intOf]; omega
        · have H := hide ((unhide HE).trans (if_neg (fun h => by rw [inB_false hlt (by omega)] at h; exact absurd h.2.2.2 (by decide))))
          generalize p.an.out.getD I 0 = x at *
          have r1' : x ≥ 2 := by omega
          clear hcs hv
          go_wp2
          go_ret
          exact ⟨by rw [unhide H]; rfl, (unhide HB).drew⟩
    · obtain rfl : I = p.an.out.length := by omega
      have H := hide ((unhide HE).trans (if_pos ⟨(unhide HC).1, (unhide HC).2.1, (unhide HC).2.2, inB_true (unhide hv)⟩))
      go_wp2
      go_ret
      exact ⟨by rw [unhide H]; rfl, (unhide HB).drew⟩

set_option maxRecDepth 100000 in
set_option maxHeartbeats 4000000 in
/-- Of a query of Kind Member. -/
theorem rchk_mealy (q : Pq) (p : Pa) (w : World) (hk : q.q.kind = 1) (hh : q.q.hyp.kind = 2) (h1 : RdL .i64 w p.a1 p.an.out) (hl : p.an.out.length ≤ 1000000) :
    Calls Try.prog 67 #[pqV q, paV p] w fun e w' => e = .returned (.int .i64 (chkA q.q p.an)) ∧ Below w.heap.size w w' := by
  have ba := ballo w (.cells (pqC q).toArray 122)
  have bb := ballo (w.alloc (.cells (pqC q).toArray 122)) (.cells (paC p).toArray 125)
  have hq := (Bk.new w (pqC q) 122).below bb
  have hp := Bk.new (w.alloc (.cells (pqC q).toArray 122)) (paC p) 125
  rw [World.size_alloc] at hp
  have q0 := hq.cell 0
  have q1 := hq.cell 1
  have q2 := hq.cell 2
  have q3 := hq.cell 3
  have q4 := hq.cell 4
  have p0 := hp.cell 0
  have p1 := hp.cell 1
  have p2 := hp.cell 2
  have b2 := bstep ba bb
  have HE : Hid (chkA q.q p.an = if p.an.kind = 1 ∧ p.an.word.length = 0 ∧ (p.an.out.length = q.q.word.length ∧ inB q.q.hyp.o p.an.out = true) then 0 else 100) := by
    show _ = _
    unfold chkA
    rw [if_neg (by omega), if_neg (by omega)]
    congr 1
    simp [hh]
  have HB := hide b2
  simp only [pqC, paC, List.getElem?_cons_succ, List.getElem?_cons_zero] at q0 q1 q2 q3 q4 p0 p1 p2
  replace q0 := q0.trans (congrArg (fun z => some (Value.int .i64 z)) hk)
  replace q2 := q2.trans (congrArg (fun z => some (Value.int .i64 z)) hh)
  have HR := hide (h1.below b2)
  clear hq hp ba bb b2 q3 hk hh h1
  unfold pqV paV
  unfold pqC paC at *
  generalize p.an.word.length = L at *
  by_cases c1 : p.an.kind = 1
  rotate_left
  · have H := hide ((unhide HE).trans (if_neg (fun h => c1 h.1)))
    have t1 : (p.an.kind != 1) = true := by simpa using c1
    clear c1
    go_enter Try.func67, Try.ntmps67
    go_upto_region 1 with fail
    generalize ((w.alloc (.cells #[.int .i64 q.q.kind, .slice q.aw q.q.word.length q.cw, .int .i64 q.q.hyp.kind, .int .i64 q.q.hyp.k, .int .i64 q.q.hyp.o, .int .i64 q.q.hyp.n, .slice q.a1 q.q.hyp.nx.length q.c1, .slice q.a2 q.q.hyp.out.length q.c2] 122)).alloc (.cells #[.int .i64 p.an.kind, .slice p.a1 p.an.out.length p.c1, .slice p.a2 L p.c2] 125)) = W2 at *
    go_wp2
    go_region
    go_wp2
    go_ret
    exact ⟨by rw [unhide H]; rfl, (unhide HB).drew⟩
  have t1 : (p.an.kind != 1) = false := by simpa using c1
  by_cases c2 : L = 0
  rotate_left
  · have H := hide ((unhide HE).trans (if_neg (fun h => c2 h.2.1)))
    have t2 : (L : Int) > 0 := by omega
    clear c2 c1
    go_enter Try.func67, Try.ntmps67
    go_upto_region 1 with fail
    generalize ((w.alloc (.cells #[.int .i64 q.q.kind, .slice q.aw q.q.word.length q.cw, .int .i64 q.q.hyp.kind, .int .i64 q.q.hyp.k, .int .i64 q.q.hyp.o, .int .i64 q.q.hyp.n, .slice q.a1 q.q.hyp.nx.length q.c1, .slice q.a2 q.q.hyp.out.length q.c2] 122)).alloc (.cells #[.int .i64 p.an.kind, .slice p.a1 p.an.out.length p.c1, .slice p.a2 L p.c2] 125)) = W2 at *
    go_wp2
    go_region
    go_wp2
    go_ret
    exact ⟨by rw [unhide H]; rfl, (unhide HB).drew⟩
  have t2 : ¬ ((L : Int) > 0) := by omega
  by_cases c3 : p.an.out.length = q.q.word.length
  rotate_left
  · have H := hide ((unhide HE).trans (if_neg (fun h => c3 h.2.2.1)))
    have t3 : ((p.an.out.length : Int) != (q.q.word.length : Int)) = true := by simp; omega
    clear c3 c2 c1
    go_enter Try.func67, Try.ntmps67
    go_upto_region 1 with fail
    generalize ((w.alloc (.cells #[.int .i64 q.q.kind, .slice q.aw q.q.word.length q.cw, .int .i64 q.q.hyp.kind, .int .i64 q.q.hyp.k, .int .i64 q.q.hyp.o, .int .i64 q.q.hyp.n, .slice q.a1 q.q.hyp.nx.length q.c1, .slice q.a2 q.q.hyp.out.length q.c2] 122)).alloc (.cells #[.int .i64 p.an.kind, .slice p.a1 p.an.out.length p.c1, .slice p.a2 L p.c2] 125)) = W2 at *
    go_wp2
    go_region
    go_wp2
    go_ret
    exact ⟨by rw [unhide H]; rfl, (unhide HB).drew⟩
  have t3 : ((p.an.out.length : Int) != (q.q.word.length : Int)) = false := by simp; omega
  have HC := hide (And.intro c1 (And.intro c2 c3))
  clear c1 c2 c3
  go_enter Try.func67, Try.ntmps67
  go_upto_region 1 with fail
  generalize ((w.alloc (.cells #[.int .i64 q.q.kind, .slice q.aw q.q.word.length q.cw, .int .i64 q.q.hyp.kind, .int .i64 q.q.hyp.k, .int .i64 q.q.hyp.o, .int .i64 q.q.hyp.n, .slice q.a1 q.q.hyp.nx.length q.c1, .slice q.a2 q.q.hyp.out.length q.c2] 122)).alloc (.cells #[.int .i64 p.an.kind, .slice p.a1 p.an.out.length p.c1, .slice p.a2 L p.c2] 125)) = W2 at *
  go_wp2
  go_region
  go_wp2
  go_loop [9] (fun i => ∃ I : Nat, i = .int .i64 (I : Int) ∧ I ≤ p.an.out.length ∧ Hid (∀ j, j < I → 0 ≤ p.an.out.getD j 0 ∧ p.an.out.getD j 0 < q.q.hyp.o)) (fun i => p.an.out.length - (intOf i).toNat)
  case atStart => exact ⟨0, rfl, Nat.zero_le _, fun j hj => by omega⟩
  case round =>
    obtain ⟨I, rfl, hI, hv⟩ := hrel
    by_cases hlt : I < p.an.out.length
    · obtain ⟨b, off, e1, hcs⟩ := (unhide HR).at hlt
      have hcx := hcs I hlt
      rw [e1] at p1
      by_cases r0 : p.an.out.getD I 0 < 0
      · have H := hide ((unhide HE).trans (if_neg (fun h => by rw [inB_false hlt (by omega)] at h; exact absurd h.2.2.2 (by decide))))
        generalize p.an.out.getD I 0 = x at *
        clear hcs hv
        go_wp2
        go_ret
        exact ⟨by rw [unhide H]; rfl, (unhide HB).drew⟩
      · by_cases r1 : p.an.out.getD I 0 < q.q.hyp.o
        · have HN := hide (show ∀ j, j < I + 1 → 0 ≤ p.an.out.getD j 0 ∧ p.an.out.getD j 0 < q.q.hyp.o from fun j hj => by
            by_cases e : j = I
            · subst e; exact ⟨by omega, r1⟩
            · exact unhide hv j (by omega))
          generalize p.an.out.getD I 0 = x at *
          have r1' : ¬ (x ≥ q.q.hyp.o) := by omega
          clear hcs hv
          go_wp2
          go_round
          case rel => exact ⟨I + 1, by simp, hlt, HN⟩
          case measure => simp [intOf]; omega
        · have H := hide ((unhide HE).trans (if_neg (fun h => by rw [inB_false hlt (by omega)] at h; exact absurd h.2.2.2 (by decide))))
          generalize p.an.out.getD I 0 = x at *
          have r1' : x ≥ q.q.hyp.o := by omega
          clear hcs hv
          go_wp2
          go_ret
          exact ⟨by rw [unhide H]; rfl, (unhide HB).drew⟩
    · obtain rfl : I = p.an.out.length := by omega
      have H := hide ((unhide HE).trans (if_pos ⟨(unhide HC).1, (unhide HC).2.1, (unhide HC).2.2, inB_true (unhide hv)⟩))
      go_wp2
      go_ret
      exact ⟨by rw [unhide H]; rfl, (unhide HB).drew⟩

set_option maxRecDepth 100000 in
set_option maxHeartbeats 4000000 in
/-- Of a query of Kind Member whose Hyp has neither Kind. -/
theorem rchk_oth (q : Pq) (p : Pa) (w : World) (hk : q.q.kind = 1) (hh1 : q.q.hyp.kind ≠ 1) (hh2 : q.q.hyp.kind ≠ 2) :
    Calls Try.prog 67 #[pqV q, paV p] w fun e w' => e = .returned (.int .i64 (chkA q.q p.an)) ∧ Below w.heap.size w w' := by
  have ba := ballo w (.cells (pqC q).toArray 122)
  have bb := ballo (w.alloc (.cells (pqC q).toArray 122)) (.cells (paC p).toArray 125)
  have hq := (Bk.new w (pqC q) 122).below bb
  have hp := Bk.new (w.alloc (.cells (pqC q).toArray 122)) (paC p) 125
  rw [World.size_alloc] at hp
  have q0 := hq.cell 0
  have q1 := hq.cell 1
  have q2 := hq.cell 2
  have q3 := hq.cell 3
  have q4 := hq.cell 4
  have p0 := hp.cell 0
  have p1 := hp.cell 1
  have p2 := hp.cell 2
  have b2 := bstep ba bb
  have H : Hid (chkA q.q p.an = 100) := by
    show _ = _
    unfold chkA
    rw [if_neg (by omega), if_neg (by omega), if_neg (by rintro ⟨-, -, h | h⟩ <;> omega)]
  have HB := hide b2
  simp only [pqC, paC, List.getElem?_cons_succ, List.getElem?_cons_zero] at q0 q1 q2 q3 q4 p0 p1 p2
  replace q0 := q0.trans (congrArg (fun z => some (Value.int .i64 z)) hk)
  have g1 : (q.q.hyp.kind == 1) = false := by simpa using hh1
  have g2 : (q.q.hyp.kind != 1) = true := by simpa using hh1
  have g3 : (q.q.hyp.kind != 2) = true := by simpa using hh2
  clear hq hp ba bb b2 q3 hk hh1 hh2
  unfold pqV paV
  unfold pqC paC at *
  generalize p.an.word.length = L at *
  by_cases c1 : p.an.kind = 1
  rotate_left
  · have t1 : (p.an.kind != 1) = true := by simpa using c1
    clear c1
    go_enter Try.func67, Try.ntmps67
    go_upto_region 1 with fail
    generalize ((w.alloc (.cells #[.int .i64 q.q.kind, .slice q.aw q.q.word.length q.cw, .int .i64 q.q.hyp.kind, .int .i64 q.q.hyp.k, .int .i64 q.q.hyp.o, .int .i64 q.q.hyp.n, .slice q.a1 q.q.hyp.nx.length q.c1, .slice q.a2 q.q.hyp.out.length q.c2] 122)).alloc (.cells #[.int .i64 p.an.kind, .slice p.a1 p.an.out.length p.c1, .slice p.a2 L p.c2] 125)) = W2 at *
    go_wp2
    go_region
    go_wp2
    go_ret
    exact ⟨by rw [unhide H]; rfl, (unhide HB).drew⟩
  have t1 : (p.an.kind != 1) = false := by simpa using c1
  by_cases c2 : L = 0
  rotate_left
  · have t2 : (L : Int) > 0 := by omega
    clear c2 c1
    go_enter Try.func67, Try.ntmps67
    go_upto_region 1 with fail
    generalize ((w.alloc (.cells #[.int .i64 q.q.kind, .slice q.aw q.q.word.length q.cw, .int .i64 q.q.hyp.kind, .int .i64 q.q.hyp.k, .int .i64 q.q.hyp.o, .int .i64 q.q.hyp.n, .slice q.a1 q.q.hyp.nx.length q.c1, .slice q.a2 q.q.hyp.out.length q.c2] 122)).alloc (.cells #[.int .i64 p.an.kind, .slice p.a1 p.an.out.length p.c1, .slice p.a2 L p.c2] 125)) = W2 at *
    go_wp2
    go_region
    go_wp2
    go_ret
    exact ⟨by rw [unhide H]; rfl, (unhide HB).drew⟩
  have t2 : ¬ ((L : Int) > 0) := by omega
  clear c1 c2
  go_enter Try.func67, Try.ntmps67
  go_upto_region 1 with fail
  generalize ((w.alloc (.cells #[.int .i64 q.q.kind, .slice q.aw q.q.word.length q.cw, .int .i64 q.q.hyp.kind, .int .i64 q.q.hyp.k, .int .i64 q.q.hyp.o, .int .i64 q.q.hyp.n, .slice q.a1 q.q.hyp.nx.length q.c1, .slice q.a2 q.q.hyp.out.length q.c2] 122)).alloc (.cells #[.int .i64 p.an.kind, .slice p.a1 p.an.out.length p.c1, .slice p.a2 L p.c2] 125)) = W2 at *
  go_wp2
  go_region
  go_wp2
  go_ret
  exact ⟨by rw [unhide H]; rfl, (unhide HB).drew⟩

theorem rchk_any (q : Pq) (p : Pa) (w : World) (h : RdPa w p) (hl : p.an.out.length ≤ 1000000) (hm : p.an.word.length ≤ maxLen) :
    Calls Try.prog 67 #[pqV q, paV p] w fun e w' => e = .returned (.int .i64 (chkA q.q p.an)) ∧ Below w.heap.size w w' := by
  by_cases k2 : q.q.kind = 2
  · exact rchk_hypo q p w k2 h.word hm
  by_cases k1 : q.q.kind = 1
  · by_cases h1 : q.q.hyp.kind = 1
    · exact rchk_dfa q p w k1 h1 h.out hl
    · by_cases h2 : q.q.hyp.kind = 2
      · exact rchk_mealy q p w k1 h2 h.out hl
      · exact rchk_oth q p w k1 h1 h2
  · exact rchk_none q p w k1 k2

end Go.Proofs.Ytlcablkhomnieaa
