/-
  The reference's Find of layer 11: what is kept of a word.
-/
import Derived.Test.YtemalidanjfmkaaCLs
namespace Go.Proofs.Ytemalidanjfmkaa
set_option linter.unusedVariables false
open Go.RowKit

/-- What Find leaves. -/
def FdPost (w : World) (f : Option (List Int)) (e : Ending) (w' : World) : Prop :=
  ∃ x : La, e = .returned (.tuple #[laV x, .bool f.isSome]) ∧ x.l = f.getD [] ∧ LaOk w' x ∧ Below w.heap.size w w'
theorem LaOk.zero (w : World) : LaOk w ⟨[], none, 0⟩ := ⟨.inl rfl, fun _ => ⟨rfl, rfl⟩, Nat.le_refl _, Nat.zero_le _⟩
/-- A list cut short. -/
theorem LaOk.take {w : World} {x : La} (h : LaOk w x) {n : Nat} (hn : n ≤ x.l.length) : LaOk w ⟨x.l.take n, x.a, x.c⟩ := by
  have := h.le
  refine ⟨h.rd.take n, fun e => ?_, by simp only [List.length_take]; omega, h.cap⟩
  have := h.nil e
  refine ⟨?_, this.2⟩
  simp only [List.length_take]
  omega
theorem take_len {l : List Int} {n : Nat} (h : n ≤ l.length) : (l.take n).length = n := by rw [List.length_take]; omega
theorem begV_le {w v : List Int} (h : begV w v = true) : v.length ≤ w.length := by
  unfold begV at h
  exact (of_decide_eq_true h).1

set_option maxRecDepth 100000 in
set_option maxHeartbeats 4000000 in
theorem rfind_zero (p : Cv) (a : Option Addr) (c : Nat) (v : List Int) (w : World) (k2 : p.kind = 2) (v0 : v.length = 0) :
    Calls Try.prog 18 #[cvV p, .slice a v.length c] w (FdPost w (findV p.cs v)) := by
  have HB0 := hide (ballo w (.cells #[.int .i64 p.kind, .int .i64 p.k, .int .i64 p.o, .int .i64 0, .slice none 0 0, .slice none 0 0, .int .i64 p.most, .slice p.aw p.ws.length p.cw, .slice p.ao p.os.length p.co, .slice p.ab p.bg.length p.cb, .int .i64 p.hits, .int .i64 p.miss] 34))
  have B0 := Cb.alloc w p 34
  have t1 : (p.kind == 2) = true := by simpa using k2
  have t2 : ((v.length : Int) == 0) = true := by rw [v0]; rfl
  have HE := hide (show findV p.cs v = some [] by unfold findV; rw [if_pos ⟨k2, v0⟩])
  unfold cvV
  clear k2 v0
  obtain ⟨p0, p1, p2, p3, p4, p5, p6, p7, p8, p9, p10, p11⟩ := B0
  go_enter Try.func18, Try.ntmps18
  go_wp2
  go_ret2
  exact ⟨⟨[], none, 0⟩, by rw [unhide HE]; rfl, by rw [unhide HE]; rfl, LaOk.zero _, unhide HB0⟩

set_option maxRecDepth 100000 in
set_option maxHeartbeats 4000000 in
theorem rfind_k1 (p : Cv) (a : Option Addr) (c : Nat) (v : List Int) (w : World) (hr : RdC w p) (hv : RdL .i64 w a v) (hl : v.length ≤ maxLen) (hk : p.kind = 1) :
    Calls Try.prog 18 #[cvV p, .slice a v.length c] w (FdPost w (findV p.cs v)) := by
  have HB0 := hide (ballo w (.cells #[.int .i64 p.kind, .int .i64 p.k, .int .i64 p.o, .int .i64 0, .slice none 0 0, .slice none 0 0, .int .i64 p.most, .slice p.aw p.ws.length p.cw, .slice p.ao p.os.length p.co, .slice p.ab p.bg.length p.cb, .int .i64 p.hits, .int .i64 p.miss] 34))
  have HC0 := hide (Cb.alloc w p 34)
  have HR := hide hr
  have HV := hide hv
  have lw := hr.lw
  have HLN := hide hr.len
  have HFT := hide hr.fit
  have K1 := hide hk
  have q1 : (p.kind == 1) = true := by simpa using hk
  have q2 : (p.kind == 2) = false := by simp [hk]
  clear hk
  have HE := hide (show findV p.cs v = fndL p.kind v (laL p.ws) (laL p.os) by unfold findV; rw [if_neg (fun h => absurd (show p.kind = 2 from h.1) (by rw [unhide K1]; decide))]; rfl)
  have HI := hide (show fndL p.kind v (laL p.ws) (laL p.os) = fndL p.kind v ((laL p.ws).drop 0) ((laL p.os).drop 0) by simp)
  unfold cvV
  unfold maxLen at hl
  clear hr hv
  obtain ⟨p0, p1, p2, p3, p4, p5, p6, p7, p8, p9, p10, p11⟩ := unhide HC0
  go_enter Try.func18, Try.ntmps18
  go_wp2
  clear p0 p1 p2 p3 p4 p5 p6 p7 p8 p9 p10 p11
  go_loopw [6] (fun iv wr => ∃ I : Nat, iv = .int .i64 (I : Int) ∧ I ≤ p.ws.length ∧ Below (w.alloc (.cells #[.int .i64 p.kind, .int .i64 p.k, .int .i64 p.o, .int .i64 0, .slice none 0 0, .slice none 0 0, .int .i64 p.most, .slice p.aw p.ws.length p.cw, .slice p.ao p.os.length p.co, .slice p.ab p.bg.length p.cb, .int .i64 p.hits, .int .i64 p.miss] 34)).heap.size (w.alloc (.cells #[.int .i64 p.kind, .int .i64 p.k, .int .i64 p.o, .int .i64 0, .slice none 0 0, .slice none 0 0, .int .i64 p.most, .slice p.aw p.ws.length p.cw, .slice p.ao p.os.length p.co, .slice p.ab p.bg.length p.cb, .int .i64 p.hits, .int .i64 p.miss] 34)) wr ∧ Hid (fndL p.kind v (laL p.ws) (laL p.os) = fndL p.kind v ((laL p.ws).drop I) ((laL p.os).drop I))) (fun iv _ => p.ws.length - (intOf iv).toNat)
  case atStart => exact ⟨0, rfl, Nat.zero_le _, Below.refl _ _, HI⟩
  case round =>
    obtain ⟨I, rfl, hI, hB, HN⟩ := hrel
    have HC1 := hide ((unhide HC0).below hB)
    have hBw := bstep (unhide HB0) hB
    obtain ⟨p0, p1, p2, p3, p4, p5, p6, p7, p8, p9, p10, p11⟩ := unhide HC1
    by_cases hlt : I < p.ws.length
    · have hlt' : (I : Int) < (p.ws.length : Int) := by omega
      have hlo : I < p.os.length := by rw [unhide HLN]; exact hlt
      have hlo' : (I : Int) < (p.os.length : Int) := by omega
      obtain ⟨b1, o1, e1, hc1⟩ := (unhide HR).ws.at hlt
      obtain ⟨b2, o2, e2, hc2⟩ := (unhide HR).os.at hlo
      have c1 := (hBw.cell (World.block_lt_of_cell? _ _ (hc1 I hlt))).trans (hc1 I hlt)
      have c2 := (hBw.cell (World.block_lt_of_cell? _ _ (hc2 I hlo))).trans (hc2 I hlo)
      have x1 := ((unhide HR).ws.row p.ws[I] (List.getElem_mem hlt)).below hBw
      have x2 := ((unhide HR).os.row p.os[I] (List.getElem_mem hlo)).below hBw
      have HFI : Hid (p.kind = 2 → p.os[I].l.length = p.ws[I].l.length) := fun k => unhide HFT k I hlt hlo
      have HS : Hid (fndL p.kind v (laL p.ws) (laL p.os) = if p.kind = 1 ∧ p.ws[I].l = v then some p.os[I].l else if p.kind = 2 ∧ begV p.ws[I].l v = true then some (p.os[I].l.take v.length) else fndL p.kind v ((laL p.ws).drop (I + 1)) ((laL p.os).drop (I + 1))) := by
        have := (unhide HN).trans (fndL_step (by rw [laL_len]; exact hlt) (by rw [laL_len]; exact hlo))
        rw [laL_at hlt, laL_at hlo] at this
        exact this
      have HE1 := hide e1
      have HE2 := hide e2
      rw [e1] at p7
      rw [e2] at p8
      generalize p.ws[I] = X at *
      generalize p.os[I] = Y at *
      clear hc1 hc2 HN e1 e2
      have HX2 := hide x2
      have HKW : Hid (∀ wz, Below wr.heap.size wr wz → wz.cell? ⟨b1, o1 + I, none⟩ = some (.slice X.a X.l.length X.c) ∧ wz.cell? ⟨b2, o2 + I, none⟩ = some (.slice Y.a Y.l.length Y.c)) := fun wz hz => ⟨(hz.cell (World.block_lt_of_cell? _ _ c1)).trans c1, (hz.cell (World.block_lt_of_cell? _ _ c2)).trans c2⟩
      have hs := same_list X.a a X.c c X.l v wr x1.rd ((unhide HV).below hBw) x1.len
      clear x1 x2
      by_cases hX : X.l = v
      · have HF := hide ((unhide HE).trans ((unhide HS).trans (if_pos ⟨unhide K1, hX⟩)))
        rw [decide_eq_true hX] at hs
        clear hX
        go_wp2_with fail
        refine hs.mono ?_
        rintro e w2 ⟨rfl, hb2⟩
        clear p0 p1 p2 p3 p4 p5 p6 p7 p8 p9 p10 p11 c1 c2
        obtain ⟨p0, p1, p2, p3, p4, p5, p6, p7, p8, p9, p10, p11⟩ := (unhide HC1).below hb2
        have c1 := (unhide HKW w2 hb2).1
        have c2 := (unhide HKW w2 hb2).2
        rw [unhide HE1] at p7
        rw [unhide HE2] at p8
        go_wp2
        go_ret2
        exact ⟨Y, by rw [unhide HF]; rfl, by rw [unhide HF]; rfl, (unhide HX2).below hb2, bstep hBw hb2⟩
      · have HF := hide ((unhide HS).trans ((if_neg (fun h => hX h.2)).trans (if_neg (fun h => absurd h.1 (by rw [unhide K1]; decide)))))
        rw [decide_eq_false hX] at hs
        clear hX
        go_wp2_with fail
        refine hs.mono ?_
        rintro e w2 ⟨rfl, hb2⟩
        clear p0 p1 p2 p3 p4 p5 p6 p7 p8 p9 p10 p11 c1 c2
        obtain ⟨p0, p1, p2, p3, p4, p5, p6, p7, p8, p9, p10, p11⟩ := (unhide HC1).below hb2
        have c1 := (unhide HKW w2 hb2).1
        have c2 := (unhide HKW w2 hb2).2
        rw [unhide HE1] at p7
        rw [unhide HE2] at p8
        go_wp2
        go_roundw
        case rel => exact ⟨I + 1, by go_num, by omega, bstep hB hb2, HF⟩
        case measure => simp [intOf]; omega
    · have HF := hide ((unhide HE).trans ((unhide HN).trans (fndL_end (by rw [laL_len]; exact hlt))))
      obtain rfl : I = p.ws.length := by omega
      go_wp2
      go_ret2
      exact ⟨⟨[], none, 0⟩, by rw [unhide HF]; rfl, by rw [unhide HF]; rfl, LaOk.zero _, hBw⟩

set_option maxRecDepth 100000 in
set_option maxHeartbeats 4000000 in
theorem rfind_k2 (p : Cv) (a : Option Addr) (c : Nat) (v : List Int) (w : World) (hr : RdC w p) (hv : RdL .i64 w a v) (hl : v.length ≤ maxLen) (hk : p.kind = 2) (h0 : v.length ≠ 0) :
    Calls Try.prog 18 #[cvV p, .slice a v.length c] w (FdPost w (findV p.cs v)) := by
  have HB0 := hide (ballo w (.cells #[.int .i64 p.kind, .int .i64 p.k, .int .i64 p.o, .int .i64 0, .slice none 0 0, .slice none 0 0, .int .i64 p.most, .slice p.aw p.ws.length p.cw, .slice p.ao p.os.length p.co, .slice p.ab p.bg.length p.cb, .int .i64 p.hits, .int .i64 p.miss] 34))
  have HC0 := hide (Cb.alloc w p 34)
  have HR := hide hr
  have HV := hide hv
  have lw := hr.lw
  have HLN := hide hr.len
  have HFT := hide hr.fit
  have K2 := hide hk
  have H0 := hide h0
  have q1 : (p.kind == 1) = false := by simp [hk]
  have q2 : (p.kind == 2) = true := by simpa using hk
  have q3 : ((v.length : Int) == 0) = false := beq_eq_false_iff_ne.2 (by omega)
  clear hk h0
  have HE := hide (show findV p.cs v = fndL p.kind v (laL p.ws) (laL p.os) by unfold findV; rw [if_neg (fun h => unhide H0 h.2)]; rfl)
  have HI := hide (show fndL p.kind v (laL p.ws) (laL p.os) = fndL p.kind v ((laL p.ws).drop 0) ((laL p.os).drop 0) by simp)
  unfold cvV
  unfold maxLen at hl
  clear hr hv
  obtain ⟨p0, p1, p2, p3, p4, p5, p6, p7, p8, p9, p10, p11⟩ := unhide HC0
  go_enter Try.func18, Try.ntmps18
  go_wp2
  clear p0 p1 p2 p3 p4 p5 p6 p7 p8 p9 p10 p11
  go_loopw [6] (fun iv wr => ∃ I : Nat, iv = .int .i64 (I : Int) ∧ I ≤ p.ws.length ∧ Below (w.alloc (.cells #[.int .i64 p.kind, .int .i64 p.k, .int .i64 p.o, .int .i64 0, .slice none 0 0, .slice none 0 0, .int .i64 p.most, .slice p.aw p.ws.length p.cw, .slice p.ao p.os.length p.co, .slice p.ab p.bg.length p.cb, .int .i64 p.hits, .int .i64 p.miss] 34)).heap.size (w.alloc (.cells #[.int .i64 p.kind, .int .i64 p.k, .int .i64 p.o, .int .i64 0, .slice none 0 0, .slice none 0 0, .int .i64 p.most, .slice p.aw p.ws.length p.cw, .slice p.ao p.os.length p.co, .slice p.ab p.bg.length p.cb, .int .i64 p.hits, .int .i64 p.miss] 34)) wr ∧ Hid (fndL p.kind v (laL p.ws) (laL p.os) = fndL p.kind v ((laL p.ws).drop I) ((laL p.os).drop I))) (fun iv _ => p.ws.length - (intOf iv).toNat)
  case atStart => exact ⟨0, rfl, Nat.zero_le _, Below.refl _ _, HI⟩
  case round =>
    obtain ⟨I, rfl, hI, hB, HN⟩ := hrel
    have HC1 := hide ((unhide HC0).below hB)
    have hBw := bstep (unhide HB0) hB
    obtain ⟨p0, p1, p2, p3, p4, p5, p6, p7, p8, p9, p10, p11⟩ := unhide HC1
    by_cases hlt : I < p.ws.length
    · have hlt' : (I : Int) < (p.ws.length : Int) := by omega
      have hlo : I < p.os.length := by rw [unhide HLN]; exact hlt
      have hlo' : (I : Int) < (p.os.length : Int) := by omega
      obtain ⟨b1, o1, e1, hc1⟩ := (unhide HR).ws.at hlt
      obtain ⟨b2, o2, e2, hc2⟩ := (unhide HR).os.at hlo
      have c1 := (hBw.cell (World.block_lt_of_cell? _ _ (hc1 I hlt))).trans (hc1 I hlt)
      have c2 := (hBw.cell (World.block_lt_of_cell? _ _ (hc2 I hlo))).trans (hc2 I hlo)
      have x1 := ((unhide HR).ws.row p.ws[I] (List.getElem_mem hlt)).below hBw
      have x2 := ((unhide HR).os.row p.os[I] (List.getElem_mem hlo)).below hBw
      have HFI : Hid (p.kind = 2 → p.os[I].l.length = p.ws[I].l.length) := fun k => unhide HFT k I hlt hlo
      have HS : Hid (fndL p.kind v (laL p.ws) (laL p.os) = if p.kind = 1 ∧ p.ws[I].l = v then some p.os[I].l else if p.kind = 2 ∧ begV p.ws[I].l v = true then some (p.os[I].l.take v.length) else fndL p.kind v ((laL p.ws).drop (I + 1)) ((laL p.os).drop (I + 1))) := by
        have := (unhide HN).trans (fndL_step (by rw [laL_len]; exact hlt) (by rw [laL_len]; exact hlo))
        rw [laL_at hlt, laL_at hlo] at this
        exact this
      have HE1 := hide e1
      have HE2 := hide e2
      rw [e1] at p7
      rw [e2] at p8
      generalize p.ws[I] = X at *
      generalize p.os[I] = Y at *
      clear hc1 hc2 HN e1 e2
      have HX2 := hide x2
      have HKW : Hid (∀ wz, Below wr.heap.size wr wz → wz.cell? ⟨b1, o1 + I, none⟩ = some (.slice X.a X.l.length X.c) ∧ wz.cell? ⟨b2, o2 + I, none⟩ = some (.slice Y.a Y.l.length Y.c)) := fun wz hz => ⟨(hz.cell (World.block_lt_of_cell? _ _ c1)).trans c1, (hz.cell (World.block_lt_of_cell? _ _ c2)).trans c2⟩
      have hs := rbegins_any X a c v wr x1 ((unhide HV).below hBw) (by unfold maxLen; omega)
      have x2le := x2.le
      have x2cap := x2.cap
      unfold maxLen at x2cap
      cases hX : begV X.l v
      · have HF := hide ((unhide HS).trans ((if_neg (fun h => absurd h.1 (by rw [unhide K2]; decide))).trans (if_neg (fun h => by rw [hX] at h; cases h.2))))
        rw [hX] at hs
        clear hX x1 x2
        go_wp2_with fail
        refine hs.mono ?_
        rintro e w2 ⟨rfl, hb2⟩
        clear p0 p1 p2 p3 p4 p5 p6 p7 p8 p9 p10 p11 c1 c2
        obtain ⟨p0, p1, p2, p3, p4, p5, p6, p7, p8, p9, p10, p11⟩ := (unhide HC1).below hb2
        have c1 := (unhide HKW w2 hb2).1
        have c2 := (unhide HKW w2 hb2).2
        rw [unhide HE1] at p7
        rw [unhide HE2] at p8
        go_wp2
        go_roundw
        case rel => exact ⟨I + 1, by go_num, by omega, bstep hB hb2, HF⟩
        case measure => simp [intOf]; omega
      · have HF := hide ((unhide HE).trans ((unhide HS).trans ((if_neg (fun h => absurd h.1 (by rw [unhide K2]; decide))).trans (if_pos ⟨unhide K2, hX⟩))))
        have hle : v.length ≤ Y.l.length := by rw [unhide HFI (unhide K2)]; exact begV_le hX
        have hvc : (v.length : Int) ≤ (Y.c : Int) := by omega
        have hlen := hide (take_len hle)
        rw [hX] at hs
        clear hX x1
        cases hya : Y.a with
        | none =>
          have hn := x2.nil hya
          exact absurd (show v.length = 0 by omega) (unhide H0)
        | some ad =>
          rw [hya] at c2
          have HYA := hide hya
          clear x2 hya
          go_wp2_with fail
          refine hs.mono ?_
          rintro e w2 ⟨rfl, hb2⟩
          clear p0 p1 p2 p3 p4 p5 p6 p7 p8 p9 p10 p11 c1 c2
          obtain ⟨p0, p1, p2, p3, p4, p5, p6, p7, p8, p9, p10, p11⟩ := (unhide HC1).below hb2
          have c1 := (unhide HKW w2 hb2).1
          have c2 := (unhide HKW w2 hb2).2
          rw [unhide HE1] at p7
          rw [unhide HE2] at p8
          rw [unhide HYA] at c2
          go_wp2
          go_ret2
          exact ⟨⟨Y.l.take v.length, Y.a, Y.c⟩, by rw [unhide HF]; simp only [laV, unhide hlen, unhide HYA]; rfl, by rw [unhide HF]; rfl, ((unhide HX2).below hb2).take hle, bstep hBw hb2⟩
    · have HF := hide ((unhide HE).trans ((unhide HN).trans (fndL_end (by rw [laL_len]; exact hlt))))
      obtain rfl : I = p.ws.length := by omega
      go_wp2
      go_ret2
      exact ⟨⟨[], none, 0⟩, by rw [unhide HF]; rfl, by rw [unhide HF]; rfl, LaOk.zero _, hBw⟩

set_option maxRecDepth 100000 in
set_option maxHeartbeats 4000000 in
theorem rfind_k0 (p : Cv) (a : Option Addr) (c : Nat) (v : List Int) (w : World) (hr : RdC w p) (hv : RdL .i64 w a v) (hl : v.length ≤ maxLen) (h1 : p.kind ≠ 1) (h2 : p.kind ≠ 2) :
    Calls Try.prog 18 #[cvV p, .slice a v.length c] w (FdPost w (findV p.cs v)) := by
  have HB0 := hide (ballo w (.cells #[.int .i64 p.kind, .int .i64 p.k, .int .i64 p.o, .int .i64 0, .slice none 0 0, .slice none 0 0, .int .i64 p.most, .slice p.aw p.ws.length p.cw, .slice p.ao p.os.length p.co, .slice p.ab p.bg.length p.cb, .int .i64 p.hits, .int .i64 p.miss] 34))
  have HC0 := hide (Cb.alloc w p 34)
  have HR := hide hr
  have HV := hide hv
  have lw := hr.lw
  have HLN := hide hr.len
  have HFT := hide hr.fit
  have K1 := hide h1
  have K2 := hide h2
  have q1 : (p.kind == 1) = false := by simpa using h1
  have q2 : (p.kind == 2) = false := by simpa using h2
  clear h1 h2
  have HE := hide (show findV p.cs v = fndL p.kind v (laL p.ws) (laL p.os) by unfold findV; rw [if_neg (fun h => unhide K2 h.1)]; rfl)
  have HI := hide (show fndL p.kind v (laL p.ws) (laL p.os) = fndL p.kind v ((laL p.ws).drop 0) ((laL p.os).drop 0) by simp)
  unfold cvV
  unfold maxLen at hl
  clear hr hv
  obtain ⟨p0, p1, p2, p3, p4, p5, p6, p7, p8, p9, p10, p11⟩ := unhide HC0
  go_enter Try.func18, Try.ntmps18
  go_wp2
  clear p0 p1 p2 p3 p4 p5 p6 p7 p8 p9 p10 p11
  go_loopw [6] (fun iv wr => ∃ I : Nat, iv = .int .i64 (I : Int) ∧ I ≤ p.ws.length ∧ Below (w.alloc (.cells #[.int .i64 p.kind, .int .i64 p.k, .int .i64 p.o, .int .i64 0, .slice none 0 0, .slice none 0 0, .int .i64 p.most, .slice p.aw p.ws.length p.cw, .slice p.ao p.os.length p.co, .slice p.ab p.bg.length p.cb, .int .i64 p.hits, .int .i64 p.miss] 34)).heap.size (w.alloc (.cells #[.int .i64 p.kind, .int .i64 p.k, .int .i64 p.o, .int .i64 0, .slice none 0 0, .slice none 0 0, .int .i64 p.most, .slice p.aw p.ws.length p.cw, .slice p.ao p.os.length p.co, .slice p.ab p.bg.length p.cb, .int .i64 p.hits, .int .i64 p.miss] 34)) wr ∧ Hid (fndL p.kind v (laL p.ws) (laL p.os) = fndL p.kind v ((laL p.ws).drop I) ((laL p.os).drop I))) (fun iv _ => p.ws.length - (intOf iv).toNat)
  case atStart => exact ⟨0, rfl, Nat.zero_le _, Below.refl _ _, HI⟩
  case round =>
    obtain ⟨I, rfl, hI, hB, HN⟩ := hrel
    have HC1 := hide ((unhide HC0).below hB)
    have hBw := bstep (unhide HB0) hB
    obtain ⟨p0, p1, p2, p3, p4, p5, p6, p7, p8, p9, p10, p11⟩ := unhide HC1
    by_cases hlt : I < p.ws.length
    · have hlt' : (I : Int) < (p.ws.length : Int) := by omega
      have hlo : I < p.os.length := by rw [unhide HLN]; exact hlt
      have hlo' : (I : Int) < (p.os.length : Int) := by omega
      obtain ⟨b1, o1, e1, hc1⟩ := (unhide HR).ws.at hlt
      obtain ⟨b2, o2, e2, hc2⟩ := (unhide HR).os.at hlo
      have c1 := (hBw.cell (World.block_lt_of_cell? _ _ (hc1 I hlt))).trans (hc1 I hlt)
      have c2 := (hBw.cell (World.block_lt_of_cell? _ _ (hc2 I hlo))).trans (hc2 I hlo)
      have x1 := ((unhide HR).ws.row p.ws[I] (List.getElem_mem hlt)).below hBw
      have x2 := ((unhide HR).os.row p.os[I] (List.getElem_mem hlo)).below hBw
      have HFI : Hid (p.kind = 2 → p.os[I].l.length = p.ws[I].l.length) := fun k => unhide HFT k I hlt hlo
      have HS : Hid (fndL p.kind v (laL p.ws) (laL p.os) = if p.kind = 1 ∧ p.ws[I].l = v then some p.os[I].l else if p.kind = 2 ∧ begV p.ws[I].l v = true then some (p.os[I].l.take v.length) else fndL p.kind v ((laL p.ws).drop (I + 1)) ((laL p.os).drop (I + 1))) := by
        have := (unhide HN).trans (fndL_step (by rw [laL_len]; exact hlt) (by rw [laL_len]; exact hlo))
        rw [laL_at hlt, laL_at hlo] at this
        exact this
      have HE1 := hide e1
      have HE2 := hide e2
      rw [e1] at p7
      rw [e2] at p8
      generalize p.ws[I] = X at *
      generalize p.os[I] = Y at *
      clear hc1 hc2 HN e1 e2
      have HF := hide ((unhide HS).trans ((if_neg (fun h => unhide K1 h.1)).trans (if_neg (fun h => unhide K2 h.1))))
      clear x1 x2
      go_wp2
      go_roundw
      case rel => exact ⟨I + 1, by go_num, by omega, hB, HF⟩
      case measure => simp [intOf]; omega
    · have HF := hide ((unhide HE).trans ((unhide HN).trans (fndL_end (by rw [laL_len]; exact hlt))))
      obtain rfl : I = p.ws.length := by omega
      go_wp2
      go_ret2
      exact ⟨⟨[], none, 0⟩, by rw [unhide HF]; rfl, by rw [unhide HF]; rfl, LaOk.zero _, hBw⟩

theorem rfind_any (p : Cv) (a : Option Addr) (c : Nat) (v : List Int) (w : World) (hr : RdC w p) (hv : RdL .i64 w a v) (hl : v.length ≤ maxLen) :
    Calls Try.prog 18 #[cvV p, .slice a v.length c] w (FdPost w (findV p.cs v)) := by
  by_cases k1 : p.kind = 1
  · exact rfind_k1 p a c v w hr hv hl k1
  · by_cases k2 : p.kind = 2
    · by_cases h0 : v.length = 0
      · exact rfind_zero p a c v w k2 h0
      · exact rfind_k2 p a c v w hr hv hl k2 h0
    · exact rfind_k0 p a c v w hr hv hl k1 k2

end Go.Proofs.Ytemalidanjfmkaa
