/-
  The object that parts states: a split, and what then waits.
-/
import Derived.Test.YtnakadlhafggkaaQSvJ
import Derived.Test.YtnakadlhafggkaaQSplitW
namespace Go.Proofs.Ytnakadlhafggkaa
open Go.RowKit

structure SvPost (w0 w : World) (z : Nat) (p : Pp) (gs : Nat) (s : St) (vq vw : Value) (Wl l : List Int) (w' : World) (gs' cap' : Nat) (s' : St) (vq' vw' : Value) (f' : Nat → Bool) (W : List Int) : Prop where
  sv : Sv w0 w' z p gs' cap' s' vq' vw' s'.K f' W
  wn : Wn s'.K f' W
  K : s'.K = s.K + mixN (tab p.n s.c) l s.K
  c : tab p.n s'.c = spC (tab p.n s.c) l s.K s.K
  hv : ∃ G, Cuts (tab p.n s.c) l s.K s.K G ∧ Hv G Wl (mixN (tab p.n s.c) l s.K) W
  nw : ∀ b, b < w.heap.size → SvX z p gs' vq' vw' b → SvX z p gs vq vw b
  bx : Bx (SvX z p gs vq vw) w w'
  inn : ∀ x, x < p.n → s.b (s.c x) ≤ s'.p x ∧ s'.p x < s.e (s.c x)

theorem quietD {P : Program} {f : FuncId} {args : Array Value} {w : World} {n : Nat} {v : Value} (h : Calls P f args (w.drewN n) fun e w' => e = .returned v ∧ ∃ m, w' = (w.drewN n).drewN m) :
    Calls P f args (w.drewN n) fun e w'' => e = .returned v ∧ ∃ m, w'' = w.drewN m :=
  h.mono fun _ _ ⟨he, m, hm⟩ => ⟨he, n + m, by rw [hm]; simp⟩
theorem hv_len {G : Nat → Nat → Int} {Wl W : List Int} {t : Nat} (h : Hv G Wl t W) : W.length = Wl.length + t := by
  obtain ⟨H, rfl, hl, _⟩ := h
  simp [hl]
theorem joinV_bv (n : Nat) (f : Nat → Bool) : joinV n (bv f) (fun _ => .bool false) = bv (fun i => if i < n then f i else false) := by
  funext i
  unfold joinV bv
  by_cases h : i < n <;> simp [h]

set_option maxRecDepth 100000 in
set_option maxHeartbeats 4000000 in
theorem svsplit_any (w0 w : World) (z : Nat) (p : Pp) (gs cap : Nat) (s : St) (vq vw : Value) (f : Nat → Bool) (Wl : List Int) (a : Option Addr) (c : Nat) (l : List Int) (h : Sv w0 w z p gs cap s vq vw s.K f Wl) (hw : Wn s.K f Wl) (hn : p.n ≤ 65536) (hl : l.length ≤ 1000000) (hWl : Wl.length ≤ 900000)
    (hr : RdL .i64 w a l) (ha : ∀ x, a = some x → l.length ≠ 0 → ¬ p.has gs x.block) (hx : ∀ x ∈ l, 0 ≤ x ∧ x < (p.n : Int)) :
    Calls Try.prog 53 #[.pointer (some ⟨z, 0, none⟩), .slice a l.length c] w fun e w' => ∃ gs' cap' s' vq' vw' f' W, e = .returned (.tuple #[]) ∧ SvPost w0 w z p gs s vq vw Wl l w' gs' cap' s' vq' vw' f' W := by
  have SP := split_any p gs cap s a c l w h.ob.at_ h.ob.pi hn hl hr ha hx
  have c0 := h.c0
  have HS := hide h
  have HW := hide hw
  have HSP := hide SP
  have hKn := h.ob.pi.Kn
  have hz := h.lt
  clear h hw hr ha hx SP
  go_enter Try.func53, Try.ntmps53
  go_wp2_with fail
  refine (unhide HSP).mono ?_
  rintro e w1 ⟨gs', cap', s', vc, G, rfl, hsp⟩
  clear HSP c0
  have hcnt := mixN_le (tab p.n s.c) l s.K
  have J0 := SvJ.start (unhide HS) hsp
  have HCU := hide hsp.cuts
  have HK := hide hsp.K
  have HC := hide hsp.c
  have HIN := hide hsp.inn
  obtain ⟨av, cv, rfl⟩ := hsp.own.shape
  clear hsp
  generalize hcn : mixN (tab p.n s.c) l s.K = cn at *
  have HCN := hide hcn
  clear hcn
  have HJ0 := hide J0
  clear J0
  go_wp2
  go_loopw [14] (fun i wx => ∃ (t : Nat) (vq' vw' : Value) (f' : Nat → Bool) (W : List Int), t ≤ cn ∧ i = .int .i64 t ∧ SvJ w0 w wx z p gs vq vw gs' cap' s' (.slice av cn cv) cn G vq' vw' (s.K + t) f' W ∧ Wn (s.K + t) f' W ∧ Hv G Wl t W) (fun i _ => cn - (intOf i).toNat)
  case atStart => exact ⟨0, vq, vw, f, Wl, Nat.zero_le _, rfl, unhide HJ0, unhide HW, Hv.start _ _⟩
  case round =>
    obtain ⟨t, vq', vw', f', W, ht, rfl, hj, hwn, hhv⟩ := hrel
    clear HJ0
    by_cases hlt : t < cn
    · obtain ⟨gv, cv', e, -, -, -, gl, hcell⟩ := hj.oc.pos (by omega)
      cases e
      obtain ⟨cc, hcc, -, -, e0, e1⟩ := (unhide HCU) t (by rw [unhide HCN]; exact hlt)
      have q0 := hcell t 0 hlt (by omega)
      have q1 := hcell t 1 hlt (by omega)
      rw [e0, Nat.add_zero] at q0
      rw [e1] at q1
      have HE0 := hide e0
      have HE1 := hide e1
      have hWb : W.length ≤ 1000000 := by have := hv_len hhv; omega
      clear hcell e0 e1
      obtain ⟨mk, hmk⟩ : ∃ mk, mk = s.K + t := ⟨_, rfl⟩
      rw [← hmk] at q1 hj hwn
      have HMK := hide hmk
      have hmk2 : mk ≤ 140000 := by omega
      have hcm : cc < mk := by omega
      have HWN := hide hwn
      have HHV := hide hhv
      have HJ := hide hj
      have hc2 := (hj.on (ballo wr (.cells #[.int .i64 ((cc : Nat) : Int), .int .i64 ((mk : Nat) : Int)] 66))).sv.c2
      have hzx := hj.sv.lt
      obtain ⟨aw, cw, rfl⟩ := hj.sv.e.shape
      obtain ⟨aq, cq, rfl⟩ := hj.sv.q.shape
      clear hj hwn hhv
      clear hmk
      go_upto_region 3 with fail
      go_cut [] from 15 to 75 (fun wx => ∃ vw2, SvJ w0 w wx z p gs vq vw gs' cap' s' (.slice (some ⟨gv, 0, none⟩) cn cv) cn G (.slice aq W.length cq) vw2 (mk + 1) (fun i => if i < mk then f' i else false) W ∧ wx.cell? ⟨wr.heap.size, 0, none⟩ = some (.int .i64 ((cc : Nat) : Int)) ∧ wx.cell? ⟨wr.heap.size, 1, none⟩ = some (.int .i64 ((mk : Nat) : Int)))
      case first =>
        have J1 := (unhide HJ).on (ballo wr (.cells #[.int .i64 ((cc : Nat) : Int), .int .i64 ((mk : Nat) : Int)] 66))
        have J2 := J1.on (ballo _ (.cells #[.bool false] 4))
        have HO1 := hide J2.sv.e
        have zn : (Value.slice aw mk cw).ownBlock ≠ some z := fun e => (J1.sv.wl z e).2.1 rfl
        have kn : (Value.slice aw mk cw).ownBlock ≠ some wr.heap.size := ((unhide HJ).sv.no (Nat.le_refl _)).2.2.2
        have HZ2 := hide J2.sv.c2
        have HF2 := hide J2.sv.f2
        have HJ1 := hide J1
        clear J1 J2
        go_wp2_with (at_builtin; refine wplE_push eBool rfl (.tmp 22) (.tmp 23) rfl 0 _ mk (bv f') rfl (unhide HO1) (wr.heap.size + 1) 1 (.bool false) rfl (by simp) rfl (by omega) (Nat.zero_le _) ?_; intro v4 w4 ho4 hb4 hg4 hat4; obtain ⟨a4, c4, rfl⟩ := ho4.shape; have zb := hg4.block z (by simp; omega) (fun e => zn e.symm); have z4 := (World.cell?_of_block (a := ⟨z, 2, none⟩) zb).trans (unhide HZ2); have f4 := (World.frozen?_of_block (a := ⟨z, 2, none⟩) zb).trans (unhide HF2))
        go_meet
        have kb : (w4.setCell ⟨z, 2, none⟩ (.slice a4 (mk + 1) c4)).heap[wr.heap.size]? = some (.cells #[.int .i64 ((cc : Nat) : Int), .int .i64 ((mk : Nat) : Int)] 66) := by
          rw [Below.heap_setCell w4 _ _ _ (by show wr.heap.size ≠ z; omega), hg4.block wr.heap.size (by simp; omega) (fun e => kn e.symm), Below.heap_alloc _ _ _ (by simp)]
          exact heap_alloc_new wr _
        refine ⟨_, (unhide HJ1).putW (ballo _ _) hg4 (by rw [← joinV_bv]; exact ho4) hat4, ?_, ?_⟩
        · unfold World.cell?; rw [kb]; rfl
        · unfold World.cell?; rw [kb]; rfl
      case rest =>
        obtain ⟨vw2, hj2, k0, k1⟩ := hcut
        clear HJ hc2 q0 q1
        obtain ⟨gw, cw2, rfl, -, -, -, hgw, ecell, -⟩ := hj2.sv.e.pos (by omega)
        have ec := ecell cc (by omega)
        rw [show bv (fun i => if i < mk then f' i else false) cc = .bool (f' cc) by unfold bv; simp [hcm]] at ec
        have c0' := hj2.sv.c0
        have c2' := hj2.sv.c2
        have hmK : mk < s'.K := by have := unhide HK; have := unhide HMK; omega
        have pi' := hj2.sv.ob.pi
        have sp1 := pi'.sp cc (by omega)
        have sp2 := pi'.sp mk hmK
        have SP1 : ∀ q, Calls Try.prog 36 #[.pointer (some ⟨p.b, 0, none⟩), .int .i64 (cc : Nat)] (wc.drewN q) fun e w' => e = .returned (.slice (some ⟨p.gr, s'.b cc, none⟩) (s'.e cc - s'.b cc) (p.n - s'.b cc)) ∧ ∃ m, w' = (wc.drewN q).drewN m := fun q => span_any (PtAt.draws hj2.sv.ob.at_ q) (by omega) rfl rfl sp1.1 sp1.2
        have SP2 : ∀ q, Calls Try.prog 36 #[.pointer (some ⟨p.b, 0, none⟩), .int .i64 (mk : Nat)] (wc.drewN q) fun e w' => e = .returned (.slice (some ⟨p.gr, s'.b mk, none⟩) (s'.e mk - s'.b mk) (p.n - s'.b mk)) ∧ ∃ m, w' = (wc.drewN q).drewN m := fun q => span_any (PtAt.draws hj2.sv.ob.at_ q) hmK rfl rfl sp2.1 sp2.2
        have HSP1 := hide SP1
        have HSP2 := hide SP2
        have HJ2 := hide hj2
        clear hj2 ecell pi' SP1 SP2
        go_upto_region 5 with fail
        go_cut [56] from 15 to 55 (fun b wx => ∃ cb : Bool, b = .bool cb ∧ (cb = true → f' cc = false) ∧ wx.cell? ⟨wr.heap.size, 0, none⟩ = some (.int .i64 ((cc : Nat) : Int)) ∧ SvJ w0 w wx z p gs vq vw gs' cap' s' (.slice (some ⟨gv, 0, none⟩) cn cv) cn G (.slice aq W.length cq) (.slice (some ⟨gw, 0, none⟩) (mk + 1) cw2) (mk + 1) (fun i => if i < mk then f' i else false) W)
        case first =>
          cases hfc : f' cc
          · rw [hfc] at ec
            go_wp2
            go_quiet ((go_at_call 36; first | with_reducible exact quietD ((unhide HSP1) _) | with_reducible exact quietD ((unhide HSP2) _)))
            go_wp2
            go_meet
            exact ⟨_, rfl, fun _ => hfc, k0, (unhide HJ2).draws _⟩
          · rw [hfc] at ec
            go_wp2
            go_quiet (fail)
            go_wp2
            go_meet
            exact ⟨false, rfl, fun e => (by cases e), k0, (unhide HJ2).draws _⟩
        case rest =>
          obtain ⟨cb, rfl, himp, k0', hj3⟩ := hcut
          clear HJ2 HSP1 HSP2 c0' c2' ec k0 k1 hgw
          cases cb
          · have hhm : mk < mk + 1 := by omega
            have J4 := hj3.on (ballo wc (.cells #[.int .i64 ((mk : Nat) : Int)] 3))
            have c1' := hj3.sv.c1
            have HQ := hide J4.sv.q
            have HZ1 := hide J4.sv.c1
            have HF1 := hide J4.sv.f1
            have zn : (Value.slice aq W.length cq).ownBlock ≠ some z := fun e => (J4.sv.ql z e).2.1 rfl
            have hzc := J4.sv.lt
            have HJ3 := hide hj3
            clear hj3 J4
            go_upto_region 7 with fail
            go_cut [] from 15 to 75 (fun wx => ∃ vq2, SvJ w0 w wx z p gs vq vw gs' cap' s' (.slice (some ⟨gv, 0, none⟩) cn cv) cn G vq2 (.slice (some ⟨gw, 0, none⟩) (mk + 1) cw2) (mk + 1) (fun i => if i < mk then f' i else false) (W ++ [((mk : Nat) : Int)]))
            case first =>
              go_wp2_with (at_builtin; refine wplQ_push rfl (.tmp 63) (.tmp 65) rfl _ W rfl (unhide HQ) wc.heap.size 0 1 ((mk : Nat) : Int) rfl (by simp) hWb ?_; intro v5 w5 hq5 hg5 hat5; obtain ⟨a5, c5, rfl⟩ := hq5.shape; have zb := hg5.block z hzc (fun e => zn e.symm); have z5 := (World.cell?_of_block (a := ⟨z, 1, none⟩) zb).trans (unhide HZ1); have f5 := (World.frozen?_of_block (a := ⟨z, 1, none⟩) zb).trans (unhide HF1))
              go_meet
              rw [show (W ++ [((mk : Nat) : Int)]).length = W.length + 1 by simp] at hq5 hat5
              exact ⟨_, (unhide HJ3).putQ (ballo _ _) hg5 hq5 hat5⟩
            case rest =>
            obtain ⟨vq2, hj6⟩ := hcut
            clear HJ3 HQ HZ1 HF1 c1'
            have d2 := hj6.sv.c2
            obtain ⟨gw', cw', ee, -, -, -, -, dcell, dfro⟩ := hj6.sv.e.pos (by omega)
            cases ee
            have dh := dcell mk hhm
            have df := dfro mk
            have HJ6 := hide hj6
            clear hj6 dcell dfro
            go_wp2
            go_roundw
            case rel =>
              have hmk := unhide HMK
              have hwn := (unhide HWN).more
              have hnW : ((mk : Nat) : Int) ∉ W := fun m => by
                have h1 := (unhide HWN).mem _ m
                omega
              refine ⟨t + 1, vq2, .slice (some ⟨gw, 0, none⟩) (mk + 1) cw2, (fun i => if i = mk then true else (fun i => if i < mk then f' i else false) i), W ++ [((mk : Nat) : Int)], by omega, by go_num, ?_, ?_, ?_⟩
              · rw [← Nat.add_assoc, ← hmk]; exact (unhide HJ6).mark mk true
              · rw [← Nat.add_assoc, ← hmk]; exact hwn.push hhm hnW
              · refine (unhide HHV).step ?_
                left; rw [unhide HE1, ← hmk]
            case measure => simp [intOf]; omega
          · have hhm : cc < mk + 1 := by omega
            have J4 := hj3.on (ballo wc (.cells #[.int .i64 ((cc : Nat) : Int)] 3))
            have c1' := hj3.sv.c1
            have HQ := hide J4.sv.q
            have HZ1 := hide J4.sv.c1
            have HF1 := hide J4.sv.f1
            have zn : (Value.slice aq W.length cq).ownBlock ≠ some z := fun e => (J4.sv.ql z e).2.1 rfl
            have hzc := J4.sv.lt
            have HJ3 := hide hj3
            clear hj3 J4
            go_upto_region 7 with fail
            go_cut [] from 15 to 75 (fun wx => ∃ vq2, SvJ w0 w wx z p gs vq vw gs' cap' s' (.slice (some ⟨gv, 0, none⟩) cn cv) cn G vq2 (.slice (some ⟨gw, 0, none⟩) (mk + 1) cw2) (mk + 1) (fun i => if i < mk then f' i else false) (W ++ [((cc : Nat) : Int)]))
            case first =>
              go_wp2_with (at_builtin; refine wplQ_push rfl (.tmp 63) (.tmp 65) rfl _ W rfl (unhide HQ) wc.heap.size 0 1 ((cc : Nat) : Int) rfl (by simp) hWb ?_; intro v5 w5 hq5 hg5 hat5; obtain ⟨a5, c5, rfl⟩ := hq5.shape; have zb := hg5.block z hzc (fun e => zn e.symm); have z5 := (World.cell?_of_block (a := ⟨z, 1, none⟩) zb).trans (unhide HZ1); have f5 := (World.frozen?_of_block (a := ⟨z, 1, none⟩) zb).trans (unhide HF1))
              go_meet
              rw [show (W ++ [((cc : Nat) : Int)]).length = W.length + 1 by simp] at hq5 hat5
              exact ⟨_, (unhide HJ3).putQ (ballo _ _) hg5 hq5 hat5⟩
            case rest =>
            obtain ⟨vq2, hj6⟩ := hcut
            clear HJ3 HQ HZ1 HF1 c1'
            have d2 := hj6.sv.c2
            obtain ⟨gw', cw', ee, -, -, -, -, dcell, dfro⟩ := hj6.sv.e.pos (by omega)
            cases ee
            have dh := dcell cc hhm
            have df := dfro cc
            have HJ6 := hide hj6
            clear hj6 dcell dfro
            go_wp2
            go_roundw
            case rel =>
              have hmk := unhide HMK
              have hwn := (unhide HWN).more
              have hnW : ((cc : Nat) : Int) ∉ W := fun m => by
                have h1 := (unhide HWN).mem _ m
                have h2 := ((unhide HWN).say cc (by omega)).2 m
                rw [himp rfl] at h2; cases h2
              refine ⟨t + 1, vq2, .slice (some ⟨gw, 0, none⟩) (mk + 1) cw2, (fun i => if i = cc then true else (fun i => if i < mk then f' i else false) i), W ++ [((cc : Nat) : Int)], by omega, by go_num, ?_, ?_, ?_⟩
              · rw [← Nat.add_assoc, ← hmk]; exact (unhide HJ6).mark cc true
              · rw [← Nat.add_assoc, ← hmk]; exact hwn.push hhm hnW
              · refine (unhide HHV).step ?_
                right; rw [unhide HE0]; exact ⟨rfl, hnW⟩
            case measure => simp [intOf]; omega
    · obtain rfl : t = cn := by omega
      have HJ := hide hj
      have HWN := hide hwn
      have HHV := hide hhv
      clear hj hwn hhv
      go_wp2
      go_end0
      have hj := unhide HJ
      have hK' : s'.K = s.K + t := unhide HK
      refine ⟨gs', cap', s', vq', vw', f', W, rfl, ?_, ?_, ?_, unhide HC, ⟨G, unhide HCU, ?_⟩, hj.nw, hj.bx, unhide HIN⟩
      · rw [hK']; exact hj.sv
      · rw [hK']; exact unhide HWN
      · rw [hK', unhide HCN]
      · rw [unhide HCN]; exact unhide HHV
end Go.Proofs.Ytnakadlhafggkaa
