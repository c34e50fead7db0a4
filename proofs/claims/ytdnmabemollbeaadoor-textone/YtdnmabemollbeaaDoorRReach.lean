/-
  What the reference's Reach returns, for every table: what the program's does.
-/
import Derived.Test.YtdnmabemollbeaaDoorK7
namespace Go.Proofs.YtdnmabemollbeaaDoor
open Go.RowKit Go.Maps

theorem ob {g off n c b : Nat} (e : (Value.slice (some ⟨g, off, none⟩) n c).ownBlock = some b) : g = b := Option.some.inj e

set_option maxHeartbeats 4000000 in
theorem rreach_any (m : Mc) (a1 : Option Addr) (c1 : Nat) (a2 : Option Addr) (c2 : Nat) (w : World) (h1 : RdL .i64 w a1 m.nx) (h2 : RdL .i64 w a2 m.out) (hn : m.nx.length ≤ maxLen) (ho : m.out.length ≤ maxLen) :
    Calls Tryd.prog 63 #[mval m a1 c1 a2 c2] w fun e w' => RcPost m w e w' := by
  unfold mval
  have B0 := Box.alloc w m a1 c1 a2 c2 24
  have b0 := ballo w (.cells #[.int .i64 m.kind, .int .i64 m.k, .int .i64 m.o, .int .i64 m.n, .slice a1 m.nx.length c1, .slice a2 m.out.length c2] 24)
  by_cases hz : (mchV m).2 = 0
  rotate_left
  · have H := hide (rcV_err hz)
    have tz := ne_bne hz
    clear hz
    go_enter Tryd.func63, Tryd.ntmps63
    go_wp2_with fail
    refine (rmcheck_any m a1 c1 a2 c2 _ (h1.below b0) (h2.below b0) hn ho).mono ?_
    rintro e w1 ⟨rfl, hb1⟩
    have b1 := bstep b0 hb1
    clear hb1 h1 h2 B0 b0
    go_wp2
    go_ret3
    refine ⟨.slice none 0 0, .slice none 0 0, fun _ => .slice none 0 0, by rw [unhide H]; rfl, by rw [unhide H]; exact OwnL.nil _ _ _ _, by rw [unhide H]; exact LLs.nil _ _ _, (fun b e => by cases e), b1⟩
  have R := right_of hz
  have HZ := hide hz
  have HR := hide R
  have H := hide (rcV_ok hz)
  have k0 := R.k0
  have k1 := R.k1
  have n0 := R.n0
  have n1 := R.n1
  have hnn : m.n = ((m.n.toNat : Nat) : Int) := by omega
  have HNN := hide hnn
  clear R hz hnn
  go_enter Tryd.func63, Tryd.ntmps63
  go_wp2_with fail
  refine (rmcheck_any m a1 c1 a2 c2 _ (h1.below b0) (h2.below b0) hn ho).mono ?_
  rw [unhide HZ]
  rintro e w1 ⟨rfl, hb1⟩
  have b1 := bstep b0 hb1
  have B1 := B0.below hb1
  obtain ⟨q0, q1, q2, q3, q4, q5⟩ := id B1
  have hbw : w.heap.size < w1.heap.size := World.block_lt_of_cell? w1 _ q0
  clear hb1 B0 b0
  go_wp2_with (at_make; refine wplK_make rfl (.tmp 24) (.tmp 24) rfl w1.heap.size _ _ m.n.toNat rfl rfl (unhide HNN) (unhide HNN) (by omega) (Nat.le_refl _) ?_; intro w2 hK2 hb2 hg2; obtain ⟨gk, ck, ek, -, -, hk1, hk2, hkc, hkf⟩ := hK2.pos (by omega); cases ek; have kc0 := hkc 0 (by omega); have kf0 := hkf 0)
  have hz2 : w1.heap.size < w2.heap.size := hk2
  have w3e : ∃ w3, w3 = ((((w2.setCell ⟨w1.heap.size, 0, none⟩ (.bool true)).alloc (.cells #[.int .i64 0] 3)).alloc (.cells #[] 3)).alloc (.cells #[.slice (some ⟨w2.heap.size + 1, 0, none⟩) 0 0] 22)) := ⟨_, rfl⟩
  obtain ⟨w3, w3e⟩ := w3e
  have K3 : ∀ j, j < w2.heap.size → w3.heap[j]? = (w2.setCell ⟨w1.heap.size, 0, none⟩ (.bool true)).heap[j]? := fun j hj => by
    rw [w3e, Below.heap_alloc _ _ _ (by simp; omega), Below.heap_alloc _ _ _ (by simp; omega), Below.heap_alloc _ _ _ (by simp; omega)]
  have I0 : KInv m w w1 w3 (.slice (some ⟨w1.heap.size, 0, none⟩) m.n.toNat m.n.toNat) (.slice (some ⟨w2.heap.size, 0, none⟩) 1 1) (.slice (some ⟨w2.heap.size + 1 + 1, 0, none⟩) 1 1) (fun _ => .slice (some ⟨w2.heap.size + 1, 0, none⟩) 0 0) 0 0 [0] [[]] := by
    have e2 : Below w1.heap.size w1 (w2.setCell ⟨w1.heap.size, 0, none⟩ (.bool true)) := hb2.setCell (p := ⟨w1.heap.size, 0, none⟩) (Nat.le_refl _) _
    have e3 : Below w1.heap.size w1 w3 := by rw [w3e]; exact bstep (bstep (bstep e2 (ballo _ _)) (ballo _ _)) (ballo _ _)
    have hs2 : (w2.setCell ⟨w1.heap.size, 0, none⟩ (.bool true)).heap.size = w2.heap.size := by simp
    refine ⟨?_, ?_, ⟨?_, ⟨fun j hj => ?_, fun j k hj hk hne => ?_⟩, fun b e j hj e2 => ?_⟩, fun b e => ?_, fun b e => ?_, RInv.start (unhide HR), Fuel.start m, b1.trans (e3.mono (by omega)), e3, by omega⟩
    · refine (hK2.store 0).keep fun b e => K3 b ?_
      have := ob e; omega
    · have h5 := OwnL.lit (q := .i64) (t := 3) (w2.setCell ⟨w1.heap.size, 0, none⟩ (.bool true)) w1.heap.size [0] #[.int .i64 0] (by rw [hs2]; omega) (by decide) rfl
      rw [hs2] at h5
      rw [w3e]
      exact (h5.alloc _).alloc _
    · have h5 := World.ownsRow_lit (base := w1.heap.size) (e := 22) (((w2.setCell ⟨w1.heap.size, 0, none⟩ (.bool true)).alloc (.cells #[.int .i64 0] 3)).alloc (.cells #[] 3)) #[.slice (some ⟨w2.heap.size + 1, 0, none⟩) 0 0] (size := 1) 1 (by simp; omega) (by unfold maxLen; simp) (by simp)
      simp only [World.size_alloc, hs2] at h5
      rw [w3e]; exact h5
    · obtain rfl : j = 0 := by simpa using hj
      have h5 := Own.lit ((w2.setCell ⟨w1.heap.size, 0, none⟩ (.bool true)).alloc (.cells #[.int .i64 0] 3)) w1.heap.size 0 (fsV [[]] 0) #[] (by simp; omega) (by decide) rfl
      simp only [World.size_alloc, hs2] at h5
      rw [w3e]
      exact h5.alloc _
    · simp at hj hk; omega
    · have := ob e; have := ob e2; omega
    · have := ob e
      exact ⟨(fun e2 => by have := ob e2; omega), (fun e2 => by have := ob e2; omega), fun j hj e2 => by have := ob e2; omega⟩
    · have := ob e
      exact ⟨(fun e2 => by have := ob e2; omega), fun j hj e2 => by have := ob e2; omega⟩
  have HI0 := hide I0
  rw [← w3e]
  clear I0 K3 w3e kc0 kf0 hkc hkf hK2 hb2 hg2 q0 q1 q2 q3 q4 q5
  go_loopw [8, 9, 10] (fun vs vw a wx => ∃ (i : Nat) (us : Nat → Value) (S : List Int) (V : List (List Int)), a = .int .i64 i ∧ KInv m w w1 wx (.slice (some ⟨w1.heap.size, 0, none⟩) m.n.toNat m.n.toNat) vs vw us i 0 S V) (fun _ _ a _ => m.n.toNat - (intOf a).toNat)
  case atStart => exact ⟨0, _, [0], [[]], rfl, unhide HI0⟩
  case round =>
    obtain ⟨i, us, S, V, rfl, hinv⟩ := hrel
    clear HI0
    have HI := hide hinv
    obtain ⟨av, cv, ev, -, -, -, -, -⟩ := hinv.st.shape
    subst ev
    obtain ⟨aw, cw, ew, -⟩ := hinv.wd.rdx
    subst ew
    have hil := hinv.inv.il
    have hsz := hinv.inv.size (unhide HR)
    clear hinv
    by_cases hlt : i < S.length
    rotate_left
    · have HF := hide ((unhide HI).fuel.fin hlt)
      go_wp2
      go_ret3
      have h9 := unhide HI
      have hz1 := b1.size
      have e1 : (rcV m).1 = S := by rw [unhide H, unhide HF]
      have e2 : (rcV m).2.1 = V := by rw [unhide H, unhide HF]
      have e3 : (rcV m).2.2 = 0 := by rw [unhide H]
      exact ⟨_, _, us, by rw [e3]; rfl, by rw [e1]; exact h9.st.mono hz1, by rw [e2]; exact h9.wd.base hz1, (fun b e => by rw [e2]; exact h9.sw b e), h9.b1⟩
    have hlt' : (i : Int) < (S.length : Int) := by omega
    obtain ⟨U, hU⟩ : ∃ U, U = S.length := ⟨_, rfl⟩
    have hUn : U ≤ m.n.toNat := by omega
    have hiU : i < U := by omega
    have HU := hide hU
    rw [← hU] at hlt' ⊢
    clear hU
    go_wp2
    go_loopw [8, 9, 12] (fun vs vw a wx => ∃ (i : Nat) (us : Nat → Value) (S : List Int) (V : List (List Int)), a = .int .i64 i ∧ i ≤ U ∧ Hid (U ≤ S.length) ∧ KInv m w w1 wx (.slice (some ⟨w1.heap.size, 0, none⟩) m.n.toNat m.n.toNat) vs vw us i 0 S V) (fun _ _ a _ => U - (intOf a).toNat)
    case atStart => exact ⟨i, us, S, V, rfl, by omega, (by show U ≤ S.length; rw [unhide HU]; exact Nat.le_refl _), (by have h9 := unhide HI; rw [unhide HU]; exact h9)⟩
    case round =>
      obtain ⟨j, us, S, V, rfl, hjU, hUS, hinv⟩ := hrel
      clear HI HU
      have HI := hide hinv
      obtain ⟨av, cv, ev, -, -, -, -, -⟩ := hinv.st.shape
      subst ev
      obtain ⟨aw, cw, ew, -⟩ := hinv.wd.rdx
      subst ew
      obtain ⟨p0, p1, p2, p3, p4, p5⟩ := B1.below hinv.d1
      clear hinv
      by_cases hj : j < U
      rotate_left
      · have he : j = U := by omega
        subst he
        go_wp2
        go_roundw
        case rel => exact ⟨j, us, S, V, rfl, unhide HI⟩
        case measure => simp [intOf]; omega
      have hjS : j < S.length := by have := unhide hUS; omega
      go_wp2
      go_loopw [8, 9, 13] (fun vs vw a wx => ∃ (x : Nat) (us : Nat → Value) (S : List Int) (V : List (List Int)), a = .int .i64 x ∧ (x : Int) ≤ m.k ∧ Hid (U ≤ S.length) ∧ KInv m w w1 wx (.slice (some ⟨w1.heap.size, 0, none⟩) m.n.toNat m.n.toNat) vs vw us j x S V) (fun _ _ a _ => m.k.toNat - (intOf a).toNat)
      case atStart => exact ⟨0, us, S, V, rfl, by omega, hUS, unhide HI⟩
      case round =>
        obtain ⟨x, us, S, V, rfl, hxk, hUS, hinv⟩ := hrel
        clear HI p0 p1 p2 p3 p4 p5 hjS
        have HI := hide hinv
        have hjS : j < S.length := by have := unhide hUS; omega
        obtain ⟨gs, cs, ev, -, -, -, -, hcs, -⟩ := hinv.st.pos (by omega)
        subst ev
        have hlV := hinv.inv.len
        have HLV := hide hlV
        obtain ⟨gw, cw, ew, -, -, -, hgw, hcw, -⟩ := hinv.wd.out.pos (by omega)
        subst ew
        obtain ⟨p0, p1, p2, p3, p4, p5⟩ := B1.below hinv.d1
        have hb := hinv.b1
        have hsz := hinv.inv.size (unhide HR)
        have hcell := hcs j hjS
        have hr := hinv.inv.rng j hjS
        have hzr := hinv.d1.size
        have hjV : j < V.length := by omega
        have hVl : V.length ≤ m.n.toNat := by omega
        clear hlV
        by_cases hx : (x : Int) < m.k
        rotate_left
        · have HX : Hid ((x : Int) = m.k) := by show _ = _; omega
          clear hinv
          go_wp2
          go_roundw
          case rel => exact ⟨j + 1, us, S, V, by go_num, by omega, hUS, (unhide HI).row (unhide HR) hjS (unhide HX)⟩
          case measure => simp [intOf]; omega
        obtain ⟨s, hs⟩ : ∃ s, s = S.getD j 0 := ⟨_, rfl⟩
        rw [← hs] at hcell hr
        obtain ⟨P, hP, hPl, t0, t1, t2⟩ := way_of (unhide HR) hr.1 hr.2 (x := (x : Int)) (by omega) hx
        obtain ⟨b', off', rfl, hn'⟩ := (h1.below hb).at hPl
        have hnP := hn' P hPl
        have hy := (unhide HR).st P hPl
        have eN : nxt m (S.getD j 0) x = m.nx.getD P 0 := by unfold nxt; rw [← hs, hP]; simp
        obtain ⟨t, ht⟩ := Int.eq_ofNat_of_zero_le hy.1
        rw [ht] at hnP hy eN
        have EN := hide eN
        have htn : t < m.n.toNat := by omega
        have htn' : (t : Int) < ((m.n.toNat : Nat) : Int) := by omega
        have hPl' : (P : Int) < (m.nx.length : Int) := by omega
        have hjS' : (j : Int) < (S.length : Int) := by omega
        obtain ⟨gk, ck, ek, -, -, -, hgk, hkc, hkf⟩ := hinv.kn.pos (by omega)
        obtain ⟨rfl, rfl⟩ : gk = w1.heap.size ∧ ck = m.n.toNat := by cases ek; exact ⟨rfl, rfl⟩
        have hkt := hkc t htn
        have hkft := hkf t
        clear hs hn' eN ht hcs hkc hkf ek
        by_cases hm : (t : Int) ∈ S
        · have tk : decide ((t : Int) ∈ S) = true := decide_eq_true hm
          rw [tk] at hkt
          have HM := hide hm
          clear hm hinv hcw tk
          go_wp2
          go_quiet (fail)
          go_wp2
          go_roundw
          case rel => exact ⟨x + 1, us, S, V, by go_num, by omega, hUS, (unhide HI).old (unhide HR) hjS hx (by rw [unhide EN]; exact unhide HM) _⟩
          case measure => simp [intOf]; omega
        · have tk : decide ((t : Int) ∈ S) = false := decide_eq_false hm
          rw [tk] at hkt
          have HM := hide hm
          obtain ⟨ks1, ks2, ks3⟩ := hinv.ks w1.heap.size rfl
          obtain ⟨sw1, sw2⟩ := hinv.sw gs rfl
          have ngs : gs ≠ w1.heap.size := fun e => ks1 (congrArg some e)
          have ngw : gw ≠ w1.heap.size := fun e => ks2 (congrArg some e)
          have nsw : gs ≠ gw := fun e => sw1 (congrArg some e.symm)
          obtain ⟨ai, ci, ei, hnil, hlc, hrdX, hXb⟩ := (hinv.wd.fam.own j hjV).shape
          have hcwj := hcw j hjV
          have hX0 : (V.getD j []).length ≤ 1024 := by
            have h8 : (V.getD j []).length ≤ j := rinv_len hinv.inv j (by omega)
            omega
          have eL : nsV V j = (V.getD j []).length := rfl
          rw [ei] at hcwj
          have uk := ks3 j hjV
          have uS := sw2 j hjV
          have hrdX : RdL .i64 wr ai (V.getD j []) := hrdX
          rw [eL] at hnil hlc hcwj ei
          have hblk : ∀ b, (us j).ownBlock = some b → b < wr.heap.size ∧ b ≠ w1.heap.size ∧ b ≠ gs := fun b e => ⟨((hinv.wd.fam.own j hjV).lt e).2, fun e2 => uk (e2 ▸ e), fun e2 => uS (e2 ▸ e)⟩
          have hai : ∀ y, ai = some y → (us j).ownBlock = some y.block := fun y e => by rw [ei, e]; rfl
          have SA : ∀ q, OwnL .i64 3 ((wr.drewN q).setCell ⟨w1.heap.size, t, none⟩ (.bool true)) w1.heap.size (.slice (some ⟨gs, 0, none⟩) S.length cs) S := fun q => by
            have h9 : OwnL .i64 3 (wr.drewN q) w1.heap.size (.slice (some ⟨gs, 0, none⟩) S.length cs) S := hinv.st
            refine h9.keep fun b e => Below.heap_setCell _ _ _ _ ?_
            have := ob e
            show b ≠ w1.heap.size
            omega
          have L1 : ∀ q, RdL .i64 (((wr.drewN q).setCell ⟨w1.heap.size, t, none⟩ (.bool true)).alloc (.cells #[.int .i64 (t : Int)] 3)) (some ⟨wr.heap.size, 0, none⟩) [(t : Int)] := fun q => by
            have h9 := RdL.one (q := .i64) (t := 3) ((wr.drewN q).setCell ⟨w1.heap.size, t, none⟩ (.bool true)) (t : Int)
            have e9 : ((wr.drewN q).setCell ⟨w1.heap.size, t, none⟩ (.bool true)).heap.size = wr.heap.size := by simp
            rw [e9] at h9; exact h9
          obtain ⟨X, hX⟩ : ∃ X, X = V.getD j [] := ⟨_, rfl⟩
          rw [← hX] at hrdX hnil hlc hcwj hX0
          have HXX := hide hX
          have houtW := hinv.wd.out
          have hVl2 : V.length ≤ 1024 := by omega
          have hSl : S.length ≤ 1024 := by omega
          have hgs : gs < wr.heap.size := (hinv.st.lt rfl).2
          clear hm hinv hcw tk ei eL uk uS ks1 ks2 ks3 sw1 sw2 hX
          go_wp2
          go_quiet (fail)
          go_wp2_with (first | (at_builtin; refine wpl_pushA eInt rfl (.tmp 70) (.tmp 72) rfl w1.heap.size _ S rfl ((SA nq).alloc _) ⟨wr.heap.size, 0, none⟩ 1 [(t : Int)] rfl (L1 nq) (by simp only [List.length_cons, List.length_nil]; omega) (by simp; omega) ?_; intro vs' wc hownS hbS hgS hatS; have zc : wr.heap.size + 1 ≤ wc.heap.size := (by have := hgS.size; simp at this; exact this); have KC : ∀ b, b < wr.heap.size → b ≠ w1.heap.size → b ≠ gs → wc.heap[b]? = wr.heap[b]? := (fun b h5 h6 h7 => by rw [hgS.block b (by simp; omega) (fun e => h7 (ob e.symm).symm), Below.heap_alloc _ _ _ (by simp; omega), Below.heap_setCell _ _ _ _ (by simpa using h6)]; rfl); have CW : wc.cell? ⟨gw, j, none⟩ = some (.slice ai X.length ci) := (World.cell?_of_block (KC gw (by omega) ngw (Ne.symm nsw))).trans hcwj; obtain ⟨as', cs', es', -, -, -, -, -⟩ := hownS.shape; rw [show (S ++ [(t : Int)]).length = S.length + 1 by simp] at es'; subst es') | (go_at_call 59; have RX : RdL .i64 (wc.alloc (.cells #[.int .i64 (x : Int)] 3)) ai X := (by rcases hrdX with h5 | ⟨b5, o5, rfl, h5⟩; { exact .inl h5 }; exact .inr ⟨b5, o5, rfl, fun y hy5 => by have h6 := hblk b5 (hai _ rfl); rw [(ballo wc _).cell (by show b5 < wc.heap.size; omega), World.cell?_of_block (KC b5 h6.1 h6.2.1 h6.2.2)]; exact h5 y hy5⟩); refine (join_list ai ci X (some ⟨wc.heap.size, 0, none⟩) 1 [(x : Int)] _ RX hnil (RdL.one _ _) (by simp) (by simp only [List.length_cons, List.length_nil]; omega)).mono ?_; rintro e we ⟨uu, rfl, hu, hbu⟩; have ze := hbu.size; have OV : OwnV we w1.heap.size (.slice (some ⟨gw, 0, none⟩) V.length cw) V.length us := (houtW.keep fun b e => by have h6 := ob e; rw [hbu.block b (by simp; omega), Below.heap_alloc _ _ _ (by omega)]; exact KC b (by omega) (by omega) (by omega)); obtain ⟨au, cu, eu, -, -, -, -, -⟩ := hu.shape; rw [show (X ++ [(x : Int)]).length = X.length + 1 by simp] at eu; subst eu) | (at_builtin; refine wplV_append3 rfl (.tmp 74) (.tmp 82) rfl w1.heap.size _ V.length us rfl (OV.alloc _) ⟨we.heap.size, 0, none⟩ 1 1 (fun _ => .slice au (X.length + 1) cu) rfl (RdV.lit we 1 (fun _ => .slice au (X.length + 1) cu) _ (by unfold maxLen; omega) (by simp [cellsV])) (by intro i _; exact ⟨_, _, _, rfl⟩) (by omega) (by omega) (by simp; simp at ze; omega) ?_; intro vw' wg hownW hgW haW; obtain ⟨aw', cw', ew', -, -, -⟩ := hownW.shape; subst ew'))
          go_roundw
          case rel =>
            have h9 := (unhide HI).new (unhide HR) hjS hx (unhide EN) (unhide HM) (q := nq) rfl hownS hgS hbS hatS (by rw [← unhide HXX]; exact hu) hbu hownW hgW haW
            exact ⟨x + 1, joinV V.length us (fun _ => .slice au (X.length + 1) cu), S ++ [(t : Int)], V ++ [V.getD j [] ++ [(x : Int)]], by go_num, by omega, (by show U ≤ _; rw [List.length_append]; have := unhide hUS; omega), h9⟩
          case measure => simp [intOf]; omega

end Go.Proofs.YtdnmabemollbeaaDoor
