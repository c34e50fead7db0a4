/-
  What Pairs of differ returns.
-/
import Derived.Test.YtknefgdcnacfoaaDSift
import Derived.Test.YtknefgdcnacfoaaDPairI
import Derived.Test.YtknefgdcnacfoaaDCtr
import Derived.Test.YtknefgdcnacfoaaK3
namespace Go.Proofs.Ytknefgdcnacfoaa
open Go.RowKit Go.Maps

set_option maxRecDepth 100000 in
set_option maxHeartbeats 4000000 in
theorem prsC_of (SC : SortC) : PrsC := fun m a1 c1 a2 c2 w f hm hf => by
  have b0 := ballo w (.cells #[.int .i64 m.kind, .int .i64 m.k, .int .i64 m.o, .int .i64 m.n, .slice a1 m.nx.length c1, .slice a2 m.out.length c2] 24)
  have A0 := Box.alloc w m a1 c1 a2 c2 24
  have HC := hide (mcheck_any m a1 c1 a2 c2 _ (hm.below b0).r1 (hm.below b0).r2 hm.m1 hm.m2)
  unfold mval at HC ⊢
  have HA := hide A0
  have HW := hide b0
  have HM := hide hm
  have HPF := hide hf
  clear b0 hm hf
  obtain ⟨p0, p1, p2, p3, p4, p5⟩ := A0
  go_enter Try.func19, Try.ntmps19
  go_wp2_with fail
  refine (unhide HC).mono ?_
  rintro e w1 ⟨rfl, hb1⟩
  have HB1 := hide (bstep (unhide HW) hb1)
  have A1 := (unhide HA).below hb1
  clear p0 p1 p2 p3 p4 p5 hb1 HC
  by_cases he : (mchV m).2 = 0
  · rw [he]
    have F := full_of he
    have R := F.r
    obtain ⟨n, hn⟩ : ∃ n : Nat, m.n = (n : Int) := ⟨m.n.toNat, by have := R.n0; omega⟩
    obtain ⟨k, hk⟩ : ∃ k : Nat, m.k = (k : Int) := ⟨m.k.toNat, by have := R.k0; omega⟩
    have hn2 : n ≤ 1024 := by have := R.n1; omega
    have HPV : Hid (prV m f = (prAll f n n, 0)) := by
      show prV m f = _
      rw [prV_ok he, hn, Int.toNat_natCast]
    have HS := hide (sift_any m a1 c1 a2 c2 n k w1 R hn hk F.o1 ((unhide HM).r1.below (unhide HB1)) ((unhide HM).r2.below (unhide HB1)))
    unfold mval at HS
    have HN := hide hn
    obtain ⟨p0, p1, p2, p3, p4, p5⟩ := A1
    clear F R hn hk he
    go_wp2_with fail
    refine (unhide HS).mono ?_
    rintro e w2 ⟨vk, vb, gl, cnt, ls, MK, M, rfl, so, sv, hb2⟩
    have hML : MK.length ≤ 1048576 := by rw [so.len]; exact Nat.le_trans sv.len (Nat.mul_le_mul hn2 hn2)
    have HST := hide (SC _ vk MK w2 so.mo hML)
    have HSO := hide so
    have HSV := hide sv
    have HB2 := hide (bstep (unhide HB1) hb2)
    have HZ2 := hide hb2.size
    obtain ⟨ka, kc, ek⟩ := so.mo.shape
    clear so sv hb2 HS p0 p1 p2 p3 p4 p5
    subst ek
    go_wp2_with fail
    refine (unhide HST).mono ?_
    rintro e w3 ⟨rfl, MK', hp, hs, mo, bx⟩
    have hl : MK'.length = MK.length := hp.length_eq
    have PK : PkI w3 (w1.heap.size + 1) MK' (prAll f n n) := sorted_words (unhide HSO) (unhide HSV) hp hs bx (unhide HN) (unhide HPF)
    have hb3 : Below w.heap.size w w3 := (unhide HB2).trans (bx.below (fun j hj => by have := ((unhide HSO).mo.lt hj).1; have := (unhide HB1).size; omega) (unhide HB2).size)
    have hz3 : w1.heap.size + 1 ≤ w3.heap.size := by
      have h1 := bx.size
      have h2 := ((unhide HSO).lo.lt).1
      have h3 := ((unhide HSO).lo.lt).2
      omega
    have HPK := hide PK
    rw [← hl] at mo
    have HMO := hide mo
    have HB3 := hide hb3
    have HL := hide hl
    have hML' : MK'.length ≤ 1048576 := by omega
    rw [← hl]
    generalize hW : prAll f n n = W at HPK HPV
    have HWL := hide ((unhide HPK).len)
    have HL0 : Hid (LLs w3 (w1.heap.size + 1) (.slice none 0 0) (fun _ => undef) (W.take 0)) := LLs.nil _ _ _
    clear hl PK hb3 mo bx hs hp HST HSO HSV hML hW HL
    go_wp2
    go_loopw [2, 21] (fun vl v wx => ∃ (j : Nat) (us : Nat → Value), v = .int .i64 j ∧ j ≤ MK'.length ∧ LLs wx (w1.heap.size + 1) vl us (W.take j) ∧ (∀ i, i < j → us i = (MK'.getD i mk0).wv) ∧ (∀ b, vl.ownBlock = some b → w3.heap.size ≤ b) ∧ Below w3.heap.size w3 wx) (fun _ v _ => 1048577 - (intOf v).toNat)
    case atStart => exact ⟨0, _, rfl, Nat.zero_le _, unhide HL0, (fun i hi => by omega), (fun b e => by cases e), Below.refl _ _⟩
    case round =>
      obtain ⟨j, us, rfl, hj, hls, hus, hvl, hbl⟩ := hrel
      clear HL0
      have htl : (W.take j).length = j := by rw [List.length_take, unhide HWL]; omega
      obtain ⟨al, cl, el, -⟩ := hls.rdx
      rw [htl] at el
      subst el
      by_cases hlt : j < MK'.length
      · have hlt' : (j : Int) < (MK'.length : Int) := by omega
        have hmo := (unhide HMO).below hbl
        obtain ⟨g, cap, ek, -, -, -, -, hgc, -⟩ := hmo.pos mkl_len mk0 (by omega)
        obtain ⟨rfl, rfl⟩ : ka = some ⟨g, 0, none⟩ ∧ kc = cap := by cases ek; exact ⟨rfl, rfl⟩
        have hwd := (unhide HPK).wd j (by rw [unhide HWL]; exact hlt)
        have hkk := fun c hc => hgc j c hlt hc
        have HDD : Hid (∀ i, i < j → ∀ b, (MK'.getD i mk0).wv.ownBlock = some b → (MK'.getD j mk0).wv.ownBlock ≠ some b) := fun i hi => (unhide HPK).dd i j hi (by rw [unhide HWL]; exact hlt)
        obtain ⟨kk, hkd⟩ : ∃ kk, kk = MK'.getD j mk0 := ⟨_, rfl⟩
        have HKD := hide hkd
        rw [← hkd] at hkk hwd HDD
        obtain ⟨wa, wn, wc, sa, sn, sc, s, t⟩ := kk
        have y0 : wr.cell? ⟨g, j * 4, none⟩ = some (.slice wa wn wc) := hkk 0 (by omega)
        have y1 : wr.cell? ⟨g, j * 4 + 1, none⟩ = some (.slice sa sn sc) := hkk 1 (by omega)
        have y2 : wr.cell? ⟨g, j * 4 + 2, none⟩ = some (.int .i64 (s : Int)) := hkk 2 (by omega)
        have y3 : wr.cell? ⟨g, j * 4 + 3, none⟩ = some (.int .i64 (t : Int)) := hkk 3 (by omega)
        obtain ⟨l, hl⟩ : ∃ l, l = W.getD j [] := ⟨_, rfl⟩
        have HTK : Hid (W.take (j + 1) = W.take j ++ [l]) := by
          show W.take (j + 1) = _
          have : j < W.length := by rw [unhide HWL]; exact hlt
          rw [List.take_succ_eq_append_getElem this, hl]
          simp [List.getD, this]
        obtain ⟨w4, hw4⟩ : ∃ w4, w4 = wr.alloc (.cells #[.slice wa wn wc, .slice sa sn sc, .int .i64 (s : Int), .int .i64 (t : Int)] 72) := ⟨_, rfl⟩
        have b4 : Below wr.heap.size wr w4 := by rw [hw4]; exact ballo _ _
        have HL4 := hide (hls.below b4)
        have hb4 : Below w3.heap.size w3 w4 := bstep hbl b4
        rw [← hl] at hwd
        have HO4 : Hid (OwnL .i64 3 w4 (w1.heap.size + 1) (.slice wa wn wc) l) := hwd.2.grown hb4
        have HUX : Hid (∀ b, (Value.slice wa wn wc).ownBlock = some b → (Value.slice al j cl).ownBlock ≠ some b ∧ ∀ i, i < (W.take j).length → (us i).ownBlock ≠ some b) := fun b e => by
          refine ⟨fun e2 => ?_, fun i hi e2 => ?_⟩
          · have h1 := (hwd.2.lt e).2
            have h2 := hvl b e2
            omega
          · rw [htl] at hi
            rw [hus i hi] at e2
            exact unhide HDD i hi b e2 e
        have h40 : w4.cell? ⟨wr.heap.size, 0, none⟩ = some (.slice wa wn wc) := by
          have := heap_alloc_new wr (.cells #[.slice wa wn wc, .slice sa sn sc, .int .i64 (s : Int), .int .i64 (t : Int)] 72)
          rw [← hw4] at this
          unfold World.cell?; rw [this]; rfl
        have z4 : w3.heap.size ≤ w4.heap.size := hb4.size
        have HB4 := hide hb4
        have HUS := hide hus
        have HVL := hide hvl
        have HTL := hide htl
        have RV := RdV.lit w4 1 (fun _ => Value.slice wa wn wc) #[.slice wa wn wc] (by unfold maxLen; omega) (by simp [cellsV])
        have hz4 : w4.heap.size = wr.heap.size + 1 := by rw [hw4]; simp
        rw [hz4] at RV
        have HZ4 := hide hz4
        clear hz4 hmo ek hgc hwd hkk hkd hls hus hvl hbl htl hl b4 hb4 HDD
        rw [hw4] at h40
        go_wp2_with (at_builtin; rw [← hw4]; refine wplV_append3 rfl (.tmp 25) (.tmp 28) rfl (w1.heap.size + 1) _ j us rfl (by have h := (unhide HL4).out.alloc (.cells #[.slice wa wn wc] 22); rw [unhide HTL] at h; exact h) ⟨wr.heap.size + 1, 0, none⟩ 1 1 (fun _ => .slice wa wn wc) rfl RV (by intro i _; exact ⟨_, _, _, rfl⟩) (by omega) (by omega) (by simp; omega) ?_; intro vw' wg hownW hgW haW; have HOW := hide hownW; have HGW := hide hgW; have HAW := hide haW; obtain ⟨aw', cw'', ew', -, -, -⟩ := hownW.shape; subst ew'; clear hownW hgW haW)
        have HZQ : Hid (w3.heap.size ≤ (w4.alloc (.cells #[.slice wa wn wc] 22)).heap.size) := by show _ ≤ _; rw [World.size_alloc]; omega
        have LW : LLs wg (w1.heap.size + 1) (.slice aw' (j + 1) cw'') (joinV j us fun _ => .slice wa wn wc) (W.take (j + 1)) := by
          have h := (unhide HL4).push (vw' := .slice aw' (j + 1) cw'') (wg := wg) (o := .cells #[.slice wa wn wc] 22) (unhide HO4) (unhide HUX) (by rw [unhide HTL]; exact unhide HOW) (unhide HGW) (unhide HAW)
          rw [unhide HTL] at h
          rw [unhide HTK]; exact h
        have dG : Below w3.heap.size w3 wg := ((unhide HB4).trans ((ballo w4 (.cells #[.slice wa wn wc] 22)).mono z4)).grown (unhide HGW) (unhide HZQ) (fun k e => unhide HVL k e)
        refine ⟨⟨j + 1, _, by go_num, hlt, LW, fun i hi => ?_, fun b e => ?_, dG⟩, ?_⟩
        · by_cases c : i < j
          · rw [joinV_lt c]; exact unhide HUS i c
          · obtain rfl : i = j := by omega
            rw [joinV_ge (Nat.le_refl _), ← unhide HKD]; rfl
        · rcases unhide HAW b e with h | h
          · exact unhide HVL b h
          · have := unhide HZQ; omega
        · simp [intOf]; omega
      · have hlt' : ¬ (j : Int) < (MK'.length : Int) := by omega
        obtain rfl : j = MK'.length := by omega
        have HF : Hid (PrPost m f w (.returned (.tuple #[.slice al MK'.length cl, .int .i64 0])) wr) := by
          show PrPost _ _ _ _ _
          unfold PrPost
          rw [unhide HPV]
          refine ⟨_, us, rfl, ?_, (unhide HB3).trans (hbl.mono (unhide HB3).size)⟩
          have h9 := hls.base (B' := w.heap.size) (by have := (unhide HB1).size; omega)
          rw [List.take_of_length_le (by rw [unhide HWL]; exact Nat.le_refl _)] at h9
          exact h9
        clear hls hus hvl hbl htl
        go_wp2
        go_ret2
        exact unhide HF
  · have te : ((mchV m).2 == 0) = false := by simp [he]
    have HF : Hid (PrPost m f w (.returned (.tuple #[.slice none 0 0, .int .i64 (mchV m).2])) w1) := by
      show PrPost _ _ _ _ _
      unfold PrPost
      rw [prV_err he]
      exact ⟨_, fun _ => undef, rfl, LLs.nil _ _ _, unhide HB1⟩
    generalize (mchV m).2 = q at he te HF ⊢
    clear A1
    go_wp2
    go_ret2
    exact unhide HF
end Go.Proofs.Ytknefgdcnacfoaa
